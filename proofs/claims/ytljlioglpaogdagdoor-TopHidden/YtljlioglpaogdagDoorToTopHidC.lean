/- croftref.Crew, croftref.Draws. · engine.Need. · crofttop.TopHidden: is there a product? lists that are filled, the caller's own; a list behind a list. -/
import Derived.Test.YtljlioglpaogdagDoorToTopRightM
import Derived.Test.YtljlioglpaogdagDoorToGRightC
import Derived.Test.YtljlioglpaogdagDoorToDealtC
import Derived.Test.YtljlioglpaogdagDoorToCktC
import Derived.Test.YtljlioglpaogdagDoorToTopC
import Derived.Test.YtljlioglpaogdagDoorToOpenC
import Derived.Laws.AppendOwnNone
namespace Go.Proofs.YtljlioglpaogdagDoor
set_option linter.unusedVariables false
set_option maxRecDepth 100000
set_option maxHeartbeats 8000000
section
open Crm Go.RowKit
theorem whl_le {G : List Gt} {N k : Nat} {n : Int} (h : ∀ j, j < k → (whl G N).getD j 0 ≤ n) (hk : k = (whl G N).length) : ∀ x ∈ whl G N, x ≤ n := fun x hx => by
  obtain ⟨j, hj, rfl⟩ := List.getElem_of_mem hx
  have := h j (by omega)
  rwa [List.getD_eq_getElem?_getD, List.getElem?_eq_getElem hj] at this
theorem whl_not {G : List Gt} {N j : Nat} {n : Int} (hj : j < (whl G N).length) (h : n < (whl G N).getD j 0) : ¬ ∀ x ∈ whl G N, x ≤ n := fun e => by
  rw [List.getD_eq_getElem?_getD, List.getElem?_eq_getElem hj] at h
  have := e _ (List.getElem_mem hj)
  simp only [Option.getD_some] at h
  omega

theorem dwn_le (G : List Gt) {n t : Nat} (hn : n ≤ 9) (ht : t ≤ 4) : ∀ i, dwn G n t i ≤ 36 * i
  | 0 => Nat.le_refl 0
  | i + 1 => by
    have := dwn_le G hn ht i
    have h1 : n * t ≤ 9 * 4 := Nat.mul_le_mul hn ht
    rw [dwn]
    split
    · omega
    · split <;> omega
/-- How many of the first i gates are products. -/
def cml (G : List Gt) : Nat → Nat
  | 0 => 0
  | i + 1 => cml G i + (if (gt G i).k = 5 then 1 else 0)
theorem cml_le (G : List Gt) : ∀ i, cml G i ≤ i
  | 0 => Nat.le_refl _
  | i + 1 => by rw [cml]; have := cml_le G i; split <;> omega
theorem cml_yes {G : List Gt} {i : Nat} (h : (gt G i).k = 5) : cml G (i + 1) = cml G i + 1 := by rw [cml, if_pos h]
theorem cml_no {G : List Gt} {i : Nat} (h : (gt G i).k ≠ 5) : cml G (i + 1) = cml G i := by rw [cml, if_neg h]; rfl
theorem dwn_sum (G : List Gt) (n t : Nat) : ∀ i, dwn G n t i = t * ci G i + n * t * cml G i
  | 0 => by simp [dwn, cml, ci_zero]
  | i + 1 => by
    rw [dwn, dwn_sum G n t i]
    by_cases h1 : (gt G i).k = 1
    · rw [if_pos h1, ci_in h1, cml_no (by omega), Nat.mul_add, Nat.mul_one]; omega
    · by_cases h5 : (gt G i).k = 5
      · rw [if_neg h1, if_pos h5, ci_no h1, cml_yes h5, Nat.mul_add, Nat.mul_one]; omega
      · rw [if_neg h1, if_neg h5, ci_no h1, cml_no h5, Nat.add_zero]

theorem eProducts (ag : Option Addr) (N cg : Nat) (G : List Gt) (w : World) (h : RdG w ag N cg G) (hN : N ≤ 30) :
    Calls Tryd.prog 63 #[.slice ag N cg] w fun e w' => e = .returned (.int .i64 (cml G N : Int)) ∧ Below w.heap.size w w' := by
  have hcap := h.cap
  go_enter Tryd.func63, Tryd.ntmps63
  go_wp2
  go_loopw [3, 8] (fun c i wr => ∃ k : Nat, k ≤ N ∧ i = .int .i64 k ∧ c = .int .i64 (cml G k : Int) ∧ Below w.heap.size w wr) (fun _ i _ => N - (intOf i).toNat)
  case atStart => exact ⟨0, Nat.zero_le _, rfl, rfl, Below.refl _ _⟩
  case round =>
    obtain ⟨i, hi, rfl, rfl, hbel⟩ := hrel
    by_cases hlt : i < N
    · obtain ⟨b, o, k, x, y, z, rfl, hbb, HGi, hk, hx, hy, hz, c1, c2, c3, c4⟩ := (h.below hbel).one hlt
      have hbA : Below wr.heap.size wr (wr.alloc (.cells #[.int .i64 k, .int .i64 x, .int .i64 y, .int .u64 z] 61)) := (Below.refl _ _).alloc (Nat.le_refl _) _
      obtain ⟨q1, q2, q3, q4⟩ := gate_box wr k x y z 61
      have hltA : wr.heap.size < (wr.alloc (.cells #[.int .i64 k, .int .i64 x, .int .i64 y, .int .u64 z] 61)).heap.size := by simp
      have hb2 := hbel.trans (hbA.mono hbel.size)
      have hcl := cml_le G i
      obtain ⟨K, HK⟩ : ∃ K, Hid (cml G i = K) := ⟨_, rfl⟩
      rw [HK.out] at hcl ⊢
      go_upto_region 5 with fail
      generalize wr.alloc (.cells #[.int .i64 k, .int .i64 x, .int .i64 y, .int .u64 z] 61) = W at *
      clear c1 c2 c3 c4 hbA
      by_cases h5 : k = 5
      · subst h5
        have HN : Hid (cml G (i + 1) = K + 1) := by unfold Hid; rw [cml_yes (by rw [HGi.out]), HK.out]
        go_wp2
        go_roundw
        case rel => exact ⟨i + 1, by omega, by go_num, by rw [HN.out]; rfl, hb2⟩
        case measure => simp [intOf]; omega
      · have HN : Hid (cml G (i + 1) = K) := by unfold Hid; rw [cml_no (by rw [HGi.out]; exact h5), HK.out]
        go_wp2
        go_roundw
        case rel => exact ⟨i + 1, by omega, by go_num, by rw [HN.out], hb2⟩
        case measure => simp [intOf]; omega
    · have hiN : i = N := by omega
      subst hiN
      go_wp2
      go_ret
      exact ⟨rfl, hbel⟩

theorem eNeed (ag : Option Addr) (N cg : Nat) (G : List Gt) (ao : Option Addr) (m co : Nat) (O : List Int) (n t : Int) (w : World) (h : RdG w ag N cg G) (g : RdI w ao m co O) (hn : -9223372036854775808 ≤ n ∧ n ≤ 9223372036854775807) (ht : -9223372036854775808 ≤ t ∧ t ≤ 9223372036854775807) (hS : Shp w) :
    Calls Tryd.prog 25 #[.agg #[.slice ag N cg, .slice ao m co], .int .i64 n, .int .i64 t] w (Enn G O N m n t w) := by
  have hC0 := CBox.new w ag N cg ao m co
  have hb0 : Below w.heap.size w (w.alloc (.cells #[.slice ag N cg, .slice ao m co] 26)) := (Below.refl _ _).alloc (Nat.le_refl _) _
  go_enter Tryd.func25, Tryd.ntmps25
  go_wp2_with fail
  generalize w.alloc (.cells #[.slice ag N cg, .slice ao m co] 26) = w0 at *
  refine (cInputs _ _ _ _ _ _ _ _ _ (h.below hb0) (g.below hb0) (hS.below hb0)).mono ?_
  rintro e w1 ⟨⟨r, hr, hE, rfl⟩ | ⟨hE, v, rfl, ho⟩, hb1'⟩
  · have hb1 := hb0.trans (hb1'.mono hb0.size)
    have HE : Hid (Nde G O N m n t r) := .inl ⟨hr, hE⟩
    clear hE hb1' hC0 hb0
    go_wp2
    go_ret2
    exact ⟨.inl ⟨r, hr, HE.out, rfl⟩, hb1⟩
  · have hb1 := hb0.trans (hb1'.mono hb0.size)
    have hC1 := hC0.below hb1' hC0.lt
    obtain ⟨d0, d1⟩ := hC1.cells
    have hC1l := hC1.lt
    have hN := hE.ok.1
    have HC : Hid (Cke G O N m 0) := hE
    obtain ⟨a2, c2, rfl, hr2⟩ := RdI.own ho (whl_bd (fun i hi => (h.bd i hi).2.1) N (Nat.le_refl _))
    have hcl := hr2.cap
    have hmx := hr2.max
    unfold maxLen at hmx
    have hci := ci_le G N
    have hlen : (whl G N).length = ci G N := rfl
    obtain ⟨l, HL⟩ : ∃ l, Hid (ci G N = l) := ⟨_, rfl⟩
    rw [HL.out] at hr2 hcl hci hlen ⊢
    have HLen : Hid ((whl G N).length = l) := hlen
    clear hE hb1' hC0 hb0 ho hlen hC1
    by_cases hok : (0 ≤ t ∧ t ≤ 4) ∧ 2 * t + 1 ≤ n ∧ n ≤ 9
    · obtain ⟨⟨ht0, ht4⟩, hnt, hn9⟩ := hok
      obtain ⟨n, rfl⟩ : ∃ n' : Nat, n = n' := ⟨n.toNat, by omega⟩
      obtain ⟨t, rfl⟩ : ∃ t' : Nat, t = t' := ⟨t.toNat, by omega⟩
      go_wp2
      go_loopw [39] (fun i wr => ∃ k : Nat, k ≤ l ∧ i = .int .i64 k ∧ Hid (∀ p, p < k → (whl G N).getD p 0 ≤ (n : Int)) ∧ wr = w1) (fun i _ => l - (intOf i).toNat)
      case atStart => exact ⟨0, Nat.zero_le _, rfl, fun p hp => by omega, rfl⟩
      case round =>
        obtain ⟨j, hj, rfl, HJ, hw⟩ := hrel
        subst hw
        by_cases hlt : j < l
        · obtain ⟨b, o, x, rfl, hbb, HX, hx0, hx1, hcx⟩ := hr2.one hlt
          have hj0 : (0 : Int) ≤ (j : Int) := by omega
          have hjl : (j : Int) < (l : Int) := by omega
          by_cases hxn : x ≤ n
          · have HN1 : Hid (∀ p, p < j + 1 → (whl G N).getD p 0 ≤ (n : Int)) := fun p hp => by
              by_cases e : p = j
              · rw [e, HX.out]; exact hxn
              · exact HJ.out p (by omega)
            go_wp2
            go_roundw
            case rel => exact ⟨j + 1, by omega, by go_num, HN1, by trivial⟩
            case measure => simp [intOf]; omega
          · have HE : Hid (Nde G O N m n t 1) := .inr ⟨HC.out, .inl ⟨fun e => by
              have := whl_not (n := (n : Int)) (by rw [HLen.out]; exact hlt) (by rw [HX.out]; omega)
              exact this e.2.2.2, rfl⟩⟩
            go_wp2
            go_ret2
            exact ⟨.inl ⟨1, by decide, HE.out, rfl⟩, hb1⟩
        · have hjl : j = l := by omega
          subst hjl
          have HE : Hid (Nde G O N m n t 0) := .inr ⟨HC.out, .inr ⟨⟨⟨ht0, ht4⟩, ⟨by omega, hn9⟩, hnt, whl_le HJ.out HLen.out.symm⟩, rfl⟩⟩
          have hcml := cml_le G N
          have HS : Hid (dwn G n t N = t * j + n * t * cml G N) := by unfold Hid; rw [dwn_sum, HL.out]
          have hN1 : N ≤ 30 := hN.2
          have ht4' : t ≤ 4 := by omega
          have hn9' : n ≤ 9 := by omega
          have h1 : t * j ≤ 4 * 30 := Nat.mul_le_mul ht4' (by omega)
          have h2 : n * t ≤ 9 * 4 := Nat.mul_le_mul hn9' ht4'
          obtain ⟨K, HK⟩ : ∃ K, Hid (cml G N = K) := ⟨_, rfl⟩
          rw [HK.out] at hcml HS
          obtain ⟨P1, HP1⟩ : ∃ P1, Hid (t * j = P1) := ⟨_, rfl⟩
          obtain ⟨P2, HP2⟩ : ∃ P2, Hid (n * t = P2) := ⟨_, rfl⟩
          have h3 : n * t * K ≤ 36 * 30 := Nat.mul_le_mul h2 (by omega)
          rw [HP2.out] at h2 h3 HS
          rw [HP1.out] at h1 HS
          obtain ⟨P3, HP3⟩ : ∃ P3, Hid (P2 * K = P3) := ⟨_, rfl⟩
          rw [HP3.out] at h3 HS
          have e1 : (t : Int) * (j : Int) = (P1 : Int) := by rw [← HP1.out]; push_cast; rfl
          have e2 : (n : Int) * (t : Int) = (P2 : Int) := by rw [← HP2.out]; push_cast; rfl
          have e3 : (P2 : Int) * (K : Int) = (P3 : Int) := by rw [← HP3.out]; push_cast; rfl
          go_wp2_with (go_at_call 63; refine (eProducts _ _ _ _ _ (h.below hb1) hN1).mono ?_; rintro e w3 ⟨rfl, hb3⟩; rw [HK.out])
          go_ret2
          refine ⟨.inr ⟨HE.out, ?_⟩, hb1.trans (hb3.mono hb1.size)⟩
          rw [Int.toNat_natCast, Int.toNat_natCast, HS.out]
          push_cast
          rfl
    · have HE : Hid (Nde G O N m n t 1) := .inr ⟨HC.out, .inl ⟨fun e => by obtain ⟨f1, f2, f3, _⟩ := e; exact hok ⟨f1, f3, f2.2⟩, rfl⟩⟩
      by_cases h1 : t < 0
      · clear hok
        go_wp2
        go_ret2
        exact ⟨.inl ⟨1, by decide, HE.out, rfl⟩, hb1⟩
      · by_cases h2 : 4 < t
        · clear hok
          go_wp2
          go_ret2
          exact ⟨.inl ⟨1, by decide, HE.out, rfl⟩, hb1⟩
        · by_cases h3 : n < 2 * t + 1
          · clear hok
            go_wp2
            go_ret2
            exact ⟨.inl ⟨1, by decide, HE.out, rfl⟩, hb1⟩
          · have h4 : 9 < n := by omega
            clear hok
            go_wp2
            go_ret2
            exact ⟨.inl ⟨1, by decide, HE.out, rfl⟩, hb1⟩
theorem tMul1 (k x y z : Int) (w : World) : Calls Tryd.prog 32 #[.agg #[.int .i64 k, .int .i64 x, .int .i64 y, .int .u64 z]] w fun e w' => e = .returned (.bool (k == 5)) ∧ Below w.heap.size w w' := by
  have hbA : Below w.heap.size w (w.alloc (.cells #[.int .i64 k, .int .i64 x, .int .i64 y, .int .u64 z] 61)) := (Below.refl _ _).alloc (Nat.le_refl _) _
  obtain ⟨q1, q2, q3, q4⟩ := gate_box w k x y z 61
  go_enter Tryd.func32, Tryd.ntmps32
  go_wp2
  go_ret
  exact ⟨rfl, hbA⟩

theorem tIndexFunc (ag : Option Addr) (N cg : Nat) (G : List Gt) (w : World) (h : RdG w ag N cg G) (hN : N ≤ 30) :
    Calls Tryd.prog 69 #[.slice ag N cg, .func (.func 32) #[] #[]] w fun e w' => ∃ r : Int, e = .returned (.int .i64 r) ∧ (0 ≤ r ↔ ∃ i, i < N ∧ (gt G i).k = 5) ∧ Below w.heap.size w w' := by
  have hcap := h.cap
  go_enter Tryd.func69, Tryd.ntmps69
  go_wp2
  go_loopw [8] (fun v wr => ∃ i : Nat, i ≤ N ∧ v = .int .i64 i ∧ Hid (∀ j, j < i → (gt G j).k ≠ 5) ∧ Below w.heap.size w wr) (fun v _ => N - (intOf v).toNat)
  case atStart => exact ⟨0, Nat.zero_le _, rfl, fun j hj => by omega, Below.refl _ _⟩
  case round =>
    obtain ⟨i, hi, rfl, HJ, hbel⟩ := hrel
    by_cases hlt : i < N
    · obtain ⟨b, o, k, x, y, z, rfl, hbb, HGi, hk, hx, hy, hz, c1, c2, c3, c4⟩ := (h.below hbel).one hlt
      go_wp2_with fail
      refine (tMul1 k x y z _).mono ?_
      rintro e w3 ⟨rfl, hb3⟩
      have hbel3 := hbel.trans (hb3.mono hbel.size)
      clear hb3 hbel c1 c2 c3 c4
      by_cases h5 : k = 5
      · subst h5
        have HR : Hid ((0 : Int) ≤ (i : Int) ↔ ∃ i, i < N ∧ (gt G i).k = 5) := ⟨fun _ => ⟨i, hlt, by rw [HGi.out]⟩, fun _ => by omega⟩
        go_wp2
        go_ret
        exact ⟨_, rfl, HR.out, hbel3⟩
      · have hb5 : (k == 5) = false := by rw [beq_eq_false_iff_ne]; exact h5
        have HJ2 : Hid (∀ j, j < i + 1 → (gt G j).k ≠ 5) := fun j hj => by
          by_cases e : j = i
          · rw [e, HGi.out]; exact h5
          · exact HJ.out j (by omega)
        clear h5
        go_wp2
        go_roundw
        case rel => exact ⟨i + 1, by omega, by go_num, HJ2, hbel3⟩
        case measure => simp [intOf]; omega
    · have hiN : i = N := by omega
      subst hiN
      have HR : Hid ((0 : Int) ≤ -1 ↔ ∃ j, j < i ∧ (gt G j).k = 5) := ⟨fun e => absurd e (by decide), fun ⟨j, h1, h2⟩ => absurd h2 (HJ.out j h1)⟩
      go_wp2
      go_ret
      exact ⟨-1, rfl, HR.out, hbel⟩

theorem tContains (ag : Option Addr) (N cg : Nat) (G : List Gt) (w : World) (h : RdG w ag N cg G) (hN : N ≤ 30) :
    Calls Tryd.prog 31 #[.slice ag N cg, .func (.func 32) #[] #[]] w fun e w' => ∃ r : Bool, e = .returned (.bool r) ∧ (r = true ↔ ∃ i, i < N ∧ (gt G i).k = 5) ∧ Below w.heap.size w w' := by
  go_enter Tryd.func31, Tryd.ntmps31
  go_wp2_with fail
  refine (tIndexFunc _ _ _ _ _ h hN).mono ?_
  rintro e w1 ⟨r, rfl, hr, hb⟩
  have HR : Hid (decide (0 ≤ r) = true ↔ ∃ i, i < N ∧ (gt G i).k = 5) := by unfold Hid; rw [decide_eq_true_iff]; exact hr
  clear hr
  go_wp2
  go_ret
  exact ⟨decide (0 ≤ r), rfl, HR.out, hb⟩

theorem tFilledO (a : Option Addr) (n c : Nat) (xs : List Int) (k : Nat) (w : World) (h : Rd w a n c xs) (hk : k ≤ 2000) :
    Calls Tryd.prog 29 #[.slice a n c, .int .i64 k] w fun e w' => ∃ g, e = .returned (.slice (some ⟨g, 0, none⟩) k k) ∧ Blk w' g (padded xs k) ∧ w.heap.size ≤ g ∧ Below w.heap.size w w' := by
  obtain ⟨i0, hi, hz0, hz1, hz2⟩ := info_parts info34
  obtain ⟨P, HP⟩ : ∃ P, Hid (padded xs k = P) := ⟨_, rfl⟩
  have HPl : Hid (P.length = k) := by unfold Hid; rw [← HP.out]; exact padded_len xs k
  have HPb : Hid (∀ x ∈ P, 0 ≤ x ∧ x ≤ 18446744073709551615) := by unfold Hid; rw [← HP.out]; exact padded_bd h.bd k
  rw [HP.out]
  obtain ⟨cs, HCS⟩ : ∃ cs, Hid ((xs.take k).map (Value.int .u64) = cs) := ⟨_, rfl⟩
  obtain ⟨cu, HCU⟩ : ∃ cu, Hid ((List.replicate k (0 : Int)).map (Value.int .u64) = cu) := ⟨_, rfl⟩
  have hrl := h.len
  have hcl := copy_len (k := k) hrl
  have h1c := one_ints (xs.take k)
  have hsrcs := fun w' (hh : Rd w' a n c xs) => copy_src hh k
  have HSPL : Hid (Go.splice cu 0 cs = P.map (Value.int .u64)) := by unfold Hid; rw [← HCU.out, ← HCS.out, ← HP.out]; exact padded_splice xs k
  have hcul : cu.length = k := by rw [← HCU.out]; simp
  rw [HCS.out] at hcl h1c hsrcs
  have hcl2 : cs.length ≤ k := by rw [hcl]; exact Nat.min_le_right _ _
  go_enter Tryd.func29, Tryd.ntmps29
  go_wp2_with (first | (at_make; refine wpList_make_full _ rfl _ _ 22 rfl w.heap.size 34 i0 (.int .u64 0) 1 Tryd.underlying22 hi hz0 hz1 .i64 .i64 _ _ k rfl rfl (by omega) (by omega) (by rw [hz2]; omega) (by unfold maxLen; omega) (Nat.le_refl _) ?_; intro w3 hown hgrow; have hb3 : Blk w3 w.heap.size (List.replicate k 0) := Blk.made hown; have hbel3 : Below w.heap.size w w3 := (Below.refl _ _).grown hgrow (Nat.le_refl _) (by simp); have hrow3 := h.below hbel3; unfold Blk at hb3; rw [HCU.out] at hb3; clear hown hgrow) | (refine wpList_copy_splice rfl _ _ 22 22 rfl 34 Tryd.underlying22 (by rw [hi, Option.map_some, hz1]) (some ⟨w.heap.size, 0, none⟩) a k k n c (by rfl) (by rfl) w.heap.size 0 cu 34 hb3 cs hcl (fun hp => ⟨rfl, hsrcs w3 hrow3 hp⟩) (by omega) h1c w.heap.size w hbel3 (Nat.le_refl _) ?_; intro w4 HC4 hbel4))
  have hb4 : Blk w4 w.heap.size P := by unfold Blk; rw [← HSPL.out]; exact HC4.out
  clear HC4 hb3 hbel3 hrow3 hsrcs hcl h1c HCS HCU hcul hcl2 HSPL
  go_wp2
  go_ret
  exact ⟨_, rfl, hb4, Nat.le_refl _, hbel4⟩
end
end Go.Proofs.YtljlioglpaogdagDoor
