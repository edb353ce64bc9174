/- croftref.Crew, croftref.Draws. · engine.Need. -/
import Derived.Test.YtljlioglpaogdagDoorToEnDef
import Derived.Test.YtljlioglpaogdagDoorToGRightC
import Derived.Test.YtljlioglpaogdagDoorToCktC
namespace Go.Proofs.YtljlioglpaogdagDoor
set_option linter.unusedVariables false
set_option maxRecDepth 100000
set_option maxHeartbeats 8000000
section
open Crm Go.RowKit
theorem whl_le {G : List Gt} {N k : Nat} {n : Int} (h : ∀ j, j < k → (whl G N).getD j 0 ≤ n) (hk : k = (whl G N).length) : ∀ x ∈ whl G N, x ≤ n := fun x hx => by
  obtain ⟨j, hj, rfl⟩ := List.getElem_of_mem hx
  have := h j (by omega)
  rwa [List.getD_eq_getElem?_getD, List.getElem?_eq_getElem hj] at this
theorem whl_not {G : List Gt} {N j : Nat} {n : Int} (hj : j < (whl G N).length) (h : n < (whl G N).getD j 0) : ¬ ∀ x ∈ whl G N, x ≤ n := fun e => by
  rw [List.getD_eq_getElem?_getD, List.getElem?_eq_getElem hj] at h
  have := e _ (List.getElem_mem hj)
  simp only [Option.getD_some] at h
  omega

theorem dwn_le (G : List Gt) {n t : Nat} (hn : n ≤ 9) (ht : t ≤ 4) : ∀ i, dwn G n t i ≤ 36 * i
  | 0 => Nat.le_refl 0
  | i + 1 => by
    have := dwn_le G hn ht i
    have h1 : n * t ≤ 9 * 4 := Nat.mul_le_mul hn ht
    rw [dwn]
    split
    · omega
    · split <;> omega
/-- How many of the first i gates are products. -/
def cml (G : List Gt) : Nat → Nat
  | 0 => 0
  | i + 1 => cml G i + (if (gt G i).k = 5 then 1 else 0)
theorem cml_le (G : List Gt) : ∀ i, cml G i ≤ i
  | 0 => Nat.le_refl _
  | i + 1 => by rw [cml]; have := cml_le G i; split <;> omega
theorem cml_yes {G : List Gt} {i : Nat} (h : (gt G i).k = 5) : cml G (i + 1) = cml G i + 1 := by rw [cml, if_pos h]
theorem cml_no {G : List Gt} {i : Nat} (h : (gt G i).k ≠ 5) : cml G (i + 1) = cml G i := by rw [cml, if_neg h]; rfl
theorem dwn_sum (G : List Gt) (n t : Nat) : ∀ i, dwn G n t i = t * ci G i + n * t * cml G i
  | 0 => by simp [dwn, cml, ci_zero]
  | i + 1 => by
    rw [dwn, dwn_sum G n t i]
    by_cases h1 : (gt G i).k = 1
    · rw [if_pos h1, ci_in h1, cml_no (by omega), Nat.mul_add, Nat.mul_one]; omega
    · by_cases h5 : (gt G i).k = 5
      · rw [if_neg h1, if_pos h5, ci_no h1, cml_yes h5, Nat.mul_add, Nat.mul_one]; omega
      · rw [if_neg h1, if_neg h5, ci_no h1, cml_no h5, Nat.add_zero]

theorem eProducts (ag : Option Addr) (N cg : Nat) (G : List Gt) (w : World) (h : RdG w ag N cg G) (hN : N ≤ 30) :
    Calls Tryd.prog 63 #[.slice ag N cg] w fun e w' => e = .returned (.int .i64 (cml G N : Int)) ∧ Below w.heap.size w w' := by
  have hcap := h.cap
  go_enter Tryd.func63, Tryd.ntmps63
  go_wp2
  go_loopw [3, 8] (fun c i wr => ∃ k : Nat, k ≤ N ∧ i = .int .i64 k ∧ c = .int .i64 (cml G k : Int) ∧ Below w.heap.size w wr) (fun _ i _ => N - (intOf i).toNat)
  case atStart => exact ⟨0, Nat.zero_le _, rfl, rfl, Below.refl _ _⟩
  case round =>
    obtain ⟨i, hi, rfl, rfl, hbel⟩ := hrel
    by_cases hlt : i < N
    · obtain ⟨b, o, k, x, y, z, rfl, hbb, HGi, hk, hx, hy, hz, c1, c2, c3, c4⟩ := (h.below hbel).one hlt
      have hbA : Below wr.heap.size wr (wr.alloc (.cells #[.int .i64 k, .int .i64 x, .int .i64 y, .int .u64 z] 61)) := (Below.refl _ _).alloc (Nat.le_refl _) _
      obtain ⟨q1, q2, q3, q4⟩ := gate_box wr k x y z 61
      have hltA : wr.heap.size < (wr.alloc (.cells #[.int .i64 k, .int .i64 x, .int .i64 y, .int .u64 z] 61)).heap.size := by simp
      have hb2 := hbel.trans (hbA.mono hbel.size)
      have hcl := cml_le G i
      obtain ⟨K, HK⟩ : ∃ K, Hid (cml G i = K) := ⟨_, rfl⟩
      rw [HK.out] at hcl ⊢
      go_upto_region 5 with fail
      generalize wr.alloc (.cells #[.int .i64 k, .int .i64 x, .int .i64 y, .int .u64 z] 61) = W at *
      clear c1 c2 c3 c4 hbA
      by_cases h5 : k = 5
      · subst h5
        have HN : Hid (cml G (i + 1) = K + 1) := by unfold Hid; rw [cml_yes (by rw [HGi.out]), HK.out]
        go_wp2
        go_roundw
        case rel => exact ⟨i + 1, by omega, by go_num, by rw [HN.out]; rfl, hb2⟩
        case measure => simp [intOf]; omega
      · have HN : Hid (cml G (i + 1) = K) := by unfold Hid; rw [cml_no (by rw [HGi.out]; exact h5), HK.out]
        go_wp2
        go_roundw
        case rel => exact ⟨i + 1, by omega, by go_num, by rw [HN.out], hb2⟩
        case measure => simp [intOf]; omega
    · have hiN : i = N := by omega
      subst hiN
      go_wp2
      go_ret
      exact ⟨rfl, hbel⟩

theorem eNeed (ag : Option Addr) (N cg : Nat) (G : List Gt) (ao : Option Addr) (m co : Nat) (O : List Int) (n t : Int) (w : World) (h : RdG w ag N cg G) (g : RdI w ao m co O) (hn : -9223372036854775808 ≤ n ∧ n ≤ 9223372036854775807) (ht : -9223372036854775808 ≤ t ∧ t ≤ 9223372036854775807) (hS : Shp w) :
    Calls Tryd.prog 25 #[.agg #[.slice ag N cg, .slice ao m co], .int .i64 n, .int .i64 t] w (Enn G O N m n t w) := by
  have hC0 := CBox.new w ag N cg ao m co
  have hb0 : Below w.heap.size w (w.alloc (.cells #[.slice ag N cg, .slice ao m co] 26)) := (Below.refl _ _).alloc (Nat.le_refl _) _
  go_enter Tryd.func25, Tryd.ntmps25
  go_wp2_with fail
  generalize w.alloc (.cells #[.slice ag N cg, .slice ao m co] 26) = w0 at *
  refine (cInputs _ _ _ _ _ _ _ _ _ (h.below hb0) (g.below hb0) (hS.below hb0)).mono ?_
  rintro e w1 ⟨⟨r, hr, hE, rfl⟩ | ⟨hE, v, rfl, ho⟩, hb1'⟩
  · have hb1 := hb0.trans (hb1'.mono hb0.size)
    have HE : Hid (Nde G O N m n t r) := .inl ⟨hr, hE⟩
    clear hE hb1' hC0 hb0
    go_wp2
    go_ret2
    exact ⟨.inl ⟨r, hr, HE.out, rfl⟩, hb1⟩
  · have hb1 := hb0.trans (hb1'.mono hb0.size)
    have hC1 := hC0.below hb1' hC0.lt
    obtain ⟨d0, d1⟩ := hC1.cells
    have hC1l := hC1.lt
    have hN := hE.ok.1
    have HC : Hid (Cke G O N m 0) := hE
    obtain ⟨a2, c2, rfl, hr2⟩ := RdI.own ho (whl_bd (fun i hi => (h.bd i hi).2.1) N (Nat.le_refl _))
    have hcl := hr2.cap
    have hmx := hr2.max
    unfold maxLen at hmx
    have hci := ci_le G N
    have hlen : (whl G N).length = ci G N := rfl
    obtain ⟨l, HL⟩ : ∃ l, Hid (ci G N = l) := ⟨_, rfl⟩
    rw [HL.out] at hr2 hcl hci hlen ⊢
    have HLen : Hid ((whl G N).length = l) := hlen
    clear hE hb1' hC0 hb0 ho hlen hC1
    by_cases hok : (0 ≤ t ∧ t ≤ 4) ∧ 2 * t + 1 ≤ n ∧ n ≤ 9
    · obtain ⟨⟨ht0, ht4⟩, hnt, hn9⟩ := hok
      obtain ⟨n, rfl⟩ : ∃ n' : Nat, n = n' := ⟨n.toNat, by omega⟩
      obtain ⟨t, rfl⟩ : ∃ t' : Nat, t = t' := ⟨t.toNat, by omega⟩
      go_wp2
      go_loopw [39] (fun i wr => ∃ k : Nat, k ≤ l ∧ i = .int .i64 k ∧ Hid (∀ p, p < k → (whl G N).getD p 0 ≤ (n : Int)) ∧ wr = w1) (fun i _ => l - (intOf i).toNat)
      case atStart => exact ⟨0, Nat.zero_le _, rfl, fun p hp => by omega, rfl⟩
      case round =>
        obtain ⟨j, hj, rfl, HJ, hw⟩ := hrel
        subst hw
        by_cases hlt : j < l
        · obtain ⟨b, o, x, rfl, hbb, HX, hx0, hx1, hcx⟩ := hr2.one hlt
          have hj0 : (0 : Int) ≤ (j : Int) := by omega
          have hjl : (j : Int) < (l : Int) := by omega
          by_cases hxn : x ≤ n
          · have HN1 : Hid (∀ p, p < j + 1 → (whl G N).getD p 0 ≤ (n : Int)) := fun p hp => by
              by_cases e : p = j
              · rw [e, HX.out]; exact hxn
              · exact HJ.out p (by omega)
            go_wp2
            go_roundw
            case rel => exact ⟨j + 1, by omega, by go_num, HN1, by trivial⟩
            case measure => simp [intOf]; omega
          · have HE : Hid (Nde G O N m n t 1) := .inr ⟨HC.out, .inl ⟨fun e => by
              have := whl_not (n := (n : Int)) (by rw [HLen.out]; exact hlt) (by rw [HX.out]; omega)
              exact this e.2.2.2, rfl⟩⟩
            go_wp2
            go_ret2
            exact ⟨.inl ⟨1, by decide, HE.out, rfl⟩, hb1⟩
        · have hjl : j = l := by omega
          subst hjl
          have HE : Hid (Nde G O N m n t 0) := .inr ⟨HC.out, .inr ⟨⟨⟨ht0, ht4⟩, ⟨by omega, hn9⟩, hnt, whl_le HJ.out HLen.out.symm⟩, rfl⟩⟩
          have hcml := cml_le G N
          have HS : Hid (dwn G n t N = t * j + n * t * cml G N) := by unfold Hid; rw [dwn_sum, HL.out]
          have hN1 : N ≤ 30 := hN.2
          have ht4' : t ≤ 4 := by omega
          have hn9' : n ≤ 9 := by omega
          have h1 : t * j ≤ 4 * 30 := Nat.mul_le_mul ht4' (by omega)
          have h2 : n * t ≤ 9 * 4 := Nat.mul_le_mul hn9' ht4'
          obtain ⟨K, HK⟩ : ∃ K, Hid (cml G N = K) := ⟨_, rfl⟩
          rw [HK.out] at hcml HS
          obtain ⟨P1, HP1⟩ : ∃ P1, Hid (t * j = P1) := ⟨_, rfl⟩
          obtain ⟨P2, HP2⟩ : ∃ P2, Hid (n * t = P2) := ⟨_, rfl⟩
          have h3 : n * t * K ≤ 36 * 30 := Nat.mul_le_mul h2 (by omega)
          rw [HP2.out] at h2 h3 HS
          rw [HP1.out] at h1 HS
          obtain ⟨P3, HP3⟩ : ∃ P3, Hid (P2 * K = P3) := ⟨_, rfl⟩
          rw [HP3.out] at h3 HS
          have e1 : (t : Int) * (j : Int) = (P1 : Int) := by rw [← HP1.out]; push_cast; rfl
          have e2 : (n : Int) * (t : Int) = (P2 : Int) := by rw [← HP2.out]; push_cast; rfl
          have e3 : (P2 : Int) * (K : Int) = (P3 : Int) := by rw [← HP3.out]; push_cast; rfl
          go_wp2_with (go_at_call 63; refine (eProducts _ _ _ _ _ (h.below hb1) hN1).mono ?_; rintro e w3 ⟨rfl, hb3⟩; rw [HK.out])
          go_ret2
          refine ⟨.inr ⟨HE.out, ?_⟩, hb1.trans (hb3.mono hb1.size)⟩
          rw [Int.toNat_natCast, Int.toNat_natCast, HS.out]
          push_cast
          rfl
    · have HE : Hid (Nde G O N m n t 1) := .inr ⟨HC.out, .inl ⟨fun e => by obtain ⟨f1, f2, f3, _⟩ := e; exact hok ⟨f1, f3, f2.2⟩, rfl⟩⟩
      by_cases h1 : t < 0
      · clear hok
        go_wp2
        go_ret2
        exact ⟨.inl ⟨1, by decide, HE.out, rfl⟩, hb1⟩
      · by_cases h2 : 4 < t
        · clear hok
          go_wp2
          go_ret2
          exact ⟨.inl ⟨1, by decide, HE.out, rfl⟩, hb1⟩
        · by_cases h3 : n < 2 * t + 1
          · clear hok
            go_wp2
            go_ret2
            exact ⟨.inl ⟨1, by decide, HE.out, rfl⟩, hb1⟩
          · have h4 : 9 < n := by omega
            clear hok
            go_wp2
            go_ret2
            exact ⟨.inl ⟨1, by decide, HE.out, rfl⟩, hb1⟩
end
end Go.Proofs.YtljlioglpaogdagDoor
