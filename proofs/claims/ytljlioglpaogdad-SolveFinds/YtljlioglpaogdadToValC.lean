/- croftref.Holds. · Equations that are made of values; one row more of the same; a wrong one more. · poly.value, slices.Equal. -/
import Derived.Test.YtljlioglpaogdadToChkC
import Derived.Test.YtljlioglpaogdadToRows2
import Derived.Deep.QuietTactic
import Derived.BigQuiet
import Derived.Test.YtljlioglpaogdadToGaussR
namespace Go.Proofs.Ytljlioglpaogdad
set_option linter.unusedVariables false
set_option maxRecDepth 100000
set_option maxHeartbeats 8000000
section
open Crm Go.RowKit
theorem hdrewN {B : Nat} {a w : World} (h : Below B a w) (q : Nat) : Below B a (w.drewN q) := ⟨h.os, h.tape, h.output, h.size, h.block⟩

/-- The values V make equation i right. -/
def okrow (rs : List (List Int)) (V : List Int) (k i : Nat) : Prop := nm (sm (fun j => mat rs i j * V.getD j 0) k) = nm (mat rs i k)
theorem okrow_ns (rs : List (List Int)) (V : List Int) (k n : Nat) : (∀ i, i < n → okrow rs V k i) ↔ NS (mat rs) n (k + 1) (fun j => if j < k then V.getD j 0 else -1) := by
  have key : ∀ i, okrow rs V k i ↔ nm (sm (fun j => (if j < k then V.getD j 0 else -1) * mat rs i j) (k + 1)) = 0 := fun i => by
    rw [sm]
    have e : nm (sm (fun j => (if j < k then V.getD j 0 else -1) * mat rs i j) k) = nm (sm (fun j => mat rs i j * V.getD j 0) k) := sm_ncongr fun j hj => by rw [if_pos hj, Int.mul_comm]
    show okrow rs V k i ↔ nm (sm (fun j => (if j < k then V.getD j 0 else -1) * mat rs i j) k + (if k < k then V.getD k 0 else -1) * mat rs i k) = 0
    rw [if_neg (by omega), Int.neg_one_mul]
    unfold okrow
    rw [← e]
    generalize sm (fun j => (if j < k then V.getD j 0 else -1) * mat rs i j) k = X
    unfold nm; omega
  exact ⟨fun h i hi => (key i).1 (h i hi), fun h i hi => (key i).2 (h i hi)⟩

theorem rHolds (a : Option Addr) (n c : Nat) (rs : List (List Int)) (b : Option Addr) (k d : Nat) (V : List Int) (w : World) (h : RdR w a n c rs) (hV : Rd w b k d V) (hwid : ∀ i, i < n → (rs.getD i []).length = k + 1) (hn : n ≤ 1000) (hk : k ≤ 1000) :
    Calls Try.prog 22 #[.slice a n c, .slice b k d] w fun e w' => ∃ r : Bool, e = .returned (.bool r) ∧ (r = true ↔ ∀ i, i < n → okrow rs V k i) ∧ Below w.heap.size w w' := by
  have hcap := h.cap
  have hcapV := hV.cap
  go_enter Try.func22, Try.ntmps22
  go_wp2
  go_loopw [5] (fun i wr => ∃ m : Nat, m ≤ n ∧ i = .int .i64 m ∧ Hid (∀ i, i < m → okrow rs V k i) ∧ Below w.heap.size w wr) (fun i _ => n - (intOf i).toNat)
  case atStart => exact ⟨0, Nat.zero_le _, rfl, fun i hi => by omega, Below.refl _ _⟩
  case round =>
    obtain ⟨m, hm, rfl, HO, hbel⟩ := hrel
    obtain ⟨wo, hwo⟩ : ∃ wo, wo = wr := ⟨_, rfl⟩
    subst hwo
    by_cases hlt : m < n
    · obtain ⟨b1, o1, ai, ni, ci, row, rfl, hbb, HRow, hcr0, hrow⟩ := h.one hlt
      have hni : ni = k + 1 := by have := hwid m hlt; rw [HRow.out] at this; rw [← hrow.len]; exact this
      subst hni
      have HM : Hid (∀ j, mat rs m j = row.getD j 0) := fun j => by unfold mat; rw [HRow.out]
      go_wp2
      go_loopw [6, 7] (fun s j wr => ∃ (q : Nat) (x : Int), q ≤ k ∧ j = .int .i64 q ∧ s = .int .u64 x ∧ 0 ≤ x ∧ x ≤ 2147483646 ∧ Hid (x = nm (sm (fun j => mat rs m j * V.getD j 0) q)) ∧ Below w.heap.size w wr) (fun _ j _ => k - (intOf j).toNat)
      case atStart => exact ⟨0, 0, Nat.zero_le _, rfl, rfl, by omega, by omega, rfl, hbel⟩
      case round =>
        obtain ⟨q, x, hq, rfl, rfl, hx0, hx1, HX, hbel2⟩ := hrel
        have hcr : wr.cell? ⟨b1, o1 + m, none⟩ = some (.slice ai (k + 1) ci) := by rw [hbel2.cell hbb]; exact hcr0
        have hs2 := hbel2.size
        by_cases hqk : q < k
        · obtain ⟨b2, o2, y, rfl, hb2, HY, hy0, hy1, hcy⟩ := (hrow.below hbel2).one (show q < k + 1 by omega)
          obtain ⟨b3, o3, z, rfl, hb3, HZ, hz0, hz1, hcz⟩ := (hV.below hbel2).one hqk
          have hyz := nm_bd (y * z)
          have HX2 : Hid (nm (x + nm (y * z)) = nm (sm (fun j => mat rs m j * V.getD j 0) (q + 1))) := by
            rw [nm_addr, HX.out, nm_addl, sm, HM.out, HY.out, HZ.out]; rfl
          obtain ⟨x2, hx2⟩ : ∃ x2, x2 = nm (x + nm (y * z)) := ⟨_, rfl⟩
          have hxb2 := nm_bd (x + nm (y * z))
          clear hbb hcr0 HX
          go_wp2
          go_quiet ((first | (go_at_call 50; exact Calls.quiet_of_same (rMul _ _ _ (by omega) (by omega) (by omega) (by omega))) | (go_at_call 49; exact Calls.quiet_of_same (rAdd _ _ _ (by omega) (by omega) (by omega) (by omega)))))
          go_wp2
          go_roundw
          case rel => exact ⟨q + 1, _, by omega, by go_num, rfl, hxb2.1, hxb2.2, HX2, hdrewN hbel2 _⟩
          case measure => simp [intOf]; omega
        · have hqk2 : q = k := by omega
          subst hqk2
          obtain ⟨b2, o2, y, rfl, hb2, HY, hy0, hy1, hcy⟩ := (hrow.below hbel2).one (show q < q + 1 by omega)
          have hyb := nm_bd y
          by_cases he : x = nm y
          · have HO2 : Hid (∀ i, i < m + 1 → okrow rs V q i) := fun i hi => by
              by_cases e : i = m
              · unfold okrow; rw [e, ← HX.out, he, HM.out, HY.out]
              · exact HO.out i (by omega)
            have hb : (x == nm y) = true := by rw [beq_iff_eq]; exact he
            clear he
            go_wp2_with (first | (go_at_call 51; refine (rNorm _ _ (by omega) (by omega)).mono ?_; rintro e w' ⟨rfl, hw'⟩; have hw' := hw'.symm; subst hw') | fail)
            go_roundw
            case rel => exact ⟨m + 1, by omega, by go_num, HO2, hbel2⟩
            case measure => simp [intOf]; omega
          · have HN : Hid (¬ ∀ i, i < n → okrow rs V q i) := fun hall => he (by have := hall m hlt; unfold okrow at this; rw [← HX.out, HM.out, HY.out] at this; exact this)
            have hb : (x == nm y) = false := by rw [beq_eq_false_iff_ne]; exact he
            clear he
            go_wp2_with (first | (go_at_call 51; refine (rNorm _ _ (by omega) (by omega)).mono ?_; rintro e w' ⟨rfl, hw'⟩; have hw' := hw'.symm; subst hw') | fail)
            go_ret
            exact ⟨false, rfl, by simp only [Bool.false_eq_true, false_iff]; exact HN.out, hbel2⟩
    · have hmn : m = n := by omega
      subst hmn
      go_wp2
      go_ret
      exact ⟨true, rfl, by simp only [true_iff]; exact HO.out, hbel⟩
theorem ok_dep {rs : List (List Int)} {Y : List Int} {k n : Nat} (h : ∀ i, i < n → okrow rs Y k i) : dep (mat rs) n k :=
  ⟨fun j => Y.getD j 0, fun i hi => by
    have h1 := h i hi
    unfold okrow at h1
    rw [← h1]
    exact sm_ncongr fun j _ => by rw [Int.mul_comm]⟩
theorem okrow_nz {rs : List (List Int)} {Y : List Int} {k i : Nat} (h : okrow rs Y k i) : okrow rs (nz Y) k i := by
  unfold okrow at *
  rw [← h]
  exact sm_ncongr fun j _ => by rw [nz_getD]; exact nm_mulr _ _

theorem up_ge {L : List Nat} (h : L.Pairwise (· < ·)) : ∀ q, q < L.length → q ≤ L.getD q 0
  | 0, _ => Nat.zero_le _
  | q + 1, hq => by have := up_ge h q (by omega); have := getD_up h (show q < q + 1 by omega) hq; omega
theorem up_le {L : List Nat} {k : Nat} (h : L.Pairwise (· < ·)) (hb : ∀ j ∈ L, j < k) : ∀ d q, q + d + 1 = L.length → L.getD q 0 + d + 1 ≤ k
  | 0, q, hq => by have := hb _ (getN_mem (show q < L.length by omega)); omega
  | d + 1, q, hq => by have := up_le h hb d (q + 1) (by omega); have := getD_up h (show q < q + 1 by omega) (show q + 1 < L.length by omega); omega
theorem up_len {L : List Nat} {k : Nat} (h : L.Pairwise (· < ·)) (hb : ∀ j ∈ L, j < k) : L.length ≤ k := by
  by_cases e : L.length = 0
  · omega
  · have := up_le h hb (L.length - 1) 0 (by omega); omega
theorem up_all {L : List Nat} {k : Nat} (h : L.Pairwise (· < ·)) (hb : ∀ j ∈ L, j < k) (hl : L.length = k) {j : Nat} (hj : j < k) : j ∈ L := by
  have h1 := up_ge h j (by omega)
  have h2 := up_le h hb (k - 1 - j) j (by omega)
  have e : L.getD j 0 = j := by omega
  rw [← e]; exact getN_mem (by omega)

/-- The values themselves are what is told, where no column is a sum of others. -/
theorem found {rs : List (List Int)} {Y V : List Int} {k n : Nat} (hY : Y.length = k) (hok : ∀ i, i < n → okrow rs Y k i) (hS : Sol (mat rs) n k V) (hnd : ∀ j, j < k → ¬ dep (mat rs) n j) : V = nz Y := by
  refine sol_one (fun f => Iff.rfl) hS ⟨by rw [nz_len]; exact hY, nz_bd' Y, fun j hj _ => hnd j hj, ?_⟩
  exact (okrow_ns rs (nz Y) k n).1 fun i hi => okrow_nz (hok i hi)

theorem mat_old {B : List (List Int)} {b : List Int} {i : Nat} (h : i < B.length) (j : Nat) : mat (B ++ [b]) i j = mat B i j := by unfold mat; simp [List.getElem?_append_left h]
theorem mat_new (B : List (List Int)) (b : List Int) (j : Nat) : mat (B ++ [b]) B.length j = b.getD j 0 := by unfold mat; simp
theorem okrow_old {B : List (List Int)} {b Y : List Int} {k i : Nat} (h : i < B.length) : okrow (B ++ [b]) Y k i ↔ okrow B Y k i := by
  unfold okrow
  rw [mat_old h]
  have : (fun j => mat (B ++ [b]) i j * Y.getD j 0) = fun j => mat B i j * Y.getD j 0 := by funext j; rw [mat_old h]
  rw [this]
theorem okrow_new {B : List (List Int)} {b Y : List Int} {k : Nat} : okrow (B ++ [b]) Y k B.length ↔ nm (sm (fun j => b.getD j 0 * Y.getD j 0) k) = nm (b.getD k 0) := by
  unfold okrow
  rw [mat_new]
  have : (fun j => mat (B ++ [b]) B.length j * Y.getD j 0) = fun j => b.getD j 0 * Y.getD j 0 := by funext j; rw [mat_new]
  rw [this]

/-- A row more of the same says nothing new. -/
theorem ns_same {B : List (List Int)} {m q w : Nat} (hm : B.length = m) (hq : q < m) (f : Nat → Int) : NS (mat B) m w f ↔ NS (mat (B ++ [B.getD q []])) (m + 1) w f := by
  have e1 : ∀ i, i < m → sm (fun j => f j * mat (B ++ [B.getD q []]) i j) w = sm (fun j => f j * mat B i j) w := fun i hi => by
    congr 1; funext j; rw [mat_old (by omega)]
  have e2 : sm (fun j => f j * mat (B ++ [B.getD q []]) m j) w = sm (fun j => f j * mat B q j) w := by
    congr 1; funext j; rw [← hm, mat_new]; rfl
  constructor
  · intro h i hi
    by_cases e : i < m
    · rw [e1 i e]; exact h i e
    · rw [show i = m by omega, e2]; exact h q hq
  · intro h i hi
    rw [← e1 i hi]; exact h i (by omega)
/-- One that asks for something else can't be. -/
theorem dep_wrong {B : List (List Int)} {Y b : List Int} {m q k : Nat} {by_ : Int} (hm : B.length = m) (hq : q < m) (hok : ∀ i, i < m → okrow B Y k i) (hb : ∀ j, j < k → b.getD j 0 = (B.getD q []).getD j 0) (hbk : b.getD k 0 = nm ((B.getD q []).getD k 0 + by_)) :
    dep (mat (B ++ [b])) (m + 1) k ↔ nm by_ = 0 := by
  have e1 : ∀ (f : Nat → Int), sm (fun j => f j * mat (B ++ [b]) q j) k = sm (fun j => f j * mat B q j) k := fun f => by
    congr 1; funext j; rw [mat_old (by omega)]
  have e2 : ∀ (f : Nat → Int), nm (sm (fun j => f j * mat (B ++ [b]) m j) k) = nm (sm (fun j => f j * mat B q j) k) := fun f => sm_ncongr fun j hj => by
    rw [← hm, mat_new, hb j hj]; rfl
  constructor
  · rintro ⟨f, hf⟩
    have h1 := hf q (by omega)
    have h2 := hf m (by omega)
    rw [e1, mat_old (by omega)] at h1
    rw [e2, h1, ← hm, mat_new, hbk] at h2
    have h3 : nm (mat B q k) = nm (mat B q k + by_) := by rw [h2, nm_nm]; rfl
    unfold nm at *; omega
  · intro h0
    refine ok_dep (Y := Y) fun i hi => ?_
    by_cases e : i < m
    · exact (okrow_old (by omega)).2 (hok i e)
    · have h1 := hok q hq
      unfold okrow at h1
      rw [show i = B.length by omega, okrow_new, hbk, nm_nm]
      have e3 : nm (sm (fun j => b.getD j 0 * Y.getD j 0) k) = nm (sm (fun j => mat B q j * Y.getD j 0) k) := sm_ncongr fun j hj => by rw [hb j hj]; rfl
      rw [e3, h1]
      show nm ((B.getD q []).getD k 0) = nm ((B.getD q []).getD k 0 + by_)
      unfold nm at *; omega

/-- The two equations that the law itself brings. -/
theorem ex_sol : Sol (mat [[1, 1, 5], [1, 2147483646, 1]]) 2 2 [3, 2] := by
  refine ⟨rfl, fun x hx => by simp at hx; omega, fun j hj _ => ?_, fun i hi => ?_⟩
  · rintro ⟨f, hf⟩
    match j, hj with
    | 0, _ =>
      have h0 : nm 0 = nm 1 := hf 0 (by omega)
      exact absurd h0 (by decide)
    | 1, _ =>
      have h0 := hf 0 (by omega)
      have h1 := hf 1 (by omega)
      have e0 : sm (fun j => f j * mat [[1, 1, 5], [1, 2147483646, 1]] 0 j) 1 = 0 + f 0 * 1 := rfl
      have e1 : sm (fun j => f j * mat [[1, 1, 5], [1, 2147483646, 1]] 1 j) 1 = 0 + f 0 * 1 := rfl
      have e2 : mat [[1, 1, 5], [1, 2147483646, 1]] 0 1 = 1 := rfl
      have e3 : mat [[1, 1, 5], [1, 2147483646, 1]] 1 1 = 2147483646 := rfl
      rw [e0, e2] at h0
      rw [e1, e3] at h1
      unfold nm at *; omega
  · match i, hi with
    | 0, _ => decide
    | 1, _ => decide
theorem ex_dep : dep (mat [[1, 1, 5], [1, 2147483646, 1]]) 2 2 := ok_dep (Y := [3, 2]) fun i hi => by
  match i, hi with
  | 0, _ => show nm _ = nm _; decide
  | 1, _ => show nm _ = nm _; decide
theorem take_eq {xs ys : List Int} {k : Nat} (h1 : k < xs.length) (h2 : k < ys.length) (h : xs.take k = ys.take k) (e : xs.getD k 0 = ys.getD k 0) : xs.take (k + 1) = ys.take (k + 1) := by
  rw [List.take_succ_eq_append_getElem h1, List.take_succ_eq_append_getElem h2, h]
  congr 2
  simpa [List.getElem?_eq_getElem h1, List.getElem?_eq_getElem h2] using e

theorem cEqual (a : Option Addr) (n c : Nat) (xs : List Int) (b : Option Addr) (m d : Nat) (ys : List Int) (w : World) (h : Rd w a n c xs) (g : Rd w b m d ys) :
    Calls Try.prog 10 #[.slice a n c, .slice b m d] w fun e w' => e = .returned (.bool (xs == ys)) ∧ Below w.heap.size w w' := by
  have hm := h.max
  have hcap := h.cap
  have hlen := h.len
  have gm := g.max
  have gcap := g.cap
  have glen := g.len
  unfold maxLen at hm gm
  by_cases hnm : n = m
  · subst hnm
    go_enter Try.func10, Try.ntmps10
    go_wp2
    go_loopw [13] (fun i wr => ∃ k : Nat, k ≤ n ∧ i = .int .i64 k ∧ Hid (xs.take k = ys.take k) ∧ Below w.heap.size w wr) (fun i _ => n - (intOf i).toNat)
    case atStart => exact ⟨0, Nat.zero_le _, rfl, rfl, Below.refl _ _⟩
    case round =>
      obtain ⟨k, hk, rfl, HT, hbel⟩ := hrel
      by_cases hlt : k < n
      · obtain ⟨b1, o1, x, rfl, hb1, HX, hx0, hx1, hc1⟩ := (h.below hbel).one hlt
        obtain ⟨b2, o2, y, rfl, hb2, HY, hy0, hy1, hc2⟩ := (g.below hbel).one hlt
        by_cases hxy : x = y
        · subst hxy
          go_wp2
          go_region
          all_goals go_wp2
          all_goals
            go_roundw
            case rel => exact ⟨k + 1, by omega, by go_num, take_eq (by omega) (by omega) HT.out (HX.out.trans HY.out.symm), by first | exact hbel.drew | exact hbel.drew.drew⟩
            case measure => simp [intOf]; omega
        · have hxb : (x != y) = true := by rw [bne_iff_ne]; exact hxy
          go_wp2
          have HE : Hid ((xs == ys) = false) := by
            refine beq_eq_false_iff_ne.2 fun e => hxy ?_
            rw [← HX.out, ← HY.out, e]
          go_region
          all_goals go_wp2
          all_goals
            go_ret
            rw [HE.out]
            exact ⟨rfl, by first | exact hbel.drew | exact hbel.drew.drew⟩
      · have HE : Hid ((xs == ys) = true) := by
          refine beq_iff_eq.2 ?_
          have := HT.out
          rwa [List.take_of_length_le (by omega), List.take_of_length_le (by omega)] at this
        go_wp2
        go_ret
        rw [HE.out]
        exact ⟨rfl, hbel⟩
  · have hb : ((n : Int) != (m : Int)) = true := by rw [bne_iff_ne]; omega
    go_enter Try.func10, Try.ntmps10
    have HE : Hid ((xs == ys) = false) := beq_eq_false_iff_ne.2 fun e => hnm (by rw [← hlen, ← glen, e])
    go_wp2
    go_ret
    rw [HE.out]
    exact ⟨rfl, Below.refl _ _⟩

theorem nil_rd (w : World) : Rd w none 0 0 [] := ⟨rfl, Nat.le_refl _, Nat.zero_le _, by simp, fun _ => rfl, by simp⟩

/-- Two slices that read the same are equal. -/
theorem cSame (a : Option Addr) (n c : Nat) (xs : List Int) (b : Option Addr) (m d : Nat) (w : World) (h : Rd w a n c xs) (g : Rd w b m d xs) :
    Calls Try.prog 10 #[.slice a n c, .slice b m d] w fun e w' => e = .returned (.bool true) ∧ Below w.heap.size w w' := by
  refine (cEqual _ _ _ _ _ _ _ _ _ h g).mono ?_
  rintro e w' ⟨rfl, hb⟩
  exact ⟨by rw [beq_self_eq_true], hb⟩
end
end Go.Proofs.Ytljlioglpaogdad
