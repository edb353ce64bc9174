/- Faces of poly by their values: what a product tells, what a division leaves. -/
import Derived.Test.YtihiolnagcelkadDivF
import Derived.Test.YtihiolnagcelkadPolyM3
namespace Go.Proofs.Ytihiolnagcelkad
open Go.RowKit Crm

theorem nrm_nil0 {xs : List Int} {n : Nat} (hl : xs.length = n) (h : tl (nz xs) n = 0) (x : Int) : nm (ev xs x) = 0 := by
  have h1 : (nrm xs).length = 0 := by rw [nrm_len, hl, h]
  rw [← nrm_ev, List.eq_nil_of_length_eq_zero h1]
  rfl

/-- The product of two that are short enough. -/
theorem cMulAll (a : Option Addr) (n c : Nat) (xs : List Int) (b : Option Addr) (m d : Nat) (ys : List Int) (w : World) (h : Rd w a n c xs) (g : Rd w b m d ys) (hn : n ≤ 40) (hm : m ≤ 40) (hnm : n + m ≤ 41) :
    Calls Try.prog 10 #[.slice a n c, .slice b m d] w fun e w' => ∃ p a' c', e = .returned (.tuple #[.slice a' p.length c', .int .i64 0]) ∧ Rd w' a' p.length c' p ∧ p.length ≤ 40 ∧ (∀ x, nm (ev p x) = nm (ev xs x * ev ys x)) ∧ Below w.heap.size w w' := by
  have hn1 := tl_le (nz xs) n
  have hm1 := tl_le (nz ys) m
  by_cases hz : tl (nz xs) n = 0 ∨ tl (nz ys) m = 0
  · refine (cMul0 _ _ _ _ _ _ _ _ _ h g hn hm hz).mono ?_
    rintro e w' ⟨rfl, hb⟩
    refine ⟨[], none, 0, rfl, nil_rd _, Nat.zero_le _, fun x => ?_, hb⟩
    rcases hz with hz | hz
    · rw [nm_mul_congr (c := 0) (nrm_nil0 h.len hz x) rfl, Int.zero_mul]; rfl
    · rw [nm_mul_congr (d := 0) rfl (nrm_nil0 g.len hz x), Int.mul_zero]; rfl
  · refine (cMulOK _ _ _ _ _ _ _ _ _ h g hn hm (by omega) (by omega) (by omega)).mono ?_
    rintro e w' ⟨a', rfl, hr, hb⟩
    have hl := hr.len
    refine ⟨cvl (nrm xs) (nrm ys), a', _, by rw [hl], by rw [hl]; exact hr, by rw [hl]; omega, fun x => ?_, hb⟩
    rw [cvl_ev]
    exact nm_mul_congr (nrm_ev _ _) (nrm_ev _ _)

/-- BEZOUT's ground: what the quotient, the divisor and the rest tell is what the dividend tells. -/
theorem div_ev {Q D R X : List Int} (h : ∀ t, nm (pc Q D t Q.length + R.getD t 0) = nm (X.getD t 0)) (c : Int) : nm (ev Q c * ev D c + ev R c) = nm (ev X c) := by
  have h1 := ev_congr (adl 1 (cvl Q D) R) X c fun t => by
    rw [adl_getD, Int.one_mul, cvl_getD, nm_addl, h]
  rw [← h1, adl_ev, Int.one_mul]
  exact (nm_add_congr (cvl_ev c Q D) rfl).symm

def pts40 : List Int := (List.range 40).map fun i : Nat => (i : Int)
theorem pts40_pair : pts40.Pairwise (fun a b => nm (a - b) ≠ 0) := by
  unfold pts40
  rw [List.pairwise_map]
  refine List.Pairwise.imp_of_mem ?_ (List.nodup_range (n := 40))
  intro a b ha hb hab
  have h1 := List.mem_range.1 ha
  have h2 := List.mem_range.1 hb
  unfold nm
  omega
/-- x x - 1 is (x + 1) (x - 1). -/
theorem div_known {Q R : List Int} (nQ : Nml Q) (nR : Nml R) (hR : R.length < 2) (hQ : Q.length ≤ 40) (h : ∀ t, nm (pc Q [1, 1] t Q.length + R.getD t 0) = nm ([2147483646, 0, 1].getD t 0)) : R = [] ∧ Q = [2147483646, 1] := by
  have hev := div_ev h
  have hD : ∀ c, ev [1, 1] c = 1 + c := fun c => by simp [ev]
  have hX : ∀ c, ev [2147483646, 0, 1] c = 2147483646 + c * c := fun c => by simp [ev]
  have hR0 : R = [] := by
    match R, hR, nR, hev with
    | [], _, _, _ => rfl
    | [r], _, nR, hev =>
      have h1 := hev 2147483646
      rw [hD, hX] at h1
      have h2 : nm (ev Q 2147483646 * (1 + 2147483646)) = nm 0 := by
        rw [nm_mul_congr (c := ev Q 2147483646) (d := 0) rfl (by decide), Int.mul_zero]
      rw [nm_add_congr (c := 0) (d := r) h2 (by rw [ev, ev, Int.mul_zero, Int.add_zero]), Int.zero_add] at h1
      have h3 := nR.bd r (List.mem_cons_self ..)
      rw [nm_small h3.1 h3.2] at h1
      exact absurd h1 (nR.top (by simp))
  subst hR0
  refine ⟨rfl, ?_⟩
  have hs := same_poly (p := Q) (q := [2147483646, 1]) pts40_pair (fun c hc => by
    have h1 := hev c
    rw [hD, hX, ev, Int.add_zero] at h1
    obtain ⟨i, hi, rfl⟩ := List.mem_map.1 hc
    have hi := List.mem_range.1 hi
    have h2 : nm (1 + (i : Int)) ≠ 0 := by unfold nm; omega
    refine nm_cancel (a := 1 + (i : Int)) ?_ h2
    rw [Int.mul_comm, h1]
    have h3 : ev [2147483646, 1] (i : Int) = 2147483646 + i := by simp [ev]
    rw [h3, Int.add_mul, Int.one_mul, Int.mul_add]
    unfold nm
    omega) (by simp [pts40]; omega) (by simp [pts40])
  rw [nrm_id nQ] at hs
  rw [hs]
  decide
/-- The rest by (x - c) is the value at c. -/
theorem rest_val {Q R X : List Int} {c : Int} (nR : Nml R) (hR : R.length < 2) (h : ∀ t, nm (pc Q [nm (-c), 1] t Q.length + R.getD t 0) = nm (X.getD t 0)) : R.getD 0 0 = nm (ev X c) := by
  have h1 := div_ev h c
  have h2 : nm (ev [nm (-c), 1] c) = nm 0 := by
    have e : ev [nm (-c), 1] c = nm (-c) + c := by simp [ev]
    rw [e, nm_addl]
    congr 1; omega
  rw [nm_add_congr (c := 0) (d := ev R c) (by rw [nm_mul_congr (c := ev Q c) (d := 0) rfl h2, Int.mul_zero]) rfl, Int.zero_add] at h1
  rw [← h1]
  match R, hR, nR with
  | [], _, _ => rfl
  | [r], _, nR =>
    have h3 := nR.bd r (List.mem_cons_self ..)
    have e : ev [r] c = r := by simp [ev]
    rw [e, nm_small h3.1 h3.2]
    rfl
end Go.Proofs.Ytihiolnagcelkad
