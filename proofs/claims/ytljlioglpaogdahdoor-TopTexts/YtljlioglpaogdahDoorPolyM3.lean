/- Values of polynomials: of sums, of products; as many places as numbers: one polynomial. Plain. -/
import Derived.Test.YtljlioglpaogdahDoorPolyM2
namespace Crm

theorem cons_getD0 (a : Int) (l : List Int) : (a :: l).getD 0 0 = a := rfl
theorem cons_getDs (a : Int) (l : List Int) (t : Nat) : (a :: l).getD (t + 1) 0 = l.getD t 0 := rfl
theorem ev_zero : ∀ (q : List Int) (x : Int), (∀ t, nm (q.getD t 0) = 0) → nm (ev q x) = 0
  | [], _, _ => rfl
  | b :: q, x, h => by
    have h0 := h 0
    rw [cons_getD0] at h0
    have h1 := ev_zero q x (fun t => h (t + 1))
    rw [ev, nm_add_congr (c := 0) (d := x * 0) h0 (nm_mul_congr rfl h1), Int.mul_zero]
    rfl
theorem ev_congr : ∀ (p q : List Int) (x : Int), (∀ t, nm (p.getD t 0) = nm (q.getD t 0)) → nm (ev p x) = nm (ev q x)
  | [], q, x, h => by rw [ev_zero q x (fun t => (h t).symm)]; rfl
  | a :: p, [], x, h => by rw [ev_zero (a :: p) x h]; rfl
  | a :: p, b :: q, x, h => by
    rw [ev, ev]
    exact nm_add_congr (h 0) (nm_mul_congr rfl (ev_congr p q x (fun t => h (t + 1))))
/-- Number by number: p, and c times q. -/
def adl (c : Int) : List Int → List Int → List Int
  | [], q => q.map (c * ·)
  | p, [] => p
  | a :: p, b :: q => (a + c * b) :: adl c p q
theorem adl_nil (c : Int) (p : List Int) : adl c p [] = p := by cases p <;> rfl
theorem map_ev (c : Int) (x : Int) : ∀ q : List Int, ev (q.map (c * ·)) x = c * ev q x
  | [] => by simp [ev]
  | b :: q => by
    rw [List.map_cons, ev, ev, map_ev c x q, Int.mul_add, ← Int.mul_assoc, ← Int.mul_assoc, Int.mul_comm c x]
theorem map_getD (c : Int) (q : List Int) (t : Nat) : (q.map (c * ·)).getD t 0 = c * q.getD t 0 := by
  by_cases h : t < q.length
  · simp [List.getElem?_eq_getElem h]
  · rw [getD_big (by simp; omega), getD_big (by omega), Int.mul_zero]
theorem adl_ev (c : Int) (x : Int) : ∀ p q : List Int, ev (adl c p q) x = ev p x + c * ev q x
  | [], q => by rw [adl, map_ev, ev, Int.zero_add]
  | a :: p, [] => by rw [adl_nil, ev, ev, Int.mul_zero, Int.add_zero]
  | a :: p, b :: q => by
    rw [adl, ev, ev, ev, adl_ev c x p q, Int.mul_add, Int.mul_add]
    have : x * (c * ev q x) = c * (x * ev q x) := by rw [← Int.mul_assoc, ← Int.mul_assoc, Int.mul_comm x c]
    omega
theorem adl_getD (c : Int) : ∀ (p q : List Int) (t : Nat), (adl c p q).getD t 0 = p.getD t 0 + c * q.getD t 0
  | [], q, t => by rw [adl, map_getD, getD_big (xs := []) (by simp), Int.zero_add]
  | a :: p, [], t => by rw [adl_nil, getD_big (xs := []) (by simp), Int.mul_zero, Int.add_zero]
  | a :: p, b :: q, 0 => rfl
  | a :: p, b :: q, t + 1 => by rw [adl, cons_getDs, cons_getDs, cons_getDs, adl_getD c p q t]
theorem adl_len (c : Int) : ∀ p q : List Int, (adl c p q).length = max p.length q.length
  | [], q => by simp [adl]
  | a :: p, [] => by simp [adl_nil]
  | a :: p, b :: q => by rw [adl, List.length_cons, adl_len c p q, List.length_cons, List.length_cons]; omega

theorem nrm_ev (p : List Int) (x : Int) : nm (ev (nrm p) x) = nm (ev p x) := ev_congr _ _ _ fun t => by rw [nrm_getD, nm_nm]
theorem sml_ev (p q : List Int) (x : Int) : nm (ev (sml p q) x) = nm (ev p x + ev q x) := by
  have := ev_congr (sml p q) (adl 1 p q) x fun t => by rw [sml_getD, adl_getD, nm_nm, Int.one_mul]
  rw [this, adl_ev, Int.one_mul]
theorem addAt_ev (S Z : List Int) (t : Int) (x : Int) (h : Z.length ≤ S.length) : nm (ev (addAt S 0 Z t Z.length) x) = nm (ev S x + t * ev Z x) := by
  have := ev_congr (addAt S 0 Z t Z.length) (adl t S Z) x fun i => by
    rw [addAt_getD, adl_getD]
    by_cases hi : 0 ≤ i ∧ i < 0 + Z.length ∧ i < S.length
    · rw [if_pos hi, nm_nm, Nat.sub_zero]
    · rw [if_neg hi, getD_big (show Z.length ≤ i by omega), Int.mul_zero, Int.add_zero]
  rw [this, adl_ev]
theorem pc_cons (a : Int) (ps qs : List Int) (t : Nat) : ∀ n, pc (a :: ps) qs (t + 1) (n + 1) = a * qs.getD (t + 1) 0 + pc ps qs t n
  | 0 => by
    show (0 : Int) + tm (a :: ps) qs (t + 1) 0 = a * qs.getD (t + 1) 0 + 0
    rw [tm, if_pos (Nat.zero_le _), cons_getD0, Nat.sub_zero]
    omega
  | n + 1 => by
    show pc (a :: ps) qs (t + 1) (n + 1) + tm (a :: ps) qs (t + 1) (n + 1) = a * qs.getD (t + 1) 0 + (pc ps qs t n + tm ps qs t n)
    rw [pc_cons a ps qs t n]
    have : tm (a :: ps) qs (t + 1) (n + 1) = tm ps qs t n := by
      rw [tm, tm, cons_getDs]
      by_cases h : n ≤ t
      · rw [if_pos h, if_pos (by omega), show t + 1 - (n + 1) = t - n by omega]
      · rw [if_neg h, if_neg (by omega)]
    rw [this, Int.add_assoc]
theorem pc_cons0 (a : Int) (ps qs : List Int) : ∀ n, pc (a :: ps) qs 0 (n + 1) = a * qs.getD 0 0
  | 0 => by
    show (0 : Int) + tm (a :: ps) qs 0 0 = _
    rw [tm, if_pos (Nat.le_refl _), cons_getD0, Int.zero_add]
  | n + 1 => by
    show pc (a :: ps) qs 0 (n + 1) + tm (a :: ps) qs 0 (n + 1) = _
    rw [pc_cons0 a ps qs n, tm, if_neg (by omega), Int.add_zero]
theorem cvl_ev (x : Int) : ∀ ps qs : List Int, nm (ev (cvl ps qs) x) = nm (ev ps x * ev qs x)
  | [], qs => by
    rw [ev_zero (cvl [] qs) x fun t => by rw [cvl_getD]; rfl, ev, Int.zero_mul]
    rfl
  | a :: ps, qs => by
    have h := ev_congr (cvl (a :: ps) qs) (adl a (0 :: cvl ps qs) qs) x fun t => by
      rw [cvl_getD, adl_getD, List.length_cons]
      cases t with
      | zero => rw [pc_cons0, cons_getD0, nm_nm, Int.zero_add]
      | succ t => rw [pc_cons, cons_getDs, cvl_getD, nm_nm, nm_addl, Int.add_comm]
    have h2 := cvl_ev x ps qs
    rw [h, adl_ev, ev, Int.zero_add, ev, Int.add_mul, Int.mul_assoc x, Int.add_comm]
    exact nm_add_congr rfl (nm_mul_congr rfl h2)

/-- What is left when (x - c) is taken out of a :: t. -/
def sy (c : Int) : List Int → List Int
  | [] => []
  | b :: t => ev (b :: t) c :: sy c t
theorem sy_len (c : Int) : ∀ t : List Int, (sy c t).length = t.length
  | [] => rfl
  | b :: t => by rw [sy, List.length_cons, sy_len c t, List.length_cons]
theorem sy_ev (c x : Int) : ∀ (t : List Int) (a : Int), ev (a :: t) x - ev (a :: t) c = (x - c) * ev (sy c t) x
  | [], a => by simp [ev, sy]
  | b :: t, a => by
    have h := sy_ev c x t b
    show (a + x * ev (b :: t) x) - (a + c * ev (b :: t) c) = (x - c) * (ev (b :: t) c + x * ev (sy c t) x)
    generalize ev (b :: t) x = E at *
    generalize ev (b :: t) c = F at *
    generalize ev (sy c t) x = G at *
    have e : E = F + (x - c) * G := by omega
    rw [e, Int.mul_add, Int.mul_add, Int.sub_mul, Int.sub_mul, Int.sub_mul, Int.mul_sub]
    have h1 : x * (c * G) = c * (x * G) := by rw [← Int.mul_assoc, ← Int.mul_assoc, Int.mul_comm x c]
    omega
theorem sy_zero (c : Int) : ∀ (t : List Int) (a : Int), (∀ x ∈ sy c t, nm x = 0) → nm (ev (a :: t) c) = 0 → ∀ x ∈ a :: t, nm x = 0
  | [], a, _, h, x, hx => by
    rw [List.mem_singleton] at hx
    subst hx
    simpa [ev] using h
  | b :: t, a, hs, h, x, hx => by
    rw [sy] at hs
    have h1 : nm (ev (b :: t) c) = 0 := hs _ (List.mem_cons_self ..)
    have h2 := sy_zero c t b (fun x hx => hs x (List.mem_cons_of_mem _ hx)) h1
    rcases List.mem_cons.1 hx with rfl | hx
    · rw [ev, nm_add_congr (c := x) (d := c * 0) rfl (nm_mul_congr rfl h1), Int.mul_zero, Int.add_zero] at h
      exact h
    · exact h2 x hx
/-- A polynomial of no more numbers than it has places at which it is 0: all its numbers are 0. -/
theorem roots : ∀ (pts l : List Int), pts.Pairwise (fun a b => nm (a - b) ≠ 0) → (∀ c ∈ pts, nm (ev l c) = 0) → l.length ≤ pts.length → ∀ x ∈ l, nm x = 0
  | [], l, _, _, hl, x, hx => by
    rw [List.eq_nil_of_length_eq_zero (Nat.le_zero.1 hl)] at hx
    cases hx
  | c :: pts, [], _, _, _, x, hx => by cases hx
  | c :: pts, a :: t, hp, hr, hl, x, hx => by
    rw [List.pairwise_cons] at hp
    have hc := hr c (List.mem_cons_self ..)
    have hq := roots pts (sy c t) hp.2 (fun d hd => by
      have h1 := sy_ev c d t a
      have h2 := hr d (List.mem_cons_of_mem _ hd)
      have h3 : nm ((d - c) * ev (sy c t) d) = 0 := by
        rw [← h1, nm_sub_congr (c := 0) (d := 0) h2 hc]; rfl
      refine nm_mul_zero h3 fun e => hp.1 d hd ?_
      unfold nm at *; omega) (by rw [sy_len]; simp at hl; exact hl)
    exact sy_zero c t a hq hc x hx
/-- Two polynomials of at most n numbers that tell the same at n places are the same. -/
theorem same_poly {p q pts : List Int} (hp : pts.Pairwise (fun a b => nm (a - b) ≠ 0)) (h : ∀ c ∈ pts, nm (ev p c) = nm (ev q c)) (h1 : p.length ≤ pts.length) (h2 : q.length ≤ pts.length) : nrm p = nrm q := by
  have hd := roots pts (adl (-1) p q) hp (fun c hc => by
    rw [adl_ev, Int.neg_one_mul]
    have := h c hc
    unfold nm at *; omega) (by rw [adl_len]; omega)
  refine nrm_ext fun t => ?_
  have h3 : nm ((adl (-1) p q).getD t 0) = 0 := by
    by_cases ht : t < (adl (-1) p q).length
    · exact hd _ (getD_mem ht)
    · rw [getD_big (by omega)]; rfl
  rw [adl_getD, Int.neg_one_mul] at h3
  unfold nm at *; omega
end Crm
