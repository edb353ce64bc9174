/- Plain numbers: 2^31 - 1 is a prime, and FERMAT's law by it. · Lists of numbers as polynomials: noughts at the end, values, products number by number. Plain: nothing of the program. -/
namespace Crm
set_option linter.unusedVariables false
set_option maxRecDepth 100000
set_option maxHeartbeats 8000000
def P : Nat := 2147483647

/- no number of 2^k from lo on divides P -/
def ch : Nat → Nat → Nat
  | _, 0 => 1
  | 0, _ + 1 => 0
  | n + 1, k + 1 => ch n k + ch n (k + 1)

def bs (n a : Nat) : Nat → Nat
  | 0 => 0
  | m + 1 => bs n a m + ch n m * a ^ m

/-! ### Numbers by P, as integers -/
def nm (a : Int) : Int := a % 2147483647

theorem nm_bd (a : Int) : 0 ≤ nm a ∧ nm a ≤ 2147483646 := by unfold nm; omega
theorem nm_addl (a b : Int) : nm (nm a + b) = nm (a + b) := by unfold nm; omega
theorem nm_addr (a b : Int) : nm (a + nm b) = nm (a + b) := by unfold nm; omega
theorem nm_mull (a b : Int) : nm (nm a * b) = nm (a * b) := by unfold nm; rw [Int.mul_emod, Int.emod_emod_of_dvd _ (Int.dvd_refl _), ← Int.mul_emod]
theorem nm_mulr (a b : Int) : nm (a * nm b) = nm (a * b) := by rw [Int.mul_comm, nm_mull, Int.mul_comm]
theorem nm_add_congr {a b c d : Int} (h : nm a = nm c) (g : nm b = nm d) : nm (a + b) = nm (c + d) := by
  rw [← nm_addl a b, ← nm_addr (nm a) b, h, g, nm_addr, nm_addl]
def pw (a : Int) (n : Nat) : Int := nm (a ^ n)
theorem pw_zero (a : Int) : pw a 0 = 1 := by unfold pw; rw [Int.pow_zero]; rfl
theorem pw_succ (a : Int) (n : Nat) : pw a (n + 1) = nm (pw a n * a) := by
  unfold pw; rw [Int.pow_succ, nm_mull]
theorem half (y : Int) (k : Nat) : y / 2 ^ k = 2 * (y / 2 ^ (k + 1)) + (y / 2 ^ k) % 2 := by
  rw [Int.pow_succ, ← Int.ediv_ediv_of_nonneg (Int.le_of_lt (Int.pow_pos (by omega)))]; omega
theorem mul_bit1 (a y : Int) (k : Nat) (h : (y / 2 ^ k) % 2 = 1) (o : Int) (ho : o = nm (a * (y / 2 ^ (k + 1)))) :
    nm (nm (o + o) + a) = nm (a * (y / 2 ^ k)) := by
  rw [nm_addl, half y k, h, ho, Int.mul_add, Int.mul_one, ← Int.mul_assoc, Int.mul_comm a 2, Int.mul_assoc]
  refine nm_add_congr ?_ rfl
  rw [nm_addl, nm_addr]; congr 1; omega
theorem mul_bit0 (a y : Int) (k : Nat) (h : (y / 2 ^ k) % 2 = 0) (o : Int) (ho : o = nm (a * (y / 2 ^ (k + 1)))) :
    nm (o + o) = nm (a * (y / 2 ^ k)) := by
  rw [half y k, h, ho, Int.add_zero, ← Int.mul_assoc, Int.mul_comm a 2, Int.mul_assoc]
  rw [nm_addl, nm_addr]; congr 1; omega

/- powers bit by bit, from the highest -/
def nz (xs : List Int) : List Int := xs.map nm
/-- How many of the first n numbers stay when the noughts at the end go. -/
def tl (xs : List Int) : Nat → Nat
  | 0 => 0
  | n + 1 => if xs.getD n 0 = 0 then tl xs n else n + 1
def trm (xs : List Int) : List Int := xs.take (tl xs xs.length)
def nrm (xs : List Int) : List Int := trm (nz xs)
def ev : List Int → Int → Int
  | [], _ => 0
  | a :: l, x => a + x * ev l x
def tm (as bs : List Int) (k i : Nat) : Int := if i ≤ k then as.getD i 0 * bs.getD (k - i) 0 else 0
/-- The k-th number of the product, of the first n numbers of as. -/
def pc (as bs : List Int) (k : Nat) : Nat → Int
  | 0 => 0
  | n + 1 => pc as bs k n + tm as bs k n
def cvl (as bs : List Int) : List Int := (List.range (as.length + bs.length - 1)).map fun k => nm (pc as bs k as.length)
/-- L, with t times the first k numbers of B added from place o on. -/
def addAt (L : List Int) (o : Nat) (B : List Int) (t : Int) : Nat → List Int
  | 0 => L
  | k + 1 => (addAt L o B t k).set (o + k) (nm (L.getD (o + k) 0 + t * B.getD k 0))

theorem tl_zero (xs : List Int) {n : Nat} (h : xs.getD n 0 = 0) : tl xs (n + 1) = tl xs n := by rw [tl, if_pos h]
theorem tl_last (xs : List Int) {n : Nat} (h : ¬ xs.getD n 0 = 0) : tl xs (n + 1) = n + 1 := by rw [tl, if_neg h]
theorem tl_le (xs : List Int) : ∀ n, tl xs n ≤ n
  | 0 => Nat.le_refl _
  | n + 1 => by rw [tl]; split; have := tl_le xs n; omega; omega
theorem nz_getD (xs : List Int) (i : Nat) : (nz xs).getD i 0 = nm (xs.getD i 0) := by
  unfold nz
  by_cases h : i < xs.length
  · simp [List.getElem?_eq_getElem h]
  · simp [List.getElem?_eq_none (show xs.length ≤ i by omega)]; rfl
theorem nz_len (xs : List Int) : (nz xs).length = xs.length := by simp [nz]
theorem nz_bd (xs : List Int) : ∀ x ∈ nz xs, 0 ≤ x ∧ x ≤ 18446744073709551615 := by
  intro x hx
  obtain ⟨y, _, rfl⟩ := List.mem_map.1 hx
  have := nm_bd y
  omega
theorem trm_len (xs : List Int) : (trm xs).length = tl xs xs.length := by
  have := tl_le xs xs.length
  unfold trm
  simp; omega
theorem nrm_len (xs : List Int) : (nrm xs).length = tl (nz xs) xs.length := by unfold nrm; rw [trm_len, nz_len]
theorem trm_mem {xs : List Int} {x : Int} (h : x ∈ trm xs) : x ∈ xs := List.mem_of_mem_take h
theorem nrm_bd (xs : List Int) : ∀ x ∈ nrm xs, 0 ≤ x ∧ x ≤ 18446744073709551615 := fun x h => nz_bd xs x (trm_mem h)
theorem getD_set (L : List Int) (i j : Nat) (v : Int) : (L.set i v).getD j 0 = if i = j ∧ j < L.length then v else L.getD j 0 := by
  simp only [List.getD_eq_getElem?_getD, List.getElem?_set]
  by_cases h : i = j
  · subst h
    by_cases hl : i < L.length
    · simp [hl]
    · simp [hl]
  · simp [h]
theorem addAt_len (L : List Int) (o : Nat) (B : List Int) (t : Int) : ∀ k, (addAt L o B t k).length = L.length
  | 0 => rfl
  | k + 1 => by rw [addAt, List.length_set, addAt_len L o B t k]
theorem addAt_getD (L : List Int) (o : Nat) (B : List Int) (t : Int) : ∀ (k i : Nat),
    (addAt L o B t k).getD i 0 = if o ≤ i ∧ i < o + k ∧ i < L.length then nm (L.getD i 0 + t * B.getD (i - o) 0) else L.getD i 0
  | 0, i => by rw [addAt, if_neg (by omega)]
  | k + 1, i => by
    rw [addAt, getD_set, addAt_len, addAt_getD L o B t k i]
    by_cases h : o + k = i ∧ i < L.length
    · rw [if_pos h, if_pos (by omega)]
      obtain ⟨rfl, _⟩ := h
      rw [Nat.add_sub_cancel_left]
    · rw [if_neg h]
      by_cases h2 : o ≤ i ∧ i < o + k ∧ i < L.length
      · rw [if_pos h2, if_pos (by omega)]
      · rw [if_neg h2, if_neg (by omega)]
theorem bd_set {L : List Int} (h : ∀ x ∈ L, 0 ≤ x ∧ x ≤ 18446744073709551615) (i : Nat) {v : Int} (hv : 0 ≤ v ∧ v ≤ 18446744073709551615) : ∀ x ∈ L.set i v, 0 ≤ x ∧ x ≤ 18446744073709551615 := by
  intro x hx
  rcases List.mem_or_eq_of_mem_set hx with h1 | h1
  · exact h x h1
  · rw [h1]; exact hv
theorem addAt_bd {L : List Int} (h : ∀ x ∈ L, 0 ≤ x ∧ x ≤ 18446744073709551615) (o : Nat) (B : List Int) (t : Int) : ∀ k, ∀ x ∈ addAt L o B t k, 0 ≤ x ∧ x ≤ 18446744073709551615
  | 0 => h
  | k + 1 => by
    rw [addAt]
    exact bd_set (addAt_bd h o B t k) _ (by have := nm_bd (L.getD (o + k) 0 + t * B.getD k 0); omega)
theorem ev_snoc : ∀ (l : List Int) (a x : Int), ev (l ++ [a]) x = ev l x + a * x ^ l.length
  | [], a, x => by simp [ev]
  | b :: l, a, x => by
    rw [List.cons_append, ev, ev, ev_snoc l a x, List.length_cons, Int.pow_succ, Int.mul_add]
    have : x * (a * x ^ l.length) = a * (x ^ l.length * x) := by rw [Int.mul_comm x, Int.mul_assoc]
    omega
theorem ev_take (xs : List Int) (x : Int) {k : Nat} (h : k < xs.length) : ev (xs.take (k + 1)) x = ev (xs.take k) x + xs.getD k 0 * x ^ k := by
  rw [List.take_succ_eq_append_getElem h, ev_snoc, List.length_take, Nat.min_eq_left (by omega)]
  simp [List.getElem?_eq_getElem h]
theorem ev_drop (xs : List Int) (x : Int) {k : Nat} (h : k < xs.length) : ev (xs.drop k) x = xs.getD k 0 + x * ev (xs.drop (k + 1)) x := by
  rw [List.drop_eq_getElem_cons h, ev]
  simp [List.getElem?_eq_getElem h]
end Crm
