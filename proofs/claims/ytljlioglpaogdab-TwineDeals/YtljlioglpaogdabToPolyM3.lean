/- Plain numbers: 2^31 - 1 is a prime, and FERMAT's law by it. · Lists of numbers as polynomials: noughts at the end, values, products number by number. Plain: nothing of the program. · Normal polynomials: one list a polynomial; products and sums number by number; division step by step. Plain. · Values of polynomials: of sums, of products; as many places as numbers: one polynomial. Plain. -/
namespace Crm
set_option linter.unusedVariables false
set_option maxRecDepth 100000
set_option maxHeartbeats 8000000
def P : Nat := 2147483647

/- no number of 2^k from lo on divides P -/
def ck : Nat → Nat → Bool
  | 0, lo => !(2147483647 % lo == 0)
  | k + 1, lo => ck k lo && ck k (lo + 2 ^ k)

theorem ck_all : ∀ (k lo d : Nat), ck k lo = true → lo ≤ d → d < lo + 2 ^ k → ¬ 2147483647 % d = 0 := by
  intro k
  induction k with
  | zero =>
    intro lo d h h1 h2
    have e : d = lo := by simp at h2; omega
    subst e
    simpa [ck] using h
  | succ k ih =>
    intro lo d h h1 h2
    simp only [ck, Bool.and_eq_true] at h
    by_cases hd : d < lo + 2 ^ k
    · exact ih lo d h.1 h1 hd
    · refine ih (lo + 2 ^ k) d h.2 (by omega) ?_
      have : 2 ^ (k + 1) = 2 ^ k + 2 ^ k := by omega
      omega

theorem ck16 : ck 16 2 = true := by decide +kernel

theorem prime_dvd {d : Nat} (h : d ∣ P) : d = 1 ∨ d = P := by
  obtain ⟨e, he⟩ := h
  have hP : d * e = 2147483647 := he.symm
  by_cases h1 : d = 1
  · exact Or.inl h1
  by_cases h2 : e = 1
  · subst h2; right; simp at hP; exact hP
  exfalso
  have hd0 : d ≠ 0 := by intro h; subst h; simp at hP
  have he0 : e ≠ 0 := by intro h; subst h; simp at hP
  have key : ∀ x y : Nat, x * y = 2147483647 → 2 ≤ x → x < 65538 → False := by
    intro x y hxy hx hx2
    refine ck_all 16 2 x ck16 hx (by omega) ?_
    rw [← hxy]; exact Nat.mul_mod_right x y
  by_cases hd : d < 65538
  · exact key d e hP (by omega) hd
  · by_cases hee : e < 65538
    · exact key e d (by rw [Nat.mul_comm]; exact hP) (by omega) hee
    · have : 65538 * 65538 ≤ d * e := Nat.mul_le_mul (by omega) (by omega)
      omega

theorem cop {a : Nat} (h : ¬ a % P = 0) : Nat.Coprime a P := by
  have hd := Nat.gcd_dvd_right a P
  rcases prime_dvd hd with h1 | h1
  · exact h1
  · exfalso; apply h
    have := Nat.gcd_dvd_left a P
    rw [h1] at this
    exact Nat.mod_eq_zero_of_dvd this

theorem dvd_mul {a b : Nat} (h : P ∣ a * b) (ha : ¬ a % P = 0) : P ∣ b :=
  Nat.Coprime.dvd_of_dvd_mul_left (Nat.Coprime.symm (cop ha)) h

/- binomials -/
def ch : Nat → Nat → Nat
  | _, 0 => 1
  | 0, _ + 1 => 0
  | n + 1, k + 1 => ch n k + ch n (k + 1)

theorem ch_zero (n : Nat) : ch n 0 = 1 := by cases n <;> rfl
theorem ch_succ (n k : Nat) : ch (n + 1) (k + 1) = ch n k + ch n (k + 1) := rfl
theorem ch_big : ∀ (n k : Nat), n < k → ch n k = 0 := by
  intro n
  induction n with
  | zero => intro k h; cases k with
    | zero => omega
    | succ k => rfl
  | succ n ih => intro k h; cases k with
    | zero => omega
    | succ k => rw [ch_succ, ih k (by omega), ih (k + 1) (by omega)]
theorem ch_self (n : Nat) : ch n n = 1 := by
  induction n with
  | zero => rfl
  | succ n ih => rw [ch_succ, ih, ch_big n (n + 1) (by omega)]
theorem ch_up : ∀ (n k : Nat), (k + 1) * ch (n + 1) (k + 1) = (n + 1) * ch n k := by
  intro n
  induction n with
  | zero => intro k; cases k with
    | zero => rfl
    | succ k => rw [ch_succ, ch_big 0 (k + 1) (by omega), ch_big 0 (k + 2) (by omega)]; simp
  | succ n ih =>
    intro k
    cases k with
    | zero =>
      have := ih 0
      rw [ch_succ, ch_zero]
      rw [ch_zero] at this
      simp at this ⊢
      rw [this]; omega
    | succ k =>
      have h1 := ih k
      have h2 := ih (k + 1)
      rw [ch_succ (n + 1) (k + 1), Nat.mul_add, h2, Nat.add_mul (k + 1) 1, h1, ch_succ n k]
      rw [Nat.add_mul (n + 1) 1, Nat.mul_add (n + 1)]
      omega

def bs (n a : Nat) : Nat → Nat
  | 0 => 0
  | m + 1 => bs n a m + ch n m * a ^ m

theorem bs_succ (n a m : Nat) : bs (n + 1) a (m + 1) = bs n a (m + 1) + a * bs n a m := by
  induction m with
  | zero => simp [bs, ch_zero]
  | succ m ih =>
    rw [bs, ih]
    conv => rhs; rw [bs]
    rw [show bs n a (m + 1) = bs n a m + ch n m * a ^ m from rfl, ch_succ, Nat.add_mul, Nat.mul_add]
    have : a * (ch n m * a ^ m) = ch n m * a ^ (m + 1) := by
      rw [Nat.pow_succ]; simp [Nat.mul_comm, Nat.mul_left_comm]
    omega

theorem binom (n a : Nat) : (a + 1) ^ n = bs n a (n + 1) := by
  induction n with
  | zero => simp [bs, ch_zero]
  | succ n ih =>
    rw [bs_succ, Nat.pow_succ, ih, Nat.mul_add, Nat.mul_one]
    rw [show bs n a (n + 1 + 1) = bs n a (n + 1) + ch n (n + 1) * a ^ (n + 1) from rfl, ch_big n (n + 1) (by omega)]
    rw [Nat.mul_comm a]; omega

theorem ch_P {k : Nat} (h0 : 0 < k) (h1 : k < P) : P ∣ ch P k := by
  obtain ⟨j, rfl⟩ : ∃ j, k = j + 1 := ⟨k - 1, by omega⟩
  have hu : (j + 1) * ch P (j + 1) = P * ch (P - 1) j := by
    have := ch_up (P - 1) j
    have e : P - 1 + 1 = P := rfl
    rw [e] at this; exact this
  refine dvd_mul (a := j + 1) ⟨_, hu⟩ ?_
  rw [Nat.mod_eq_of_lt h1]; omega

theorem bs_P (a : Nat) : ∀ m, m + 1 ≤ P → bs P a (m + 1) % P = 1 := by
  intro m
  induction m with
  | zero => intro _; simp [bs, ch_zero]; rfl
  | succ m ih =>
    intro h
    rw [bs, Nat.add_mod, ih (by omega)]
    obtain ⟨c, hc⟩ := ch_P (k := m + 1) (by omega) (by omega)
    rw [hc, Nat.mul_assoc, Nat.mul_mod_right]; rfl

theorem fermat (a : Nat) : a ^ P % P = a % P := by
  induction a with
  | zero =>
    have : (0 : Nat) ^ P = 0 := Nat.zero_pow (by unfold P; omega)
    rw [this]
  | succ a ih =>
    rw [binom, bs, ch_self, Nat.one_mul, Nat.add_mod]
    have : bs P a P % P = 1 := bs_P a (P - 1) (Nat.le_refl _)
    rw [this, ih, Nat.add_comm 1, Nat.add_mod a 1]
    rfl

theorem fermat1 {a : Nat} (h : ¬ a % P = 0) : a ^ (P - 1) % P = 1 := by
  have hf := fermat a
  have e : a ^ P = a * a ^ (P - 1) := by
    have : P = (P - 1) + 1 := rfl
    conv => lhs; rw [this]
    rw [Nat.pow_succ, Nat.mul_comm]
  have hpos : 0 < a ^ (P - 1) := Nat.pow_pos (Nat.pos_of_ne_zero (by intro h0; subst h0; exact h (Nat.zero_mod P)))
  rw [e] at hf
  have hd : P ∣ a * (a ^ (P - 1) - 1) := by
    rw [Nat.mul_sub, Nat.mul_one]
    have : a ≤ a * a ^ (P - 1) := Nat.le_mul_of_pos_right a hpos
    exact Nat.dvd_of_mod_eq_zero (Nat.sub_mod_eq_zero_of_mod_eq hf)
  have := dvd_mul hd h
  obtain ⟨c, hc⟩ := this
  have e2 : a ^ (P - 1) = 1 + P * c := by omega
  rw [e2, Nat.add_mul_mod_self_left]; rfl

/-! ### Numbers by P, as integers -/
def nm (a : Int) : Int := a % 2147483647

theorem nm_bd (a : Int) : 0 ≤ nm a ∧ nm a ≤ 2147483646 := by unfold nm; omega
theorem nm_nm (a : Int) : nm (nm a) = nm a := by unfold nm; omega
theorem nm_addl (a b : Int) : nm (nm a + b) = nm (a + b) := by unfold nm; omega
theorem nm_addr (a b : Int) : nm (a + nm b) = nm (a + b) := by unfold nm; omega
theorem nm_subl (a b : Int) : nm (nm a - b) = nm (a - b) := by unfold nm; omega
theorem nm_subr (a b : Int) : nm (a - nm b) = nm (a - b) := by unfold nm; omega
theorem nm_mull (a b : Int) : nm (nm a * b) = nm (a * b) := by unfold nm; rw [Int.mul_emod, Int.emod_emod_of_dvd _ (Int.dvd_refl _), ← Int.mul_emod]
theorem nm_mulr (a b : Int) : nm (a * nm b) = nm (a * b) := by rw [Int.mul_comm, nm_mull, Int.mul_comm]
theorem nm_mul_congr {a b c d : Int} (h : nm a = nm c) (g : nm b = nm d) : nm (a * b) = nm (c * d) := by
  rw [← nm_mull a b, ← nm_mulr (nm a) b, h, g, nm_mulr, nm_mull]
theorem nm_add_congr {a b c d : Int} (h : nm a = nm c) (g : nm b = nm d) : nm (a + b) = nm (c + d) := by
  rw [← nm_addl a b, ← nm_addr (nm a) b, h, g, nm_addr, nm_addl]
theorem nm_sub_congr {a b c d : Int} (h : nm a = nm c) (g : nm b = nm d) : nm (a - b) = nm (c - d) := by
  rw [← nm_subl a b, ← nm_subr (nm a) b, h, g, nm_subr, nm_subl]
theorem nm_pow (a : Int) (n : Nat) : nm (nm a ^ n) = nm (a ^ n) := by
  induction n with
  | zero => rw [Int.pow_zero, Int.pow_zero]
  | succ n ih => rw [Int.pow_succ, Int.pow_succ]; exact nm_mul_congr ih (nm_nm a)

/- a power, behind a name -/
def pw (a : Int) (n : Nat) : Int := nm (a ^ n)
theorem pw_bd (a : Int) (n : Nat) : 0 ≤ pw a n ∧ pw a n ≤ 2147483646 := nm_bd _
theorem pw_zero (a : Int) : pw a 0 = 1 := by unfold pw; rw [Int.pow_zero]; rfl
theorem pw_succ (a : Int) (n : Nat) : pw a (n + 1) = nm (pw a n * a) := by
  unfold pw; rw [Int.pow_succ, nm_mull]
theorem pw_add (a : Int) (m n : Nat) : pw a (m + n) = nm (pw a m * pw a n) := by
  unfold pw; rw [Int.pow_add, nm_mull, nm_mulr]
theorem pw_nm (a : Int) (n : Nat) : pw (nm a) n = pw a n := nm_pow a n
theorem nm_nat (a : Nat) : nm (a : Int) = ((a % P : Nat) : Int) := by unfold nm P; omega
theorem pw_nat (a n : Nat) : pw (a : Int) n = ((a ^ n % P : Nat) : Int) := by
  unfold pw; rw [← nm_nat, Int.natCast_pow]

theorem fermat_pw1 {a : Int} (h : nm a ≠ 0) : pw a 2147483646 = 1 := by
  obtain ⟨k, hk⟩ := Int.eq_ofNat_of_zero_le (nm_bd a).1
  have h2 : ¬ k % P = 0 := by
    intro h3
    apply h
    rw [← nm_nm, hk, nm_nat, h3]; rfl
  have h4 := fermat1 h2
  rw [show P - 1 = 2147483646 from rfl] at h4
  rw [← pw_nm, hk, pw_nat, h4]; rfl

/- the inverse -/
def iv (a : Int) : Int := pw a 2147483645
theorem iv_mul {a : Int} (h : nm a ≠ 0) : nm (iv a * a) = 1 := by
  have := pw_succ a 2147483645
  have e : 2147483645 + 1 = 2147483646 := rfl
  rw [e, fermat_pw1 h] at this
  exact this.symm
theorem nm_mul_zero {a b : Int} (h : nm (a * b) = 0) (ha : nm a ≠ 0) : nm b = 0 := by
  have h1 : nm (iv a * (a * b)) = 0 := by rw [← nm_mulr, h]; simp [nm]
  rw [← Int.mul_assoc, ← nm_mull, iv_mul ha, Int.one_mul] at h1
  exact h1
theorem half (y : Int) (k : Nat) : y / 2 ^ k = 2 * (y / 2 ^ (k + 1)) + (y / 2 ^ k) % 2 := by
  rw [Int.pow_succ, ← Int.ediv_ediv_of_nonneg (Int.le_of_lt (Int.pow_pos (by omega)))]; omega
theorem mul_bit1 (a y : Int) (k : Nat) (h : (y / 2 ^ k) % 2 = 1) (o : Int) (ho : o = nm (a * (y / 2 ^ (k + 1)))) :
    nm (nm (o + o) + a) = nm (a * (y / 2 ^ k)) := by
  rw [nm_addl, half y k, h, ho, Int.mul_add, Int.mul_one, ← Int.mul_assoc, Int.mul_comm a 2, Int.mul_assoc]
  refine nm_add_congr ?_ rfl
  rw [nm_addl, nm_addr]; congr 1; omega
theorem mul_bit0 (a y : Int) (k : Nat) (h : (y / 2 ^ k) % 2 = 0) (o : Int) (ho : o = nm (a * (y / 2 ^ (k + 1)))) :
    nm (o + o) = nm (a * (y / 2 ^ k)) := by
  rw [half y k, h, ho, Int.add_zero, ← Int.mul_assoc, Int.mul_comm a 2, Int.mul_assoc]
  rw [nm_addl, nm_addr]; congr 1; omega

/- powers bit by bit, from the highest -/
theorem halfN (n k : Nat) : n / 2 ^ k = 2 * (n / 2 ^ (k + 1)) + (n / 2 ^ k) % 2 := by
  rw [Nat.pow_succ, ← Nat.div_div_eq_div_mul]; omega
theorem pow_bit1 (a : Int) (n k : Nat) (h : (n / 2 ^ k) % 2 = 1) (o : Int) (ho : o = pw a (n / 2 ^ (k + 1))) :
    nm (nm (o * o) * a) = pw a (n / 2 ^ k) := by
  rw [halfN n k, h, pw_succ, Nat.two_mul, pw_add, ho]
theorem pow_bit0 (a : Int) (n k : Nat) (h : (n / 2 ^ k) % 2 = 0) (o : Int) (ho : o = pw a (n / 2 ^ (k + 1))) :
    nm (o * o) = pw a (n / 2 ^ k) := by
  rw [halfN n k, h, Nat.add_zero, Nat.two_mul, pw_add, ho]

/- .. and from the lowest: p s^n is what is asked for -/
def nz (xs : List Int) : List Int := xs.map nm
/-- How many of the first n numbers stay when the noughts at the end go. -/
def tl (xs : List Int) : Nat → Nat
  | 0 => 0
  | n + 1 => if xs.getD n 0 = 0 then tl xs n else n + 1
def trm (xs : List Int) : List Int := xs.take (tl xs xs.length)
def nrm (xs : List Int) : List Int := trm (nz xs)
def ev : List Int → Int → Int
  | [], _ => 0
  | a :: l, x => a + x * ev l x
theorem tl_le (xs : List Int) : ∀ n, tl xs n ≤ n
  | 0 => Nat.le_refl _
  | n + 1 => by rw [tl]; split; have := tl_le xs n; omega; omega
theorem nz_getD (xs : List Int) (i : Nat) : (nz xs).getD i 0 = nm (xs.getD i 0) := by
  unfold nz
  by_cases h : i < xs.length
  · simp [List.getElem?_eq_getElem h]
  · simp [List.getElem?_eq_none (show xs.length ≤ i by omega)]; rfl
theorem trm_len (xs : List Int) : (trm xs).length = tl xs xs.length := by
  have := tl_le xs xs.length
  unfold trm
  simp; omega
theorem getD_set (L : List Int) (i j : Nat) (v : Int) : (L.set i v).getD j 0 = if i = j ∧ j < L.length then v else L.getD j 0 := by
  simp only [List.getD_eq_getElem?_getD, List.getElem?_set]
  by_cases h : i = j
  · subst h
    by_cases hl : i < L.length
    · simp [hl]
    · simp [hl]
  · simp [h]
theorem bd_set {L : List Int} (h : ∀ x ∈ L, 0 ≤ x ∧ x ≤ 18446744073709551615) (i : Nat) {v : Int} (hv : 0 ≤ v ∧ v ≤ 18446744073709551615) : ∀ x ∈ L.set i v, 0 ≤ x ∧ x ≤ 18446744073709551615 := by
  intro x hx
  rcases List.mem_or_eq_of_mem_set hx with h1 | h1
  · exact h x h1
  · rw [h1]; exact hv
theorem ev_snoc : ∀ (l : List Int) (a x : Int), ev (l ++ [a]) x = ev l x + a * x ^ l.length
  | [], a, x => by simp [ev]
  | b :: l, a, x => by
    rw [List.cons_append, ev, ev, ev_snoc l a x, List.length_cons, Int.pow_succ, Int.mul_add]
    have : x * (a * x ^ l.length) = a * (x ^ l.length * x) := by rw [Int.mul_comm x, Int.mul_assoc]
    omega
theorem ev_take (xs : List Int) (x : Int) {k : Nat} (h : k < xs.length) : ev (xs.take (k + 1)) x = ev (xs.take k) x + xs.getD k 0 * x ^ k := by
  rw [List.take_succ_eq_append_getElem h, ev_snoc, List.length_take, Nat.min_eq_left (by omega)]
  simp [List.getElem?_eq_getElem h]
theorem ev_drop (xs : List Int) (x : Int) {k : Nat} (h : k < xs.length) : ev (xs.drop k) x = xs.getD k 0 + x * ev (xs.drop (k + 1)) x := by
  rw [List.drop_eq_getElem_cons h, ev]
  simp [List.getElem?_eq_getElem h]
theorem getD_big {xs : List Int} {t : Nat} (h : xs.length ≤ t) : xs.getD t 0 = 0 := by
  rw [List.getD_eq_getElem?_getD, List.getElem?_eq_none h]; rfl
theorem getD_some {xs : List Int} {t : Nat} (h : t < xs.length) : xs[t]? = some (xs.getD t 0) := by
  rw [List.getD_eq_getElem?_getD, List.getElem?_eq_getElem h]; rfl
theorem getD_mem {xs : List Int} {t : Nat} (h : t < xs.length) : xs.getD t 0 ∈ xs := by
  rw [List.getD_eq_getElem?_getD, List.getElem?_eq_getElem h]; exact List.getElem_mem h
theorem list_ext {xs ys : List Int} (hl : xs.length = ys.length) (h : ∀ t, t < xs.length → xs.getD t 0 = ys.getD t 0) : xs = ys := by
  apply List.ext_getElem?
  intro t
  by_cases ht : t < xs.length
  · rw [getD_some ht, getD_some (by omega), h t ht]
  · rw [List.getElem?_eq_none (by omega), List.getElem?_eq_none (by omega)]
theorem take_getD (xs : List Int) (n t : Nat) : (xs.take n).getD t 0 = if t < n then xs.getD t 0 else 0 := by
  by_cases h : t < n
  · rw [if_pos h]; simp [h]
  · rw [if_neg h]; exact getD_big (by simp; omega)
theorem tl_congr {xs ys : List Int} (h : ∀ t, xs.getD t 0 = ys.getD t 0) : ∀ n, tl xs n = tl ys n
  | 0 => rfl
  | n + 1 => by rw [tl, tl, h n, tl_congr h n]
theorem tl_more {xs : List Int} : ∀ d, tl xs (xs.length + d) = tl xs xs.length
  | 0 => rfl
  | d + 1 => by rw [← Nat.add_assoc, tl, if_pos (getD_big (by omega)), tl_more d]
theorem tl_ge {xs : List Int} {n : Nat} (h : xs.length ≤ n) : tl xs n = tl xs xs.length := by
  have := tl_more (xs := xs) (n - xs.length)
  rwa [show xs.length + (n - xs.length) = n by omega] at this
theorem tl_above (xs : List Int) : ∀ n t, tl xs n ≤ t → t < n → xs.getD t 0 = 0
  | 0, t => by omega
  | n + 1, t => by
    rw [tl]
    split
    · intro h1 h2
      by_cases ht : t = n
      · rw [ht]; assumption
      · exact tl_above xs n t h1 (by omega)
    · intro h1 h2; omega
theorem trm_getD (xs : List Int) (t : Nat) : (trm xs).getD t 0 = xs.getD t 0 := by
  unfold trm
  rw [take_getD]
  split
  · rfl
  · by_cases h : t < xs.length
    · rw [tl_above xs xs.length t (by omega) h]
    · rw [getD_big (by omega)]
theorem trm_ext {xs ys : List Int} (h : ∀ t, xs.getD t 0 = ys.getD t 0) : trm xs = trm ys := by
  have hl : (trm xs).length = (trm ys).length := by
    rw [trm_len, trm_len, ← tl_ge (show xs.length ≤ max xs.length ys.length by omega), ← tl_ge (show ys.length ≤ max xs.length ys.length by omega), tl_congr h]
  exact list_ext hl fun t _ => by rw [trm_getD, trm_getD, h]
theorem nrm_getD (xs : List Int) (t : Nat) : (nrm xs).getD t 0 = nm (xs.getD t 0) := by unfold nrm; rw [trm_getD, nz_getD]
theorem nrm_ext {xs ys : List Int} (h : ∀ t, nm (xs.getD t 0) = nm (ys.getD t 0)) : nrm xs = nrm ys := trm_ext fun t => by rw [nz_getD, nz_getD, h]

theorem bd_u64 {xs : List Int} (h : ∀ x ∈ xs, 0 ≤ x ∧ x ≤ 2147483646) : ∀ x ∈ xs, 0 ≤ x ∧ x ≤ 18446744073709551615 := fun x hx => by have := h x hx; omega
theorem cons_getD0 (a : Int) (l : List Int) : (a :: l).getD 0 0 = a := rfl
theorem cons_getDs (a : Int) (l : List Int) (t : Nat) : (a :: l).getD (t + 1) 0 = l.getD t 0 := rfl
theorem ev_zero : ∀ (q : List Int) (x : Int), (∀ t, nm (q.getD t 0) = 0) → nm (ev q x) = 0
  | [], _, _ => rfl
  | b :: q, x, h => by
    have h0 := h 0
    rw [cons_getD0] at h0
    have h1 := ev_zero q x (fun t => h (t + 1))
    rw [ev, nm_add_congr (c := 0) (d := x * 0) h0 (nm_mul_congr rfl h1), Int.mul_zero]
    rfl
theorem ev_congr : ∀ (p q : List Int) (x : Int), (∀ t, nm (p.getD t 0) = nm (q.getD t 0)) → nm (ev p x) = nm (ev q x)
  | [], q, x, h => by rw [ev_zero q x (fun t => (h t).symm)]; rfl
  | a :: p, [], x, h => by rw [ev_zero (a :: p) x h]; rfl
  | a :: p, b :: q, x, h => by
    rw [ev, ev]
    exact nm_add_congr (h 0) (nm_mul_congr rfl (ev_congr p q x (fun t => h (t + 1))))
/-- Number by number: p, and c times q. -/
def adl (c : Int) : List Int → List Int → List Int
  | [], q => q.map (c * ·)
  | p, [] => p
  | a :: p, b :: q => (a + c * b) :: adl c p q
theorem adl_nil (c : Int) (p : List Int) : adl c p [] = p := by cases p <;> rfl
theorem map_ev (c : Int) (x : Int) : ∀ q : List Int, ev (q.map (c * ·)) x = c * ev q x
  | [] => by simp [ev]
  | b :: q => by
    rw [List.map_cons, ev, ev, map_ev c x q, Int.mul_add, ← Int.mul_assoc, ← Int.mul_assoc, Int.mul_comm c x]
theorem map_getD (c : Int) (q : List Int) (t : Nat) : (q.map (c * ·)).getD t 0 = c * q.getD t 0 := by
  by_cases h : t < q.length
  · simp [List.getElem?_eq_getElem h]
  · rw [getD_big (by simp; omega), getD_big (by omega), Int.mul_zero]
theorem adl_ev (c : Int) (x : Int) : ∀ p q : List Int, ev (adl c p q) x = ev p x + c * ev q x
  | [], q => by rw [adl, map_ev, ev, Int.zero_add]
  | a :: p, [] => by rw [adl_nil, ev, ev, Int.mul_zero, Int.add_zero]
  | a :: p, b :: q => by
    rw [adl, ev, ev, ev, adl_ev c x p q, Int.mul_add, Int.mul_add]
    have : x * (c * ev q x) = c * (x * ev q x) := by rw [← Int.mul_assoc, ← Int.mul_assoc, Int.mul_comm x c]
    omega
theorem adl_getD (c : Int) : ∀ (p q : List Int) (t : Nat), (adl c p q).getD t 0 = p.getD t 0 + c * q.getD t 0
  | [], q, t => by rw [adl, map_getD, getD_big (xs := []) (by simp), Int.zero_add]
  | a :: p, [], t => by rw [adl_nil, getD_big (xs := []) (by simp), Int.mul_zero, Int.add_zero]
  | a :: p, b :: q, 0 => rfl
  | a :: p, b :: q, t + 1 => by rw [adl, cons_getDs, cons_getDs, cons_getDs, adl_getD c p q t]
theorem adl_len (c : Int) : ∀ p q : List Int, (adl c p q).length = max p.length q.length
  | [], q => by simp [adl]
  | a :: p, [] => by simp [adl_nil]
  | a :: p, b :: q => by rw [adl, List.length_cons, adl_len c p q, List.length_cons, List.length_cons]; omega

theorem nrm_ev (p : List Int) (x : Int) : nm (ev (nrm p) x) = nm (ev p x) := ev_congr _ _ _ fun t => by rw [nrm_getD, nm_nm]
/-- What is left when (x - c) is taken out of a :: t. -/
def sy (c : Int) : List Int → List Int
  | [] => []
  | b :: t => ev (b :: t) c :: sy c t
theorem sy_len (c : Int) : ∀ t : List Int, (sy c t).length = t.length
  | [] => rfl
  | b :: t => by rw [sy, List.length_cons, sy_len c t, List.length_cons]
theorem sy_ev (c x : Int) : ∀ (t : List Int) (a : Int), ev (a :: t) x - ev (a :: t) c = (x - c) * ev (sy c t) x
  | [], a => by simp [ev, sy]
  | b :: t, a => by
    have h := sy_ev c x t b
    show (a + x * ev (b :: t) x) - (a + c * ev (b :: t) c) = (x - c) * (ev (b :: t) c + x * ev (sy c t) x)
    generalize ev (b :: t) x = E at *
    generalize ev (b :: t) c = F at *
    generalize ev (sy c t) x = G at *
    have e : E = F + (x - c) * G := by omega
    rw [e, Int.mul_add, Int.mul_add, Int.sub_mul, Int.sub_mul, Int.sub_mul, Int.mul_sub]
    have h1 : x * (c * G) = c * (x * G) := by rw [← Int.mul_assoc, ← Int.mul_assoc, Int.mul_comm x c]
    omega
theorem sy_zero (c : Int) : ∀ (t : List Int) (a : Int), (∀ x ∈ sy c t, nm x = 0) → nm (ev (a :: t) c) = 0 → ∀ x ∈ a :: t, nm x = 0
  | [], a, _, h, x, hx => by
    rw [List.mem_singleton] at hx
    subst hx
    simpa [ev] using h
  | b :: t, a, hs, h, x, hx => by
    rw [sy] at hs
    have h1 : nm (ev (b :: t) c) = 0 := hs _ (List.mem_cons_self ..)
    have h2 := sy_zero c t b (fun x hx => hs x (List.mem_cons_of_mem _ hx)) h1
    rcases List.mem_cons.1 hx with rfl | hx
    · rw [ev, nm_add_congr (c := x) (d := c * 0) rfl (nm_mul_congr rfl h1), Int.mul_zero, Int.add_zero] at h
      exact h
    · exact h2 x hx
/-- A polynomial of no more numbers than it has places at which it is 0: all its numbers are 0. -/
theorem roots : ∀ (pts l : List Int), pts.Pairwise (fun a b => nm (a - b) ≠ 0) → (∀ c ∈ pts, nm (ev l c) = 0) → l.length ≤ pts.length → ∀ x ∈ l, nm x = 0
  | [], l, _, _, hl, x, hx => by
    rw [List.eq_nil_of_length_eq_zero (Nat.le_zero.1 hl)] at hx
    cases hx
  | c :: pts, [], _, _, _, x, hx => by cases hx
  | c :: pts, a :: t, hp, hr, hl, x, hx => by
    rw [List.pairwise_cons] at hp
    have hc := hr c (List.mem_cons_self ..)
    have hq := roots pts (sy c t) hp.2 (fun d hd => by
      have h1 := sy_ev c d t a
      have h2 := hr d (List.mem_cons_of_mem _ hd)
      have h3 : nm ((d - c) * ev (sy c t) d) = 0 := by
        rw [← h1, nm_sub_congr (c := 0) (d := 0) h2 hc]; rfl
      refine nm_mul_zero h3 fun e => hp.1 d hd ?_
      unfold nm at *; omega) (by rw [sy_len]; simp at hl; exact hl)
    exact sy_zero c t a hq hc x hx
/-- Two polynomials of at most n numbers that tell the same at n places are the same. -/
theorem same_poly {p q pts : List Int} (hp : pts.Pairwise (fun a b => nm (a - b) ≠ 0)) (h : ∀ c ∈ pts, nm (ev p c) = nm (ev q c)) (h1 : p.length ≤ pts.length) (h2 : q.length ≤ pts.length) : nrm p = nrm q := by
  have hd := roots pts (adl (-1) p q) hp (fun c hc => by
    rw [adl_ev, Int.neg_one_mul]
    have := h c hc
    unfold nm at *; omega) (by rw [adl_len]; omega)
  refine nrm_ext fun t => ?_
  have h3 : nm ((adl (-1) p q).getD t 0) = 0 := by
    by_cases ht : t < (adl (-1) p q).length
    · exact hd _ (getD_mem ht)
    · rw [getD_big (by omega)]; rfl
  rw [adl_getD, Int.neg_one_mul] at h3
  unfold nm at *; omega
end Crm
