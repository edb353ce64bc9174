/- Plain numbers: 2^31 - 1 is a prime, and FERMAT's law by it. -/
namespace Crm
set_option linter.unusedVariables false
set_option maxRecDepth 100000
set_option maxHeartbeats 8000000
def P : Nat := 2147483647

/- no number of 2^k from lo on divides P -/
def ck : Nat → Nat → Bool
  | 0, lo => !(2147483647 % lo == 0)
  | k + 1, lo => ck k lo && ck k (lo + 2 ^ k)

theorem ck_all : ∀ (k lo d : Nat), ck k lo = true → lo ≤ d → d < lo + 2 ^ k → ¬ 2147483647 % d = 0 := by
  intro k
  induction k with
  | zero =>
    intro lo d h h1 h2
    have e : d = lo := by simp at h2; omega
    subst e
    simpa [ck] using h
  | succ k ih =>
    intro lo d h h1 h2
    simp only [ck, Bool.and_eq_true] at h
    by_cases hd : d < lo + 2 ^ k
    · exact ih lo d h.1 h1 hd
    · refine ih (lo + 2 ^ k) d h.2 (by omega) ?_
      have : 2 ^ (k + 1) = 2 ^ k + 2 ^ k := by omega
      omega

theorem ck16 : ck 16 2 = true := by decide +kernel

theorem prime_dvd {d : Nat} (h : d ∣ P) : d = 1 ∨ d = P := by
  obtain ⟨e, he⟩ := h
  have hP : d * e = 2147483647 := he.symm
  by_cases h1 : d = 1
  · exact Or.inl h1
  by_cases h2 : e = 1
  · subst h2; right; simp at hP; exact hP
  exfalso
  have hd0 : d ≠ 0 := by intro h; subst h; simp at hP
  have he0 : e ≠ 0 := by intro h; subst h; simp at hP
  have key : ∀ x y : Nat, x * y = 2147483647 → 2 ≤ x → x < 65538 → False := by
    intro x y hxy hx hx2
    refine ck_all 16 2 x ck16 hx (by omega) ?_
    rw [← hxy]; exact Nat.mul_mod_right x y
  by_cases hd : d < 65538
  · exact key d e hP (by omega) hd
  · by_cases hee : e < 65538
    · exact key e d (by rw [Nat.mul_comm]; exact hP) (by omega) hee
    · have : 65538 * 65538 ≤ d * e := Nat.mul_le_mul (by omega) (by omega)
      omega

theorem cop {a : Nat} (h : ¬ a % P = 0) : Nat.Coprime a P := by
  have hd := Nat.gcd_dvd_right a P
  rcases prime_dvd hd with h1 | h1
  · exact h1
  · exfalso; apply h
    have := Nat.gcd_dvd_left a P
    rw [h1] at this
    exact Nat.mod_eq_zero_of_dvd this

theorem dvd_mul {a b : Nat} (h : P ∣ a * b) (ha : ¬ a % P = 0) : P ∣ b :=
  Nat.Coprime.dvd_of_dvd_mul_left (Nat.Coprime.symm (cop ha)) h

/- binomials -/
def ch : Nat → Nat → Nat
  | _, 0 => 1
  | 0, _ + 1 => 0
  | n + 1, k + 1 => ch n k + ch n (k + 1)

theorem ch_zero (n : Nat) : ch n 0 = 1 := by cases n <;> rfl
theorem ch_succ (n k : Nat) : ch (n + 1) (k + 1) = ch n k + ch n (k + 1) := rfl
theorem ch_big : ∀ (n k : Nat), n < k → ch n k = 0 := by
  intro n
  induction n with
  | zero => intro k h; cases k with
    | zero => omega
    | succ k => rfl
  | succ n ih => intro k h; cases k with
    | zero => omega
    | succ k => rw [ch_succ, ih k (by omega), ih (k + 1) (by omega)]
theorem ch_self (n : Nat) : ch n n = 1 := by
  induction n with
  | zero => rfl
  | succ n ih => rw [ch_succ, ih, ch_big n (n + 1) (by omega)]
theorem ch_up : ∀ (n k : Nat), (k + 1) * ch (n + 1) (k + 1) = (n + 1) * ch n k := by
  intro n
  induction n with
  | zero => intro k; cases k with
    | zero => rfl
    | succ k => rw [ch_succ, ch_big 0 (k + 1) (by omega), ch_big 0 (k + 2) (by omega)]; simp
  | succ n ih =>
    intro k
    cases k with
    | zero =>
      have := ih 0
      rw [ch_succ, ch_zero]
      rw [ch_zero] at this
      simp at this ⊢
      rw [this]; omega
    | succ k =>
      have h1 := ih k
      have h2 := ih (k + 1)
      rw [ch_succ (n + 1) (k + 1), Nat.mul_add, h2, Nat.add_mul (k + 1) 1, h1, ch_succ n k]
      rw [Nat.add_mul (n + 1) 1, Nat.mul_add (n + 1)]
      omega

def bs (n a : Nat) : Nat → Nat
  | 0 => 0
  | m + 1 => bs n a m + ch n m * a ^ m

theorem bs_succ (n a m : Nat) : bs (n + 1) a (m + 1) = bs n a (m + 1) + a * bs n a m := by
  induction m with
  | zero => simp [bs, ch_zero]
  | succ m ih =>
    rw [bs, ih]
    conv => rhs; rw [bs]
    rw [show bs n a (m + 1) = bs n a m + ch n m * a ^ m from rfl, ch_succ, Nat.add_mul, Nat.mul_add]
    have : a * (ch n m * a ^ m) = ch n m * a ^ (m + 1) := by
      rw [Nat.pow_succ]; simp [Nat.mul_comm, Nat.mul_left_comm]
    omega

theorem binom (n a : Nat) : (a + 1) ^ n = bs n a (n + 1) := by
  induction n with
  | zero => simp [bs, ch_zero]
  | succ n ih =>
    rw [bs_succ, Nat.pow_succ, ih, Nat.mul_add, Nat.mul_one]
    rw [show bs n a (n + 1 + 1) = bs n a (n + 1) + ch n (n + 1) * a ^ (n + 1) from rfl, ch_big n (n + 1) (by omega)]
    rw [Nat.mul_comm a]; omega

theorem ch_P {k : Nat} (h0 : 0 < k) (h1 : k < P) : P ∣ ch P k := by
  obtain ⟨j, rfl⟩ : ∃ j, k = j + 1 := ⟨k - 1, by omega⟩
  have hu : (j + 1) * ch P (j + 1) = P * ch (P - 1) j := by
    have := ch_up (P - 1) j
    have e : P - 1 + 1 = P := rfl
    rw [e] at this; exact this
  refine dvd_mul (a := j + 1) ⟨_, hu⟩ ?_
  rw [Nat.mod_eq_of_lt h1]; omega

theorem bs_P (a : Nat) : ∀ m, m + 1 ≤ P → bs P a (m + 1) % P = 1 := by
  intro m
  induction m with
  | zero => intro _; simp [bs, ch_zero]; rfl
  | succ m ih =>
    intro h
    rw [bs, Nat.add_mod, ih (by omega)]
    obtain ⟨c, hc⟩ := ch_P (k := m + 1) (by omega) (by omega)
    rw [hc, Nat.mul_assoc, Nat.mul_mod_right]; rfl

theorem fermat (a : Nat) : a ^ P % P = a % P := by
  induction a with
  | zero =>
    have : (0 : Nat) ^ P = 0 := Nat.zero_pow (by unfold P; omega)
    rw [this]
  | succ a ih =>
    rw [binom, bs, ch_self, Nat.one_mul, Nat.add_mod]
    have : bs P a P % P = 1 := bs_P a (P - 1) (Nat.le_refl _)
    rw [this, ih, Nat.add_comm 1, Nat.add_mod a 1]
    rfl

theorem fermat1 {a : Nat} (h : ¬ a % P = 0) : a ^ (P - 1) % P = 1 := by
  have hf := fermat a
  have e : a ^ P = a * a ^ (P - 1) := by
    have : P = (P - 1) + 1 := rfl
    conv => lhs; rw [this]
    rw [Nat.pow_succ, Nat.mul_comm]
  have hpos : 0 < a ^ (P - 1) := Nat.pow_pos (Nat.pos_of_ne_zero (by intro h0; subst h0; exact h (Nat.zero_mod P)))
  rw [e] at hf
  have hd : P ∣ a * (a ^ (P - 1) - 1) := by
    rw [Nat.mul_sub, Nat.mul_one]
    have : a ≤ a * a ^ (P - 1) := Nat.le_mul_of_pos_right a hpos
    exact Nat.dvd_of_mod_eq_zero (Nat.sub_mod_eq_zero_of_mod_eq hf)
  have := dvd_mul hd h
  obtain ⟨c, hc⟩ := this
  have e2 : a ^ (P - 1) = 1 + P * c := by omega
  rw [e2, Nat.add_mul_mod_self_left]; rfl

/-! ### Numbers by P, as integers -/
def nm (a : Int) : Int := a % 2147483647

theorem nm_bd (a : Int) : 0 ≤ nm a ∧ nm a ≤ 2147483646 := by unfold nm; omega
theorem nm_small {a : Int} (h0 : 0 ≤ a) (h1 : a ≤ 2147483646) : nm a = a := by unfold nm; omega
theorem nm_nm (a : Int) : nm (nm a) = nm a := by unfold nm; omega
theorem nm_addl (a b : Int) : nm (nm a + b) = nm (a + b) := by unfold nm; omega
theorem nm_addr (a b : Int) : nm (a + nm b) = nm (a + b) := by unfold nm; omega
theorem nm_mull (a b : Int) : nm (nm a * b) = nm (a * b) := by unfold nm; rw [Int.mul_emod, Int.emod_emod_of_dvd _ (Int.dvd_refl _), ← Int.mul_emod]
theorem nm_mulr (a b : Int) : nm (a * nm b) = nm (a * b) := by rw [Int.mul_comm, nm_mull, Int.mul_comm]
theorem nm_mul_congr {a b c d : Int} (h : nm a = nm c) (g : nm b = nm d) : nm (a * b) = nm (c * d) := by
  rw [← nm_mull a b, ← nm_mulr (nm a) b, h, g, nm_mulr, nm_mull]
theorem nm_pow (a : Int) (n : Nat) : nm (nm a ^ n) = nm (a ^ n) := by
  induction n with
  | zero => rw [Int.pow_zero, Int.pow_zero]
  | succ n ih => rw [Int.pow_succ, Int.pow_succ]; exact nm_mul_congr ih (nm_nm a)

/- a power, behind a name -/
def pw (a : Int) (n : Nat) : Int := nm (a ^ n)
theorem pw_bd (a : Int) (n : Nat) : 0 ≤ pw a n ∧ pw a n ≤ 2147483646 := nm_bd _
theorem pw_zero (a : Int) : pw a 0 = 1 := by unfold pw; rw [Int.pow_zero]; rfl
theorem pw_succ (a : Int) (n : Nat) : pw a (n + 1) = nm (pw a n * a) := by
  unfold pw; rw [Int.pow_succ, nm_mull]
theorem pw_add (a : Int) (m n : Nat) : pw a (m + n) = nm (pw a m * pw a n) := by
  unfold pw; rw [Int.pow_add, nm_mull, nm_mulr]
theorem pw_nm (a : Int) (n : Nat) : pw (nm a) n = pw a n := nm_pow a n
theorem pw_one (a : Int) : pw a 1 = nm a := by unfold pw; rw [Int.pow_succ, Int.pow_zero, Int.one_mul]

theorem nm_nat (a : Nat) : nm (a : Int) = ((a % P : Nat) : Int) := by unfold nm P; omega
theorem pw_nat (a n : Nat) : pw (a : Int) n = ((a ^ n % P : Nat) : Int) := by
  unfold pw; rw [← nm_nat, Int.natCast_pow]

theorem fermat_pw (a : Int) : pw a 2147483647 = nm a := by
  obtain ⟨k, hk⟩ := Int.eq_ofNat_of_zero_le (nm_bd a).1
  have h := fermat k
  have h2 : k % P = k := Nat.mod_eq_of_lt (by have := (nm_bd a).2; unfold P; omega)
  rw [h2, show P = 2147483647 from rfl] at h
  rw [← pw_nm, hk, pw_nat, show P = 2147483647 from rfl, h]
theorem fermat_pw1 {a : Int} (h : nm a ≠ 0) : pw a 2147483646 = 1 := by
  obtain ⟨k, hk⟩ := Int.eq_ofNat_of_zero_le (nm_bd a).1
  have h2 : ¬ k % P = 0 := by
    intro h3
    apply h
    rw [← nm_nm, hk, nm_nat, h3]; rfl
  have h4 := fermat1 h2
  rw [show P - 1 = 2147483646 from rfl] at h4
  rw [← pw_nm, hk, pw_nat, h4]; rfl

/- the inverse -/
def iv (a : Int) : Int := pw a 2147483645
theorem iv_bd (a : Int) : 0 ≤ iv a ∧ iv a ≤ 2147483646 := pw_bd _ _
theorem iv_mul {a : Int} (h : nm a ≠ 0) : nm (iv a * a) = 1 := by
  have := pw_succ a 2147483645
  have e : 2147483645 + 1 = 2147483646 := rfl
  rw [e, fermat_pw1 h] at this
  exact this.symm
theorem mul_iv {a : Int} (h : nm a ≠ 0) : nm (a * iv a) = 1 := by rw [Int.mul_comm]; exact iv_mul h

theorem sq_pw (s : Int) (m : Nat) : pw (nm (s * s)) m = pw s (2 * m) := by
  rw [pw_nm]
  induction m with
  | zero => rw [Nat.mul_zero, pw_zero, pw_zero]
  | succ m ih =>
    rw [pw_succ, ih, Nat.mul_succ, pw_add s (2 * m) 2]
    have : pw s 2 = nm (s * s) := by rw [pw_succ, pw_one, nm_mull]
    rw [this, nm_mulr]
theorem low1 (p s : Int) (n : Nat) (h : n % 2 = 1) : nm (nm (p * s) * pw (nm (s * s)) (n / 2)) = nm (p * pw s n) := by
  rw [sq_pw, nm_mull]
  have e : n = 2 * (n / 2) + 1 := by omega
  conv => rhs; rw [e]
  rw [pw_succ, nm_mulr, Int.mul_assoc, Int.mul_comm s]
theorem low0 (p s : Int) (n : Nat) (h : n % 2 = 0) : nm (p * pw (nm (s * s)) (n / 2)) = nm (p * pw s n) := by
  rw [sq_pw]
  have e : 2 * (n / 2) = n := by omega
  rw [e]

/- EUCLID -/
end Crm
