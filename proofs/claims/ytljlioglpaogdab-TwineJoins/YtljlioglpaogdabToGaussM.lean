/- Plain numbers: 2^31 - 1 is a prime, and FERMAT's law by it. · Lists of numbers as polynomials: noughts at the end, values, products number by number. Plain: nothing of the program. · Normal polynomials: one list a polynomial; products and sums number by number; division step by step. Plain. · Values of polynomials: of sums, of products; as many places as numbers: one polynomial. Plain. · GAUSS: columns that are sums of those ahead; what row steps keep; the document's way, column by column. Plain. -/
namespace Crm
set_option linter.unusedVariables false
set_option maxRecDepth 100000
set_option maxHeartbeats 8000000
def P : Nat := 2147483647

/- no number of 2^k from lo on divides P -/
def ck : Nat → Nat → Bool
  | 0, lo => !(2147483647 % lo == 0)
  | k + 1, lo => ck k lo && ck k (lo + 2 ^ k)

theorem ck_all : ∀ (k lo d : Nat), ck k lo = true → lo ≤ d → d < lo + 2 ^ k → ¬ 2147483647 % d = 0 := by
  intro k
  induction k with
  | zero =>
    intro lo d h h1 h2
    have e : d = lo := by simp at h2; omega
    subst e
    simpa [ck] using h
  | succ k ih =>
    intro lo d h h1 h2
    simp only [ck, Bool.and_eq_true] at h
    by_cases hd : d < lo + 2 ^ k
    · exact ih lo d h.1 h1 hd
    · refine ih (lo + 2 ^ k) d h.2 (by omega) ?_
      have : 2 ^ (k + 1) = 2 ^ k + 2 ^ k := by omega
      omega

theorem ck16 : ck 16 2 = true := by decide +kernel

theorem prime_dvd {d : Nat} (h : d ∣ P) : d = 1 ∨ d = P := by
  obtain ⟨e, he⟩ := h
  have hP : d * e = 2147483647 := he.symm
  by_cases h1 : d = 1
  · exact Or.inl h1
  by_cases h2 : e = 1
  · subst h2; right; simp at hP; exact hP
  exfalso
  have hd0 : d ≠ 0 := by intro h; subst h; simp at hP
  have he0 : e ≠ 0 := by intro h; subst h; simp at hP
  have key : ∀ x y : Nat, x * y = 2147483647 → 2 ≤ x → x < 65538 → False := by
    intro x y hxy hx hx2
    refine ck_all 16 2 x ck16 hx (by omega) ?_
    rw [← hxy]; exact Nat.mul_mod_right x y
  by_cases hd : d < 65538
  · exact key d e hP (by omega) hd
  · by_cases hee : e < 65538
    · exact key e d (by rw [Nat.mul_comm]; exact hP) (by omega) hee
    · have : 65538 * 65538 ≤ d * e := Nat.mul_le_mul (by omega) (by omega)
      omega

theorem cop {a : Nat} (h : ¬ a % P = 0) : Nat.Coprime a P := by
  have hd := Nat.gcd_dvd_right a P
  rcases prime_dvd hd with h1 | h1
  · exact h1
  · exfalso; apply h
    have := Nat.gcd_dvd_left a P
    rw [h1] at this
    exact Nat.mod_eq_zero_of_dvd this

theorem dvd_mul {a b : Nat} (h : P ∣ a * b) (ha : ¬ a % P = 0) : P ∣ b :=
  Nat.Coprime.dvd_of_dvd_mul_left (Nat.Coprime.symm (cop ha)) h

/- binomials -/
def ch : Nat → Nat → Nat
  | _, 0 => 1
  | 0, _ + 1 => 0
  | n + 1, k + 1 => ch n k + ch n (k + 1)

theorem ch_zero (n : Nat) : ch n 0 = 1 := by cases n <;> rfl
theorem ch_succ (n k : Nat) : ch (n + 1) (k + 1) = ch n k + ch n (k + 1) := rfl
theorem ch_big : ∀ (n k : Nat), n < k → ch n k = 0 := by
  intro n
  induction n with
  | zero => intro k h; cases k with
    | zero => omega
    | succ k => rfl
  | succ n ih => intro k h; cases k with
    | zero => omega
    | succ k => rw [ch_succ, ih k (by omega), ih (k + 1) (by omega)]
theorem ch_self (n : Nat) : ch n n = 1 := by
  induction n with
  | zero => rfl
  | succ n ih => rw [ch_succ, ih, ch_big n (n + 1) (by omega)]
theorem ch_up : ∀ (n k : Nat), (k + 1) * ch (n + 1) (k + 1) = (n + 1) * ch n k := by
  intro n
  induction n with
  | zero => intro k; cases k with
    | zero => rfl
    | succ k => rw [ch_succ, ch_big 0 (k + 1) (by omega), ch_big 0 (k + 2) (by omega)]; simp
  | succ n ih =>
    intro k
    cases k with
    | zero =>
      have := ih 0
      rw [ch_succ, ch_zero]
      rw [ch_zero] at this
      simp at this ⊢
      rw [this]; omega
    | succ k =>
      have h1 := ih k
      have h2 := ih (k + 1)
      rw [ch_succ (n + 1) (k + 1), Nat.mul_add, h2, Nat.add_mul (k + 1) 1, h1, ch_succ n k]
      rw [Nat.add_mul (n + 1) 1, Nat.mul_add (n + 1)]
      omega

def bs (n a : Nat) : Nat → Nat
  | 0 => 0
  | m + 1 => bs n a m + ch n m * a ^ m

theorem bs_succ (n a m : Nat) : bs (n + 1) a (m + 1) = bs n a (m + 1) + a * bs n a m := by
  induction m with
  | zero => simp [bs, ch_zero]
  | succ m ih =>
    rw [bs, ih]
    conv => rhs; rw [bs]
    rw [show bs n a (m + 1) = bs n a m + ch n m * a ^ m from rfl, ch_succ, Nat.add_mul, Nat.mul_add]
    have : a * (ch n m * a ^ m) = ch n m * a ^ (m + 1) := by
      rw [Nat.pow_succ]; simp [Nat.mul_comm, Nat.mul_left_comm]
    omega

theorem binom (n a : Nat) : (a + 1) ^ n = bs n a (n + 1) := by
  induction n with
  | zero => simp [bs, ch_zero]
  | succ n ih =>
    rw [bs_succ, Nat.pow_succ, ih, Nat.mul_add, Nat.mul_one]
    rw [show bs n a (n + 1 + 1) = bs n a (n + 1) + ch n (n + 1) * a ^ (n + 1) from rfl, ch_big n (n + 1) (by omega)]
    rw [Nat.mul_comm a]; omega

theorem ch_P {k : Nat} (h0 : 0 < k) (h1 : k < P) : P ∣ ch P k := by
  obtain ⟨j, rfl⟩ : ∃ j, k = j + 1 := ⟨k - 1, by omega⟩
  have hu : (j + 1) * ch P (j + 1) = P * ch (P - 1) j := by
    have := ch_up (P - 1) j
    have e : P - 1 + 1 = P := rfl
    rw [e] at this; exact this
  refine dvd_mul (a := j + 1) ⟨_, hu⟩ ?_
  rw [Nat.mod_eq_of_lt h1]; omega

theorem bs_P (a : Nat) : ∀ m, m + 1 ≤ P → bs P a (m + 1) % P = 1 := by
  intro m
  induction m with
  | zero => intro _; simp [bs, ch_zero]; rfl
  | succ m ih =>
    intro h
    rw [bs, Nat.add_mod, ih (by omega)]
    obtain ⟨c, hc⟩ := ch_P (k := m + 1) (by omega) (by omega)
    rw [hc, Nat.mul_assoc, Nat.mul_mod_right]; rfl

theorem fermat (a : Nat) : a ^ P % P = a % P := by
  induction a with
  | zero =>
    have : (0 : Nat) ^ P = 0 := Nat.zero_pow (by unfold P; omega)
    rw [this]
  | succ a ih =>
    rw [binom, bs, ch_self, Nat.one_mul, Nat.add_mod]
    have : bs P a P % P = 1 := bs_P a (P - 1) (Nat.le_refl _)
    rw [this, ih, Nat.add_comm 1, Nat.add_mod a 1]
    rfl

theorem fermat1 {a : Nat} (h : ¬ a % P = 0) : a ^ (P - 1) % P = 1 := by
  have hf := fermat a
  have e : a ^ P = a * a ^ (P - 1) := by
    have : P = (P - 1) + 1 := rfl
    conv => lhs; rw [this]
    rw [Nat.pow_succ, Nat.mul_comm]
  have hpos : 0 < a ^ (P - 1) := Nat.pow_pos (Nat.pos_of_ne_zero (by intro h0; subst h0; exact h (Nat.zero_mod P)))
  rw [e] at hf
  have hd : P ∣ a * (a ^ (P - 1) - 1) := by
    rw [Nat.mul_sub, Nat.mul_one]
    have : a ≤ a * a ^ (P - 1) := Nat.le_mul_of_pos_right a hpos
    exact Nat.dvd_of_mod_eq_zero (Nat.sub_mod_eq_zero_of_mod_eq hf)
  have := dvd_mul hd h
  obtain ⟨c, hc⟩ := this
  have e2 : a ^ (P - 1) = 1 + P * c := by omega
  rw [e2, Nat.add_mul_mod_self_left]; rfl

/-! ### Numbers by P, as integers -/
def nm (a : Int) : Int := a % 2147483647

theorem nm_bd (a : Int) : 0 ≤ nm a ∧ nm a ≤ 2147483646 := by unfold nm; omega
theorem nm_small {a : Int} (h0 : 0 ≤ a) (h1 : a ≤ 2147483646) : nm a = a := by unfold nm; omega
theorem nm_nm (a : Int) : nm (nm a) = nm a := by unfold nm; omega
theorem nm_addl (a b : Int) : nm (nm a + b) = nm (a + b) := by unfold nm; omega
theorem nm_addr (a b : Int) : nm (a + nm b) = nm (a + b) := by unfold nm; omega
theorem nm_subl (a b : Int) : nm (nm a - b) = nm (a - b) := by unfold nm; omega
theorem nm_subr (a b : Int) : nm (a - nm b) = nm (a - b) := by unfold nm; omega
theorem nm_mull (a b : Int) : nm (nm a * b) = nm (a * b) := by unfold nm; rw [Int.mul_emod, Int.emod_emod_of_dvd _ (Int.dvd_refl _), ← Int.mul_emod]
theorem nm_mulr (a b : Int) : nm (a * nm b) = nm (a * b) := by rw [Int.mul_comm, nm_mull, Int.mul_comm]
theorem nm_mul_congr {a b c d : Int} (h : nm a = nm c) (g : nm b = nm d) : nm (a * b) = nm (c * d) := by
  rw [← nm_mull a b, ← nm_mulr (nm a) b, h, g, nm_mulr, nm_mull]
theorem nm_add_congr {a b c d : Int} (h : nm a = nm c) (g : nm b = nm d) : nm (a + b) = nm (c + d) := by
  rw [← nm_addl a b, ← nm_addr (nm a) b, h, g, nm_addr, nm_addl]
theorem nm_sub_congr {a b c d : Int} (h : nm a = nm c) (g : nm b = nm d) : nm (a - b) = nm (c - d) := by
  rw [← nm_subl a b, ← nm_subr (nm a) b, h, g, nm_subr, nm_subl]
theorem nm_eq_iff {a b : Int} : nm a = nm b ↔ nm (a - b) = 0 := by unfold nm; omega
theorem nm_pow (a : Int) (n : Nat) : nm (nm a ^ n) = nm (a ^ n) := by
  induction n with
  | zero => rw [Int.pow_zero, Int.pow_zero]
  | succ n ih => rw [Int.pow_succ, Int.pow_succ]; exact nm_mul_congr ih (nm_nm a)

/- a power, behind a name -/
def pw (a : Int) (n : Nat) : Int := nm (a ^ n)
theorem pw_bd (a : Int) (n : Nat) : 0 ≤ pw a n ∧ pw a n ≤ 2147483646 := nm_bd _
theorem pw_zero (a : Int) : pw a 0 = 1 := by unfold pw; rw [Int.pow_zero]; rfl
theorem pw_succ (a : Int) (n : Nat) : pw a (n + 1) = nm (pw a n * a) := by
  unfold pw; rw [Int.pow_succ, nm_mull]
theorem pw_add (a : Int) (m n : Nat) : pw a (m + n) = nm (pw a m * pw a n) := by
  unfold pw; rw [Int.pow_add, nm_mull, nm_mulr]
theorem pw_nm (a : Int) (n : Nat) : pw (nm a) n = pw a n := nm_pow a n
theorem pw_one (a : Int) : pw a 1 = nm a := by unfold pw; rw [Int.pow_succ, Int.pow_zero, Int.one_mul]

theorem nm_nat (a : Nat) : nm (a : Int) = ((a % P : Nat) : Int) := by unfold nm P; omega
theorem pw_nat (a n : Nat) : pw (a : Int) n = ((a ^ n % P : Nat) : Int) := by
  unfold pw; rw [← nm_nat, Int.natCast_pow]

theorem fermat_pw1 {a : Int} (h : nm a ≠ 0) : pw a 2147483646 = 1 := by
  obtain ⟨k, hk⟩ := Int.eq_ofNat_of_zero_le (nm_bd a).1
  have h2 : ¬ k % P = 0 := by
    intro h3
    apply h
    rw [← nm_nm, hk, nm_nat, h3]; rfl
  have h4 := fermat1 h2
  rw [show P - 1 = 2147483646 from rfl] at h4
  rw [← pw_nm, hk, pw_nat, h4]; rfl

/- the inverse -/
def iv (a : Int) : Int := pw a 2147483645
theorem iv_bd (a : Int) : 0 ≤ iv a ∧ iv a ≤ 2147483646 := pw_bd _ _
theorem iv_nm (a : Int) : iv (nm a) = iv a := pw_nm _ _
theorem iv_mul {a : Int} (h : nm a ≠ 0) : nm (iv a * a) = 1 := by
  have := pw_succ a 2147483645
  have e : 2147483645 + 1 = 2147483646 := rfl
  rw [e, fermat_pw1 h] at this
  exact this.symm
theorem mul_iv {a : Int} (h : nm a ≠ 0) : nm (a * iv a) = 1 := by rw [Int.mul_comm]; exact iv_mul h

theorem nm_mul_zero {a b : Int} (h : nm (a * b) = 0) (ha : nm a ≠ 0) : nm b = 0 := by
  have h1 : nm (iv a * (a * b)) = 0 := by rw [← nm_mulr, h]; simp [nm]
  rw [← Int.mul_assoc, ← nm_mull, iv_mul ha, Int.one_mul] at h1
  exact h1
theorem nm_cancel {a b c : Int} (h : nm (a * b) = nm (a * c)) (ha : nm a ≠ 0) : nm b = nm c := by
  rw [nm_eq_iff] at h ⊢
  rw [← Int.mul_sub] at h
  exact nm_mul_zero h ha
theorem iv_unique {a x : Int} (h : nm (x * a) = 1) (h0 : 0 ≤ x) (h1 : x ≤ 2147483646) : x = iv a := by
  have ha : nm a ≠ 0 := by
    intro h2
    rw [← nm_mulr, h2, Int.mul_zero] at h
    simp [nm] at h
  have hb := iv_bd a
  have : nm x = nm (iv a) := by
    refine nm_cancel (a := a) ?_ ha
    rw [Int.mul_comm, h, Int.mul_comm, iv_mul ha]
  rwa [nm_small h0 h1, nm_small hb.1 hb.2] at this

/- products bit by bit -/
theorem half (y : Int) (k : Nat) : y / 2 ^ k = 2 * (y / 2 ^ (k + 1)) + (y / 2 ^ k) % 2 := by
  rw [Int.pow_succ, ← Int.ediv_ediv_of_nonneg (Int.le_of_lt (Int.pow_pos (by omega)))]; omega
theorem mul_bit1 (a y : Int) (k : Nat) (h : (y / 2 ^ k) % 2 = 1) (o : Int) (ho : o = nm (a * (y / 2 ^ (k + 1)))) :
    nm (nm (o + o) + a) = nm (a * (y / 2 ^ k)) := by
  rw [nm_addl, half y k, h, ho, Int.mul_add, Int.mul_one, ← Int.mul_assoc, Int.mul_comm a 2, Int.mul_assoc]
  refine nm_add_congr ?_ rfl
  rw [nm_addl, nm_addr]; congr 1; omega
theorem mul_bit0 (a y : Int) (k : Nat) (h : (y / 2 ^ k) % 2 = 0) (o : Int) (ho : o = nm (a * (y / 2 ^ (k + 1)))) :
    nm (o + o) = nm (a * (y / 2 ^ k)) := by
  rw [half y k, h, ho, Int.add_zero, ← Int.mul_assoc, Int.mul_comm a 2, Int.mul_assoc]
  rw [nm_addl, nm_addr]; congr 1; omega

/- powers bit by bit, from the highest -/
theorem sq_pw (s : Int) (m : Nat) : pw (nm (s * s)) m = pw s (2 * m) := by
  rw [pw_nm]
  induction m with
  | zero => rw [Nat.mul_zero, pw_zero, pw_zero]
  | succ m ih =>
    rw [pw_succ, ih, Nat.mul_succ, pw_add s (2 * m) 2]
    have : pw s 2 = nm (s * s) := by rw [pw_succ, pw_one, nm_mull]
    rw [this, nm_mulr]
theorem low1 (p s : Int) (n : Nat) (h : n % 2 = 1) : nm (nm (p * s) * pw (nm (s * s)) (n / 2)) = nm (p * pw s n) := by
  rw [sq_pw, nm_mull]
  have e : n = 2 * (n / 2) + 1 := by omega
  conv => rhs; rw [e]
  rw [pw_succ, nm_mulr, Int.mul_assoc, Int.mul_comm s]
theorem low0 (p s : Int) (n : Nat) (h : n % 2 = 0) : nm (p * pw (nm (s * s)) (n / 2)) = nm (p * pw s n) := by
  rw [sq_pw]
  have e : 2 * (n / 2) = n := by omega
  rw [e]

/- EUCLID -/
theorem eu_step {a r n x t q : Int} (h1 : nm (x * a) = nm r) (h2 : nm (t * a) = nm n) :
    nm (nm (x - q * t) * a) = nm (r - q * n) := by
  rw [nm_mull, Int.sub_mul]
  refine nm_sub_congr h1 ?_
  rw [Int.mul_assoc]
  exact nm_mul_congr rfl h2
theorem eu_gcd {r n : Int} (hr : 0 ≤ r) (hn : 0 < n) (h : Nat.gcd r.toNat n.toNat = 1) : Nat.gcd n.toNat (r - r / n * n).toNat = 1 := by
  obtain ⟨R, rfl⟩ := Int.eq_ofNat_of_zero_le hr
  obtain ⟨N, rfl⟩ := Int.eq_ofNat_of_zero_le (Int.le_of_lt hn)
  have e : ((R : Int) - R / N * N).toNat = R % N := by
    have h1 : (R : Int) % N = R - R / N * N := by rw [Int.mul_comm]; exact Int.emod_def ..
    rw [← h1]; exact Int.toNat_natCast (R % N)
  rw [e]
  simp only [Int.toNat_natCast] at h ⊢
  rw [Nat.gcd_comm, ← Nat.gcd_rec, Nat.gcd_comm]; exact h
theorem eu_bd {r n : Int} (hr : 0 ≤ r) (hn : 0 < n) : 0 ≤ r / n ∧ r / n ≤ r ∧ 0 ≤ r / n * n ∧ r / n * n ≤ r ∧ r - r / n * n < n ∧ 0 ≤ r - r / n * n := by
  have h1 := Int.emod_def r n
  have h2 := Int.emod_lt_of_pos r hn
  have h3 := Int.emod_nonneg r (Int.ne_of_gt hn)
  have h4 := Int.ediv_nonneg hr (Int.le_of_lt hn)
  have h5 := Int.ediv_le_self n hr
  have h6 := Int.mul_nonneg h4 (Int.le_of_lt hn)
  rw [Int.mul_comm] at h1
  omega
theorem cop_int {a : Int} (h : nm a ≠ 0) : Nat.gcd (2147483647 : Int).toNat (nm a).toNat = 1 := by
  obtain ⟨k, hk⟩ := Int.eq_ofNat_of_zero_le (nm_bd a).1
  rw [hk, Int.toNat_natCast, Nat.gcd_comm]
  have h3 := (nm_bd a).2
  refine cop (a := k) ?_
  rw [Nat.mod_eq_of_lt (by unfold P; omega)]
  omega
theorem eu_end {a r x : Int} (h : Nat.gcd r.toNat (0 : Int).toNat = 1) (hr : 0 ≤ r) (h1 : nm (x * a) = nm r) (h0 : 0 ≤ x) (h2 : x ≤ 2147483646) : x = iv a := by
  have : r = 1 := by
    rw [show (0 : Int).toNat = 0 from rfl, Nat.gcd_zero_right] at h
    omega
  subst this
  exact iv_unique (by rw [h1]; rfl) h0 h2
def nz (xs : List Int) : List Int := xs.map nm
/-- How many of the first n numbers stay when the noughts at the end go. -/
def tl (xs : List Int) : Nat → Nat
  | 0 => 0
  | n + 1 => if xs.getD n 0 = 0 then tl xs n else n + 1
def trm (xs : List Int) : List Int := xs.take (tl xs xs.length)
def nrm (xs : List Int) : List Int := trm (nz xs)
def ev : List Int → Int → Int
  | [], _ => 0
  | a :: l, x => a + x * ev l x
def tm (as bs : List Int) (k i : Nat) : Int := if i ≤ k then as.getD i 0 * bs.getD (k - i) 0 else 0
/-- The k-th number of the product, of the first n numbers of as. -/
def pc (as bs : List Int) (k : Nat) : Nat → Int
  | 0 => 0
  | n + 1 => pc as bs k n + tm as bs k n
def cvl (as bs : List Int) : List Int := (List.range (as.length + bs.length - 1)).map fun k => nm (pc as bs k as.length)
/-- L, with t times the first k numbers of B added from place o on. -/
def addAt (L : List Int) (o : Nat) (B : List Int) (t : Int) : Nat → List Int
  | 0 => L
  | k + 1 => (addAt L o B t k).set (o + k) (nm (L.getD (o + k) 0 + t * B.getD k 0))

theorem tl_zero (xs : List Int) {n : Nat} (h : xs.getD n 0 = 0) : tl xs (n + 1) = tl xs n := by rw [tl, if_pos h]
theorem tl_last (xs : List Int) {n : Nat} (h : ¬ xs.getD n 0 = 0) : tl xs (n + 1) = n + 1 := by rw [tl, if_neg h]
theorem tl_le (xs : List Int) : ∀ n, tl xs n ≤ n
  | 0 => Nat.le_refl _
  | n + 1 => by rw [tl]; split; have := tl_le xs n; omega; omega
theorem nz_getD (xs : List Int) (i : Nat) : (nz xs).getD i 0 = nm (xs.getD i 0) := by
  unfold nz
  by_cases h : i < xs.length
  · simp [List.getElem?_eq_getElem h]
  · simp [List.getElem?_eq_none (show xs.length ≤ i by omega)]; rfl
theorem nz_len (xs : List Int) : (nz xs).length = xs.length := by simp [nz]
theorem nz_bd (xs : List Int) : ∀ x ∈ nz xs, 0 ≤ x ∧ x ≤ 18446744073709551615 := by
  intro x hx
  obtain ⟨y, _, rfl⟩ := List.mem_map.1 hx
  have := nm_bd y
  omega
theorem nz_bd' (xs : List Int) : ∀ x ∈ nz xs, 0 ≤ x ∧ x ≤ 2147483646 := by
  intro x hx
  obtain ⟨y, _, rfl⟩ := List.mem_map.1 hx
  exact nm_bd y
theorem trm_len (xs : List Int) : (trm xs).length = tl xs xs.length := by
  have := tl_le xs xs.length
  unfold trm
  simp; omega
theorem nrm_len (xs : List Int) : (nrm xs).length = tl (nz xs) xs.length := by unfold nrm; rw [trm_len, nz_len]
theorem nrm_le (xs : List Int) : (nrm xs).length ≤ xs.length := by rw [nrm_len]; exact tl_le _ _
theorem trm_mem {xs : List Int} {x : Int} (h : x ∈ trm xs) : x ∈ xs := List.mem_of_mem_take h
theorem nrm_bd (xs : List Int) : ∀ x ∈ nrm xs, 0 ≤ x ∧ x ≤ 18446744073709551615 := fun x h => nz_bd xs x (trm_mem h)
theorem nrm_bd' (xs : List Int) : ∀ x ∈ nrm xs, 0 ≤ x ∧ x ≤ 2147483646 := fun x h => nz_bd' xs x (trm_mem h)

theorem getD_set (L : List Int) (i j : Nat) (v : Int) : (L.set i v).getD j 0 = if i = j ∧ j < L.length then v else L.getD j 0 := by
  simp only [List.getD_eq_getElem?_getD, List.getElem?_set]
  by_cases h : i = j
  · subst h
    by_cases hl : i < L.length
    · simp [hl]
    · simp [hl]
  · simp [h]
theorem addAt_len (L : List Int) (o : Nat) (B : List Int) (t : Int) : ∀ k, (addAt L o B t k).length = L.length
  | 0 => rfl
  | k + 1 => by rw [addAt, List.length_set, addAt_len L o B t k]
theorem addAt_getD (L : List Int) (o : Nat) (B : List Int) (t : Int) : ∀ (k i : Nat),
    (addAt L o B t k).getD i 0 = if o ≤ i ∧ i < o + k ∧ i < L.length then nm (L.getD i 0 + t * B.getD (i - o) 0) else L.getD i 0
  | 0, i => by rw [addAt, if_neg (by omega)]
  | k + 1, i => by
    rw [addAt, getD_set, addAt_len, addAt_getD L o B t k i]
    by_cases h : o + k = i ∧ i < L.length
    · rw [if_pos h, if_pos (by omega)]
      obtain ⟨rfl, _⟩ := h
      rw [Nat.add_sub_cancel_left]
    · rw [if_neg h]
      by_cases h2 : o ≤ i ∧ i < o + k ∧ i < L.length
      · rw [if_pos h2, if_pos (by omega)]
      · rw [if_neg h2, if_neg (by omega)]
theorem bd_set {L : List Int} (h : ∀ x ∈ L, 0 ≤ x ∧ x ≤ 18446744073709551615) (i : Nat) {v : Int} (hv : 0 ≤ v ∧ v ≤ 18446744073709551615) : ∀ x ∈ L.set i v, 0 ≤ x ∧ x ≤ 18446744073709551615 := by
  intro x hx
  rcases List.mem_or_eq_of_mem_set hx with h1 | h1
  · exact h x h1
  · rw [h1]; exact hv
theorem addAt_bd {L : List Int} (h : ∀ x ∈ L, 0 ≤ x ∧ x ≤ 18446744073709551615) (o : Nat) (B : List Int) (t : Int) : ∀ k, ∀ x ∈ addAt L o B t k, 0 ≤ x ∧ x ≤ 18446744073709551615
  | 0 => h
  | k + 1 => by
    rw [addAt]
    exact bd_set (addAt_bd h o B t k) _ (by have := nm_bd (L.getD (o + k) 0 + t * B.getD k 0); omega)
theorem ev_snoc : ∀ (l : List Int) (a x : Int), ev (l ++ [a]) x = ev l x + a * x ^ l.length
  | [], a, x => by simp [ev]
  | b :: l, a, x => by
    rw [List.cons_append, ev, ev, ev_snoc l a x, List.length_cons, Int.pow_succ, Int.mul_add]
    have : x * (a * x ^ l.length) = a * (x ^ l.length * x) := by rw [Int.mul_comm x, Int.mul_assoc]
    omega
theorem ev_take (xs : List Int) (x : Int) {k : Nat} (h : k < xs.length) : ev (xs.take (k + 1)) x = ev (xs.take k) x + xs.getD k 0 * x ^ k := by
  rw [List.take_succ_eq_append_getElem h, ev_snoc, List.length_take, Nat.min_eq_left (by omega)]
  simp [List.getElem?_eq_getElem h]
theorem ev_drop (xs : List Int) (x : Int) {k : Nat} (h : k < xs.length) : ev (xs.drop k) x = xs.getD k 0 + x * ev (xs.drop (k + 1)) x := by
  rw [List.drop_eq_getElem_cons h, ev]
  simp [List.getElem?_eq_getElem h]
theorem getD_big {xs : List Int} {t : Nat} (h : xs.length ≤ t) : xs.getD t 0 = 0 := by
  rw [List.getD_eq_getElem?_getD, List.getElem?_eq_none h]; rfl
theorem getD_some {xs : List Int} {t : Nat} (h : t < xs.length) : xs[t]? = some (xs.getD t 0) := by
  rw [List.getD_eq_getElem?_getD, List.getElem?_eq_getElem h]; rfl
theorem getD_mem {xs : List Int} {t : Nat} (h : t < xs.length) : xs.getD t 0 ∈ xs := by
  rw [List.getD_eq_getElem?_getD, List.getElem?_eq_getElem h]; exact List.getElem_mem h
theorem list_ext {xs ys : List Int} (hl : xs.length = ys.length) (h : ∀ t, t < xs.length → xs.getD t 0 = ys.getD t 0) : xs = ys := by
  apply List.ext_getElem?
  intro t
  by_cases ht : t < xs.length
  · rw [getD_some ht, getD_some (by omega), h t ht]
  · rw [List.getElem?_eq_none (by omega), List.getElem?_eq_none (by omega)]
theorem take_getD (xs : List Int) (n t : Nat) : (xs.take n).getD t 0 = if t < n then xs.getD t 0 else 0 := by
  by_cases h : t < n
  · rw [if_pos h]; simp [h]
  · rw [if_neg h]; exact getD_big (by simp; omega)
theorem tl_congr {xs ys : List Int} (h : ∀ t, xs.getD t 0 = ys.getD t 0) : ∀ n, tl xs n = tl ys n
  | 0 => rfl
  | n + 1 => by rw [tl, tl, h n, tl_congr h n]
theorem tl_more {xs : List Int} : ∀ d, tl xs (xs.length + d) = tl xs xs.length
  | 0 => rfl
  | d + 1 => by rw [← Nat.add_assoc, tl, if_pos (getD_big (by omega)), tl_more d]
theorem tl_ge {xs : List Int} {n : Nat} (h : xs.length ≤ n) : tl xs n = tl xs xs.length := by
  have := tl_more (xs := xs) (n - xs.length)
  rwa [show xs.length + (n - xs.length) = n by omega] at this
theorem tl_top (xs : List Int) : ∀ n, 0 < tl xs n → xs.getD (tl xs n - 1) 0 ≠ 0
  | 0 => by simp [tl]
  | n + 1 => by
    rw [tl]
    split
    · exact tl_top xs n
    · intro _; simpa using ‹_›
theorem tl_above (xs : List Int) : ∀ n t, tl xs n ≤ t → t < n → xs.getD t 0 = 0
  | 0, t => by omega
  | n + 1, t => by
    rw [tl]
    split
    · intro h1 h2
      by_cases ht : t = n
      · rw [ht]; assumption
      · exact tl_above xs n t h1 (by omega)
    · intro h1 h2; omega
theorem trm_getD (xs : List Int) (t : Nat) : (trm xs).getD t 0 = xs.getD t 0 := by
  unfold trm
  rw [take_getD]
  split
  · rfl
  · by_cases h : t < xs.length
    · rw [tl_above xs xs.length t (by omega) h]
    · rw [getD_big (by omega)]
theorem trm_ext {xs ys : List Int} (h : ∀ t, xs.getD t 0 = ys.getD t 0) : trm xs = trm ys := by
  have hl : (trm xs).length = (trm ys).length := by
    rw [trm_len, trm_len, ← tl_ge (show xs.length ≤ max xs.length ys.length by omega), ← tl_ge (show ys.length ≤ max xs.length ys.length by omega), tl_congr h]
  exact list_ext hl fun t _ => by rw [trm_getD, trm_getD, h]
theorem nrm_getD (xs : List Int) (t : Nat) : (nrm xs).getD t 0 = nm (xs.getD t 0) := by unfold nrm; rw [trm_getD, nz_getD]
theorem nrm_ext {xs ys : List Int} (h : ∀ t, nm (xs.getD t 0) = nm (ys.getD t 0)) : nrm xs = nrm ys := trm_ext fun t => by rw [nz_getD, nz_getD, h]

/-- Rests, and no nought at the end. -/
structure Nml (xs : List Int) : Prop where
  bd : ∀ x ∈ xs, 0 ≤ x ∧ x ≤ 2147483646
  top : 0 < xs.length → xs.getD (xs.length - 1) 0 ≠ 0
theorem nrm_Nml (xs : List Int) : Nml (nrm xs) := by
  refine ⟨nrm_bd' xs, fun h => ?_⟩
  rw [nrm_getD, ← nz_getD]
  rw [nrm_len] at h ⊢
  exact tl_top _ _ h
theorem nz_id {xs : List Int} (h : ∀ x ∈ xs, 0 ≤ x ∧ x ≤ 2147483646) : nz xs = xs := by
  unfold nz
  have : xs.map nm = xs.map id := List.map_congr_left fun x hx => nm_small (h x hx).1 (h x hx).2
  rw [this, List.map_id]
theorem bd_u64 {xs : List Int} (h : ∀ x ∈ xs, 0 ≤ x ∧ x ≤ 2147483646) : ∀ x ∈ xs, 0 ≤ x ∧ x ≤ 18446744073709551615 := fun x hx => by have := h x hx; omega
theorem getD_bd' {xs : List Int} (h : ∀ x ∈ xs, 0 ≤ x ∧ x ≤ 2147483646) (t : Nat) : 0 ≤ xs.getD t 0 ∧ xs.getD t 0 ≤ 2147483646 := by
  by_cases ht : t < xs.length
  · exact h _ (getD_mem ht)
  · rw [getD_big (by omega)]; omega
theorem set_bd' {L : List Int} (h : ∀ x ∈ L, 0 ≤ x ∧ x ≤ 2147483646) (i : Nat) {v : Int} (hv : 0 ≤ v ∧ v ≤ 2147483646) : ∀ x ∈ L.set i v, 0 ≤ x ∧ x ≤ 2147483646 := by
  intro x hx
  rcases List.mem_or_eq_of_mem_set hx with h1 | h1
  · exact h x h1
  · rw [h1]; exact hv
theorem addAt_bd' {L : List Int} (h : ∀ x ∈ L, 0 ≤ x ∧ x ≤ 2147483646) (o : Nat) (B : List Int) (t : Int) : ∀ k, ∀ x ∈ addAt L o B t k, 0 ≤ x ∧ x ≤ 2147483646
  | 0 => h
  | k + 1 => by rw [addAt]; exact set_bd' (addAt_bd' h o B t k) _ (nm_bd _)

theorem pc_far (ps qs : List Int) (k : Nat) : ∀ n, n + qs.length ≤ k + 1 → pc ps qs k n = 0
  | 0, _ => rfl
  | n + 1, h => by
    rw [pc, pc_far ps qs k n (by omega), tm]
    split
    · rw [getD_big (show qs.length ≤ k - n by omega), Int.mul_zero]; rfl
    · rfl
theorem cvl_len (ps qs : List Int) : (cvl ps qs).length = ps.length + qs.length - 1 := by simp [cvl]
theorem cvl_getD (ps qs : List Int) (t : Nat) : (cvl ps qs).getD t 0 = nm (pc ps qs t ps.length) := by
  by_cases ht : t < ps.length + qs.length - 1
  · unfold cvl; simp [ht]
  · rw [getD_big (by rw [cvl_len]; omega), pc_far ps qs t ps.length (by omega)]; rfl
theorem cvl_bd (ps qs : List Int) : ∀ x ∈ cvl ps qs, 0 ≤ x ∧ x ≤ 2147483646 := by
  intro x hx
  obtain ⟨k, _, rfl⟩ := List.mem_map.1 hx
  exact nm_bd _
def sml (ps qs : List Int) : List Int := (List.range (max ps.length qs.length)).map fun i => nm (ps.getD i 0 + qs.getD i 0)
theorem sml_len (ps qs : List Int) : (sml ps qs).length = max ps.length qs.length := by simp [sml]
theorem sml_getD (ps qs : List Int) (t : Nat) : (sml ps qs).getD t 0 = nm (ps.getD t 0 + qs.getD t 0) := by
  by_cases ht : t < max ps.length qs.length
  · unfold sml; simp [List.getElem?_range ht]
  · rw [getD_big (by rw [sml_len]; omega), getD_big (show ps.length ≤ t by omega), getD_big (show qs.length ≤ t by omega)]; rfl

theorem zeros_getD (q t : Nat) : (List.replicate q (0 : Int)).getD t 0 = 0 := by
  by_cases h : t < q
  · simp [h]
  · exact getD_big (by simp; omega)
theorem cons_getD0 (a : Int) (l : List Int) : (a :: l).getD 0 0 = a := rfl
theorem cons_getDs (a : Int) (l : List Int) (t : Nat) : (a :: l).getD (t + 1) 0 = l.getD t 0 := rfl
theorem ev_zero : ∀ (q : List Int) (x : Int), (∀ t, nm (q.getD t 0) = 0) → nm (ev q x) = 0
  | [], _, _ => rfl
  | b :: q, x, h => by
    have h0 := h 0
    rw [cons_getD0] at h0
    have h1 := ev_zero q x (fun t => h (t + 1))
    rw [ev, nm_add_congr (c := 0) (d := x * 0) h0 (nm_mul_congr rfl h1), Int.mul_zero]
    rfl
theorem ev_congr : ∀ (p q : List Int) (x : Int), (∀ t, nm (p.getD t 0) = nm (q.getD t 0)) → nm (ev p x) = nm (ev q x)
  | [], q, x, h => by rw [ev_zero q x (fun t => (h t).symm)]; rfl
  | a :: p, [], x, h => by rw [ev_zero (a :: p) x h]; rfl
  | a :: p, b :: q, x, h => by
    rw [ev, ev]
    exact nm_add_congr (h 0) (nm_mul_congr rfl (ev_congr p q x (fun t => h (t + 1))))
/-- Number by number: p, and c times q. -/
def adl (c : Int) : List Int → List Int → List Int
  | [], q => q.map (c * ·)
  | p, [] => p
  | a :: p, b :: q => (a + c * b) :: adl c p q
theorem adl_nil (c : Int) (p : List Int) : adl c p [] = p := by cases p <;> rfl
theorem map_ev (c : Int) (x : Int) : ∀ q : List Int, ev (q.map (c * ·)) x = c * ev q x
  | [] => by simp [ev]
  | b :: q => by
    rw [List.map_cons, ev, ev, map_ev c x q, Int.mul_add, ← Int.mul_assoc, ← Int.mul_assoc, Int.mul_comm c x]
theorem map_getD (c : Int) (q : List Int) (t : Nat) : (q.map (c * ·)).getD t 0 = c * q.getD t 0 := by
  by_cases h : t < q.length
  · simp [List.getElem?_eq_getElem h]
  · rw [getD_big (by simp; omega), getD_big (by omega), Int.mul_zero]
theorem adl_ev (c : Int) (x : Int) : ∀ p q : List Int, ev (adl c p q) x = ev p x + c * ev q x
  | [], q => by rw [adl, map_ev, ev, Int.zero_add]
  | a :: p, [] => by rw [adl_nil, ev, ev, Int.mul_zero, Int.add_zero]
  | a :: p, b :: q => by
    rw [adl, ev, ev, ev, adl_ev c x p q, Int.mul_add, Int.mul_add]
    have : x * (c * ev q x) = c * (x * ev q x) := by rw [← Int.mul_assoc, ← Int.mul_assoc, Int.mul_comm x c]
    omega
theorem adl_getD (c : Int) : ∀ (p q : List Int) (t : Nat), (adl c p q).getD t 0 = p.getD t 0 + c * q.getD t 0
  | [], q, t => by rw [adl, map_getD, getD_big (xs := []) (by simp), Int.zero_add]
  | a :: p, [], t => by rw [adl_nil, getD_big (xs := []) (by simp), Int.mul_zero, Int.add_zero]
  | a :: p, b :: q, 0 => rfl
  | a :: p, b :: q, t + 1 => by rw [adl, cons_getDs, cons_getDs, cons_getDs, adl_getD c p q t]
theorem adl_len (c : Int) : ∀ p q : List Int, (adl c p q).length = max p.length q.length
  | [], q => by simp [adl]
  | a :: p, [] => by simp [adl_nil]
  | a :: p, b :: q => by rw [adl, List.length_cons, adl_len c p q, List.length_cons, List.length_cons]; omega

theorem nrm_ev (p : List Int) (x : Int) : nm (ev (nrm p) x) = nm (ev p x) := ev_congr _ _ _ fun t => by rw [nrm_getD, nm_nm]
theorem sml_ev (p q : List Int) (x : Int) : nm (ev (sml p q) x) = nm (ev p x + ev q x) := by
  have := ev_congr (sml p q) (adl 1 p q) x fun t => by rw [sml_getD, adl_getD, nm_nm, Int.one_mul]
  rw [this, adl_ev, Int.one_mul]
theorem addAt_ev (S Z : List Int) (t : Int) (x : Int) (h : Z.length ≤ S.length) : nm (ev (addAt S 0 Z t Z.length) x) = nm (ev S x + t * ev Z x) := by
  have := ev_congr (addAt S 0 Z t Z.length) (adl t S Z) x fun i => by
    rw [addAt_getD, adl_getD]
    by_cases hi : 0 ≤ i ∧ i < 0 + Z.length ∧ i < S.length
    · rw [if_pos hi, nm_nm, Nat.sub_zero]
    · rw [if_neg hi, getD_big (show Z.length ≤ i by omega), Int.mul_zero, Int.add_zero]
  rw [this, adl_ev]
theorem pc_cons (a : Int) (ps qs : List Int) (t : Nat) : ∀ n, pc (a :: ps) qs (t + 1) (n + 1) = a * qs.getD (t + 1) 0 + pc ps qs t n
  | 0 => by
    show (0 : Int) + tm (a :: ps) qs (t + 1) 0 = a * qs.getD (t + 1) 0 + 0
    rw [tm, if_pos (Nat.zero_le _), cons_getD0, Nat.sub_zero]
    omega
  | n + 1 => by
    show pc (a :: ps) qs (t + 1) (n + 1) + tm (a :: ps) qs (t + 1) (n + 1) = a * qs.getD (t + 1) 0 + (pc ps qs t n + tm ps qs t n)
    rw [pc_cons a ps qs t n]
    have : tm (a :: ps) qs (t + 1) (n + 1) = tm ps qs t n := by
      rw [tm, tm, cons_getDs]
      by_cases h : n ≤ t
      · rw [if_pos h, if_pos (by omega), show t + 1 - (n + 1) = t - n by omega]
      · rw [if_neg h, if_neg (by omega)]
    rw [this, Int.add_assoc]
theorem pc_cons0 (a : Int) (ps qs : List Int) : ∀ n, pc (a :: ps) qs 0 (n + 1) = a * qs.getD 0 0
  | 0 => by
    show (0 : Int) + tm (a :: ps) qs 0 0 = _
    rw [tm, if_pos (Nat.le_refl _), cons_getD0, Int.zero_add]
  | n + 1 => by
    show pc (a :: ps) qs 0 (n + 1) + tm (a :: ps) qs 0 (n + 1) = _
    rw [pc_cons0 a ps qs n, tm, if_neg (by omega), Int.add_zero]
theorem cvl_ev (x : Int) : ∀ ps qs : List Int, nm (ev (cvl ps qs) x) = nm (ev ps x * ev qs x)
  | [], qs => by
    rw [ev_zero (cvl [] qs) x fun t => by rw [cvl_getD]; rfl, ev, Int.zero_mul]
    rfl
  | a :: ps, qs => by
    have h := ev_congr (cvl (a :: ps) qs) (adl a (0 :: cvl ps qs) qs) x fun t => by
      rw [cvl_getD, adl_getD, List.length_cons]
      cases t with
      | zero => rw [pc_cons0, cons_getD0, nm_nm, Int.zero_add]
      | succ t => rw [pc_cons, cons_getDs, cvl_getD, nm_nm, nm_addl, Int.add_comm]
    have h2 := cvl_ev x ps qs
    rw [h, adl_ev, ev, Int.zero_add, ev, Int.add_mul, Int.mul_assoc x, Int.add_comm]
    exact nm_add_congr rfl (nm_mul_congr rfl h2)

/-- What is left when (x - c) is taken out of a :: t. -/
def sy (c : Int) : List Int → List Int
  | [] => []
  | b :: t => ev (b :: t) c :: sy c t
theorem sy_len (c : Int) : ∀ t : List Int, (sy c t).length = t.length
  | [] => rfl
  | b :: t => by rw [sy, List.length_cons, sy_len c t, List.length_cons]
theorem sy_ev (c x : Int) : ∀ (t : List Int) (a : Int), ev (a :: t) x - ev (a :: t) c = (x - c) * ev (sy c t) x
  | [], a => by simp [ev, sy]
  | b :: t, a => by
    have h := sy_ev c x t b
    show (a + x * ev (b :: t) x) - (a + c * ev (b :: t) c) = (x - c) * (ev (b :: t) c + x * ev (sy c t) x)
    generalize ev (b :: t) x = E at *
    generalize ev (b :: t) c = F at *
    generalize ev (sy c t) x = G at *
    have e : E = F + (x - c) * G := by omega
    rw [e, Int.mul_add, Int.mul_add, Int.sub_mul, Int.sub_mul, Int.sub_mul, Int.mul_sub]
    have h1 : x * (c * G) = c * (x * G) := by rw [← Int.mul_assoc, ← Int.mul_assoc, Int.mul_comm x c]
    omega
theorem sy_zero (c : Int) : ∀ (t : List Int) (a : Int), (∀ x ∈ sy c t, nm x = 0) → nm (ev (a :: t) c) = 0 → ∀ x ∈ a :: t, nm x = 0
  | [], a, _, h, x, hx => by
    rw [List.mem_singleton] at hx
    subst hx
    simpa [ev] using h
  | b :: t, a, hs, h, x, hx => by
    rw [sy] at hs
    have h1 : nm (ev (b :: t) c) = 0 := hs _ (List.mem_cons_self ..)
    have h2 := sy_zero c t b (fun x hx => hs x (List.mem_cons_of_mem _ hx)) h1
    rcases List.mem_cons.1 hx with rfl | hx
    · rw [ev, nm_add_congr (c := x) (d := c * 0) rfl (nm_mul_congr rfl h1), Int.mul_zero, Int.add_zero] at h
      exact h
    · exact h2 x hx
/-- A polynomial of no more numbers than it has places at which it is 0: all its numbers are 0. -/
theorem roots : ∀ (pts l : List Int), pts.Pairwise (fun a b => nm (a - b) ≠ 0) → (∀ c ∈ pts, nm (ev l c) = 0) → l.length ≤ pts.length → ∀ x ∈ l, nm x = 0
  | [], l, _, _, hl, x, hx => by
    rw [List.eq_nil_of_length_eq_zero (Nat.le_zero.1 hl)] at hx
    cases hx
  | c :: pts, [], _, _, _, x, hx => by cases hx
  | c :: pts, a :: t, hp, hr, hl, x, hx => by
    rw [List.pairwise_cons] at hp
    have hc := hr c (List.mem_cons_self ..)
    have hq := roots pts (sy c t) hp.2 (fun d hd => by
      have h1 := sy_ev c d t a
      have h2 := hr d (List.mem_cons_of_mem _ hd)
      have h3 : nm ((d - c) * ev (sy c t) d) = 0 := by
        rw [← h1, nm_sub_congr (c := 0) (d := 0) h2 hc]; rfl
      refine nm_mul_zero h3 fun e => hp.1 d hd ?_
      unfold nm at *; omega) (by rw [sy_len]; simp at hl; exact hl)
    exact sy_zero c t a hq hc x hx
/-- Two polynomials of at most n numbers that tell the same at n places are the same. -/
theorem same_poly {p q pts : List Int} (hp : pts.Pairwise (fun a b => nm (a - b) ≠ 0)) (h : ∀ c ∈ pts, nm (ev p c) = nm (ev q c)) (h1 : p.length ≤ pts.length) (h2 : q.length ≤ pts.length) : nrm p = nrm q := by
  have hd := roots pts (adl (-1) p q) hp (fun c hc => by
    rw [adl_ev, Int.neg_one_mul]
    have := h c hc
    unfold nm at *; omega) (by rw [adl_len]; omega)
  refine nrm_ext fun t => ?_
  have h3 : nm ((adl (-1) p q).getD t 0) = 0 := by
    by_cases ht : t < (adl (-1) p q).length
    · exact hd _ (getD_mem ht)
    · rw [getD_big (by omega)]; rfl
  rw [adl_getD, Int.neg_one_mul] at h3
  unfold nm at *; omega
def sm (f : Nat → Int) : Nat → Int
  | 0 => 0
  | n + 1 => sm f n + f n
theorem sm_ncongr {f g : Nat → Int} : ∀ {n : Nat}, (∀ j, j < n → nm (f j) = nm (g j)) → nm (sm f n) = nm (sm g n)
  | 0, _ => rfl
  | n + 1, h => nm_add_congr (sm_ncongr fun j hj => h j (by omega)) (h n (by omega))
theorem sm_add (f g : Nat → Int) : ∀ n, sm (fun j => f j + g j) n = sm f n + sm g n
  | 0 => rfl
  | n + 1 => by rw [sm, sm, sm, sm_add f g n]; omega
theorem sm_mul (c : Int) (f : Nat → Int) : ∀ n, sm (fun j => c * f j) n = c * sm f n
  | 0 => by rw [sm, sm, Int.mul_zero]
  | n + 1 => by rw [sm, sm, sm_mul c f n, Int.mul_add]
theorem sm_cut {f : Nat → Int} {m : Nat} : ∀ {n : Nat}, m ≤ n → (∀ j, m ≤ j → j < n → nm (f j) = 0) → nm (sm f n) = nm (sm f m)
  | 0, hm, _ => by rw [Nat.le_zero.1 hm]
  | n + 1, hm, h => by
    by_cases e : m = n + 1
    · rw [e]
    · rw [sm, nm_add_congr (c := sm f m) (d := 0) (sm_cut (by omega) fun j h1 h2 => h j h1 (by omega)) (h n (by omega) (by omega)), Int.add_zero]
theorem sm_swap (F : Nat → Nat → Int) (n : Nat) : ∀ m, sm (fun j => sm (fun k => F k j) m) n = sm (fun k => sm (fun j => F k j) n) m
  | 0 => by
    have : ∀ n, sm (fun _ => 0) n = 0 := fun n => by induction n with | zero => rfl | succ n ih => rw [sm, ih]; rfl
    exact this n
  | m + 1 => by
    show sm (fun j => sm (fun k => F k j) m + F m j) n = sm (fun k => sm (fun j => F k j) n) m + sm (fun j => F m j) n
    rw [sm_add, sm_swap F n m]
end Crm
