/- Plain numbers: 2^31 - 1 is a prime, and FERMAT's law by it. · Lists of numbers as polynomials: noughts at the end, values, products number by number. Plain: nothing of the program. · Normal polynomials: one list a polynomial; products and sums number by number; division step by step. Plain. · GAUSS: columns that are sums of those ahead; what row steps keep; the document's way, column by column. Plain. -/
namespace Crm
set_option linter.unusedVariables false
set_option maxRecDepth 100000
set_option maxHeartbeats 8000000
def P : Nat := 2147483647

/- no number of 2^k from lo on divides P -/
def ck : Nat → Nat → Bool
  | 0, lo => !(2147483647 % lo == 0)
  | k + 1, lo => ck k lo && ck k (lo + 2 ^ k)

theorem ck_all : ∀ (k lo d : Nat), ck k lo = true → lo ≤ d → d < lo + 2 ^ k → ¬ 2147483647 % d = 0 := by
  intro k
  induction k with
  | zero =>
    intro lo d h h1 h2
    have e : d = lo := by simp at h2; omega
    subst e
    simpa [ck] using h
  | succ k ih =>
    intro lo d h h1 h2
    simp only [ck, Bool.and_eq_true] at h
    by_cases hd : d < lo + 2 ^ k
    · exact ih lo d h.1 h1 hd
    · refine ih (lo + 2 ^ k) d h.2 (by omega) ?_
      have : 2 ^ (k + 1) = 2 ^ k + 2 ^ k := by omega
      omega

theorem ck16 : ck 16 2 = true := by decide +kernel

theorem prime_dvd {d : Nat} (h : d ∣ P) : d = 1 ∨ d = P := by
  obtain ⟨e, he⟩ := h
  have hP : d * e = 2147483647 := he.symm
  by_cases h1 : d = 1
  · exact Or.inl h1
  by_cases h2 : e = 1
  · subst h2; right; simp at hP; exact hP
  exfalso
  have hd0 : d ≠ 0 := by intro h; subst h; simp at hP
  have he0 : e ≠ 0 := by intro h; subst h; simp at hP
  have key : ∀ x y : Nat, x * y = 2147483647 → 2 ≤ x → x < 65538 → False := by
    intro x y hxy hx hx2
    refine ck_all 16 2 x ck16 hx (by omega) ?_
    rw [← hxy]; exact Nat.mul_mod_right x y
  by_cases hd : d < 65538
  · exact key d e hP (by omega) hd
  · by_cases hee : e < 65538
    · exact key e d (by rw [Nat.mul_comm]; exact hP) (by omega) hee
    · have : 65538 * 65538 ≤ d * e := Nat.mul_le_mul (by omega) (by omega)
      omega

theorem cop {a : Nat} (h : ¬ a % P = 0) : Nat.Coprime a P := by
  have hd := Nat.gcd_dvd_right a P
  rcases prime_dvd hd with h1 | h1
  · exact h1
  · exfalso; apply h
    have := Nat.gcd_dvd_left a P
    rw [h1] at this
    exact Nat.mod_eq_zero_of_dvd this

theorem dvd_mul {a b : Nat} (h : P ∣ a * b) (ha : ¬ a % P = 0) : P ∣ b :=
  Nat.Coprime.dvd_of_dvd_mul_left (Nat.Coprime.symm (cop ha)) h

/- binomials -/
def ch : Nat → Nat → Nat
  | _, 0 => 1
  | 0, _ + 1 => 0
  | n + 1, k + 1 => ch n k + ch n (k + 1)

theorem ch_zero (n : Nat) : ch n 0 = 1 := by cases n <;> rfl
theorem ch_succ (n k : Nat) : ch (n + 1) (k + 1) = ch n k + ch n (k + 1) := rfl
theorem ch_big : ∀ (n k : Nat), n < k → ch n k = 0 := by
  intro n
  induction n with
  | zero => intro k h; cases k with
    | zero => omega
    | succ k => rfl
  | succ n ih => intro k h; cases k with
    | zero => omega
    | succ k => rw [ch_succ, ih k (by omega), ih (k + 1) (by omega)]
theorem ch_self (n : Nat) : ch n n = 1 := by
  induction n with
  | zero => rfl
  | succ n ih => rw [ch_succ, ih, ch_big n (n + 1) (by omega)]
theorem ch_up : ∀ (n k : Nat), (k + 1) * ch (n + 1) (k + 1) = (n + 1) * ch n k := by
  intro n
  induction n with
  | zero => intro k; cases k with
    | zero => rfl
    | succ k => rw [ch_succ, ch_big 0 (k + 1) (by omega), ch_big 0 (k + 2) (by omega)]; simp
  | succ n ih =>
    intro k
    cases k with
    | zero =>
      have := ih 0
      rw [ch_succ, ch_zero]
      rw [ch_zero] at this
      simp at this ⊢
      rw [this]; omega
    | succ k =>
      have h1 := ih k
      have h2 := ih (k + 1)
      rw [ch_succ (n + 1) (k + 1), Nat.mul_add, h2, Nat.add_mul (k + 1) 1, h1, ch_succ n k]
      rw [Nat.add_mul (n + 1) 1, Nat.mul_add (n + 1)]
      omega

def bs (n a : Nat) : Nat → Nat
  | 0 => 0
  | m + 1 => bs n a m + ch n m * a ^ m

theorem bs_succ (n a m : Nat) : bs (n + 1) a (m + 1) = bs n a (m + 1) + a * bs n a m := by
  induction m with
  | zero => simp [bs, ch_zero]
  | succ m ih =>
    rw [bs, ih]
    conv => rhs; rw [bs]
    rw [show bs n a (m + 1) = bs n a m + ch n m * a ^ m from rfl, ch_succ, Nat.add_mul, Nat.mul_add]
    have : a * (ch n m * a ^ m) = ch n m * a ^ (m + 1) := by
      rw [Nat.pow_succ]; simp [Nat.mul_comm, Nat.mul_left_comm]
    omega

theorem binom (n a : Nat) : (a + 1) ^ n = bs n a (n + 1) := by
  induction n with
  | zero => simp [bs, ch_zero]
  | succ n ih =>
    rw [bs_succ, Nat.pow_succ, ih, Nat.mul_add, Nat.mul_one]
    rw [show bs n a (n + 1 + 1) = bs n a (n + 1) + ch n (n + 1) * a ^ (n + 1) from rfl, ch_big n (n + 1) (by omega)]
    rw [Nat.mul_comm a]; omega

theorem ch_P {k : Nat} (h0 : 0 < k) (h1 : k < P) : P ∣ ch P k := by
  obtain ⟨j, rfl⟩ : ∃ j, k = j + 1 := ⟨k - 1, by omega⟩
  have hu : (j + 1) * ch P (j + 1) = P * ch (P - 1) j := by
    have := ch_up (P - 1) j
    have e : P - 1 + 1 = P := rfl
    rw [e] at this; exact this
  refine dvd_mul (a := j + 1) ⟨_, hu⟩ ?_
  rw [Nat.mod_eq_of_lt h1]; omega

theorem bs_P (a : Nat) : ∀ m, m + 1 ≤ P → bs P a (m + 1) % P = 1 := by
  intro m
  induction m with
  | zero => intro _; simp [bs, ch_zero]; rfl
  | succ m ih =>
    intro h
    rw [bs, Nat.add_mod, ih (by omega)]
    obtain ⟨c, hc⟩ := ch_P (k := m + 1) (by omega) (by omega)
    rw [hc, Nat.mul_assoc, Nat.mul_mod_right]; rfl

theorem fermat (a : Nat) : a ^ P % P = a % P := by
  induction a with
  | zero =>
    have : (0 : Nat) ^ P = 0 := Nat.zero_pow (by unfold P; omega)
    rw [this]
  | succ a ih =>
    rw [binom, bs, ch_self, Nat.one_mul, Nat.add_mod]
    have : bs P a P % P = 1 := bs_P a (P - 1) (Nat.le_refl _)
    rw [this, ih, Nat.add_comm 1, Nat.add_mod a 1]
    rfl

theorem fermat1 {a : Nat} (h : ¬ a % P = 0) : a ^ (P - 1) % P = 1 := by
  have hf := fermat a
  have e : a ^ P = a * a ^ (P - 1) := by
    have : P = (P - 1) + 1 := rfl
    conv => lhs; rw [this]
    rw [Nat.pow_succ, Nat.mul_comm]
  have hpos : 0 < a ^ (P - 1) := Nat.pow_pos (Nat.pos_of_ne_zero (by intro h0; subst h0; exact h (Nat.zero_mod P)))
  rw [e] at hf
  have hd : P ∣ a * (a ^ (P - 1) - 1) := by
    rw [Nat.mul_sub, Nat.mul_one]
    have : a ≤ a * a ^ (P - 1) := Nat.le_mul_of_pos_right a hpos
    exact Nat.dvd_of_mod_eq_zero (Nat.sub_mod_eq_zero_of_mod_eq hf)
  have := dvd_mul hd h
  obtain ⟨c, hc⟩ := this
  have e2 : a ^ (P - 1) = 1 + P * c := by omega
  rw [e2, Nat.add_mul_mod_self_left]; rfl

/-! ### Numbers by P, as integers -/
def nm (a : Int) : Int := a % 2147483647

theorem nm_bd (a : Int) : 0 ≤ nm a ∧ nm a ≤ 2147483646 := by unfold nm; omega
theorem nm_small {a : Int} (h0 : 0 ≤ a) (h1 : a ≤ 2147483646) : nm a = a := by unfold nm; omega
theorem nm_nm (a : Int) : nm (nm a) = nm a := by unfold nm; omega
theorem nm_addl (a b : Int) : nm (nm a + b) = nm (a + b) := by unfold nm; omega
theorem nm_addr (a b : Int) : nm (a + nm b) = nm (a + b) := by unfold nm; omega
theorem nm_subl (a b : Int) : nm (nm a - b) = nm (a - b) := by unfold nm; omega
theorem nm_subr (a b : Int) : nm (a - nm b) = nm (a - b) := by unfold nm; omega
theorem nm_mull (a b : Int) : nm (nm a * b) = nm (a * b) := by unfold nm; rw [Int.mul_emod, Int.emod_emod_of_dvd _ (Int.dvd_refl _), ← Int.mul_emod]
theorem nm_mulr (a b : Int) : nm (a * nm b) = nm (a * b) := by rw [Int.mul_comm, nm_mull, Int.mul_comm]
theorem nm_mul_congr {a b c d : Int} (h : nm a = nm c) (g : nm b = nm d) : nm (a * b) = nm (c * d) := by
  rw [← nm_mull a b, ← nm_mulr (nm a) b, h, g, nm_mulr, nm_mull]
theorem nm_add_congr {a b c d : Int} (h : nm a = nm c) (g : nm b = nm d) : nm (a + b) = nm (c + d) := by
  rw [← nm_addl a b, ← nm_addr (nm a) b, h, g, nm_addr, nm_addl]
theorem nm_sub_congr {a b c d : Int} (h : nm a = nm c) (g : nm b = nm d) : nm (a - b) = nm (c - d) := by
  rw [← nm_subl a b, ← nm_subr (nm a) b, h, g, nm_subr, nm_subl]
theorem nm_eq_iff {a b : Int} : nm a = nm b ↔ nm (a - b) = 0 := by unfold nm; omega
theorem nm_pow (a : Int) (n : Nat) : nm (nm a ^ n) = nm (a ^ n) := by
  induction n with
  | zero => rw [Int.pow_zero, Int.pow_zero]
  | succ n ih => rw [Int.pow_succ, Int.pow_succ]; exact nm_mul_congr ih (nm_nm a)

/- a power, behind a name -/
def pw (a : Int) (n : Nat) : Int := nm (a ^ n)
theorem pw_bd (a : Int) (n : Nat) : 0 ≤ pw a n ∧ pw a n ≤ 2147483646 := nm_bd _
theorem pw_zero (a : Int) : pw a 0 = 1 := by unfold pw; rw [Int.pow_zero]; rfl
theorem pw_succ (a : Int) (n : Nat) : pw a (n + 1) = nm (pw a n * a) := by
  unfold pw; rw [Int.pow_succ, nm_mull]
theorem pw_add (a : Int) (m n : Nat) : pw a (m + n) = nm (pw a m * pw a n) := by
  unfold pw; rw [Int.pow_add, nm_mull, nm_mulr]
theorem pw_nm (a : Int) (n : Nat) : pw (nm a) n = pw a n := nm_pow a n
theorem pw_one (a : Int) : pw a 1 = nm a := by unfold pw; rw [Int.pow_succ, Int.pow_zero, Int.one_mul]

theorem nm_nat (a : Nat) : nm (a : Int) = ((a % P : Nat) : Int) := by unfold nm P; omega
theorem pw_nat (a n : Nat) : pw (a : Int) n = ((a ^ n % P : Nat) : Int) := by
  unfold pw; rw [← nm_nat, Int.natCast_pow]

theorem fermat_pw1 {a : Int} (h : nm a ≠ 0) : pw a 2147483646 = 1 := by
  obtain ⟨k, hk⟩ := Int.eq_ofNat_of_zero_le (nm_bd a).1
  have h2 : ¬ k % P = 0 := by
    intro h3
    apply h
    rw [← nm_nm, hk, nm_nat, h3]; rfl
  have h4 := fermat1 h2
  rw [show P - 1 = 2147483646 from rfl] at h4
  rw [← pw_nm, hk, pw_nat, h4]; rfl

/- the inverse -/
def iv (a : Int) : Int := pw a 2147483645
theorem iv_bd (a : Int) : 0 ≤ iv a ∧ iv a ≤ 2147483646 := pw_bd _ _
theorem iv_mul {a : Int} (h : nm a ≠ 0) : nm (iv a * a) = 1 := by
  have := pw_succ a 2147483645
  have e : 2147483645 + 1 = 2147483646 := rfl
  rw [e, fermat_pw1 h] at this
  exact this.symm
theorem mul_iv {a : Int} (h : nm a ≠ 0) : nm (a * iv a) = 1 := by rw [Int.mul_comm]; exact iv_mul h

theorem nm_mul_zero {a b : Int} (h : nm (a * b) = 0) (ha : nm a ≠ 0) : nm b = 0 := by
  have h1 : nm (iv a * (a * b)) = 0 := by rw [← nm_mulr, h]; simp [nm]
  rw [← Int.mul_assoc, ← nm_mull, iv_mul ha, Int.one_mul] at h1
  exact h1
theorem nm_cancel {a b c : Int} (h : nm (a * b) = nm (a * c)) (ha : nm a ≠ 0) : nm b = nm c := by
  rw [nm_eq_iff] at h ⊢
  rw [← Int.mul_sub] at h
  exact nm_mul_zero h ha
theorem iv_unique {a x : Int} (h : nm (x * a) = 1) (h0 : 0 ≤ x) (h1 : x ≤ 2147483646) : x = iv a := by
  have ha : nm a ≠ 0 := by
    intro h2
    rw [← nm_mulr, h2, Int.mul_zero] at h
    simp [nm] at h
  have hb := iv_bd a
  have : nm x = nm (iv a) := by
    refine nm_cancel (a := a) ?_ ha
    rw [Int.mul_comm, h, Int.mul_comm, iv_mul ha]
  rwa [nm_small h0 h1, nm_small hb.1 hb.2] at this

/- products bit by bit -/
theorem half (y : Int) (k : Nat) : y / 2 ^ k = 2 * (y / 2 ^ (k + 1)) + (y / 2 ^ k) % 2 := by
  rw [Int.pow_succ, ← Int.ediv_ediv_of_nonneg (Int.le_of_lt (Int.pow_pos (by omega)))]; omega
theorem mul_bit1 (a y : Int) (k : Nat) (h : (y / 2 ^ k) % 2 = 1) (o : Int) (ho : o = nm (a * (y / 2 ^ (k + 1)))) :
    nm (nm (o + o) + a) = nm (a * (y / 2 ^ k)) := by
  rw [nm_addl, half y k, h, ho, Int.mul_add, Int.mul_one, ← Int.mul_assoc, Int.mul_comm a 2, Int.mul_assoc]
  refine nm_add_congr ?_ rfl
  rw [nm_addl, nm_addr]; congr 1; omega
theorem mul_bit0 (a y : Int) (k : Nat) (h : (y / 2 ^ k) % 2 = 0) (o : Int) (ho : o = nm (a * (y / 2 ^ (k + 1)))) :
    nm (o + o) = nm (a * (y / 2 ^ k)) := by
  rw [half y k, h, ho, Int.add_zero, ← Int.mul_assoc, Int.mul_comm a 2, Int.mul_assoc]
  rw [nm_addl, nm_addr]; congr 1; omega

/- powers bit by bit, from the highest -/
theorem sq_pw (s : Int) (m : Nat) : pw (nm (s * s)) m = pw s (2 * m) := by
  rw [pw_nm]
  induction m with
  | zero => rw [Nat.mul_zero, pw_zero, pw_zero]
  | succ m ih =>
    rw [pw_succ, ih, Nat.mul_succ, pw_add s (2 * m) 2]
    have : pw s 2 = nm (s * s) := by rw [pw_succ, pw_one, nm_mull]
    rw [this, nm_mulr]
theorem low1 (p s : Int) (n : Nat) (h : n % 2 = 1) : nm (nm (p * s) * pw (nm (s * s)) (n / 2)) = nm (p * pw s n) := by
  rw [sq_pw, nm_mull]
  have e : n = 2 * (n / 2) + 1 := by omega
  conv => rhs; rw [e]
  rw [pw_succ, nm_mulr, Int.mul_assoc, Int.mul_comm s]
theorem low0 (p s : Int) (n : Nat) (h : n % 2 = 0) : nm (p * pw (nm (s * s)) (n / 2)) = nm (p * pw s n) := by
  rw [sq_pw]
  have e : 2 * (n / 2) = n := by omega
  rw [e]

/- EUCLID -/
theorem eu_step {a r n x t q : Int} (h1 : nm (x * a) = nm r) (h2 : nm (t * a) = nm n) :
    nm (nm (x - q * t) * a) = nm (r - q * n) := by
  rw [nm_mull, Int.sub_mul]
  refine nm_sub_congr h1 ?_
  rw [Int.mul_assoc]
  exact nm_mul_congr rfl h2
theorem eu_gcd {r n : Int} (hr : 0 ≤ r) (hn : 0 < n) (h : Nat.gcd r.toNat n.toNat = 1) : Nat.gcd n.toNat (r - r / n * n).toNat = 1 := by
  obtain ⟨R, rfl⟩ := Int.eq_ofNat_of_zero_le hr
  obtain ⟨N, rfl⟩ := Int.eq_ofNat_of_zero_le (Int.le_of_lt hn)
  have e : ((R : Int) - R / N * N).toNat = R % N := by
    have h1 : (R : Int) % N = R - R / N * N := by rw [Int.mul_comm]; exact Int.emod_def ..
    rw [← h1]; exact Int.toNat_natCast (R % N)
  rw [e]
  simp only [Int.toNat_natCast] at h ⊢
  rw [Nat.gcd_comm, ← Nat.gcd_rec, Nat.gcd_comm]; exact h
theorem eu_bd {r n : Int} (hr : 0 ≤ r) (hn : 0 < n) : 0 ≤ r / n ∧ r / n ≤ r ∧ 0 ≤ r / n * n ∧ r / n * n ≤ r ∧ r - r / n * n < n ∧ 0 ≤ r - r / n * n := by
  have h1 := Int.emod_def r n
  have h2 := Int.emod_lt_of_pos r hn
  have h3 := Int.emod_nonneg r (Int.ne_of_gt hn)
  have h4 := Int.ediv_nonneg hr (Int.le_of_lt hn)
  have h5 := Int.ediv_le_self n hr
  have h6 := Int.mul_nonneg h4 (Int.le_of_lt hn)
  rw [Int.mul_comm] at h1
  omega
theorem cop_int {a : Int} (h : nm a ≠ 0) : Nat.gcd (2147483647 : Int).toNat (nm a).toNat = 1 := by
  obtain ⟨k, hk⟩ := Int.eq_ofNat_of_zero_le (nm_bd a).1
  rw [hk, Int.toNat_natCast, Nat.gcd_comm]
  have h3 := (nm_bd a).2
  refine cop (a := k) ?_
  rw [Nat.mod_eq_of_lt (by unfold P; omega)]
  omega
theorem eu_end {a r x : Int} (h : Nat.gcd r.toNat (0 : Int).toNat = 1) (hr : 0 ≤ r) (h1 : nm (x * a) = nm r) (h0 : 0 ≤ x) (h2 : x ≤ 2147483646) : x = iv a := by
  have : r = 1 := by
    rw [show (0 : Int).toNat = 0 from rfl, Nat.gcd_zero_right] at h
    omega
  subst this
  exact iv_unique (by rw [h1]; rfl) h0 h2
theorem getD_set (L : List Int) (i j : Nat) (v : Int) : (L.set i v).getD j 0 = if i = j ∧ j < L.length then v else L.getD j 0 := by
  simp only [List.getD_eq_getElem?_getD, List.getElem?_set]
  by_cases h : i = j
  · subst h
    by_cases hl : i < L.length
    · simp [hl]
    · simp [hl]
  · simp [h]
theorem getD_big {xs : List Int} {t : Nat} (h : xs.length ≤ t) : xs.getD t 0 = 0 := by
  rw [List.getD_eq_getElem?_getD, List.getElem?_eq_none h]; rfl
theorem getD_mem {xs : List Int} {t : Nat} (h : t < xs.length) : xs.getD t 0 ∈ xs := by
  rw [List.getD_eq_getElem?_getD, List.getElem?_eq_getElem h]; exact List.getElem_mem h
theorem bd_u64 {xs : List Int} (h : ∀ x ∈ xs, 0 ≤ x ∧ x ≤ 2147483646) : ∀ x ∈ xs, 0 ≤ x ∧ x ≤ 18446744073709551615 := fun x hx => by have := h x hx; omega
theorem getD_bd' {xs : List Int} (h : ∀ x ∈ xs, 0 ≤ x ∧ x ≤ 2147483646) (t : Nat) : 0 ≤ xs.getD t 0 ∧ xs.getD t 0 ≤ 2147483646 := by
  by_cases ht : t < xs.length
  · exact h _ (getD_mem ht)
  · rw [getD_big (by omega)]; omega
def sm (f : Nat → Int) : Nat → Int
  | 0 => 0
  | n + 1 => sm f n + f n
theorem sm_ncongr {f g : Nat → Int} : ∀ {n : Nat}, (∀ j, j < n → nm (f j) = nm (g j)) → nm (sm f n) = nm (sm g n)
  | 0, _ => rfl
  | n + 1, h => nm_add_congr (sm_ncongr fun j hj => h j (by omega)) (h n (by omega))
theorem sm_add (f g : Nat → Int) : ∀ n, sm (fun j => f j + g j) n = sm f n + sm g n
  | 0 => rfl
  | n + 1 => by rw [sm, sm, sm, sm_add f g n]; omega
theorem sm_mul (c : Int) (f : Nat → Int) : ∀ n, sm (fun j => c * f j) n = c * sm f n
  | 0 => by rw [sm, sm, Int.mul_zero]
  | n + 1 => by rw [sm, sm, sm_mul c f n, Int.mul_add]
theorem sm_zero {f : Nat → Int} {n : Nat} (h : ∀ j, j < n → nm (f j) = 0) : nm (sm f n) = 0 := by
  have : ∀ n, sm (fun _ => 0) n = 0 := fun n => by induction n with | zero => rfl | succ n ih => rw [sm, ih]; rfl
  rw [sm_ncongr (g := fun _ => 0) (fun j hj => h j hj), this]; rfl
theorem sm_cut {f : Nat → Int} {m : Nat} : ∀ {n : Nat}, m ≤ n → (∀ j, m ≤ j → j < n → nm (f j) = 0) → nm (sm f n) = nm (sm f m)
  | 0, hm, _ => by rw [Nat.le_zero.1 hm]
  | n + 1, hm, h => by
    by_cases e : m = n + 1
    · rw [e]
    · rw [sm, nm_add_congr (c := sm f m) (d := 0) (sm_cut (by omega) fun j h1 h2 => h j h1 (by omega)) (h n (by omega) (by omega)), Int.add_zero]
theorem sm_swap (F : Nat → Nat → Int) (n : Nat) : ∀ m, sm (fun j => sm (fun k => F k j) m) n = sm (fun k => sm (fun j => F k j) n) m
  | 0 => by
    have : ∀ n, sm (fun _ => 0) n = 0 := fun n => by induction n with | zero => rfl | succ n ih => rw [sm, ih]; rfl
    exact this n
  | m + 1 => by
    show sm (fun j => sm (fun k => F k j) m + F m j) n = sm (fun k => sm (fun j => F k j) n) m + sm (fun j => F m j) n
    rw [sm_add, sm_swap F n m]

/-- f, number by number times the columns, is nought in each row. -/
def NS (M : Nat → Nat → Int) (r w : Nat) (f : Nat → Int) : Prop := ∀ i, i < r → nm (sm (fun j => f j * M i j) w) = 0
/-- Column c is a sum of columns ahead of it, each times some number. -/
def dep (M : Nat → Nat → Int) (r c : Nat) : Prop := ∃ f : Nat → Int, ∀ i, i < r → nm (sm (fun j => f j * M i j) c) = nm (M i c)

theorem dep_of_ns {M : Nat → Nat → Int} {r w c : Nat} {f : Nat → Int} (h : NS M r w f) (hc : c < w) (h0 : nm (f c) ≠ 0) (hz : ∀ j, c < j → j < w → nm (f j) = 0) : dep M r c := by
  refine ⟨fun j => -(iv (f c)) * f j, fun i hi => ?_⟩
  have h1 := h i hi
  rw [sm_cut (m := c + 1) (by omega) (fun j h1 h2 => by rw [nm_mul_congr (c := 0) (hz j (by omega) h2) rfl, Int.zero_mul]; rfl), sm] at h1
  have e : nm (sm (fun j => -(iv (f c)) * f j * M i j) c) = nm (-(iv (f c)) * sm (fun j => f j * M i j) c) := by
    rw [← sm_mul]
    exact sm_ncongr fun j _ => by rw [Int.mul_assoc]
  rw [e]
  generalize sm (fun j => f j * M i j) c = S at *
  have h2 : nm S = nm (-(f c * M i c)) := by unfold nm at *; omega
  rw [nm_mul_congr rfl h2, Int.neg_mul_neg, ← Int.mul_assoc, ← nm_mull, iv_mul h0, Int.one_mul]
theorem ns_of_dep {M : Nat → Nat → Int} {r w c : Nat} (h : dep M r c) (hc : c < w) : ∃ f, NS M r w f ∧ nm (f c) ≠ 0 ∧ ∀ j, c < j → j < w → nm (f j) = 0 := by
  obtain ⟨f, hf⟩ := h
  refine ⟨fun j => if j < c then f j else if j = c then -1 else 0, fun i hi => ?_, ?_, fun j h1 h2 => ?_⟩
  · rw [sm_cut (m := c + 1) (by omega) (fun j h1 h2 => by
      show nm ((if j < c then f j else if j = c then -1 else 0) * M i j) = 0
      rw [if_neg (by omega), if_neg (by omega), Int.zero_mul]; rfl), sm]
    have e : nm (sm (fun j => (if j < c then f j else if j = c then -1 else 0) * M i j) c) = nm (M i c) := by
      rw [← hf i hi]
      exact sm_ncongr fun j hj => by rw [if_pos hj]
    have e2 : (if c < c then f c else if c = c then (-1 : Int) else 0) = -1 := by rw [if_neg (by omega), if_pos rfl]
    show nm (sm (fun j => (if j < c then f j else if j = c then -1 else 0) * M i j) c + (if c < c then f c else if c = c then (-1 : Int) else 0) * M i c) = 0
    rw [e2, nm_add_congr (c := M i c) (d := -1 * M i c) e rfl, Int.neg_one_mul, Int.add_right_neg]; rfl
  · show nm (if c < c then f c else if c = c then (-1 : Int) else 0) ≠ 0
    rw [if_neg (by omega), if_pos rfl]; decide
  · show nm (if j < c then f j else if j = c then (-1 : Int) else 0) = 0
    rw [if_neg (by omega), if_neg (by omega)]; rfl
/-- Which columns are sums hangs on what is nought alone. -/
theorem dep_congr {M A : Nat → Nat → Int} {r s w : Nat} (h : ∀ f, NS M r w f ↔ NS A s w f) {c : Nat} (hc : c < w) : dep M r c ↔ dep A s c := by
  constructor
  · intro hd
    obtain ⟨f, h1, h2, h3⟩ := ns_of_dep hd hc
    exact dep_of_ns ((h f).1 h1) hc h2 h3
  · intro hd
    obtain ⟨f, h1, h2, h3⟩ := ns_of_dep hd hc
    exact dep_of_ns ((h f).2 h1) hc h2 h3
/-- Number i of the k-th list. -/
def bk (B : List (List Int)) (k i : Nat) : Int := (B.getD k []).getD i 0
theorem bk_old {B : List (List Int)} {b : List Int} {k : Nat} (h : k < B.length) (i : Nat) : bk (B ++ [b]) k i = bk B k i := by
  unfold bk; simp [List.getElem?_append_left h]
theorem bk_new (B : List (List Int)) (b : List Int) (i : Nat) : bk (B ++ [b]) B.length i = b.getD i 0 := by
  unfold bk; simp

/-- Where the document's way stands ahead of column c. -/
structure LeI (M : Nat → Nat → Int) (r c : Nat) (B : List (List Int)) (at_ L : List Nat) : Prop where
  la : at_.length = B.length
  ll : L.length = B.length
  lb : ∀ k, k < B.length → (B.getD k []).length = r
  ab : ∀ k, k < B.length → at_.getD k 0 < r
  one : ∀ k, k < B.length → nm (bk B k (at_.getD k 0)) = 1
  later : ∀ k q, k < q → q < B.length → nm (bk B q (at_.getD k 0)) = 0
  ins : ∀ k, k < B.length → ∃ f : Nat → Int, ∀ i, i < r → nm (sm (fun j => f j * M i j) c) = nm (bk B k i)
  spans : ∀ j, j < c → ∃ a : Nat → Int, ∀ i, i < r → nm (sm (fun k => a k * bk B k i) B.length) = nm (M i j)
  lead : ∀ j, j < c → (j ∈ L ↔ ¬ dep M r j)
  lt : ∀ j ∈ L, j < c
  up : L.Pairwise (· < ·)

theorem le_start (M : Nat → Nat → Int) (r : Nat) : LeI M r 0 [] [] [] :=
  ⟨rfl, rfl, fun k hk => by simp at hk, fun k hk => by simp at hk, fun k hk => by simp at hk, fun k q _ hq => by simp at hq, fun k hk => by simp at hk, fun j hj => by omega, fun j hj => by omega, fun j hj => by simp at hj, List.Pairwise.nil⟩

/-- The column, cleared by the first k lists. -/
structure ClI (M : Nat → Nat → Int) (r c : Nat) (B : List (List Int)) (at_ : List Nat) (k : Nat) (C : Nat → Int) : Prop where
  eq : ∃ a : Nat → Int, ∀ i, i < r → nm (C i + sm (fun q => a q * bk B q i) k) = nm (M i c)
  z : ∀ q, q < k → nm (C (at_.getD q 0)) = 0
theorem cl_start (M : Nat → Nat → Int) (r c : Nat) (B : List (List Int)) (at_ : List Nat) {C : Nat → Int} (h : ∀ i, i < r → nm (C i) = nm (M i c)) : ClI M r c B at_ 0 C :=
  ⟨⟨fun _ => 0, fun i hi => by rw [sm, Int.add_zero]; exact h i hi⟩, fun q hq => by omega⟩
theorem cl_step {M : Nat → Nat → Int} {r c : Nat} {B : List (List Int)} {at_ L : List Nat} {k : Nat} {C D : Nat → Int} {m : Int} (hl : LeI M r c B at_ L) (h : ClI M r c B at_ k C) (hk : k < B.length)
    (hm : m = nm (-(C (at_.getD k 0)))) (hD : ∀ i, i < r → nm (D i) = nm (C i + m * bk B k i)) : ClI M r c B at_ (k + 1) D := by
  obtain ⟨a, ha⟩ := h.eq
  refine ⟨⟨fun q => if q = k then -m else a q, fun i hi => ?_⟩, fun q hq => ?_⟩
  · rw [← ha i hi, sm]
    show nm (D i + (sm (fun q => (if q = k then -m else a q) * bk B q i) k + (if k = k then -m else a k) * bk B k i)) = _
    rw [if_pos rfl]
    have e : nm (sm (fun q => (if q = k then -m else a q) * bk B q i) k) = nm (sm (fun q => a q * bk B q i) k) := sm_ncongr fun q hq => by rw [if_neg (by omega)]
    rw [nm_add_congr (hD i hi) (nm_add_congr e rfl), Int.neg_mul]
    congr 1; omega
  · have hr := hl.ab q (by omega)
    rw [hD _ hr]
    by_cases e : q = k
    · subst e
      rw [nm_add_congr (c := C (at_.getD q 0)) (d := m * 1) rfl (nm_mul_congr rfl (by rw [hl.one q hk]; rfl)), Int.mul_one, hm, nm_addr, Int.add_right_neg]; rfl
    · rw [nm_add_congr (c := 0) (d := m * 0) (h.z q (by omega)) (nm_mul_congr rfl (hl.later q k (by omega) hk)), Int.mul_zero]; rfl

/-- Sums of sums of columns are sums of columns. -/
theorem ins_sum {M : Nat → Nat → Int} {r c : Nat} {B : List (List Int)} (h : ∀ k, k < B.length → ∃ f : Nat → Int, ∀ i, i < r → nm (sm (fun j => f j * M i j) c) = nm (bk B k i)) (a : Nat → Int) :
    ∃ f : Nat → Int, ∀ i, i < r → nm (sm (fun j => f j * M i j) c) = nm (sm (fun k => a k * bk B k i) B.length) := by
  have hc : ∀ k, ∃ f : Nat → Int, k < B.length → ∀ i, i < r → nm (sm (fun j => f j * M i j) c) = nm (bk B k i) := fun k => by
    by_cases hk : k < B.length
    · obtain ⟨f, hf⟩ := h k hk; exact ⟨f, fun _ => hf⟩
    · exact ⟨fun _ => 0, fun h => absurd h hk⟩
  let F := fun k => Classical.choose (hc k)
  have hF := fun k => Classical.choose_spec (hc k)
  refine ⟨fun j => sm (fun k => a k * F k j) B.length, fun i hi => ?_⟩
  have e1 : nm (sm (fun j => sm (fun k => a k * F k j) B.length * M i j) c) = nm (sm (fun j => sm (fun k => a k * F k j * M i j) B.length) c) := sm_ncongr fun j _ => by
    rw [Int.mul_comm, ← sm_mul]
    exact sm_ncongr fun k _ => by rw [Int.mul_comm]
  rw [e1, sm_swap]
  refine sm_ncongr fun k hk => ?_
  have e2 : nm (sm (fun j => a k * F k j * M i j) c) = nm (a k * sm (fun j => F k j * M i j) c) := by
    rw [← sm_mul]
    exact sm_ncongr fun j _ => by rw [Int.mul_assoc]
  rw [e2]
  exact nm_mul_congr rfl (hF k hk i hi)
/-- A sum of the lists that is 0 at all their places is 0. -/
theorem at_zero {M : Nat → Nat → Int} {r c : Nat} {B : List (List Int)} {at_ L : List Nat} (hl : LeI M r c B at_ L) {a : Nat → Int}
    (h : ∀ q, q < B.length → nm (sm (fun k => a k * bk B k (at_.getD q 0)) B.length) = 0) : ∀ q, q < B.length → nm (a q) = 0 := by
  intro q
  induction q using Nat.strongRecOn with
  | ind q ih =>
    intro hq
    have h1 := h q hq
    rw [sm_cut (m := q + 1) (by omega) (fun k h1 h2 => by rw [nm_mul_congr (d := 0) rfl (hl.later q k (by omega) h2), Int.mul_zero]; rfl), sm,
      nm_add_congr (c := 0) (d := a q * 1) (sm_zero fun k hk => by rw [nm_mul_congr (c := 0) (ih k hk (by omega)) rfl, Int.zero_mul]; rfl) (nm_mul_congr rfl (by rw [hl.one q hq]; rfl)),
      Int.zero_add, Int.mul_one] at h1
    exact h1
/-- A column that is a sum of those ahead is cleared wholly. -/
theorem cl_dep {M : Nat → Nat → Int} {r c : Nat} {B : List (List Int)} {at_ L : List Nat} {C : Nat → Int} (hl : LeI M r c B at_ L) (h : ClI M r c B at_ B.length C) (hd : dep M r c) : ∀ i, i < r → nm (C i) = 0 := by
  obtain ⟨a, ha⟩ := h.eq
  obtain ⟨f, hf⟩ := hd
  have hc : ∀ j, ∃ b : Nat → Int, j < c → ∀ i, i < r → nm (sm (fun k => b k * bk B k i) B.length) = nm (M i j) := fun j => by
    by_cases hj : j < c
    · obtain ⟨b, hb⟩ := hl.spans j hj; exact ⟨b, fun _ => hb⟩
    · exact ⟨fun _ => 0, fun h => absurd h hj⟩
  let F := fun j => Classical.choose (hc j)
  have hF := fun j => Classical.choose_spec (hc j)
  have h1 : ∀ i, i < r → nm (C i) = nm (sm (fun k => (sm (fun j => f j * F j k) c - a k) * bk B k i) B.length) := fun i hi => by
    have e1 : nm (sm (fun j => f j * M i j) c) = nm (sm (fun k => sm (fun j => f j * F j k) c * bk B k i) B.length) := by
      have e2 : nm (sm (fun j => f j * M i j) c) = nm (sm (fun j => sm (fun k => f j * F j k * bk B k i) B.length) c) := sm_ncongr fun j hj => by
        rw [nm_mul_congr rfl (hF j hj i hi).symm, ← sm_mul]
        exact sm_ncongr fun k _ => by rw [Int.mul_assoc]
      rw [e2, sm_swap]
      exact sm_ncongr fun k _ => by
        rw [Int.mul_comm, ← sm_mul]
        exact sm_ncongr fun j _ => by rw [Int.mul_comm]
    have e3 : sm (fun k => (sm (fun j => f j * F j k) c - a k) * bk B k i) B.length = sm (fun k => sm (fun j => f j * F j k) c * bk B k i) B.length + (-1) * sm (fun k => a k * bk B k i) B.length := by
      rw [← sm_mul, ← sm_add]
      congr 1; funext k
      rw [Int.sub_mul, Int.neg_one_mul]; omega
    rw [e3]
    have h2 := ha i hi
    have h3 := hf i hi
    rw [e1] at h3
    generalize sm (fun k => sm (fun j => f j * F j k) c * bk B k i) B.length = X at *
    generalize sm (fun k => a k * bk B k i) B.length = Y at *
    unfold nm at *; omega
  have h2 := at_zero hl (a := fun k => sm (fun j => f j * F j k) c - a k) fun q hq => by
    rw [← h1 _ (hl.ab q hq)]; exact h.z q hq
  intro i hi
  rw [h1 i hi]
  exact sm_zero fun k hk => by rw [nm_mul_congr (c := 0) (h2 k hk) rfl, Int.zero_mul]; rfl
/-- A column that is cleared wholly is a sum of those ahead. -/
theorem dep_cl {M : Nat → Nat → Int} {r c : Nat} {B : List (List Int)} {at_ L : List Nat} {C : Nat → Int} (hl : LeI M r c B at_ L) (h : ClI M r c B at_ B.length C) (hz : ∀ i, i < r → nm (C i) = 0) : dep M r c := by
  obtain ⟨a, ha⟩ := h.eq
  obtain ⟨f, hf⟩ := ins_sum hl.ins a
  refine ⟨f, fun i hi => ?_⟩
  rw [hf i hi, ← ha i hi, nm_add_congr (c := 0) (hz i hi) rfl, Int.zero_add]
theorem getD_nat_old {l : List Nat} {b k : Nat} (h : k < l.length) : (l ++ [b]).getD k 0 = l.getD k 0 := by simp [List.getElem?_append_left h]
theorem getD_nat_new (l : List Nat) (b : Nat) : (l ++ [b]).getD l.length 0 = b := by simp
theorem getD_list_old {l : List (List Int)} {b : List Int} {k : Nat} (h : k < l.length) : (l ++ [b]).getD k [] = l.getD k [] := by simp [List.getElem?_append_left h]
theorem getD_list_new (l : List (List Int)) (b : List Int) : (l ++ [b]).getD l.length [] = b := by simp
/-- The next column is a sum of those ahead: nothing is added. -/
theorem le_skip {M : Nat → Nat → Int} {r c : Nat} {B : List (List Int)} {at_ L : List Nat} {C : Nat → Int} (hl : LeI M r c B at_ L) (h : ClI M r c B at_ B.length C) (hz : ∀ i, i < r → nm (C i) = 0) : LeI M r (c + 1) B at_ L := by
  have hd := dep_cl hl h hz
  refine ⟨hl.la, hl.ll, hl.lb, hl.ab, hl.one, hl.later, fun k hk => ?_, fun j hj => ?_, fun j hj => ?_, fun j hj => ?_, hl.up⟩
  · obtain ⟨f, hf⟩ := hl.ins k hk
    refine ⟨fun j => if j < c then f j else 0, fun i hi => ?_⟩
    rw [sm]
    show nm (sm (fun j => (if j < c then f j else 0) * M i j) c + (if c < c then f c else 0) * M i c) = _
    rw [if_neg (by omega), Int.zero_mul, Int.add_zero, ← hf i hi]
    exact sm_ncongr fun j hj => by rw [if_pos hj]
  · by_cases e : j = c
    · subst e
      obtain ⟨a, ha⟩ := h.eq
      refine ⟨a, fun i hi => ?_⟩
      rw [← ha i hi, nm_add_congr (c := 0) (hz i hi) rfl, Int.zero_add]
    · exact hl.spans j (by omega)
  · by_cases e : j = c
    · subst e
      exact ⟨fun h => absurd (hl.lt j h) (by omega), fun h => absurd hd h⟩
    · exact hl.lead j (by omega)
  · have := hl.lt j hj; omega
/-- The next column leads: it is added, made 1 at its place. -/
theorem le_lead {M : Nat → Nat → Int} {r c : Nat} {B : List (List Int)} {at_ L : List Nat} {C : Nat → Int} {b : List Int} {p : Nat} (hl : LeI M r c B at_ L) (h : ClI M r c B at_ B.length C) (hp : p < r) (hC : nm (C p) ≠ 0)
    (hb : b.length = r) (hbi : ∀ i, i < r → nm (b.getD i 0) = nm (C i * iv (C p))) : LeI M r (c + 1) (B ++ [b]) (at_ ++ [p]) (L ++ [c]) := by
  have hnd : ¬ dep M r c := fun hd => hC (cl_dep hl h hd p hp)
  have hlen : (B ++ [b]).length = B.length + 1 := by simp
  obtain ⟨a, ha⟩ := h.eq
  refine ⟨by rw [List.length_append, List.length_append, hl.la]; rfl, by rw [List.length_append, List.length_append, hl.ll]; rfl, fun k hk => ?_, fun k hk => ?_, fun k hk => ?_, fun k q hkq hq => ?_, fun k hk => ?_, fun j hj => ?_, fun j hj => ?_, fun j hj => ?_, ?_⟩
  · rw [hlen] at hk
    by_cases e : k < B.length
    · rw [getD_list_old e]; exact hl.lb k e
    · rw [show k = B.length by omega, getD_list_new]; exact hb
  · rw [hlen] at hk
    by_cases e : k < B.length
    · rw [getD_nat_old (by rw [hl.la]; exact e)]; exact hl.ab k e
    · rw [show k = at_.length by rw [hl.la]; omega, getD_nat_new]; exact hp
  · rw [hlen] at hk
    by_cases e : k < B.length
    · rw [getD_nat_old (by rw [hl.la]; exact e), bk_old e]; exact hl.one k e
    · rw [show k = B.length by omega, bk_new, ← hl.la, getD_nat_new, hbi p hp, mul_iv hC]
  · rw [hlen] at hq
    have hk : k < B.length := by omega
    rw [getD_nat_old (by rw [hl.la]; exact hk)]
    by_cases e : q < B.length
    · rw [bk_old e]; exact hl.later k q hkq e
    · rw [show q = B.length by omega, bk_new, hbi _ (hl.ab k hk), nm_mul_congr (c := 0) (h.z k hk) rfl, Int.zero_mul]; rfl
  · rw [hlen] at hk
    by_cases e : k < B.length
    · obtain ⟨f, hf⟩ := hl.ins k e
      refine ⟨fun j => if j < c then f j else 0, fun i hi => ?_⟩
      rw [sm]
      show nm (sm (fun j => (if j < c then f j else 0) * M i j) c + (if c < c then f c else 0) * M i c) = _
      rw [if_neg (by omega), Int.zero_mul, Int.add_zero, bk_old e, ← hf i hi]
      exact sm_ncongr fun j hj => by rw [if_pos hj]
    · obtain ⟨f, hf⟩ := ins_sum hl.ins a
      refine ⟨fun j => if j < c then -(iv (C p)) * f j else iv (C p), fun i hi => ?_⟩
      rw [sm]
      show nm (sm (fun j => (if j < c then -(iv (C p)) * f j else iv (C p)) * M i j) c + (if c < c then -(iv (C p)) * f c else iv (C p)) * M i c) = _
      rw [if_neg (by omega), show k = B.length by omega, bk_new, hbi i hi]
      have e1 : nm (sm (fun j => (if j < c then -(iv (C p)) * f j else iv (C p)) * M i j) c) = nm (-(iv (C p)) * sm (fun k => a k * bk B k i) B.length) := by
        have e2 : nm (sm (fun j => (if j < c then -(iv (C p)) * f j else iv (C p)) * M i j) c) = nm (-(iv (C p)) * sm (fun j => f j * M i j) c) := by
          rw [← sm_mul]
          exact sm_ncongr fun j hj => by rw [if_pos hj, Int.mul_assoc]
        rw [e2]
        exact nm_mul_congr rfl (hf i hi)
      rw [nm_add_congr e1 (nm_mul_congr rfl (ha i hi).symm), Int.mul_add, Int.neg_mul, Int.mul_comm (C i)]
      congr 1; omega
  · by_cases e : j < c
    · obtain ⟨d, hd⟩ := hl.spans j e
      refine ⟨fun k => if k < B.length then d k else 0, fun i hi => ?_⟩
      rw [hlen, sm]
      show nm (sm (fun k => (if k < B.length then d k else 0) * bk (B ++ [b]) k i) B.length + (if B.length < B.length then d B.length else 0) * bk (B ++ [b]) B.length i) = _
      rw [if_neg (by omega), Int.zero_mul, Int.add_zero, ← hd i hi]
      exact sm_ncongr fun k hk => by rw [if_pos hk, bk_old hk]
    · refine ⟨fun k => if k < B.length then a k else C p, fun i hi => ?_⟩
      rw [hlen, sm]
      show nm (sm (fun k => (if k < B.length then a k else C p) * bk (B ++ [b]) k i) B.length + (if B.length < B.length then a B.length else C p) * bk (B ++ [b]) B.length i) = _
      rw [if_neg (by omega), bk_new, show j = c by omega, ← ha i hi, Int.add_comm (C i)]
      refine nm_add_congr (sm_ncongr fun k hk => by rw [if_pos hk, bk_old hk]) ?_
      rw [nm_mul_congr rfl (hbi i hi), Int.mul_comm (C i), ← Int.mul_assoc, ← nm_mull, mul_iv hC, Int.one_mul]
  · by_cases e : j < c
    · rw [List.mem_append, List.mem_singleton]
      have := hl.lead j e
      exact ⟨fun hh => this.1 (hh.resolve_right (by omega)), fun hh => .inl (this.2 hh)⟩
    · have e2 : j = c := by omega
      subst e2
      exact ⟨fun _ => hnd, fun _ => by simp⟩
  · rw [List.mem_append, List.mem_singleton] at hj
    rcases hj with hj | hj
    · have := hl.lt j hj; omega
    · omega
  · rw [List.pairwise_append]
    refine ⟨hl.up, by simp, fun x hx y hy => ?_⟩
    rw [List.mem_singleton] at hy
    have := hl.lt x hx
    omega

/-- Two lists that go up and hold the same are the same. -/
theorem up_ext : ∀ {l m : List Nat}, l.Pairwise (· < ·) → m.Pairwise (· < ·) → (∀ x, x ∈ l ↔ x ∈ m) → l = m
  | [], [], _, _, _ => rfl
  | [], b :: m, _, _, h => absurd ((h b).2 (List.mem_cons_self ..)) (by simp)
  | a :: l, [], _, _, h => absurd ((h a).1 (List.mem_cons_self ..)) (by simp)
  | a :: l, b :: m, hl, hm, h => by
    rw [List.pairwise_cons] at hl hm
    have hab : a = b := by
      have h1 := (h a).1 (List.mem_cons_self ..)
      have h2 := (h b).2 (List.mem_cons_self ..)
      rcases List.mem_cons.1 h1 with e | e
      · exact e
      · rcases List.mem_cons.1 h2 with e2 | e2
        · exact e2.symm
        · have := hm.1 a e
          have := hl.1 b e2
          omega
    subst hab
    refine congrArg _ (up_ext hl.2 hm.2 fun x => ?_)
    have := h x
    rw [List.mem_cons, List.mem_cons] at this
    constructor
    · intro hx
      rcases this.1 (.inr hx) with e | e
      · have := hl.1 x hx; omega
      · exact e
    · intro hx
      rcases this.2 (.inr hx) with e | e
      · have := hm.1 x hx; omega
      · exact e
end Crm
