/- Plain numbers: 2^31 - 1 is a prime, and FERMAT's law by it. · Lists of numbers as polynomials: noughts at the end, values, products number by number. Plain: nothing of the program. · Normal polynomials: one list a polynomial; products and sums number by number; division step by step. Plain. · GAUSS: columns that are sums of those ahead; what row steps keep; the document's way, column by column. Plain. · GAUSS by rows: what row steps keep; what the rows tell once they are reduced. Plain. -/
namespace Crm
set_option linter.unusedVariables false
set_option maxRecDepth 100000
set_option maxHeartbeats 8000000
def P : Nat := 2147483647

/- no number of 2^k from lo on divides P -/
def ck : Nat → Nat → Bool
  | 0, lo => !(2147483647 % lo == 0)
  | k + 1, lo => ck k lo && ck k (lo + 2 ^ k)

theorem ck_all : ∀ (k lo d : Nat), ck k lo = true → lo ≤ d → d < lo + 2 ^ k → ¬ 2147483647 % d = 0 := by
  intro k
  induction k with
  | zero =>
    intro lo d h h1 h2
    have e : d = lo := by simp at h2; omega
    subst e
    simpa [ck] using h
  | succ k ih =>
    intro lo d h h1 h2
    simp only [ck, Bool.and_eq_true] at h
    by_cases hd : d < lo + 2 ^ k
    · exact ih lo d h.1 h1 hd
    · refine ih (lo + 2 ^ k) d h.2 (by omega) ?_
      have : 2 ^ (k + 1) = 2 ^ k + 2 ^ k := by omega
      omega

theorem ck16 : ck 16 2 = true := by decide +kernel

theorem prime_dvd {d : Nat} (h : d ∣ P) : d = 1 ∨ d = P := by
  obtain ⟨e, he⟩ := h
  have hP : d * e = 2147483647 := he.symm
  by_cases h1 : d = 1
  · exact Or.inl h1
  by_cases h2 : e = 1
  · subst h2; right; simp at hP; exact hP
  exfalso
  have hd0 : d ≠ 0 := by intro h; subst h; simp at hP
  have he0 : e ≠ 0 := by intro h; subst h; simp at hP
  have key : ∀ x y : Nat, x * y = 2147483647 → 2 ≤ x → x < 65538 → False := by
    intro x y hxy hx hx2
    refine ck_all 16 2 x ck16 hx (by omega) ?_
    rw [← hxy]; exact Nat.mul_mod_right x y
  by_cases hd : d < 65538
  · exact key d e hP (by omega) hd
  · by_cases hee : e < 65538
    · exact key e d (by rw [Nat.mul_comm]; exact hP) (by omega) hee
    · have : 65538 * 65538 ≤ d * e := Nat.mul_le_mul (by omega) (by omega)
      omega

theorem cop {a : Nat} (h : ¬ a % P = 0) : Nat.Coprime a P := by
  have hd := Nat.gcd_dvd_right a P
  rcases prime_dvd hd with h1 | h1
  · exact h1
  · exfalso; apply h
    have := Nat.gcd_dvd_left a P
    rw [h1] at this
    exact Nat.mod_eq_zero_of_dvd this

theorem dvd_mul {a b : Nat} (h : P ∣ a * b) (ha : ¬ a % P = 0) : P ∣ b :=
  Nat.Coprime.dvd_of_dvd_mul_left (Nat.Coprime.symm (cop ha)) h

/- binomials -/
def ch : Nat → Nat → Nat
  | _, 0 => 1
  | 0, _ + 1 => 0
  | n + 1, k + 1 => ch n k + ch n (k + 1)

theorem ch_zero (n : Nat) : ch n 0 = 1 := by cases n <;> rfl
theorem ch_succ (n k : Nat) : ch (n + 1) (k + 1) = ch n k + ch n (k + 1) := rfl
theorem ch_big : ∀ (n k : Nat), n < k → ch n k = 0 := by
  intro n
  induction n with
  | zero => intro k h; cases k with
    | zero => omega
    | succ k => rfl
  | succ n ih => intro k h; cases k with
    | zero => omega
    | succ k => rw [ch_succ, ih k (by omega), ih (k + 1) (by omega)]
theorem ch_self (n : Nat) : ch n n = 1 := by
  induction n with
  | zero => rfl
  | succ n ih => rw [ch_succ, ih, ch_big n (n + 1) (by omega)]
theorem ch_up : ∀ (n k : Nat), (k + 1) * ch (n + 1) (k + 1) = (n + 1) * ch n k := by
  intro n
  induction n with
  | zero => intro k; cases k with
    | zero => rfl
    | succ k => rw [ch_succ, ch_big 0 (k + 1) (by omega), ch_big 0 (k + 2) (by omega)]; simp
  | succ n ih =>
    intro k
    cases k with
    | zero =>
      have := ih 0
      rw [ch_succ, ch_zero]
      rw [ch_zero] at this
      simp at this ⊢
      rw [this]; omega
    | succ k =>
      have h1 := ih k
      have h2 := ih (k + 1)
      rw [ch_succ (n + 1) (k + 1), Nat.mul_add, h2, Nat.add_mul (k + 1) 1, h1, ch_succ n k]
      rw [Nat.add_mul (n + 1) 1, Nat.mul_add (n + 1)]
      omega

def bs (n a : Nat) : Nat → Nat
  | 0 => 0
  | m + 1 => bs n a m + ch n m * a ^ m

theorem bs_succ (n a m : Nat) : bs (n + 1) a (m + 1) = bs n a (m + 1) + a * bs n a m := by
  induction m with
  | zero => simp [bs, ch_zero]
  | succ m ih =>
    rw [bs, ih]
    conv => rhs; rw [bs]
    rw [show bs n a (m + 1) = bs n a m + ch n m * a ^ m from rfl, ch_succ, Nat.add_mul, Nat.mul_add]
    have : a * (ch n m * a ^ m) = ch n m * a ^ (m + 1) := by
      rw [Nat.pow_succ]; simp [Nat.mul_comm, Nat.mul_left_comm]
    omega

theorem binom (n a : Nat) : (a + 1) ^ n = bs n a (n + 1) := by
  induction n with
  | zero => simp [bs, ch_zero]
  | succ n ih =>
    rw [bs_succ, Nat.pow_succ, ih, Nat.mul_add, Nat.mul_one]
    rw [show bs n a (n + 1 + 1) = bs n a (n + 1) + ch n (n + 1) * a ^ (n + 1) from rfl, ch_big n (n + 1) (by omega)]
    rw [Nat.mul_comm a]; omega

theorem ch_P {k : Nat} (h0 : 0 < k) (h1 : k < P) : P ∣ ch P k := by
  obtain ⟨j, rfl⟩ : ∃ j, k = j + 1 := ⟨k - 1, by omega⟩
  have hu : (j + 1) * ch P (j + 1) = P * ch (P - 1) j := by
    have := ch_up (P - 1) j
    have e : P - 1 + 1 = P := rfl
    rw [e] at this; exact this
  refine dvd_mul (a := j + 1) ⟨_, hu⟩ ?_
  rw [Nat.mod_eq_of_lt h1]; omega

theorem bs_P (a : Nat) : ∀ m, m + 1 ≤ P → bs P a (m + 1) % P = 1 := by
  intro m
  induction m with
  | zero => intro _; simp [bs, ch_zero]; rfl
  | succ m ih =>
    intro h
    rw [bs, Nat.add_mod, ih (by omega)]
    obtain ⟨c, hc⟩ := ch_P (k := m + 1) (by omega) (by omega)
    rw [hc, Nat.mul_assoc, Nat.mul_mod_right]; rfl

theorem fermat (a : Nat) : a ^ P % P = a % P := by
  induction a with
  | zero =>
    have : (0 : Nat) ^ P = 0 := Nat.zero_pow (by unfold P; omega)
    rw [this]
  | succ a ih =>
    rw [binom, bs, ch_self, Nat.one_mul, Nat.add_mod]
    have : bs P a P % P = 1 := bs_P a (P - 1) (Nat.le_refl _)
    rw [this, ih, Nat.add_comm 1, Nat.add_mod a 1]
    rfl

theorem fermat1 {a : Nat} (h : ¬ a % P = 0) : a ^ (P - 1) % P = 1 := by
  have hf := fermat a
  have e : a ^ P = a * a ^ (P - 1) := by
    have : P = (P - 1) + 1 := rfl
    conv => lhs; rw [this]
    rw [Nat.pow_succ, Nat.mul_comm]
  have hpos : 0 < a ^ (P - 1) := Nat.pow_pos (Nat.pos_of_ne_zero (by intro h0; subst h0; exact h (Nat.zero_mod P)))
  rw [e] at hf
  have hd : P ∣ a * (a ^ (P - 1) - 1) := by
    rw [Nat.mul_sub, Nat.mul_one]
    have : a ≤ a * a ^ (P - 1) := Nat.le_mul_of_pos_right a hpos
    exact Nat.dvd_of_mod_eq_zero (Nat.sub_mod_eq_zero_of_mod_eq hf)
  have := dvd_mul hd h
  obtain ⟨c, hc⟩ := this
  have e2 : a ^ (P - 1) = 1 + P * c := by omega
  rw [e2, Nat.add_mul_mod_self_left]; rfl

/-! ### Numbers by P, as integers -/
def nm (a : Int) : Int := a % 2147483647

theorem nm_bd (a : Int) : 0 ≤ nm a ∧ nm a ≤ 2147483646 := by unfold nm; omega
theorem nm_small {a : Int} (h0 : 0 ≤ a) (h1 : a ≤ 2147483646) : nm a = a := by unfold nm; omega
theorem nm_nm (a : Int) : nm (nm a) = nm a := by unfold nm; omega
theorem nm_addl (a b : Int) : nm (nm a + b) = nm (a + b) := by unfold nm; omega
theorem nm_addr (a b : Int) : nm (a + nm b) = nm (a + b) := by unfold nm; omega
theorem nm_subr (a b : Int) : nm (a - nm b) = nm (a - b) := by unfold nm; omega
theorem nm_mull (a b : Int) : nm (nm a * b) = nm (a * b) := by unfold nm; rw [Int.mul_emod, Int.emod_emod_of_dvd _ (Int.dvd_refl _), ← Int.mul_emod]
theorem nm_mulr (a b : Int) : nm (a * nm b) = nm (a * b) := by rw [Int.mul_comm, nm_mull, Int.mul_comm]
theorem nm_mul_congr {a b c d : Int} (h : nm a = nm c) (g : nm b = nm d) : nm (a * b) = nm (c * d) := by
  rw [← nm_mull a b, ← nm_mulr (nm a) b, h, g, nm_mulr, nm_mull]
theorem nm_add_congr {a b c d : Int} (h : nm a = nm c) (g : nm b = nm d) : nm (a + b) = nm (c + d) := by
  rw [← nm_addl a b, ← nm_addr (nm a) b, h, g, nm_addr, nm_addl]
theorem nm_pow (a : Int) (n : Nat) : nm (nm a ^ n) = nm (a ^ n) := by
  induction n with
  | zero => rw [Int.pow_zero, Int.pow_zero]
  | succ n ih => rw [Int.pow_succ, Int.pow_succ]; exact nm_mul_congr ih (nm_nm a)

/- a power, behind a name -/
def pw (a : Int) (n : Nat) : Int := nm (a ^ n)
theorem pw_bd (a : Int) (n : Nat) : 0 ≤ pw a n ∧ pw a n ≤ 2147483646 := nm_bd _
theorem pw_zero (a : Int) : pw a 0 = 1 := by unfold pw; rw [Int.pow_zero]; rfl
theorem pw_succ (a : Int) (n : Nat) : pw a (n + 1) = nm (pw a n * a) := by
  unfold pw; rw [Int.pow_succ, nm_mull]
theorem pw_add (a : Int) (m n : Nat) : pw a (m + n) = nm (pw a m * pw a n) := by
  unfold pw; rw [Int.pow_add, nm_mull, nm_mulr]
theorem pw_nm (a : Int) (n : Nat) : pw (nm a) n = pw a n := nm_pow a n
theorem pw_one (a : Int) : pw a 1 = nm a := by unfold pw; rw [Int.pow_succ, Int.pow_zero, Int.one_mul]

theorem nm_nat (a : Nat) : nm (a : Int) = ((a % P : Nat) : Int) := by unfold nm P; omega
theorem pw_nat (a n : Nat) : pw (a : Int) n = ((a ^ n % P : Nat) : Int) := by
  unfold pw; rw [← nm_nat, Int.natCast_pow]

theorem fermat_pw1 {a : Int} (h : nm a ≠ 0) : pw a 2147483646 = 1 := by
  obtain ⟨k, hk⟩ := Int.eq_ofNat_of_zero_le (nm_bd a).1
  have h2 : ¬ k % P = 0 := by
    intro h3
    apply h
    rw [← nm_nm, hk, nm_nat, h3]; rfl
  have h4 := fermat1 h2
  rw [show P - 1 = 2147483646 from rfl] at h4
  rw [← pw_nm, hk, pw_nat, h4]; rfl

/- the inverse -/
def iv (a : Int) : Int := pw a 2147483645
theorem iv_bd (a : Int) : 0 ≤ iv a ∧ iv a ≤ 2147483646 := pw_bd _ _
theorem iv_mul {a : Int} (h : nm a ≠ 0) : nm (iv a * a) = 1 := by
  have := pw_succ a 2147483645
  have e : 2147483645 + 1 = 2147483646 := rfl
  rw [e, fermat_pw1 h] at this
  exact this.symm
theorem mul_iv {a : Int} (h : nm a ≠ 0) : nm (a * iv a) = 1 := by rw [Int.mul_comm]; exact iv_mul h

theorem half (y : Int) (k : Nat) : y / 2 ^ k = 2 * (y / 2 ^ (k + 1)) + (y / 2 ^ k) % 2 := by
  rw [Int.pow_succ, ← Int.ediv_ediv_of_nonneg (Int.le_of_lt (Int.pow_pos (by omega)))]; omega
theorem mul_bit1 (a y : Int) (k : Nat) (h : (y / 2 ^ k) % 2 = 1) (o : Int) (ho : o = nm (a * (y / 2 ^ (k + 1)))) :
    nm (nm (o + o) + a) = nm (a * (y / 2 ^ k)) := by
  rw [nm_addl, half y k, h, ho, Int.mul_add, Int.mul_one, ← Int.mul_assoc, Int.mul_comm a 2, Int.mul_assoc]
  refine nm_add_congr ?_ rfl
  rw [nm_addl, nm_addr]; congr 1; omega
theorem mul_bit0 (a y : Int) (k : Nat) (h : (y / 2 ^ k) % 2 = 0) (o : Int) (ho : o = nm (a * (y / 2 ^ (k + 1)))) :
    nm (o + o) = nm (a * (y / 2 ^ k)) := by
  rw [half y k, h, ho, Int.add_zero, ← Int.mul_assoc, Int.mul_comm a 2, Int.mul_assoc]
  rw [nm_addl, nm_addr]; congr 1; omega

/- powers bit by bit, from the highest -/
theorem sq_pw (s : Int) (m : Nat) : pw (nm (s * s)) m = pw s (2 * m) := by
  rw [pw_nm]
  induction m with
  | zero => rw [Nat.mul_zero, pw_zero, pw_zero]
  | succ m ih =>
    rw [pw_succ, ih, Nat.mul_succ, pw_add s (2 * m) 2]
    have : pw s 2 = nm (s * s) := by rw [pw_succ, pw_one, nm_mull]
    rw [this, nm_mulr]
theorem low1 (p s : Int) (n : Nat) (h : n % 2 = 1) : nm (nm (p * s) * pw (nm (s * s)) (n / 2)) = nm (p * pw s n) := by
  rw [sq_pw, nm_mull]
  have e : n = 2 * (n / 2) + 1 := by omega
  conv => rhs; rw [e]
  rw [pw_succ, nm_mulr, Int.mul_assoc, Int.mul_comm s]
theorem low0 (p s : Int) (n : Nat) (h : n % 2 = 0) : nm (p * pw (nm (s * s)) (n / 2)) = nm (p * pw s n) := by
  rw [sq_pw]
  have e : 2 * (n / 2) = n := by omega
  rw [e]

/- EUCLID -/
def nz (xs : List Int) : List Int := xs.map nm
theorem nz_getD (xs : List Int) (i : Nat) : (nz xs).getD i 0 = nm (xs.getD i 0) := by
  unfold nz
  by_cases h : i < xs.length
  · simp [List.getElem?_eq_getElem h]
  · simp [List.getElem?_eq_none (show xs.length ≤ i by omega)]; rfl
theorem nz_len (xs : List Int) : (nz xs).length = xs.length := by simp [nz]
theorem nz_bd' (xs : List Int) : ∀ x ∈ nz xs, 0 ≤ x ∧ x ≤ 2147483646 := by
  intro x hx
  obtain ⟨y, _, rfl⟩ := List.mem_map.1 hx
  exact nm_bd y
theorem getD_set (L : List Int) (i j : Nat) (v : Int) : (L.set i v).getD j 0 = if i = j ∧ j < L.length then v else L.getD j 0 := by
  simp only [List.getD_eq_getElem?_getD, List.getElem?_set]
  by_cases h : i = j
  · subst h
    by_cases hl : i < L.length
    · simp [hl]
    · simp [hl]
  · simp [h]
theorem getD_big {xs : List Int} {t : Nat} (h : xs.length ≤ t) : xs.getD t 0 = 0 := by
  rw [List.getD_eq_getElem?_getD, List.getElem?_eq_none h]; rfl
theorem getD_some {xs : List Int} {t : Nat} (h : t < xs.length) : xs[t]? = some (xs.getD t 0) := by
  rw [List.getD_eq_getElem?_getD, List.getElem?_eq_getElem h]; rfl
theorem getD_mem {xs : List Int} {t : Nat} (h : t < xs.length) : xs.getD t 0 ∈ xs := by
  rw [List.getD_eq_getElem?_getD, List.getElem?_eq_getElem h]; exact List.getElem_mem h
theorem bd_u64 {xs : List Int} (h : ∀ x ∈ xs, 0 ≤ x ∧ x ≤ 2147483646) : ∀ x ∈ xs, 0 ≤ x ∧ x ≤ 18446744073709551615 := fun x hx => by have := h x hx; omega
theorem getD_bd' {xs : List Int} (h : ∀ x ∈ xs, 0 ≤ x ∧ x ≤ 2147483646) (t : Nat) : 0 ≤ xs.getD t 0 ∧ xs.getD t 0 ≤ 2147483646 := by
  by_cases ht : t < xs.length
  · exact h _ (getD_mem ht)
  · rw [getD_big (by omega)]; omega
def sm (f : Nat → Int) : Nat → Int
  | 0 => 0
  | n + 1 => sm f n + f n
theorem sm_ncongr {f g : Nat → Int} : ∀ {n : Nat}, (∀ j, j < n → nm (f j) = nm (g j)) → nm (sm f n) = nm (sm g n)
  | 0, _ => rfl
  | n + 1, h => nm_add_congr (sm_ncongr fun j hj => h j (by omega)) (h n (by omega))
theorem sm_add (f g : Nat → Int) : ∀ n, sm (fun j => f j + g j) n = sm f n + sm g n
  | 0 => rfl
  | n + 1 => by rw [sm, sm, sm, sm_add f g n]; omega
theorem sm_mul (c : Int) (f : Nat → Int) : ∀ n, sm (fun j => c * f j) n = c * sm f n
  | 0 => by rw [sm, sm, Int.mul_zero]
  | n + 1 => by rw [sm, sm, sm_mul c f n, Int.mul_add]
theorem sm_zero {f : Nat → Int} {n : Nat} (h : ∀ j, j < n → nm (f j) = 0) : nm (sm f n) = 0 := by
  have : ∀ n, sm (fun _ => 0) n = 0 := fun n => by induction n with | zero => rfl | succ n ih => rw [sm, ih]; rfl
  rw [sm_ncongr (g := fun _ => 0) (fun j hj => h j hj), this]; rfl
theorem sm_cut {f : Nat → Int} {m : Nat} : ∀ {n : Nat}, m ≤ n → (∀ j, m ≤ j → j < n → nm (f j) = 0) → nm (sm f n) = nm (sm f m)
  | 0, hm, _ => by rw [Nat.le_zero.1 hm]
  | n + 1, hm, h => by
    by_cases e : m = n + 1
    · rw [e]
    · rw [sm, nm_add_congr (c := sm f m) (d := 0) (sm_cut (by omega) fun j h1 h2 => h j h1 (by omega)) (h n (by omega) (by omega)), Int.add_zero]
theorem sm_swap (F : Nat → Nat → Int) (n : Nat) : ∀ m, sm (fun j => sm (fun k => F k j) m) n = sm (fun k => sm (fun j => F k j) n) m
  | 0 => by
    have : ∀ n, sm (fun _ => 0) n = 0 := fun n => by induction n with | zero => rfl | succ n ih => rw [sm, ih]; rfl
    exact this n
  | m + 1 => by
    show sm (fun j => sm (fun k => F k j) m + F m j) n = sm (fun k => sm (fun j => F k j) n) m + sm (fun j => F m j) n
    rw [sm_add, sm_swap F n m]

/-- f, number by number times the columns, is nought in each row. -/
def NS (M : Nat → Nat → Int) (r w : Nat) (f : Nat → Int) : Prop := ∀ i, i < r → nm (sm (fun j => f j * M i j) w) = 0
/-- Column c is a sum of columns ahead of it, each times some number. -/
def dep (M : Nat → Nat → Int) (r c : Nat) : Prop := ∃ f : Nat → Int, ∀ i, i < r → nm (sm (fun j => f j * M i j) c) = nm (M i c)

theorem dep_of_ns {M : Nat → Nat → Int} {r w c : Nat} {f : Nat → Int} (h : NS M r w f) (hc : c < w) (h0 : nm (f c) ≠ 0) (hz : ∀ j, c < j → j < w → nm (f j) = 0) : dep M r c := by
  refine ⟨fun j => -(iv (f c)) * f j, fun i hi => ?_⟩
  have h1 := h i hi
  rw [sm_cut (m := c + 1) (by omega) (fun j h1 h2 => by rw [nm_mul_congr (c := 0) (hz j (by omega) h2) rfl, Int.zero_mul]; rfl), sm] at h1
  have e : nm (sm (fun j => -(iv (f c)) * f j * M i j) c) = nm (-(iv (f c)) * sm (fun j => f j * M i j) c) := by
    rw [← sm_mul]
    exact sm_ncongr fun j _ => by rw [Int.mul_assoc]
  rw [e]
  generalize sm (fun j => f j * M i j) c = S at *
  have h2 : nm S = nm (-(f c * M i c)) := by unfold nm at *; omega
  rw [nm_mul_congr rfl h2, Int.neg_mul_neg, ← Int.mul_assoc, ← nm_mull, iv_mul h0, Int.one_mul]
theorem ns_of_dep {M : Nat → Nat → Int} {r w c : Nat} (h : dep M r c) (hc : c < w) : ∃ f, NS M r w f ∧ nm (f c) ≠ 0 ∧ ∀ j, c < j → j < w → nm (f j) = 0 := by
  obtain ⟨f, hf⟩ := h
  refine ⟨fun j => if j < c then f j else if j = c then -1 else 0, fun i hi => ?_, ?_, fun j h1 h2 => ?_⟩
  · rw [sm_cut (m := c + 1) (by omega) (fun j h1 h2 => by
      show nm ((if j < c then f j else if j = c then -1 else 0) * M i j) = 0
      rw [if_neg (by omega), if_neg (by omega), Int.zero_mul]; rfl), sm]
    have e : nm (sm (fun j => (if j < c then f j else if j = c then -1 else 0) * M i j) c) = nm (M i c) := by
      rw [← hf i hi]
      exact sm_ncongr fun j hj => by rw [if_pos hj]
    have e2 : (if c < c then f c else if c = c then (-1 : Int) else 0) = -1 := by rw [if_neg (by omega), if_pos rfl]
    show nm (sm (fun j => (if j < c then f j else if j = c then -1 else 0) * M i j) c + (if c < c then f c else if c = c then (-1 : Int) else 0) * M i c) = 0
    rw [e2, nm_add_congr (c := M i c) (d := -1 * M i c) e rfl, Int.neg_one_mul, Int.add_right_neg]; rfl
  · show nm (if c < c then f c else if c = c then (-1 : Int) else 0) ≠ 0
    rw [if_neg (by omega), if_pos rfl]; decide
  · show nm (if j < c then f j else if j = c then (-1 : Int) else 0) = 0
    rw [if_neg (by omega), if_neg (by omega)]; rfl
/-- Which columns are sums hangs on what is nought alone. -/
theorem dep_congr {M A : Nat → Nat → Int} {r s w : Nat} (h : ∀ f, NS M r w f ↔ NS A s w f) {c : Nat} (hc : c < w) : dep M r c ↔ dep A s c := by
  constructor
  · intro hd
    obtain ⟨f, h1, h2, h3⟩ := ns_of_dep hd hc
    exact dep_of_ns ((h f).1 h1) hc h2 h3
  · intro hd
    obtain ⟨f, h1, h2, h3⟩ := ns_of_dep hd hc
    exact dep_of_ns ((h f).2 h1) hc h2 h3
/-- What is nought and has numbers at columns alone that are no sums is 0. -/
theorem ns_zero {M : Nat → Nat → Int} {r w : Nat} {f : Nat → Int} (h : NS M r w f) (hd : ∀ c, c < w → nm (f c) ≠ 0 → ¬ dep M r c) : ∀ c, c < w → nm (f c) = 0 := by
  have key : ∀ d, d ≤ w → ∀ j, w - d ≤ j → j < w → nm (f j) = 0 := by
    intro d
    induction d with
    | zero => intro _ j h1 h2; omega
    | succ d ih =>
      intro hdw j h1 h2
      by_cases e : w - d ≤ j
      · exact ih (by omega) j e h2
      · rcases Int.decEq (nm (f j)) 0 with hne | heq
        · exact absurd (dep_of_ns h h2 hne fun k h3 h4 => ih (by omega) k (by omega) h4) (hd j h2 hne)
        · exact heq
  exact fun c hc => key w (Nat.le_refl _) c (by omega) hc

theorem getD_nat_old {l : List Nat} {b k : Nat} (h : k < l.length) : (l ++ [b]).getD k 0 = l.getD k 0 := by simp [List.getElem?_append_left h]
theorem getD_nat_new (l : List Nat) (b : Nat) : (l ++ [b]).getD l.length 0 = b := by simp
theorem sm_pick (F : Nat → Int) (a : Nat) : ∀ n, sm (fun j => if a = j then F j else 0) n = if a < n then F a else 0
  | 0 => by rw [sm, if_neg (by omega)]
  | n + 1 => by
    rw [sm, sm_pick F a n]
    by_cases h1 : a < n
    · rw [if_pos h1, if_neg (by omega), if_pos (by omega), Int.add_zero]
    · by_cases h2 : a = n
      · subst h2; rw [if_neg h1, if_pos rfl, if_pos (by omega), Int.zero_add]
      · rw [if_neg h1, if_neg h2, if_neg (by omega)]; rfl
theorem sm_mulr (f : Nat → Int) (x : Int) (n : Nat) : sm f n * x = sm (fun j => f j * x) n := by
  rw [Int.mul_comm, ← sm_mul]; congr 1; funext j; rw [Int.mul_comm]

/-- Where the rows stand ahead of column c. -/
structure RrI (M A : Nat → Nat → Int) (r w c : Nat) (L : List Nat) : Prop where
  ns : ∀ f, NS M r w f ↔ NS A r w f
  kr : L.length ≤ r
  lt : ∀ j ∈ L, j < c
  up : L.Pairwise (· < ·)
  one : ∀ q i, q < L.length → i < r → nm (A i (L.getD q 0)) = if i = q then 1 else 0
  z : ∀ i j, L.length ≤ i → i < r → j < c → nm (A i j) = 0
  lead : ∀ j, j < c → (j ∈ L ↔ ¬ dep M r j)

theorem ns_congr {M A : Nat → Nat → Int} {r w : Nat} (h : ∀ i j, i < r → j < w → nm (A i j) = nm (M i j)) (f : Nat → Int) : NS M r w f ↔ NS A r w f := by
  have e : ∀ i, i < r → nm (sm (fun j => f j * M i j) w) = nm (sm (fun j => f j * A i j) w) := fun i hi => sm_ncongr fun j hj => nm_mul_congr rfl (h i j hi hj).symm
  exact ⟨fun hf i hi => by rw [← e i hi]; exact hf i hi, fun hf i hi => by rw [e i hi]; exact hf i hi⟩
theorem rr_start {M A : Nat → Nat → Int} {r w : Nat} (h : ∀ i j, i < r → j < w → nm (A i j) = nm (M i j)) : RrI M A r w 0 [] :=
  ⟨ns_congr h, Nat.zero_le _, by simp, List.Pairwise.nil, fun q i hq => by simp at hq, fun i j _ _ hj => by omega, fun j hj => by omega⟩

/-- What is told for the variables from the column v, by the rows of the columns that lead. -/
def tell (A : Nat → Nat → Int) (L : List Nat) (v m j : Nat) : Int := sm (fun q => if L.getD q 0 = j then A q v else 0) m

theorem getN_mem {L : List Nat} {q : Nat} (h : q < L.length) : L.getD q 0 ∈ L := by
  rw [List.getD_eq_getElem?_getD, List.getElem?_eq_getElem h]; exact List.getElem_mem h
theorem getD_up {L : List Nat} (h : L.Pairwise (· < ·)) {q m : Nat} (hqm : q < m) (hm : m < L.length) : L.getD q 0 < L.getD m 0 := by
  rw [List.pairwise_iff_getElem] at h
  have := h q m (by omega) hm hqm
  rw [List.getD_eq_getElem?_getD, List.getD_eq_getElem?_getD, List.getElem?_eq_getElem (show q < L.length by omega), List.getElem?_eq_getElem hm]
  exact this

/-- The sum of the columns, each times what is told for it, is the column v in the rows of those that lead. -/
theorem tell_sum {M A : Nat → Nat → Int} {r w c : Nat} {L : List Nat} (h : RrI M A r w c L) (v i : Nat) (hi : i < r) : nm (sm (fun j => tell A L v L.length j * A i j) c) = if i < L.length then nm (A i v) else 0 := by
  have e1 : sm (fun j => tell A L v L.length j * A i j) c = sm (fun q => sm (fun j => (if L.getD q 0 = j then A q v else 0) * A i j) c) L.length := by
    rw [← sm_swap]
    congr 1; funext j
    unfold tell
    rw [sm_mulr]
  have e2 : ∀ q, q < L.length → nm (sm (fun j => (if L.getD q 0 = j then A q v else 0) * A i j) c) = nm (if i = q then A q v else 0) := fun q hq => by
    have e3 : (fun j => (if L.getD q 0 = j then A q v else 0) * A i j) = fun j => if L.getD q 0 = j then A q v * A i j else 0 := by
      funext j; split
      · rfl
      · rw [Int.zero_mul]
    rw [e3, sm_pick (fun j => A q v * A i j), if_pos (h.lt _ (getN_mem hq)), nm_mul_congr (c := A q v) (d := if i = q then 1 else 0) rfl (by rw [h.one q i hq hi]; split <;> rfl)]
    split
    · rw [Int.mul_one]
    · rw [Int.mul_zero]
  rw [e1, sm_ncongr e2, sm_pick (fun q => A q v)]
  split <;> rfl

/-- A column that has nothing in the rows behind is a sum of those ahead. -/
theorem rr_dep {M A : Nat → Nat → Int} {r w c : Nat} {L : List Nat} (h : RrI M A r w c L) (hc : c < w) : (∀ i, L.length ≤ i → i < r → nm (A i c) = 0) ↔ dep M r c := by
  rw [dep_congr h.ns hc]
  constructor
  · intro hz
    refine ⟨tell A L c L.length, fun i hi => ?_⟩
    rw [tell_sum h c i hi]
    split
    · rfl
    · exact (hz i (by omega) hi).symm
  · rintro ⟨f, hf⟩ i h1 h2
    rw [← hf i h2]
    exact sm_zero fun j hj => by rw [nm_mul_congr (d := 0) rfl (h.z i j h1 h2 hj), Int.mul_zero]; rfl
theorem rr_skip {M A : Nat → Nat → Int} {r w c : Nat} {L : List Nat} (h : RrI M A r w c L) (hc : c < w) (hz : ∀ i, L.length ≤ i → i < r → nm (A i c) = 0) : RrI M A r w (c + 1) L := by
  have hd := (rr_dep h hc).1 hz
  refine ⟨h.ns, h.kr, fun j hj => Nat.lt_succ_of_lt (h.lt j hj), h.up, h.one, fun i j h1 h2 h3 => ?_, fun j hj => ?_⟩
  · by_cases e : j = c
    · rw [e]; exact hz i h1 h2
    · exact h.z i j h1 h2 (by omega)
  · by_cases e : j = c
    · subst e
      exact ⟨fun hh => absurd (h.lt j hh) (by omega), fun hh => absurd hd hh⟩
    · exact h.lead j (by omega)

/-- A row that leads is put first and made 1 in its column. -/
theorem ns_lead {A A1 : Nat → Nat → Int} {r w k p : Nat} {u x : Int} (hk : k < r) (hp : p < r) (hu : nm (u * x) = 1)
    (h1 : ∀ i j, i < r → j < w → nm (A1 i j) = nm (if i = k then A p j * u else if i = p then A k j else A i j)) (f : Nat → Int) : NS A r w f ↔ NS A1 r w f := by
  have ek : nm (sm (fun j => f j * A1 k j) w) = nm (sm (fun j => f j * A p j) w * u) := by
    rw [sm_mulr]
    exact sm_ncongr fun j hj => by rw [nm_mul_congr (c := f j) rfl (h1 k j hk hj), if_pos rfl, Int.mul_assoc]
  have ep : p ≠ k → nm (sm (fun j => f j * A1 p j) w) = nm (sm (fun j => f j * A k j) w) := fun hne =>
    sm_ncongr fun j hj => by rw [nm_mul_congr (c := f j) rfl (h1 p j hp hj), if_neg hne, if_pos rfl]
  have eo : ∀ i, i < r → i ≠ k → i ≠ p → nm (sm (fun j => f j * A1 i j) w) = nm (sm (fun j => f j * A i j) w) := fun i hi h2 h3 =>
    sm_ncongr fun j hj => by rw [nm_mul_congr (c := f j) rfl (h1 i j hi hj), if_neg h2, if_neg h3]
  constructor
  · intro hf i hi
    by_cases e : i = k
    · subst e
      rw [ek, nm_mul_congr (c := 0) (hf p hp) rfl, Int.zero_mul]; rfl
    · by_cases e2 : i = p
      · subst e2; rw [ep e]; exact hf k hk
      · rw [eo i hi e e2]; exact hf i hi
  · intro hf i hi
    by_cases e2 : i = p
    · subst e2
      have h0 : nm (sm (fun j => f j * A i j) w * u) = 0 := by rw [← ek]; exact hf k hk
      have h3 : nm (sm (fun j => f j * A i j) w * u * x) = 0 := by rw [nm_mul_congr (c := 0) h0 rfl, Int.zero_mul]; rfl
      rw [Int.mul_assoc, nm_mul_congr (d := 1) rfl (by rw [hu]; rfl), Int.mul_one] at h3
      exact h3
    · by_cases e : i = k
      · subst e; rw [← ep (fun h => e2 h.symm)]; exact hf p hp
      · rw [← eo i hi e e2]; exact hf i hi
/-- The row that leads, times some number, is taken from all others. -/
theorem ns_take {A1 A2 : Nat → Nat → Int} {r w k : Nat} {t : Nat → Int} (hk : k < r)
    (h2 : ∀ i j, i < r → j < w → nm (A2 i j) = nm (if i = k then A1 k j else A1 i j - t i * A1 k j)) (f : Nat → Int) : NS A1 r w f ↔ NS A2 r w f := by
  have ek : nm (sm (fun j => f j * A2 k j) w) = nm (sm (fun j => f j * A1 k j) w) := sm_ncongr fun j hj => by rw [nm_mul_congr (c := f j) rfl (h2 k j hk hj), if_pos rfl]
  have eo : ∀ i, i < r → i ≠ k → nm (sm (fun j => f j * A2 i j) w) = nm (sm (fun j => f j * A1 i j) w + (-t i) * sm (fun j => f j * A1 k j) w) := fun i hi hne => by
    rw [← sm_mul, ← sm_add]
    exact sm_ncongr fun j hj => by
      rw [nm_mul_congr (c := f j) rfl (h2 i j hi hj), if_neg hne, Int.mul_sub, Int.neg_mul, ← Int.mul_assoc, Int.mul_comm (f j) (t i), Int.mul_assoc, Int.sub_eq_add_neg]
  constructor
  · intro hf i hi
    by_cases e : i = k
    · subst e; rw [ek]; exact hf i hi
    · rw [eo i hi e, nm_add_congr (c := 0) (d := -t i * 0) (hf i hi) (nm_mul_congr rfl (hf k hk)), Int.mul_zero]; rfl
  · intro hf i hi
    by_cases e : i = k
    · subst e; rw [← ek]; exact hf i hi
    · have hk0 : nm (sm (fun j => f j * A1 k j) w) = 0 := by rw [← ek]; exact hf k hk
      have h0 := hf i hi
      rw [eo i hi e, nm_add_congr (c := sm (fun j => f j * A1 i j) w) (d := -t i * 0) rfl (nm_mul_congr rfl hk0), Int.mul_zero, Int.add_zero] at h0
      exact h0

theorem rr_lead {M A A1 A2 : Nat → Nat → Int} {r w c p : Nat} {L : List Nat} (h : RrI M A r w c L) (hc : c < w) (hk : L.length ≤ p) (hp : p < r) (hx : nm (A p c) ≠ 0)
    (h1 : ∀ i j, i < r → j < w → nm (A1 i j) = nm (if i = L.length then A p j * iv (A p c) else if i = p then A L.length j else A i j))
    (h2 : ∀ i j, i < r → j < w → nm (A2 i j) = nm (if i = L.length then A1 L.length j else A1 i j - A1 i c * A1 L.length j)) : RrI M A2 r w (c + 1) (L ++ [c]) := by
  have hkr : L.length < r := by omega
  have hns : ∀ f, NS M r w f ↔ NS A2 r w f := fun f => (h.ns f).trans ((ns_lead hkr hp (iv_mul hx) h1 f).trans (ns_take hkr h2 f))
  have hlen : (L ++ [c]).length = L.length + 1 := by simp
  -- the new row of the lead: nothing ahead of c, 1 there
  have r1 : ∀ j, j < c → nm (A1 L.length j) = 0 := fun j hj => by
    rw [h1 _ _ hkr (by omega), if_pos rfl, nm_mul_congr (c := 0) (h.z p j hk hp hj) rfl, Int.zero_mul]; rfl
  have r2 : nm (A1 L.length c) = 1 := by rw [h1 _ _ hkr hc, if_pos rfl, mul_iv hx]
  have s1 : ∀ i j, i < r → j < c → i ≠ L.length → nm (A2 i j) = nm (A1 i j) := fun i j hi hj hne => by
    rw [h2 i j hi (by omega), if_neg hne, Int.sub_eq_add_neg, nm_add_congr (c := A1 i j) (d := 0) rfl ?_, Int.add_zero]
    have e : nm (A1 i c * A1 L.length j) = 0 := by rw [nm_mul_congr (d := 0) rfl (r1 j hj), Int.mul_zero]; rfl
    unfold nm at *; omega
  have s2 : ∀ i, i < r → i ≠ L.length → nm (A2 i c) = 0 := fun i hi hne => by
    have e : nm (A1 i c * A1 L.length c) = nm (A1 i c) := by rw [nm_mul_congr (d := 1) rfl (by rw [r2]; rfl), Int.mul_one]
    rw [h2 i c hi hc, if_neg hne]
    unfold nm at *; omega
  have s3 : ∀ j, j < w → nm (A2 L.length j) = nm (A1 L.length j) := fun j hj => by rw [h2 _ j hkr hj, if_pos rfl]
  refine ⟨hns, by rw [hlen]; omega, fun j hj => ?_, ?_, fun q i hq hi => ?_, fun i j hi1 hi2 hj => ?_, fun j hj => ?_⟩
  · rw [List.mem_append, List.mem_singleton] at hj
    rcases hj with hj | hj
    · have := h.lt j hj; omega
    · omega
  · rw [List.pairwise_append]
    refine ⟨h.up, by simp, fun x hx y hy => ?_⟩
    rw [List.mem_singleton] at hy
    have := h.lt x hx; omega
  · rw [hlen] at hq
    by_cases e : q < L.length
    · rw [getD_nat_old e]
      have hlt := h.lt _ (getN_mem e)
      by_cases e2 : i = L.length
      · rw [if_neg (by omega), e2, s3 _ (by omega), r1 _ hlt]
      · rw [s1 i _ hi hlt e2, h1 i _ hi (by omega), if_neg e2]
        by_cases e3 : i = p
        · rw [if_pos e3, if_neg (by omega), h.one q _ e hkr, if_neg (by omega)]
        · rw [if_neg e3, h.one q i e hi]
    · rw [show q = L.length by omega, getD_nat_new]
      by_cases e2 : i = L.length
      · rw [if_pos e2, e2, s3 c hc, r2]
      · rw [if_neg e2, s2 i hi e2]
  · rw [hlen] at hi1
    have hne : i ≠ L.length := by omega
    by_cases e : j = c
    · rw [e]; exact s2 i hi2 hne
    · rw [s1 i j hi2 (by omega) hne, h1 i j hi2 (by omega), if_neg hne]
      split
      · exact h.z _ j (Nat.le_refl _) hkr (by omega)
      · exact h.z i j (by omega) hi2 (by omega)
  · by_cases e : j < c
    · rw [List.mem_append, List.mem_singleton]
      have := h.lead j e
      exact ⟨fun hh => this.1 (hh.resolve_right (by omega)), fun hh => .inl (this.2 hh)⟩
    · have e2 : j = c := by omega
      subst e2
      refine ⟨fun _ => ?_, fun _ => by simp⟩
      rw [dep_congr hns hc]
      rintro ⟨f, hf⟩
      have h3 := hf _ hkr
      rw [s3 j hc, r2, sm_zero (fun i hi => by rw [nm_mul_congr (d := 0) rfl (show nm (A2 L.length i) = nm 0 by rw [s3 i (by omega), r1 i hi]; rfl), Int.mul_zero]; rfl)] at h3
      omega

/-- Values that make all equations right, with 0 where a column is a sum of those ahead. -/
structure Sol (M : Nat → Nat → Int) (r v : Nat) (V : List Int) : Prop where
  len : V.length = v
  bd : ∀ x ∈ V, 0 ≤ x ∧ x ≤ 2147483646
  own : ∀ j, j < v → V.getD j 0 ≠ 0 → ¬ dep M r j
  ns : NS M r (v + 1) (fun j => if j < v then V.getD j 0 else -1)

theorem tell_zero {A : Nat → Nat → Int} {L : List Nat} {v m j : Nat} (h : ∀ q, q < m → L.getD q 0 ≠ j) : tell A L v m j = 0 := by
  unfold tell
  induction m with
  | zero => rfl
  | succ m ih => rw [sm, ih (fun q hq => h q (by omega)), if_neg (h m (by omega))]; rfl
theorem tell_succ {A : Nat → Nat → Int} {L : List Nat} {v m j : Nat} (hu : L.Pairwise (· < ·)) (hm : m < L.length) : tell A L v (m + 1) j = if L.getD m 0 = j then A m v else tell A L v m j := by
  have : tell A L v (m + 1) j = tell A L v m j + (if L.getD m 0 = j then A m v else 0) := rfl
  rw [this]
  split
  · rename_i e
    rw [tell_zero (fun q hq => by have := getD_up hu hq hm; omega), Int.zero_add]
  · rw [Int.add_zero]
theorem rr_sol {M A : Nat → Nat → Int} {r v : Nat} {L : List Nat} {V : List Int} (h : RrI M A r (v + 1) v L) (hz : ∀ i, L.length ≤ i → i < r → nm (A i v) = 0)
    (hl : V.length = v) (hb : ∀ x ∈ V, 0 ≤ x ∧ x ≤ 2147483646) (hV : ∀ j, j < v → V.getD j 0 = tell A L v L.length j) : Sol M r v V := by
  refine ⟨hl, hb, fun j hj hne => ?_, ?_⟩
  · rw [← h.lead j hj]
    rw [hV j hj] at hne
    refine Decidable.byContradiction fun hn => hne (tell_zero fun q hq e => hn ?_)
    rw [← e]; exact getN_mem hq
  · rw [h.ns]
    intro i hi
    rw [sm]
    have e : nm (sm (fun j => (if j < v then V.getD j 0 else -1) * A i j) v) = nm (A i v) := by
      have e2 : nm (sm (fun j => (if j < v then V.getD j 0 else -1) * A i j) v) = nm (sm (fun j => tell A L v L.length j * A i j) v) := sm_ncongr fun j hj => by
        rw [if_pos hj, hV j hj]
      rw [e2, tell_sum h v i hi]
      split
      · rfl
      · exact (hz i (by omega) hi).symm
    show nm (sm (fun j => (if j < v then V.getD j 0 else -1) * A i j) v + (if v < v then V.getD v 0 else -1) * A i v) = 0
    rw [if_neg (by omega), nm_add_congr (c := A i v) (d := -1 * A i v) e rfl, Int.neg_one_mul, Int.add_right_neg]; rfl
/-- There is but one such list. -/
theorem sol_one {M N : Nat → Nat → Int} {r s v : Nat} {V U : List Int} (hn : ∀ f, NS M r (v + 1) f ↔ NS N s (v + 1) f) (h : Sol M r v V) (k : Sol N s v U) : V = U := by
  have hns : NS M r (v + 1) (fun j => (if j < v then V.getD j 0 else -1) + -1 * (if j < v then U.getD j 0 else -1)) := fun i hi => by
    have h1 := h.ns i hi
    have h2 := (hn _).2 k.ns i hi
    have e : sm (fun j => ((if j < v then V.getD j 0 else -1) + -1 * (if j < v then U.getD j 0 else -1)) * M i j) (v + 1) = sm (fun j => (if j < v then V.getD j 0 else -1) * M i j) (v + 1) + -1 * sm (fun j => (if j < v then U.getD j 0 else -1) * M i j) (v + 1) := by
      rw [← sm_mul, ← sm_add]; congr 1; funext j
      rw [Int.add_mul, Int.mul_assoc]
    rw [e]
    generalize sm (fun j => (if j < v then V.getD j 0 else -1) * M i j) (v + 1) = X at *
    generalize sm (fun j => (if j < v then U.getD j 0 else -1) * M i j) (v + 1) = Y at *
    unfold nm at *; omega
  have hd : ∀ j, j < v → (dep M r j ↔ dep N s j) := fun j hj => dep_congr hn (by omega)
  have hz := ns_zero hns fun c hc hne => by
    by_cases e : c < v
    · rw [if_pos e, if_pos e] at hne
      by_cases e1 : V.getD c 0 = 0
      · by_cases e2 : U.getD c 0 = 0
        · exact absurd (by rw [e1, e2]; rfl) hne
        · rw [hd c e]; exact k.own c e e2
      · exact h.own c e e1
    · exact absurd (by rw [if_neg e, if_neg e]; rfl) hne
  refine List.ext_getElem (by rw [h.len, k.len]) fun j h1 h2 => ?_
  have hj : j < v := by rw [← h.len]; exact h1
  have h3 := hz j (by omega)
  simp only [if_pos hj, List.getD_eq_getElem?_getD, List.getElem?_eq_getElem h1, List.getElem?_eq_getElem h2, Option.getD_some] at h3
  have b1 := h.bd _ (List.getElem_mem h1)
  have b2 := k.bd _ (List.getElem_mem h2)
  unfold nm at h3; omega
end Crm
