/- GAUSS: columns that are sums of those ahead; what row steps keep; the document's way, column by column. Plain. · Slices of rows of numbers that are read. · solve.rests. -/
import Derived.Test.YtgmelcdgnjcojagDoorToGatesR
import Derived.Test.YtgmelcdgnjcojagDoorToPolyM
import Derived.Test.YtgmelcdgnjcojagDoorToMxC
namespace Crm

def sm (f : Nat → Int) : Nat → Int
  | 0 => 0
  | n + 1 => sm f n + f n
theorem sm_ncongr {f g : Nat → Int} : ∀ {n : Nat}, (∀ j, j < n → nm (f j) = nm (g j)) → nm (sm f n) = nm (sm g n)
  | 0, _ => rfl
  | n + 1, h => nm_add_congr (sm_ncongr fun j hj => h j (by omega)) (h n (by omega))
theorem sm_add (f g : Nat → Int) : ∀ n, sm (fun j => f j + g j) n = sm f n + sm g n
  | 0 => rfl
  | n + 1 => by rw [sm, sm, sm, sm_add f g n]; omega
theorem sm_mul (c : Int) (f : Nat → Int) : ∀ n, sm (fun j => c * f j) n = c * sm f n
  | 0 => by rw [sm, sm, Int.mul_zero]
  | n + 1 => by rw [sm, sm, sm_mul c f n, Int.mul_add]
theorem sm_zero {f : Nat → Int} {n : Nat} (h : ∀ j, j < n → nm (f j) = 0) : nm (sm f n) = 0 := by
  have : ∀ n, sm (fun _ => 0) n = 0 := fun n => by induction n with | zero => rfl | succ n ih => rw [sm, ih]; rfl
  rw [sm_ncongr (g := fun _ => 0) (fun j hj => h j hj), this]; rfl
theorem sm_cut {f : Nat → Int} {m : Nat} : ∀ {n : Nat}, m ≤ n → (∀ j, m ≤ j → j < n → nm (f j) = 0) → nm (sm f n) = nm (sm f m)
  | 0, hm, _ => by rw [Nat.le_zero.1 hm]
  | n + 1, hm, h => by
    by_cases e : m = n + 1
    · rw [e]
    · rw [sm, nm_add_congr (c := sm f m) (d := 0) (sm_cut (by omega) fun j h1 h2 => h j h1 (by omega)) (h n (by omega) (by omega)), Int.add_zero]
theorem sm_swap (F : Nat → Nat → Int) (n : Nat) : ∀ m, sm (fun j => sm (fun k => F k j) m) n = sm (fun k => sm (fun j => F k j) n) m
  | 0 => by
    have : ∀ n, sm (fun _ => 0) n = 0 := fun n => by induction n with | zero => rfl | succ n ih => rw [sm, ih]; rfl
    exact this n
  | m + 1 => by
    show sm (fun j => sm (fun k => F k j) m + F m j) n = sm (fun k => sm (fun j => F k j) n) m + sm (fun j => F m j) n
    rw [sm_add, sm_swap F n m]

/-- f, number by number times the columns, is nought in each row. -/
def NS (M : Nat → Nat → Int) (r w : Nat) (f : Nat → Int) : Prop := ∀ i, i < r → nm (sm (fun j => f j * M i j) w) = 0
/-- Column c is a sum of columns ahead of it, each times some number. -/
def dep (M : Nat → Nat → Int) (r c : Nat) : Prop := ∃ f : Nat → Int, ∀ i, i < r → nm (sm (fun j => f j * M i j) c) = nm (M i c)

theorem dep_of_ns {M : Nat → Nat → Int} {r w c : Nat} {f : Nat → Int} (h : NS M r w f) (hc : c < w) (h0 : nm (f c) ≠ 0) (hz : ∀ j, c < j → j < w → nm (f j) = 0) : dep M r c := by
  refine ⟨fun j => -(iv (f c)) * f j, fun i hi => ?_⟩
  have h1 := h i hi
  rw [sm_cut (m := c + 1) (by omega) (fun j h1 h2 => by rw [nm_mul_congr (c := 0) (hz j (by omega) h2) rfl, Int.zero_mul]; rfl), sm] at h1
  have e : nm (sm (fun j => -(iv (f c)) * f j * M i j) c) = nm (-(iv (f c)) * sm (fun j => f j * M i j) c) := by
    rw [← sm_mul]
    exact sm_ncongr fun j _ => by rw [Int.mul_assoc]
  rw [e]
  generalize sm (fun j => f j * M i j) c = S at *
  have h2 : nm S = nm (-(f c * M i c)) := by unfold nm at *; omega
  rw [nm_mul_congr rfl h2, Int.neg_mul_neg, ← Int.mul_assoc, ← nm_mull, iv_mul h0, Int.one_mul]
theorem ns_of_dep {M : Nat → Nat → Int} {r w c : Nat} (h : dep M r c) (hc : c < w) : ∃ f, NS M r w f ∧ nm (f c) ≠ 0 ∧ ∀ j, c < j → j < w → nm (f j) = 0 := by
  obtain ⟨f, hf⟩ := h
  refine ⟨fun j => if j < c then f j else if j = c then -1 else 0, fun i hi => ?_, ?_, fun j h1 h2 => ?_⟩
  · rw [sm_cut (m := c + 1) (by omega) (fun j h1 h2 => by
      show nm ((if j < c then f j else if j = c then -1 else 0) * M i j) = 0
      rw [if_neg (by omega), if_neg (by omega), Int.zero_mul]; rfl), sm]
    have e : nm (sm (fun j => (if j < c then f j else if j = c then -1 else 0) * M i j) c) = nm (M i c) := by
      rw [← hf i hi]
      exact sm_ncongr fun j hj => by rw [if_pos hj]
    have e2 : (if c < c then f c else if c = c then (-1 : Int) else 0) = -1 := by rw [if_neg (by omega), if_pos rfl]
    show nm (sm (fun j => (if j < c then f j else if j = c then -1 else 0) * M i j) c + (if c < c then f c else if c = c then (-1 : Int) else 0) * M i c) = 0
    rw [e2, nm_add_congr (c := M i c) (d := -1 * M i c) e rfl, Int.neg_one_mul, Int.add_right_neg]; rfl
  · show nm (if c < c then f c else if c = c then (-1 : Int) else 0) ≠ 0
    rw [if_neg (by omega), if_pos rfl]; decide
  · show nm (if j < c then f j else if j = c then (-1 : Int) else 0) = 0
    rw [if_neg (by omega), if_neg (by omega)]; rfl
/-- Which columns are sums hangs on what is nought alone. -/
theorem dep_congr {M A : Nat → Nat → Int} {r s w : Nat} (h : ∀ f, NS M r w f ↔ NS A s w f) {c : Nat} (hc : c < w) : dep M r c ↔ dep A s c := by
  constructor
  · intro hd
    obtain ⟨f, h1, h2, h3⟩ := ns_of_dep hd hc
    exact dep_of_ns ((h f).1 h1) hc h2 h3
  · intro hd
    obtain ⟨f, h1, h2, h3⟩ := ns_of_dep hd hc
    exact dep_of_ns ((h f).2 h1) hc h2 h3
/-- What is nought and has numbers at columns alone that are no sums is 0. -/
theorem ns_zero {M : Nat → Nat → Int} {r w : Nat} {f : Nat → Int} (h : NS M r w f) (hd : ∀ c, c < w → nm (f c) ≠ 0 → ¬ dep M r c) : ∀ c, c < w → nm (f c) = 0 := by
  have key : ∀ d, d ≤ w → ∀ j, w - d ≤ j → j < w → nm (f j) = 0 := by
    intro d
    induction d with
    | zero => intro _ j h1 h2; omega
    | succ d ih =>
      intro hdw j h1 h2
      by_cases e : w - d ≤ j
      · exact ih (by omega) j e h2
      · rcases Int.decEq (nm (f j)) 0 with hne | heq
        · exact absurd (dep_of_ns h h2 hne fun k h3 h4 => ih (by omega) k (by omega) h4) (hd j h2 hne)
        · exact heq
  exact fun c hc => key w (Nat.le_refl _) c (by omega) hc

/-- Number i of the k-th list. -/
def bk (B : List (List Int)) (k i : Nat) : Int := (B.getD k []).getD i 0
theorem bk_old {B : List (List Int)} {b : List Int} {k : Nat} (h : k < B.length) (i : Nat) : bk (B ++ [b]) k i = bk B k i := by
  unfold bk; simp [List.getElem?_append_left h]
theorem bk_new (B : List (List Int)) (b : List Int) (i : Nat) : bk (B ++ [b]) B.length i = b.getD i 0 := by
  unfold bk; simp

/-- Where the document's way stands ahead of column c. -/
structure LeI (M : Nat → Nat → Int) (r c : Nat) (B : List (List Int)) (at_ L : List Nat) : Prop where
  la : at_.length = B.length
  ll : L.length = B.length
  lb : ∀ k, k < B.length → (B.getD k []).length = r
  ab : ∀ k, k < B.length → at_.getD k 0 < r
  one : ∀ k, k < B.length → nm (bk B k (at_.getD k 0)) = 1
  later : ∀ k q, k < q → q < B.length → nm (bk B q (at_.getD k 0)) = 0
  ins : ∀ k, k < B.length → ∃ f : Nat → Int, ∀ i, i < r → nm (sm (fun j => f j * M i j) c) = nm (bk B k i)
  spans : ∀ j, j < c → ∃ a : Nat → Int, ∀ i, i < r → nm (sm (fun k => a k * bk B k i) B.length) = nm (M i j)
  lead : ∀ j, j < c → (j ∈ L ↔ ¬ dep M r j)
  lt : ∀ j ∈ L, j < c
  up : L.Pairwise (· < ·)

theorem le_start (M : Nat → Nat → Int) (r : Nat) : LeI M r 0 [] [] [] :=
  ⟨rfl, rfl, fun k hk => by simp at hk, fun k hk => by simp at hk, fun k hk => by simp at hk, fun k q _ hq => by simp at hq, fun k hk => by simp at hk, fun j hj => by omega, fun j hj => by omega, fun j hj => by simp at hj, List.Pairwise.nil⟩

/-- The column, cleared by the first k lists. -/
structure ClI (M : Nat → Nat → Int) (r c : Nat) (B : List (List Int)) (at_ : List Nat) (k : Nat) (C : Nat → Int) : Prop where
  eq : ∃ a : Nat → Int, ∀ i, i < r → nm (C i + sm (fun q => a q * bk B q i) k) = nm (M i c)
  z : ∀ q, q < k → nm (C (at_.getD q 0)) = 0
theorem cl_start (M : Nat → Nat → Int) (r c : Nat) (B : List (List Int)) (at_ : List Nat) {C : Nat → Int} (h : ∀ i, i < r → nm (C i) = nm (M i c)) : ClI M r c B at_ 0 C :=
  ⟨⟨fun _ => 0, fun i hi => by rw [sm, Int.add_zero]; exact h i hi⟩, fun q hq => by omega⟩
theorem cl_step {M : Nat → Nat → Int} {r c : Nat} {B : List (List Int)} {at_ L : List Nat} {k : Nat} {C D : Nat → Int} {m : Int} (hl : LeI M r c B at_ L) (h : ClI M r c B at_ k C) (hk : k < B.length)
    (hm : m = nm (-(C (at_.getD k 0)))) (hD : ∀ i, i < r → nm (D i) = nm (C i + m * bk B k i)) : ClI M r c B at_ (k + 1) D := by
  obtain ⟨a, ha⟩ := h.eq
  refine ⟨⟨fun q => if q = k then -m else a q, fun i hi => ?_⟩, fun q hq => ?_⟩
  · rw [← ha i hi, sm]
    show nm (D i + (sm (fun q => (if q = k then -m else a q) * bk B q i) k + (if k = k then -m else a k) * bk B k i)) = _
    rw [if_pos rfl]
    have e : nm (sm (fun q => (if q = k then -m else a q) * bk B q i) k) = nm (sm (fun q => a q * bk B q i) k) := sm_ncongr fun q hq => by rw [if_neg (by omega)]
    rw [nm_add_congr (hD i hi) (nm_add_congr e rfl), Int.neg_mul]
    congr 1; omega
  · have hr := hl.ab q (by omega)
    rw [hD _ hr]
    by_cases e : q = k
    · subst e
      rw [nm_add_congr (c := C (at_.getD q 0)) (d := m * 1) rfl (nm_mul_congr rfl (by rw [hl.one q hk]; rfl)), Int.mul_one, hm, nm_addr, Int.add_right_neg]; rfl
    · rw [nm_add_congr (c := 0) (d := m * 0) (h.z q (by omega)) (nm_mul_congr rfl (hl.later q k (by omega) hk)), Int.mul_zero]; rfl

/-- Sums of sums of columns are sums of columns. -/
theorem ins_sum {M : Nat → Nat → Int} {r c : Nat} {B : List (List Int)} (h : ∀ k, k < B.length → ∃ f : Nat → Int, ∀ i, i < r → nm (sm (fun j => f j * M i j) c) = nm (bk B k i)) (a : Nat → Int) :
    ∃ f : Nat → Int, ∀ i, i < r → nm (sm (fun j => f j * M i j) c) = nm (sm (fun k => a k * bk B k i) B.length) := by
  have hc : ∀ k, ∃ f : Nat → Int, k < B.length → ∀ i, i < r → nm (sm (fun j => f j * M i j) c) = nm (bk B k i) := fun k => by
    by_cases hk : k < B.length
    · obtain ⟨f, hf⟩ := h k hk; exact ⟨f, fun _ => hf⟩
    · exact ⟨fun _ => 0, fun h => absurd h hk⟩
  let F := fun k => Classical.choose (hc k)
  have hF := fun k => Classical.choose_spec (hc k)
  refine ⟨fun j => sm (fun k => a k * F k j) B.length, fun i hi => ?_⟩
  have e1 : nm (sm (fun j => sm (fun k => a k * F k j) B.length * M i j) c) = nm (sm (fun j => sm (fun k => a k * F k j * M i j) B.length) c) := sm_ncongr fun j _ => by
    rw [Int.mul_comm, ← sm_mul]
    exact sm_ncongr fun k _ => by rw [Int.mul_comm]
  rw [e1, sm_swap]
  refine sm_ncongr fun k hk => ?_
  have e2 : nm (sm (fun j => a k * F k j * M i j) c) = nm (a k * sm (fun j => F k j * M i j) c) := by
    rw [← sm_mul]
    exact sm_ncongr fun j _ => by rw [Int.mul_assoc]
  rw [e2]
  exact nm_mul_congr rfl (hF k hk i hi)
/-- A sum of the lists that is 0 at all their places is 0. -/
theorem at_zero {M : Nat → Nat → Int} {r c : Nat} {B : List (List Int)} {at_ L : List Nat} (hl : LeI M r c B at_ L) {a : Nat → Int}
    (h : ∀ q, q < B.length → nm (sm (fun k => a k * bk B k (at_.getD q 0)) B.length) = 0) : ∀ q, q < B.length → nm (a q) = 0 := by
  intro q
  induction q using Nat.strongRecOn with
  | ind q ih =>
    intro hq
    have h1 := h q hq
    rw [sm_cut (m := q + 1) (by omega) (fun k h1 h2 => by rw [nm_mul_congr (d := 0) rfl (hl.later q k (by omega) h2), Int.mul_zero]; rfl), sm,
      nm_add_congr (c := 0) (d := a q * 1) (sm_zero fun k hk => by rw [nm_mul_congr (c := 0) (ih k hk (by omega)) rfl, Int.zero_mul]; rfl) (nm_mul_congr rfl (by rw [hl.one q hq]; rfl)),
      Int.zero_add, Int.mul_one] at h1
    exact h1
/-- A column that is a sum of those ahead is cleared wholly. -/
theorem cl_dep {M : Nat → Nat → Int} {r c : Nat} {B : List (List Int)} {at_ L : List Nat} {C : Nat → Int} (hl : LeI M r c B at_ L) (h : ClI M r c B at_ B.length C) (hd : dep M r c) : ∀ i, i < r → nm (C i) = 0 := by
  obtain ⟨a, ha⟩ := h.eq
  obtain ⟨f, hf⟩ := hd
  have hc : ∀ j, ∃ b : Nat → Int, j < c → ∀ i, i < r → nm (sm (fun k => b k * bk B k i) B.length) = nm (M i j) := fun j => by
    by_cases hj : j < c
    · obtain ⟨b, hb⟩ := hl.spans j hj; exact ⟨b, fun _ => hb⟩
    · exact ⟨fun _ => 0, fun h => absurd h hj⟩
  let F := fun j => Classical.choose (hc j)
  have hF := fun j => Classical.choose_spec (hc j)
  have h1 : ∀ i, i < r → nm (C i) = nm (sm (fun k => (sm (fun j => f j * F j k) c - a k) * bk B k i) B.length) := fun i hi => by
    have e1 : nm (sm (fun j => f j * M i j) c) = nm (sm (fun k => sm (fun j => f j * F j k) c * bk B k i) B.length) := by
      have e2 : nm (sm (fun j => f j * M i j) c) = nm (sm (fun j => sm (fun k => f j * F j k * bk B k i) B.length) c) := sm_ncongr fun j hj => by
        rw [nm_mul_congr rfl (hF j hj i hi).symm, ← sm_mul]
        exact sm_ncongr fun k _ => by rw [Int.mul_assoc]
      rw [e2, sm_swap]
      exact sm_ncongr fun k _ => by
        rw [Int.mul_comm, ← sm_mul]
        exact sm_ncongr fun j _ => by rw [Int.mul_comm]
    have e3 : sm (fun k => (sm (fun j => f j * F j k) c - a k) * bk B k i) B.length = sm (fun k => sm (fun j => f j * F j k) c * bk B k i) B.length + (-1) * sm (fun k => a k * bk B k i) B.length := by
      rw [← sm_mul, ← sm_add]
      congr 1; funext k
      rw [Int.sub_mul, Int.neg_one_mul]; omega
    rw [e3]
    have h2 := ha i hi
    have h3 := hf i hi
    rw [e1] at h3
    generalize sm (fun k => sm (fun j => f j * F j k) c * bk B k i) B.length = X at *
    generalize sm (fun k => a k * bk B k i) B.length = Y at *
    unfold nm at *; omega
  have h2 := at_zero hl (a := fun k => sm (fun j => f j * F j k) c - a k) fun q hq => by
    rw [← h1 _ (hl.ab q hq)]; exact h.z q hq
  intro i hi
  rw [h1 i hi]
  exact sm_zero fun k hk => by rw [nm_mul_congr (c := 0) (h2 k hk) rfl, Int.zero_mul]; rfl
/-- A column that is cleared wholly is a sum of those ahead. -/
theorem dep_cl {M : Nat → Nat → Int} {r c : Nat} {B : List (List Int)} {at_ L : List Nat} {C : Nat → Int} (hl : LeI M r c B at_ L) (h : ClI M r c B at_ B.length C) (hz : ∀ i, i < r → nm (C i) = 0) : dep M r c := by
  obtain ⟨a, ha⟩ := h.eq
  obtain ⟨f, hf⟩ := ins_sum hl.ins a
  refine ⟨f, fun i hi => ?_⟩
  rw [hf i hi, ← ha i hi, nm_add_congr (c := 0) (hz i hi) rfl, Int.zero_add]
theorem getD_nat_old {l : List Nat} {b k : Nat} (h : k < l.length) : (l ++ [b]).getD k 0 = l.getD k 0 := by simp [List.getElem?_append_left h]
theorem getD_nat_new (l : List Nat) (b : Nat) : (l ++ [b]).getD l.length 0 = b := by simp
theorem getD_list_old {l : List (List Int)} {b : List Int} {k : Nat} (h : k < l.length) : (l ++ [b]).getD k [] = l.getD k [] := by simp [List.getElem?_append_left h]
theorem getD_list_new (l : List (List Int)) (b : List Int) : (l ++ [b]).getD l.length [] = b := by simp
/-- The next column is a sum of those ahead: nothing is added. -/
theorem le_skip {M : Nat → Nat → Int} {r c : Nat} {B : List (List Int)} {at_ L : List Nat} {C : Nat → Int} (hl : LeI M r c B at_ L) (h : ClI M r c B at_ B.length C) (hz : ∀ i, i < r → nm (C i) = 0) : LeI M r (c + 1) B at_ L := by
  have hd := dep_cl hl h hz
  refine ⟨hl.la, hl.ll, hl.lb, hl.ab, hl.one, hl.later, fun k hk => ?_, fun j hj => ?_, fun j hj => ?_, fun j hj => ?_, hl.up⟩
  · obtain ⟨f, hf⟩ := hl.ins k hk
    refine ⟨fun j => if j < c then f j else 0, fun i hi => ?_⟩
    rw [sm]
    show nm (sm (fun j => (if j < c then f j else 0) * M i j) c + (if c < c then f c else 0) * M i c) = _
    rw [if_neg (by omega), Int.zero_mul, Int.add_zero, ← hf i hi]
    exact sm_ncongr fun j hj => by rw [if_pos hj]
  · by_cases e : j = c
    · subst e
      obtain ⟨a, ha⟩ := h.eq
      refine ⟨a, fun i hi => ?_⟩
      rw [← ha i hi, nm_add_congr (c := 0) (hz i hi) rfl, Int.zero_add]
    · exact hl.spans j (by omega)
  · by_cases e : j = c
    · subst e
      exact ⟨fun h => absurd (hl.lt j h) (by omega), fun h => absurd hd h⟩
    · exact hl.lead j (by omega)
  · have := hl.lt j hj; omega
/-- The next column leads: it is added, made 1 at its place. -/
theorem le_lead {M : Nat → Nat → Int} {r c : Nat} {B : List (List Int)} {at_ L : List Nat} {C : Nat → Int} {b : List Int} {p : Nat} (hl : LeI M r c B at_ L) (h : ClI M r c B at_ B.length C) (hp : p < r) (hC : nm (C p) ≠ 0)
    (hb : b.length = r) (hbi : ∀ i, i < r → nm (b.getD i 0) = nm (C i * iv (C p))) : LeI M r (c + 1) (B ++ [b]) (at_ ++ [p]) (L ++ [c]) := by
  have hnd : ¬ dep M r c := fun hd => hC (cl_dep hl h hd p hp)
  have hlen : (B ++ [b]).length = B.length + 1 := by simp
  obtain ⟨a, ha⟩ := h.eq
  refine ⟨by rw [List.length_append, List.length_append, hl.la]; rfl, by rw [List.length_append, List.length_append, hl.ll]; rfl, fun k hk => ?_, fun k hk => ?_, fun k hk => ?_, fun k q hkq hq => ?_, fun k hk => ?_, fun j hj => ?_, fun j hj => ?_, fun j hj => ?_, ?_⟩
  · rw [hlen] at hk
    by_cases e : k < B.length
    · rw [getD_list_old e]; exact hl.lb k e
    · rw [show k = B.length by omega, getD_list_new]; exact hb
  · rw [hlen] at hk
    by_cases e : k < B.length
    · rw [getD_nat_old (by rw [hl.la]; exact e)]; exact hl.ab k e
    · rw [show k = at_.length by rw [hl.la]; omega, getD_nat_new]; exact hp
  · rw [hlen] at hk
    by_cases e : k < B.length
    · rw [getD_nat_old (by rw [hl.la]; exact e), bk_old e]; exact hl.one k e
    · rw [show k = B.length by omega, bk_new, ← hl.la, getD_nat_new, hbi p hp, mul_iv hC]
  · rw [hlen] at hq
    have hk : k < B.length := by omega
    rw [getD_nat_old (by rw [hl.la]; exact hk)]
    by_cases e : q < B.length
    · rw [bk_old e]; exact hl.later k q hkq e
    · rw [show q = B.length by omega, bk_new, hbi _ (hl.ab k hk), nm_mul_congr (c := 0) (h.z k hk) rfl, Int.zero_mul]; rfl
  · rw [hlen] at hk
    by_cases e : k < B.length
    · obtain ⟨f, hf⟩ := hl.ins k e
      refine ⟨fun j => if j < c then f j else 0, fun i hi => ?_⟩
      rw [sm]
      show nm (sm (fun j => (if j < c then f j else 0) * M i j) c + (if c < c then f c else 0) * M i c) = _
      rw [if_neg (by omega), Int.zero_mul, Int.add_zero, bk_old e, ← hf i hi]
      exact sm_ncongr fun j hj => by rw [if_pos hj]
    · obtain ⟨f, hf⟩ := ins_sum hl.ins a
      refine ⟨fun j => if j < c then -(iv (C p)) * f j else iv (C p), fun i hi => ?_⟩
      rw [sm]
      show nm (sm (fun j => (if j < c then -(iv (C p)) * f j else iv (C p)) * M i j) c + (if c < c then -(iv (C p)) * f c else iv (C p)) * M i c) = _
      rw [if_neg (by omega), show k = B.length by omega, bk_new, hbi i hi]
      have e1 : nm (sm (fun j => (if j < c then -(iv (C p)) * f j else iv (C p)) * M i j) c) = nm (-(iv (C p)) * sm (fun k => a k * bk B k i) B.length) := by
        have e2 : nm (sm (fun j => (if j < c then -(iv (C p)) * f j else iv (C p)) * M i j) c) = nm (-(iv (C p)) * sm (fun j => f j * M i j) c) := by
          rw [← sm_mul]
          exact sm_ncongr fun j hj => by rw [if_pos hj, Int.mul_assoc]
        rw [e2]
        exact nm_mul_congr rfl (hf i hi)
      rw [nm_add_congr e1 (nm_mul_congr rfl (ha i hi).symm), Int.mul_add, Int.neg_mul, Int.mul_comm (C i)]
      congr 1; omega
  · by_cases e : j < c
    · obtain ⟨d, hd⟩ := hl.spans j e
      refine ⟨fun k => if k < B.length then d k else 0, fun i hi => ?_⟩
      rw [hlen, sm]
      show nm (sm (fun k => (if k < B.length then d k else 0) * bk (B ++ [b]) k i) B.length + (if B.length < B.length then d B.length else 0) * bk (B ++ [b]) B.length i) = _
      rw [if_neg (by omega), Int.zero_mul, Int.add_zero, ← hd i hi]
      exact sm_ncongr fun k hk => by rw [if_pos hk, bk_old hk]
    · refine ⟨fun k => if k < B.length then a k else C p, fun i hi => ?_⟩
      rw [hlen, sm]
      show nm (sm (fun k => (if k < B.length then a k else C p) * bk (B ++ [b]) k i) B.length + (if B.length < B.length then a B.length else C p) * bk (B ++ [b]) B.length i) = _
      rw [if_neg (by omega), bk_new, show j = c by omega, ← ha i hi, Int.add_comm (C i)]
      refine nm_add_congr (sm_ncongr fun k hk => by rw [if_pos hk, bk_old hk]) ?_
      rw [nm_mul_congr rfl (hbi i hi), Int.mul_comm (C i), ← Int.mul_assoc, ← nm_mull, mul_iv hC, Int.one_mul]
  · by_cases e : j < c
    · rw [List.mem_append, List.mem_singleton]
      have := hl.lead j e
      exact ⟨fun hh => this.1 (hh.resolve_right (by omega)), fun hh => .inl (this.2 hh)⟩
    · have e2 : j = c := by omega
      subst e2
      exact ⟨fun _ => hnd, fun _ => by simp⟩
  · rw [List.mem_append, List.mem_singleton] at hj
    rcases hj with hj | hj
    · have := hl.lt j hj; omega
    · omega
  · rw [List.pairwise_append]
    refine ⟨hl.up, by simp, fun x hx y hy => ?_⟩
    rw [List.mem_singleton] at hy
    have := hl.lt x hx
    omega

/-- Two lists that go up and hold the same are the same. -/
theorem up_ext : ∀ {l m : List Nat}, l.Pairwise (· < ·) → m.Pairwise (· < ·) → (∀ x, x ∈ l ↔ x ∈ m) → l = m
  | [], [], _, _, _ => rfl
  | [], b :: m, _, _, h => absurd ((h b).2 (List.mem_cons_self ..)) (by simp)
  | a :: l, [], _, _, h => absurd ((h a).1 (List.mem_cons_self ..)) (by simp)
  | a :: l, b :: m, hl, hm, h => by
    rw [List.pairwise_cons] at hl hm
    have hab : a = b := by
      have h1 := (h a).1 (List.mem_cons_self ..)
      have h2 := (h b).2 (List.mem_cons_self ..)
      rcases List.mem_cons.1 h1 with e | e
      · exact e
      · rcases List.mem_cons.1 h2 with e2 | e2
        · exact e2.symm
        · have := hm.1 a e
          have := hl.1 b e2
          omega
    subst hab
    refine congrArg _ (up_ext hl.2 hm.2 fun x => ?_)
    have := h x
    rw [List.mem_cons, List.mem_cons] at this
    constructor
    · intro hx
      rcases this.1 (.inr hx) with e | e
      · have := hl.1 x hx; omega
      · exact e
    · intro hx
      rcases this.2 (.inr hx) with e | e
      · have := hm.1 x hx; omega
      · exact e
end Crm

namespace Go.Proofs.YtgmelcdgnjcojagDoor
open Go.RowKit Crm

/-- The slice reads as the rows rs. -/
structure RdR (w : World) (a : Option Addr) (n c : Nat) (rs : List (List Int)) : Prop where
  len : rs.length = n
  cap : n ≤ c
  max : c ≤ maxLen
  nil : a = none → c = 0
  row : ∀ x, a = some x → ∀ i, i < n → ∃ ai ci, w.cell? (x.add i) = some (.slice ai (rs.getD i []).length ci) ∧ Rd w ai (rs.getD i []).length ci (rs.getD i [])

theorem RdR.at {w : World} {a : Option Addr} {n c : Nat} {rs : List (List Int)} (h : RdR w a n c rs) {k : Nat} (hk : k < n) :
    ∃ b o, a = some ⟨b, o, none⟩ ∧ b < w.heap.size ∧ ∀ i, i < n → ∃ ai ci, w.cell? ⟨b, o + i, none⟩ = some (.slice ai (rs.getD i []).length ci) ∧ Rd w ai (rs.getD i []).length ci (rs.getD i []) := by
  cases ha : a with
  | none => have := h.nil ha; have := h.cap; omega
  | some x =>
    obtain ⟨a0, c0, h0, _⟩ := h.row x ha 0 (by omega)
    have hs : x.spot = none := by
      have := spot_none h0
      unfold Addr.add at this
      split at this <;> simp_all
    obtain ⟨b, o, s⟩ := x
    simp only at hs
    subst hs
    refine ⟨b, o, rfl, ?_, fun i hi => by
      obtain ⟨ai, ci, h1, h2⟩ := h.row _ ha i hi
      rw [Addr.add_lit] at h1
      exact ⟨ai, ci, h1, h2⟩⟩
    have := World.block_lt_of_cell? w _ h0
    rwa [Addr.add_lit] at this

/-- One row of it, by names of its own. -/
theorem RdR.one {w : World} {a : Option Addr} {n c : Nat} {rs : List (List Int)} (h : RdR w a n c rs) {k : Nat} (hk : k < n) :
    ∃ b o ai ni ci row, a = some ⟨b, o, none⟩ ∧ b < w.heap.size ∧ Hid (rs.getD k [] = row) ∧ w.cell? ⟨b, o + k, none⟩ = some (.slice ai ni ci) ∧ Rd w ai ni ci row := by
  obtain ⟨b, o, ha, hb, hr⟩ := h.at hk
  obtain ⟨ai, ci, h1, h2⟩ := hr k hk
  exact ⟨b, o, ai, _, ci, _, ha, hb, rfl, h1, h2⟩

theorem RdR.below {w w' : World} {a : Option Addr} {n c : Nat} {rs : List (List Int)} (h : RdR w a n c rs) (hb : Below w.heap.size w w') : RdR w' a n c rs := by
  refine ⟨h.len, h.cap, h.max, h.nil, fun x hx i hi => ?_⟩
  obtain ⟨ai, ci, h1, h2⟩ := h.row x hx i hi
  exact ⟨ai, ci, by rw [hb.cell (World.block_lt_of_cell? w _ h1)]; exact h1, h2.below hb⟩

/-- The numbers of rows, by row and column. -/
def mat (rs : List (List Int)) (i j : Nat) : Int := (rs.getD i []).getD j 0
end Go.Proofs.YtgmelcdgnjcojagDoor

namespace Go.Proofs.YtgmelcdgnjcojagDoor
open Go.RowKit Crm

theorem infoU : (Tryd.prog.info? 34).map (fun i => (i.zero, i.size, i.bytes)) = some (some (.int .u64 0), 1, 8) := by kernel_rfl
theorem infoV : (Tryd.prog.info? 22).map (fun i => (i.zero, i.size, i.bytes)) = some (some (.slice none 0 0), 1, 24) := by kernel_rfl

/-- Of the rests of L the first k. -/
structure Nz (L : List Int) (k : Nat) (A : List Int) : Prop where
  len : A.length = L.length
  bd : ∀ x ∈ A, 0 ≤ x ∧ x ≤ 2147483646
  at_ : ∀ j, j < k → A.getD j 0 = nm (L.getD j 0)
theorem nz_start (L : List Int) (n : Nat) (h : L.length = n) : Nz L 0 (List.replicate n 0) := ⟨by simp [h], fun x hx => by rw [List.eq_of_mem_replicate hx]; omega, fun j hj => by omega⟩
theorem nz_step {L A : List Int} {k : Nat} (h : Nz L k A) (hk : k < L.length) {v : Int} (hv : v = nm (L.getD k 0)) : Nz L (k + 1) (A.set k v) := by
  refine ⟨by rw [List.length_set]; exact h.len, set_bd h.bd (by rw [hv]; exact nm_bd _), fun j hj => ?_⟩
  rw [getD_set]
  by_cases e : j = k
  · subst e
    rw [if_pos ⟨rfl, by rw [h.len]; exact hk⟩, hv]
  · rw [if_neg (by omega), h.at_ j (by omega)]

/-- Of the list in row gl the first i rows are made. -/
structure Mp (w : World) (lo gl n W i : Nat) (G : Nat → Nat) (M : Nat → List Int) : Prop where
  lst : ∃ cur : Array Value, w.heap[gl]? = some (.cells cur 22 (0, 0)) ∧ cur.size = n ∧ ∀ r, r < i → cur[r]? = some (.slice (some ⟨G r, 0, none⟩) W W)
  gb : lo ≤ gl
  rng : ∀ r, r < i → lo ≤ G r ∧ G r < w.heap.size ∧ G r ≠ gl
  inj : ∀ r s, r < i → s < i → G r = G s → r = s
  row : ∀ r, r < i → Blk w (G r) (M r)
  wid : ∀ r, r < i → (M r).length = W
  bd : ∀ r, r < i → ∀ x ∈ M r, 0 ≤ x ∧ x ≤ 2147483646
theorem Mp.lt {w : World} {lo gl n W i : Nat} {G : Nat → Nat} {M : Nat → List Int} (h : Mp w lo gl n W i G M) : gl < w.heap.size := by
  obtain ⟨cur, h1, _⟩ := h.lst
  exact (Array.getElem?_eq_some_iff.1 h1).1
theorem Mp.has {w : World} {lo gl n W i : Nat} {G : Nat → Nat} {M : Nat → List Int} (h : Mp w lo gl n W i G M) {r : Nat} (hr : r < n) : ∃ u, w.cell? ⟨gl, r, none⟩ = some u := by
  obtain ⟨cur, h1, h2, h3⟩ := h.lst
  rw [cell_of_row w gl r _ _ (0, 0) h1]
  exact ⟨_, Array.getElem?_eq_getElem (by omega)⟩
theorem Mp.frozen {w : World} {lo gl n W i : Nat} {G : Nat → Nat} {M : Nat → List Int} (h : Mp w lo gl n W i G M) (r : Nat) : w.frozen? ⟨gl, r, none⟩ = false := by
  obtain ⟨cur, h1, h2, h3⟩ := h.lst
  exact frozen_of_row w gl r _ _ h1
theorem Mp.grown {w : World} {lo gl n W i : Nat} {G : Nat → Nat} {M : Nat → List Int} (h : Mp w lo gl n W i G M) {w' : World} (hg : w.grownBy w' none) : Mp w' lo gl n W i G M := by
  refine ⟨?_, h.gb, fun r hr => ⟨(h.rng r hr).1, Nat.lt_of_lt_of_le (h.rng r hr).2.1 hg.size, (h.rng r hr).2.2⟩, h.inj, fun r hr => (h.row r hr).grown hg (by simp), h.wid, h.bd⟩
  obtain ⟨cur, h1, h2⟩ := h.lst
  exact ⟨cur, by rw [hg.block gl (Array.getElem?_eq_some_iff.1 h1).1 (by simp)]; exact h1, h2⟩
/-- Row i is put in its place: g, which has just been made and then been filled. -/
theorem Mp.next {w : World} {lo gl n W i : Nat} {G : Nat → Nat} {M : Nat → List Int} (h : Mp w lo gl n W i G M) {g : Nat} {w1 w2 : World} {A : List Int} (hi : i < n) (h0 : w.grownBy w1 none) (hgg : w.heap.size ≤ g) (hg1 : g < w1.heap.size) (hg2 : (w1.setCell ⟨gl, i, none⟩ (.slice (some ⟨g, 0, none⟩) W W)).grownBy w2 (some g)) (hlo : lo ≤ g) (hA : Blk w2 g A) (hl : A.length = W) (hb : ∀ x ∈ A, 0 ≤ x ∧ x ≤ 2147483646) :
    Mp w2 lo gl n W (i + 1) (fun r => if r = i then g else G r) (fun r => if r = i then A else M r) := by
  have hgl := h.lt
  have h' := h.grown h0
  have hs2 : w1.heap.size ≤ w2.heap.size := by have := hg2.size; simpa using this
  refine ⟨?_, h.gb, fun r hr => ?_, fun r s hr hs e => ?_, fun r hr => ?_, fun r hr => ?_, fun r hr => ?_⟩
  · obtain ⟨cur, h1, h2, h3⟩ := h'.lst
    refine ⟨cur.setIfInBounds i (.slice (some ⟨g, 0, none⟩) W W), ?_, by simpa using h2, fun r hr => ?_⟩
    · rw [hg2.block gl (by simpa using h'.lt) (by simp; omega)]
      exact heap_setCell_same w1 gl i _ _ _ h1
    · rw [Array.getElem?_setIfInBounds]
      by_cases e : i = r
      · subst e; simp [h2, hi]
      · rw [if_neg e, h3 r (by omega), if_neg (fun e2 => e e2.symm)]
  · by_cases e : r = i
    · simp only [if_pos e]; exact ⟨hlo, by omega, by omega⟩
    · simp only [if_neg e]
      have := h'.rng r (by omega)
      exact ⟨this.1, by omega, this.2.2⟩
  · by_cases e1 : r = i
    · by_cases e2 : s = i
      · omega
      · simp only [if_pos e1, if_neg e2] at e
        have := h.rng s (by omega); omega
    · by_cases e2 : s = i
      · simp only [if_neg e1, if_pos e2] at e
        have := h.rng r (by omega); omega
      · simp only [if_neg e1, if_neg e2] at e
        exact h.inj r s (by omega) (by omega) e
  · by_cases e : r = i
    · simp only [if_pos e]; exact hA
    · simp only [if_neg e]
      have hr2 := h.rng r (by omega)
      have hb1 := h'.row r (by omega)
      unfold Blk at hb1 ⊢
      rw [hg2.block _ (by simp; have := h'.rng r (by omega); omega) (by simp; omega), heap_setCell_other _ _ _ _ (by simpa using hr2.2.2)]
      exact hb1
  · by_cases e : r = i
    · simp only [if_pos e]; exact hl
    · simp only [if_neg e]; exact h.wid r (by omega)
  · by_cases e : r = i
    · simp only [if_pos e]; exact hb
    · simp only [if_neg e]; exact h.bd r (by omega)
theorem Mp.mx {w : World} {lo gl n W i : Nat} {G : Nat → Nat} {M : Nat → List Int} (h : Mp w lo gl n W i G M) (hi : i = n) : Mx w lo w.heap.size gl n W G M := by
  subst hi
  exact ⟨h.lst, ⟨h.gb, h.lt⟩, h.rng, h.inj, h.row, h.wid, h.bd, Nat.le_refl _⟩

set_option maxHeartbeats 1000000 in
set_option maxRecDepth 100000 in
theorem cRests (a : Option Addr) (n c W : Nat) (rs : List (List Int)) (w : World) (h : RdR w a n c rs) (hw : ∀ i, i < n → (rs.getD i []).length = W) (hn : n ≤ 1000) (hW : W ≤ 1000) :
    Calls Tryd.prog 117 #[.slice a n c] w fun e w' => ∃ G M, e = .returned (.slice (some ⟨w.heap.size, 0, none⟩) n n) ∧ Mx w' w.heap.size w'.heap.size w.heap.size n W G M ∧
      (∀ i j, i < n → j < W → (M i).getD j 0 = nm (mat rs i j)) ∧ Below w.heap.size w w' := by
  obtain ⟨i0, hi, hz0, hz1, hz2⟩ := info_parts infoU
  obtain ⟨i1, gi, gz0, gz1, gz2⟩ := info_parts infoV
  go_enter Tryd.func117, Tryd.ntmps117
  go_wp2_with (at_make; refine wpList_make_full _ rfl _ _ 36 rfl w.heap.size 22 i1 (.slice none 0 0) 1 Tryd.underlying36 gi gz0 gz1 .i64 .i64 _ _ n rfl rfl (by omega) (by omega) (by rw [gz2]; omega) (by unfold maxLen; omega) (Nat.le_refl _) ?_; intro w1 hown hgrow)
  have hM : Mp w1 w.heap.size w.heap.size n W 0 (fun _ => 0) (fun _ => []) := by
    refine ⟨?_, Nat.le_refl _, fun r hr => by omega, fun r s hr => by omega, fun r hr => by omega, fun r hr => by omega, fun r hr => by omega⟩
    rcases hown.2 with ⟨h', _⟩ | ⟨g', cap', cur, h', _, hg, _, _, hs, htake⟩
    · simp at h'
    · simp only [Value.slice.injEq, Option.some.injEq, Addr.mk.injEq, and_true, true_and] at h'
      obtain ⟨rfl, rfl⟩ := h'
      exact ⟨cur, hg, by omega, fun r hr => by omega⟩
  have hbel : Below w.heap.size w w1 := (Below.refl _ _).grown hgrow (Nat.le_refl _) (by simp)
  clear hown hgrow
  go_loopw [13] (fun i wr => ∃ (k : Nat) (G : Nat → Nat) (M : Nat → List Int), k ≤ n ∧ i = .int .i64 k ∧ Mp wr w.heap.size w.heap.size n W k G M ∧ Hid (∀ i j, i < k → j < W → (M i).getD j 0 = nm (mat rs i j)) ∧ Below w.heap.size w wr) (fun i _ => n - (intOf i).toNat)
  case atStart => exact ⟨0, _, _, Nat.zero_le _, rfl, hM, fun i j hi => by omega, hbel⟩
  case round =>
    clear hM hbel
    obtain ⟨k, G, M, hk, rfl, hM, HV, hbel⟩ := hrel
    obtain ⟨wo, hwo⟩ : ∃ wo, wo = wr := ⟨_, rfl⟩
    subst hwo
    have hgl := hM.lt
    by_cases hlt : k < n
    · obtain ⟨b, o, ai, ni, ci, row, rfl, hbb, HRow, hcr0, hrow⟩ := h.one hlt
      have hcr : wo.cell? ⟨b, o + k, none⟩ = some (.slice ai ni ci) := by rw [hbel.cell hbb]; exact hcr0
      have hni : ni = W := by have := hw k hlt; rw [HRow.out] at this; rw [← hrow.len]; exact this
      subst hni
      obtain ⟨u0, hu0⟩ := hM.has hlt
      have hfz0 := hM.frozen k
      go_wp2_with (first | (at_make; refine wpList_make_full _ rfl _ _ 22 rfl wo.heap.size 34 i0 (.int .u64 0) 1 Tryd.underlying22 hi hz0 hz1 .i64 .i64 _ _ ni rfl rfl (by omega) (by omega) (by rw [hz2]; omega) (by unfold maxLen; omega) (Nat.le_refl _) ?_; intro w2 hown hgrow; have hu2 : w2.cell? ⟨w.heap.size, k, none⟩ = some u0 := hgrow.cell hu0 (by simp); have hfz2 : w2.frozen? ⟨w.heap.size, k, none⟩ = false := by rw [World.frozen?_of_block (w := wo) (hgrow.block _ hgl (by simp))]; exact hfz0) | fail)
      have hb2 : Blk w2 wo.heap.size (List.replicate ni 0) := Blk.made hown
      have hs2 : wo.heap.size < w2.heap.size := hb2.lt
      obtain ⟨w3, hw3⟩ : ∃ w3, w3 = w2.setCell ⟨w.heap.size, k, none⟩ (.slice (some ⟨wo.heap.size, 0, none⟩) ni ni) := ⟨_, rfl⟩
      have hg23 : w2.grownBy w3 (some w.heap.size) := by rw [hw3]; exact grown_set _ _ _ _
      have hb3 : Blk w3 wo.heap.size (List.replicate ni 0) := hb2.grown hg23 (by simp; omega)
      have hc3 : w3.cell? ⟨w.heap.size, k, none⟩ = some (.slice (some ⟨wo.heap.size, 0, none⟩) ni ni) := by rw [hw3]; exact World.cell?_setCell_same w2 _ _ hu2
      have hbel3 : Below w.heap.size w w3 := by
        rw [hw3]
        exact ((hbel.grown hgrow hbel.size (by simp)).setCell (Nat.le_refl _) _)
      have hnext : ∀ (w4 : World) (A : List Int), w3.grownBy w4 (some wo.heap.size) → Blk w4 wo.heap.size A → Nz row ni A → ∃ G' M', Mp w4 w.heap.size w.heap.size n ni (k + 1) G' M' ∧ Hid (∀ i j, i < k + 1 → j < ni → (M' i).getD j 0 = nm (mat rs i j)) ∧ Below w.heap.size w w4 := fun w4 A hg4 hA hN =>
        ⟨_, _, hM.next hlt hgrow (Nat.le_refl _) hs2 (by rw [← hw3]; exact hg4) hbel.size hA (by rw [hN.len]; exact hrow.len) hN.bd, fun i j hi' hj => by
          by_cases e : i = k
          · simp only [if_pos e]
            rw [hN.at_ j hj, e]
            unfold mat; rw [HRow.out]
          · simp only [if_neg e]
            exact HV.out i j (by omega) hj, below_grown hbel3 hg4 hbel.size⟩
      rw [← hw3]
      have hrow3 : Rd w3 ai ni ci row := hrow.below hbel3
      have hs3 : wo.heap.size < w3.heap.size := hb3.lt
      clear hM HV hown hgrow hu2 hfz2 hb2 hg23 hw3 hcr hcr0 hu0 hfz0
      have hs0 := hbel.size
      go_wp2
      go_loopw [26] (fun i wr => ∃ (j : Nat) (A : List Int), j ≤ ni ∧ i = .int .i64 j ∧ Hid (Nz row j A) ∧ Blk wr wo.heap.size A ∧ w3.grownBy wr (some wo.heap.size)) (fun i _ => ni - (intOf i).toNat)
      case atStart => exact ⟨0, _, Nat.zero_le _, rfl, nz_start _ _ hrow3.len, hb3, World.grownBy.refl _ _⟩
      case round =>
        obtain ⟨j, A, hj, rfl, HN, hA, hg4⟩ := hrel
        have hlen := hrow3.len
        have hlA : A.length = ni := by rw [HN.out.len]; exact hlen
        by_cases hjn : j < ni
        · obtain ⟨b', o', x, rfl, hb', HX, hx0, hx1, hcx0⟩ := hrow.one hjn
          have hcx : wr.cell? ⟨b', o' + j, none⟩ = some (.int .u64 x) := hg4.cell (by rw [hbel3.cell hb']; exact hcx0) (by simp; omega)
          have hcl : wr.cell? ⟨w.heap.size, k, none⟩ = some (.slice (some ⟨wo.heap.size, 0, none⟩) ni ni) := hg4.cell hc3 (by simp; omega)
          have hcA := hA.cell (i := j) (by omega)
          have hfA := hA.frozen j
          have HN2 : Hid (Nz row (j + 1) (A.set j (nm x))) := nz_step HN.out (by omega) (by rw [HX.out])
          have HA2 : Hid (Blk (wr.setCell ⟨wo.heap.size, j, none⟩ (.int .u64 (nm x))) wo.heap.size (A.set j (nm x))) := hA.set j _
          have HG2 : Hid (w3.grownBy (wr.setCell ⟨wo.heap.size, j, none⟩ (.int .u64 (nm x))) (some wo.heap.size)) := grown_trans hg4 (grown_set _ _ _ _)
          clear HN hA hg4 hnext
          go_wp2
          go_region_with (first | (go_at_call 37; refine (fNorm _ _ (by omega) (by omega)).mono ?_; rintro e w' ⟨rfl, rfl⟩))
          all_goals
            go_wp2
            go_roundw
            case rel => exact ⟨j + 1, _, by omega, by go_num, HN2, HA2.out, grown_drew HG2.out⟩
            case measure => simp [intOf]; omega
        · have hjn2 : j = ni := by omega
          subst hjn2
          obtain ⟨G', M', hM', HV', hbel'⟩ := hnext _ _ hg4 hA HN.out
          go_wp2
          go_roundw
          case rel => exact ⟨k + 1, G', M', by omega, by go_num, hM', HV', hbel'⟩
          case measure => simp [intOf]; omega
    · have hkn : k = n := by omega
      subst hkn
      go_wp2
      go_ret
      exact ⟨G, M, rfl, hM.mx rfl, HV.out, hbel⟩
end Go.Proofs.YtgmelcdgnjcojagDoor
