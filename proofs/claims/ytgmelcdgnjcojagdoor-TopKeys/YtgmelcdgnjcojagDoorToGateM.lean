/- GAUSS: columns that are sums of those ahead; what row steps keep; the document's way, column by column. Plain. · Any shares of a dealing, and their weights: plain facts. · Reckoning with shares: plain facts. -/
import Derived.Test.YtgmelcdgnjcojagDoorToShares
import Derived.Test.YtgmelcdgnjcojagDoorToTellsM
import Derived.Test.YtgmelcdgnjcojagDoorToCrewC
namespace Crm

def sm (f : Nat → Int) : Nat → Int
  | 0 => 0
  | n + 1 => sm f n + f n
theorem sm_ncongr {f g : Nat → Int} : ∀ {n : Nat}, (∀ j, j < n → nm (f j) = nm (g j)) → nm (sm f n) = nm (sm g n)
  | 0, _ => rfl
  | n + 1, h => nm_add_congr (sm_ncongr fun j hj => h j (by omega)) (h n (by omega))
theorem sm_add (f g : Nat → Int) : ∀ n, sm (fun j => f j + g j) n = sm f n + sm g n
  | 0 => rfl
  | n + 1 => by rw [sm, sm, sm, sm_add f g n]; omega
theorem sm_mul (c : Int) (f : Nat → Int) : ∀ n, sm (fun j => c * f j) n = c * sm f n
  | 0 => by rw [sm, sm, Int.mul_zero]
  | n + 1 => by rw [sm, sm, sm_mul c f n, Int.mul_add]
theorem sm_zero {f : Nat → Int} {n : Nat} (h : ∀ j, j < n → nm (f j) = 0) : nm (sm f n) = 0 := by
  have : ∀ n, sm (fun _ => 0) n = 0 := fun n => by induction n with | zero => rfl | succ n ih => rw [sm, ih]; rfl
  rw [sm_ncongr (g := fun _ => 0) (fun j hj => h j hj), this]; rfl
theorem sm_cut {f : Nat → Int} {m : Nat} : ∀ {n : Nat}, m ≤ n → (∀ j, m ≤ j → j < n → nm (f j) = 0) → nm (sm f n) = nm (sm f m)
  | 0, hm, _ => by rw [Nat.le_zero.1 hm]
  | n + 1, hm, h => by
    by_cases e : m = n + 1
    · rw [e]
    · rw [sm, nm_add_congr (c := sm f m) (d := 0) (sm_cut (by omega) fun j h1 h2 => h j h1 (by omega)) (h n (by omega) (by omega)), Int.add_zero]
theorem sm_swap (F : Nat → Nat → Int) (n : Nat) : ∀ m, sm (fun j => sm (fun k => F k j) m) n = sm (fun k => sm (fun j => F k j) n) m
  | 0 => by
    have : ∀ n, sm (fun _ => 0) n = 0 := fun n => by induction n with | zero => rfl | succ n ih => rw [sm, ih]; rfl
    exact this n
  | m + 1 => by
    show sm (fun j => sm (fun k => F k j) m + F m j) n = sm (fun k => sm (fun j => F k j) n) m + sm (fun j => F m j) n
    rw [sm_add, sm_swap F n m]

/-- f, number by number times the columns, is nought in each row. -/
def NS (M : Nat → Nat → Int) (r w : Nat) (f : Nat → Int) : Prop := ∀ i, i < r → nm (sm (fun j => f j * M i j) w) = 0
/-- Column c is a sum of columns ahead of it, each times some number. -/
def dep (M : Nat → Nat → Int) (r c : Nat) : Prop := ∃ f : Nat → Int, ∀ i, i < r → nm (sm (fun j => f j * M i j) c) = nm (M i c)

theorem dep_of_ns {M : Nat → Nat → Int} {r w c : Nat} {f : Nat → Int} (h : NS M r w f) (hc : c < w) (h0 : nm (f c) ≠ 0) (hz : ∀ j, c < j → j < w → nm (f j) = 0) : dep M r c := by
  refine ⟨fun j => -(iv (f c)) * f j, fun i hi => ?_⟩
  have h1 := h i hi
  rw [sm_cut (m := c + 1) (by omega) (fun j h1 h2 => by rw [nm_mul_congr (c := 0) (hz j (by omega) h2) rfl, Int.zero_mul]; rfl), sm] at h1
  have e : nm (sm (fun j => -(iv (f c)) * f j * M i j) c) = nm (-(iv (f c)) * sm (fun j => f j * M i j) c) := by
    rw [← sm_mul]
    exact sm_ncongr fun j _ => by rw [Int.mul_assoc]
  rw [e]
  generalize sm (fun j => f j * M i j) c = S at *
  have h2 : nm S = nm (-(f c * M i c)) := by unfold nm at *; omega
  rw [nm_mul_congr rfl h2, Int.neg_mul_neg, ← Int.mul_assoc, ← nm_mull, iv_mul h0, Int.one_mul]
theorem ns_of_dep {M : Nat → Nat → Int} {r w c : Nat} (h : dep M r c) (hc : c < w) : ∃ f, NS M r w f ∧ nm (f c) ≠ 0 ∧ ∀ j, c < j → j < w → nm (f j) = 0 := by
  obtain ⟨f, hf⟩ := h
  refine ⟨fun j => if j < c then f j else if j = c then -1 else 0, fun i hi => ?_, ?_, fun j h1 h2 => ?_⟩
  · rw [sm_cut (m := c + 1) (by omega) (fun j h1 h2 => by
      show nm ((if j < c then f j else if j = c then -1 else 0) * M i j) = 0
      rw [if_neg (by omega), if_neg (by omega), Int.zero_mul]; rfl), sm]
    have e : nm (sm (fun j => (if j < c then f j else if j = c then -1 else 0) * M i j) c) = nm (M i c) := by
      rw [← hf i hi]
      exact sm_ncongr fun j hj => by rw [if_pos hj]
    have e2 : (if c < c then f c else if c = c then (-1 : Int) else 0) = -1 := by rw [if_neg (by omega), if_pos rfl]
    show nm (sm (fun j => (if j < c then f j else if j = c then -1 else 0) * M i j) c + (if c < c then f c else if c = c then (-1 : Int) else 0) * M i c) = 0
    rw [e2, nm_add_congr (c := M i c) (d := -1 * M i c) e rfl, Int.neg_one_mul, Int.add_right_neg]; rfl
  · show nm (if c < c then f c else if c = c then (-1 : Int) else 0) ≠ 0
    rw [if_neg (by omega), if_pos rfl]; decide
  · show nm (if j < c then f j else if j = c then (-1 : Int) else 0) = 0
    rw [if_neg (by omega), if_neg (by omega)]; rfl
/-- Which columns are sums hangs on what is nought alone. -/
theorem dep_congr {M A : Nat → Nat → Int} {r s w : Nat} (h : ∀ f, NS M r w f ↔ NS A s w f) {c : Nat} (hc : c < w) : dep M r c ↔ dep A s c := by
  constructor
  · intro hd
    obtain ⟨f, h1, h2, h3⟩ := ns_of_dep hd hc
    exact dep_of_ns ((h f).1 h1) hc h2 h3
  · intro hd
    obtain ⟨f, h1, h2, h3⟩ := ns_of_dep hd hc
    exact dep_of_ns ((h f).2 h1) hc h2 h3
/-- What is nought and has numbers at columns alone that are no sums is 0. -/
theorem ns_zero {M : Nat → Nat → Int} {r w : Nat} {f : Nat → Int} (h : NS M r w f) (hd : ∀ c, c < w → nm (f c) ≠ 0 → ¬ dep M r c) : ∀ c, c < w → nm (f c) = 0 := by
  have key : ∀ d, d ≤ w → ∀ j, w - d ≤ j → j < w → nm (f j) = 0 := by
    intro d
    induction d with
    | zero => intro _ j h1 h2; omega
    | succ d ih =>
      intro hdw j h1 h2
      by_cases e : w - d ≤ j
      · exact ih (by omega) j e h2
      · rcases Int.decEq (nm (f j)) 0 with hne | heq
        · exact absurd (dep_of_ns h h2 hne fun k h3 h4 => ih (by omega) k (by omega) h4) (hd j h2 hne)
        · exact heq
  exact fun c hc => key w (Nat.le_refl _) c (by omega) hc

/-- Number i of the k-th list. -/
def bk (B : List (List Int)) (k i : Nat) : Int := (B.getD k []).getD i 0
theorem bk_old {B : List (List Int)} {b : List Int} {k : Nat} (h : k < B.length) (i : Nat) : bk (B ++ [b]) k i = bk B k i := by
  unfold bk; simp [List.getElem?_append_left h]
theorem bk_new (B : List (List Int)) (b : List Int) (i : Nat) : bk (B ++ [b]) B.length i = b.getD i 0 := by
  unfold bk; simp

/-- Where the document's way stands ahead of column c. -/
structure LeI (M : Nat → Nat → Int) (r c : Nat) (B : List (List Int)) (at_ L : List Nat) : Prop where
  la : at_.length = B.length
  ll : L.length = B.length
  lb : ∀ k, k < B.length → (B.getD k []).length = r
  ab : ∀ k, k < B.length → at_.getD k 0 < r
  one : ∀ k, k < B.length → nm (bk B k (at_.getD k 0)) = 1
  later : ∀ k q, k < q → q < B.length → nm (bk B q (at_.getD k 0)) = 0
  ins : ∀ k, k < B.length → ∃ f : Nat → Int, ∀ i, i < r → nm (sm (fun j => f j * M i j) c) = nm (bk B k i)
  spans : ∀ j, j < c → ∃ a : Nat → Int, ∀ i, i < r → nm (sm (fun k => a k * bk B k i) B.length) = nm (M i j)
  lead : ∀ j, j < c → (j ∈ L ↔ ¬ dep M r j)
  lt : ∀ j ∈ L, j < c
  up : L.Pairwise (· < ·)

theorem le_start (M : Nat → Nat → Int) (r : Nat) : LeI M r 0 [] [] [] :=
  ⟨rfl, rfl, fun k hk => by simp at hk, fun k hk => by simp at hk, fun k hk => by simp at hk, fun k q _ hq => by simp at hq, fun k hk => by simp at hk, fun j hj => by omega, fun j hj => by omega, fun j hj => by simp at hj, List.Pairwise.nil⟩

/-- The column, cleared by the first k lists. -/
structure ClI (M : Nat → Nat → Int) (r c : Nat) (B : List (List Int)) (at_ : List Nat) (k : Nat) (C : Nat → Int) : Prop where
  eq : ∃ a : Nat → Int, ∀ i, i < r → nm (C i + sm (fun q => a q * bk B q i) k) = nm (M i c)
  z : ∀ q, q < k → nm (C (at_.getD q 0)) = 0
theorem cl_start (M : Nat → Nat → Int) (r c : Nat) (B : List (List Int)) (at_ : List Nat) {C : Nat → Int} (h : ∀ i, i < r → nm (C i) = nm (M i c)) : ClI M r c B at_ 0 C :=
  ⟨⟨fun _ => 0, fun i hi => by rw [sm, Int.add_zero]; exact h i hi⟩, fun q hq => by omega⟩
theorem cl_step {M : Nat → Nat → Int} {r c : Nat} {B : List (List Int)} {at_ L : List Nat} {k : Nat} {C D : Nat → Int} {m : Int} (hl : LeI M r c B at_ L) (h : ClI M r c B at_ k C) (hk : k < B.length)
    (hm : m = nm (-(C (at_.getD k 0)))) (hD : ∀ i, i < r → nm (D i) = nm (C i + m * bk B k i)) : ClI M r c B at_ (k + 1) D := by
  obtain ⟨a, ha⟩ := h.eq
  refine ⟨⟨fun q => if q = k then -m else a q, fun i hi => ?_⟩, fun q hq => ?_⟩
  · rw [← ha i hi, sm]
    show nm (D i + (sm (fun q => (if q = k then -m else a q) * bk B q i) k + (if k = k then -m else a k) * bk B k i)) = _
    rw [if_pos rfl]
    have e : nm (sm (fun q => (if q = k then -m else a q) * bk B q i) k) = nm (sm (fun q => a q * bk B q i) k) := sm_ncongr fun q hq => by rw [if_neg (by omega)]
    rw [nm_add_congr (hD i hi) (nm_add_congr e rfl), Int.neg_mul]
    congr 1; omega
  · have hr := hl.ab q (by omega)
    rw [hD _ hr]
    by_cases e : q = k
    · subst e
      rw [nm_add_congr (c := C (at_.getD q 0)) (d := m * 1) rfl (nm_mul_congr rfl (by rw [hl.one q hk]; rfl)), Int.mul_one, hm, nm_addr, Int.add_right_neg]; rfl
    · rw [nm_add_congr (c := 0) (d := m * 0) (h.z q (by omega)) (nm_mul_congr rfl (hl.later q k (by omega) hk)), Int.mul_zero]; rfl

/-- Sums of sums of columns are sums of columns. -/
theorem ins_sum {M : Nat → Nat → Int} {r c : Nat} {B : List (List Int)} (h : ∀ k, k < B.length → ∃ f : Nat → Int, ∀ i, i < r → nm (sm (fun j => f j * M i j) c) = nm (bk B k i)) (a : Nat → Int) :
    ∃ f : Nat → Int, ∀ i, i < r → nm (sm (fun j => f j * M i j) c) = nm (sm (fun k => a k * bk B k i) B.length) := by
  have hc : ∀ k, ∃ f : Nat → Int, k < B.length → ∀ i, i < r → nm (sm (fun j => f j * M i j) c) = nm (bk B k i) := fun k => by
    by_cases hk : k < B.length
    · obtain ⟨f, hf⟩ := h k hk; exact ⟨f, fun _ => hf⟩
    · exact ⟨fun _ => 0, fun h => absurd h hk⟩
  let F := fun k => Classical.choose (hc k)
  have hF := fun k => Classical.choose_spec (hc k)
  refine ⟨fun j => sm (fun k => a k * F k j) B.length, fun i hi => ?_⟩
  have e1 : nm (sm (fun j => sm (fun k => a k * F k j) B.length * M i j) c) = nm (sm (fun j => sm (fun k => a k * F k j * M i j) B.length) c) := sm_ncongr fun j _ => by
    rw [Int.mul_comm, ← sm_mul]
    exact sm_ncongr fun k _ => by rw [Int.mul_comm]
  rw [e1, sm_swap]
  refine sm_ncongr fun k hk => ?_
  have e2 : nm (sm (fun j => a k * F k j * M i j) c) = nm (a k * sm (fun j => F k j * M i j) c) := by
    rw [← sm_mul]
    exact sm_ncongr fun j _ => by rw [Int.mul_assoc]
  rw [e2]
  exact nm_mul_congr rfl (hF k hk i hi)
/-- A sum of the lists that is 0 at all their places is 0. -/
theorem at_zero {M : Nat → Nat → Int} {r c : Nat} {B : List (List Int)} {at_ L : List Nat} (hl : LeI M r c B at_ L) {a : Nat → Int}
    (h : ∀ q, q < B.length → nm (sm (fun k => a k * bk B k (at_.getD q 0)) B.length) = 0) : ∀ q, q < B.length → nm (a q) = 0 := by
  intro q
  induction q using Nat.strongRecOn with
  | ind q ih =>
    intro hq
    have h1 := h q hq
    rw [sm_cut (m := q + 1) (by omega) (fun k h1 h2 => by rw [nm_mul_congr (d := 0) rfl (hl.later q k (by omega) h2), Int.mul_zero]; rfl), sm,
      nm_add_congr (c := 0) (d := a q * 1) (sm_zero fun k hk => by rw [nm_mul_congr (c := 0) (ih k hk (by omega)) rfl, Int.zero_mul]; rfl) (nm_mul_congr rfl (by rw [hl.one q hq]; rfl)),
      Int.zero_add, Int.mul_one] at h1
    exact h1
/-- A column that is a sum of those ahead is cleared wholly. -/
theorem cl_dep {M : Nat → Nat → Int} {r c : Nat} {B : List (List Int)} {at_ L : List Nat} {C : Nat → Int} (hl : LeI M r c B at_ L) (h : ClI M r c B at_ B.length C) (hd : dep M r c) : ∀ i, i < r → nm (C i) = 0 := by
  obtain ⟨a, ha⟩ := h.eq
  obtain ⟨f, hf⟩ := hd
  have hc : ∀ j, ∃ b : Nat → Int, j < c → ∀ i, i < r → nm (sm (fun k => b k * bk B k i) B.length) = nm (M i j) := fun j => by
    by_cases hj : j < c
    · obtain ⟨b, hb⟩ := hl.spans j hj; exact ⟨b, fun _ => hb⟩
    · exact ⟨fun _ => 0, fun h => absurd h hj⟩
  let F := fun j => Classical.choose (hc j)
  have hF := fun j => Classical.choose_spec (hc j)
  have h1 : ∀ i, i < r → nm (C i) = nm (sm (fun k => (sm (fun j => f j * F j k) c - a k) * bk B k i) B.length) := fun i hi => by
    have e1 : nm (sm (fun j => f j * M i j) c) = nm (sm (fun k => sm (fun j => f j * F j k) c * bk B k i) B.length) := by
      have e2 : nm (sm (fun j => f j * M i j) c) = nm (sm (fun j => sm (fun k => f j * F j k * bk B k i) B.length) c) := sm_ncongr fun j hj => by
        rw [nm_mul_congr rfl (hF j hj i hi).symm, ← sm_mul]
        exact sm_ncongr fun k _ => by rw [Int.mul_assoc]
      rw [e2, sm_swap]
      exact sm_ncongr fun k _ => by
        rw [Int.mul_comm, ← sm_mul]
        exact sm_ncongr fun j _ => by rw [Int.mul_comm]
    have e3 : sm (fun k => (sm (fun j => f j * F j k) c - a k) * bk B k i) B.length = sm (fun k => sm (fun j => f j * F j k) c * bk B k i) B.length + (-1) * sm (fun k => a k * bk B k i) B.length := by
      rw [← sm_mul, ← sm_add]
      congr 1; funext k
      rw [Int.sub_mul, Int.neg_one_mul]; omega
    rw [e3]
    have h2 := ha i hi
    have h3 := hf i hi
    rw [e1] at h3
    generalize sm (fun k => sm (fun j => f j * F j k) c * bk B k i) B.length = X at *
    generalize sm (fun k => a k * bk B k i) B.length = Y at *
    unfold nm at *; omega
  have h2 := at_zero hl (a := fun k => sm (fun j => f j * F j k) c - a k) fun q hq => by
    rw [← h1 _ (hl.ab q hq)]; exact h.z q hq
  intro i hi
  rw [h1 i hi]
  exact sm_zero fun k hk => by rw [nm_mul_congr (c := 0) (h2 k hk) rfl, Int.zero_mul]; rfl
/-- A column that is cleared wholly is a sum of those ahead. -/
theorem dep_cl {M : Nat → Nat → Int} {r c : Nat} {B : List (List Int)} {at_ L : List Nat} {C : Nat → Int} (hl : LeI M r c B at_ L) (h : ClI M r c B at_ B.length C) (hz : ∀ i, i < r → nm (C i) = 0) : dep M r c := by
  obtain ⟨a, ha⟩ := h.eq
  obtain ⟨f, hf⟩ := ins_sum hl.ins a
  refine ⟨f, fun i hi => ?_⟩
  rw [hf i hi, ← ha i hi, nm_add_congr (c := 0) (hz i hi) rfl, Int.zero_add]
theorem getD_nat_old {l : List Nat} {b k : Nat} (h : k < l.length) : (l ++ [b]).getD k 0 = l.getD k 0 := by simp [List.getElem?_append_left h]
theorem getD_nat_new (l : List Nat) (b : Nat) : (l ++ [b]).getD l.length 0 = b := by simp
theorem getD_list_old {l : List (List Int)} {b : List Int} {k : Nat} (h : k < l.length) : (l ++ [b]).getD k [] = l.getD k [] := by simp [List.getElem?_append_left h]
theorem getD_list_new (l : List (List Int)) (b : List Int) : (l ++ [b]).getD l.length [] = b := by simp
/-- The next column is a sum of those ahead: nothing is added. -/
theorem le_skip {M : Nat → Nat → Int} {r c : Nat} {B : List (List Int)} {at_ L : List Nat} {C : Nat → Int} (hl : LeI M r c B at_ L) (h : ClI M r c B at_ B.length C) (hz : ∀ i, i < r → nm (C i) = 0) : LeI M r (c + 1) B at_ L := by
  have hd := dep_cl hl h hz
  refine ⟨hl.la, hl.ll, hl.lb, hl.ab, hl.one, hl.later, fun k hk => ?_, fun j hj => ?_, fun j hj => ?_, fun j hj => ?_, hl.up⟩
  · obtain ⟨f, hf⟩ := hl.ins k hk
    refine ⟨fun j => if j < c then f j else 0, fun i hi => ?_⟩
    rw [sm]
    show nm (sm (fun j => (if j < c then f j else 0) * M i j) c + (if c < c then f c else 0) * M i c) = _
    rw [if_neg (by omega), Int.zero_mul, Int.add_zero, ← hf i hi]
    exact sm_ncongr fun j hj => by rw [if_pos hj]
  · by_cases e : j = c
    · subst e
      obtain ⟨a, ha⟩ := h.eq
      refine ⟨a, fun i hi => ?_⟩
      rw [← ha i hi, nm_add_congr (c := 0) (hz i hi) rfl, Int.zero_add]
    · exact hl.spans j (by omega)
  · by_cases e : j = c
    · subst e
      exact ⟨fun h => absurd (hl.lt j h) (by omega), fun h => absurd hd h⟩
    · exact hl.lead j (by omega)
  · have := hl.lt j hj; omega
/-- The next column leads: it is added, made 1 at its place. -/
theorem le_lead {M : Nat → Nat → Int} {r c : Nat} {B : List (List Int)} {at_ L : List Nat} {C : Nat → Int} {b : List Int} {p : Nat} (hl : LeI M r c B at_ L) (h : ClI M r c B at_ B.length C) (hp : p < r) (hC : nm (C p) ≠ 0)
    (hb : b.length = r) (hbi : ∀ i, i < r → nm (b.getD i 0) = nm (C i * iv (C p))) : LeI M r (c + 1) (B ++ [b]) (at_ ++ [p]) (L ++ [c]) := by
  have hnd : ¬ dep M r c := fun hd => hC (cl_dep hl h hd p hp)
  have hlen : (B ++ [b]).length = B.length + 1 := by simp
  obtain ⟨a, ha⟩ := h.eq
  refine ⟨by rw [List.length_append, List.length_append, hl.la]; rfl, by rw [List.length_append, List.length_append, hl.ll]; rfl, fun k hk => ?_, fun k hk => ?_, fun k hk => ?_, fun k q hkq hq => ?_, fun k hk => ?_, fun j hj => ?_, fun j hj => ?_, fun j hj => ?_, ?_⟩
  · rw [hlen] at hk
    by_cases e : k < B.length
    · rw [getD_list_old e]; exact hl.lb k e
    · rw [show k = B.length by omega, getD_list_new]; exact hb
  · rw [hlen] at hk
    by_cases e : k < B.length
    · rw [getD_nat_old (by rw [hl.la]; exact e)]; exact hl.ab k e
    · rw [show k = at_.length by rw [hl.la]; omega, getD_nat_new]; exact hp
  · rw [hlen] at hk
    by_cases e : k < B.length
    · rw [getD_nat_old (by rw [hl.la]; exact e), bk_old e]; exact hl.one k e
    · rw [show k = B.length by omega, bk_new, ← hl.la, getD_nat_new, hbi p hp, mul_iv hC]
  · rw [hlen] at hq
    have hk : k < B.length := by omega
    rw [getD_nat_old (by rw [hl.la]; exact hk)]
    by_cases e : q < B.length
    · rw [bk_old e]; exact hl.later k q hkq e
    · rw [show q = B.length by omega, bk_new, hbi _ (hl.ab k hk), nm_mul_congr (c := 0) (h.z k hk) rfl, Int.zero_mul]; rfl
  · rw [hlen] at hk
    by_cases e : k < B.length
    · obtain ⟨f, hf⟩ := hl.ins k e
      refine ⟨fun j => if j < c then f j else 0, fun i hi => ?_⟩
      rw [sm]
      show nm (sm (fun j => (if j < c then f j else 0) * M i j) c + (if c < c then f c else 0) * M i c) = _
      rw [if_neg (by omega), Int.zero_mul, Int.add_zero, bk_old e, ← hf i hi]
      exact sm_ncongr fun j hj => by rw [if_pos hj]
    · obtain ⟨f, hf⟩ := ins_sum hl.ins a
      refine ⟨fun j => if j < c then -(iv (C p)) * f j else iv (C p), fun i hi => ?_⟩
      rw [sm]
      show nm (sm (fun j => (if j < c then -(iv (C p)) * f j else iv (C p)) * M i j) c + (if c < c then -(iv (C p)) * f c else iv (C p)) * M i c) = _
      rw [if_neg (by omega), show k = B.length by omega, bk_new, hbi i hi]
      have e1 : nm (sm (fun j => (if j < c then -(iv (C p)) * f j else iv (C p)) * M i j) c) = nm (-(iv (C p)) * sm (fun k => a k * bk B k i) B.length) := by
        have e2 : nm (sm (fun j => (if j < c then -(iv (C p)) * f j else iv (C p)) * M i j) c) = nm (-(iv (C p)) * sm (fun j => f j * M i j) c) := by
          rw [← sm_mul]
          exact sm_ncongr fun j hj => by rw [if_pos hj, Int.mul_assoc]
        rw [e2]
        exact nm_mul_congr rfl (hf i hi)
      rw [nm_add_congr e1 (nm_mul_congr rfl (ha i hi).symm), Int.mul_add, Int.neg_mul, Int.mul_comm (C i)]
      congr 1; omega
  · by_cases e : j < c
    · obtain ⟨d, hd⟩ := hl.spans j e
      refine ⟨fun k => if k < B.length then d k else 0, fun i hi => ?_⟩
      rw [hlen, sm]
      show nm (sm (fun k => (if k < B.length then d k else 0) * bk (B ++ [b]) k i) B.length + (if B.length < B.length then d B.length else 0) * bk (B ++ [b]) B.length i) = _
      rw [if_neg (by omega), Int.zero_mul, Int.add_zero, ← hd i hi]
      exact sm_ncongr fun k hk => by rw [if_pos hk, bk_old hk]
    · refine ⟨fun k => if k < B.length then a k else C p, fun i hi => ?_⟩
      rw [hlen, sm]
      show nm (sm (fun k => (if k < B.length then a k else C p) * bk (B ++ [b]) k i) B.length + (if B.length < B.length then a B.length else C p) * bk (B ++ [b]) B.length i) = _
      rw [if_neg (by omega), bk_new, show j = c by omega, ← ha i hi, Int.add_comm (C i)]
      refine nm_add_congr (sm_ncongr fun k hk => by rw [if_pos hk, bk_old hk]) ?_
      rw [nm_mul_congr rfl (hbi i hi), Int.mul_comm (C i), ← Int.mul_assoc, ← nm_mull, mul_iv hC, Int.one_mul]
  · by_cases e : j < c
    · rw [List.mem_append, List.mem_singleton]
      have := hl.lead j e
      exact ⟨fun hh => this.1 (hh.resolve_right (by omega)), fun hh => .inl (this.2 hh)⟩
    · have e2 : j = c := by omega
      subst e2
      exact ⟨fun _ => hnd, fun _ => by simp⟩
  · rw [List.mem_append, List.mem_singleton] at hj
    rcases hj with hj | hj
    · have := hl.lt j hj; omega
    · omega
  · rw [List.pairwise_append]
    refine ⟨hl.up, by simp, fun x hx y hy => ?_⟩
    rw [List.mem_singleton] at hy
    have := hl.lt x hx
    omega

/-- Two lists that go up and hold the same are the same. -/
theorem up_ext : ∀ {l m : List Nat}, l.Pairwise (· < ·) → m.Pairwise (· < ·) → (∀ x, x ∈ l ↔ x ∈ m) → l = m
  | [], [], _, _, _ => rfl
  | [], b :: m, _, _, h => absurd ((h b).2 (List.mem_cons_self ..)) (by simp)
  | a :: l, [], _, _, h => absurd ((h a).1 (List.mem_cons_self ..)) (by simp)
  | a :: l, b :: m, hl, hm, h => by
    rw [List.pairwise_cons] at hl hm
    have hab : a = b := by
      have h1 := (h a).1 (List.mem_cons_self ..)
      have h2 := (h b).2 (List.mem_cons_self ..)
      rcases List.mem_cons.1 h1 with e | e
      · exact e
      · rcases List.mem_cons.1 h2 with e2 | e2
        · exact e2.symm
        · have := hm.1 a e
          have := hl.1 b e2
          omega
    subst hab
    refine congrArg _ (up_ext hl.2 hm.2 fun x => ?_)
    have := h x
    rw [List.mem_cons, List.mem_cons] at this
    constructor
    · intro hx
      rcases this.1 (.inr hx) with e | e
      · have := hl.1 x hx; omega
      · exact e
    · intro hx
      rcases this.2 (.inr hx) with e | e
      · have := hm.1 x hx; omega
      · exact e
end Crm

namespace Go.Proofs.YtgmelcdgnjcojagDoor
open Crm

theorem shl_mem {C : List Int} {m : Nat} {p : Int × Int} (h : p ∈ shl (dl C m) m) : ∃ i, i < m ∧ p = ((i : Int) + 1, dlf C i) := by
  obtain ⟨i, hi, rfl⟩ := List.mem_map.1 h
  have hi' : i < m := by simpa using hi
  exact ⟨i, hi', by rw [dl_getD C hi']⟩
theorem shl_pair (xs : List Int) (m : Nat) : (shl xs m).Pairwise (fun p q => p.1 ≠ q.1) := by
  unfold shl
  rw [List.pairwise_map, List.pairwise_iff_getElem]
  intro i j hi hj hij
  simp
  omega
/-- What was picked. -/
theorem picked_ok {C : List Int} {m K : Nat} {out rem : List (Int × Int)} (hm : m ≤ 9) (hlo : out.length = K) (hp : (out ++ rem).Perm (shl (dl C m) m)) :
    dis (fa out) K ∧ Hs out K C ∧ (∀ j, j < K → fy out j = nm (ev C (fa out j)) ∧ 0 ≤ fy out j ∧ fy out j ≤ 2147483646) := by
  have hmem : ∀ j, j < K → ∃ i, i < m ∧ out.getD j (0, 0) = ((i : Int) + 1, dlf C i) := fun j hj => by
    refine shl_mem (hp.subset (List.mem_append_left _ ?_))
    rw [List.getD_eq_getElem?_getD, List.getElem?_eq_getElem (show j < out.length by omega)]
    exact List.getElem_mem _
  have hpw : out.Pairwise (fun p q => p.1 ≠ q.1) := by
    have h1 := (hp.pairwise_iff (R := fun (p q : Int × Int) => p.1 ≠ q.1) (fun h => fun e => h e.symm)).2 (shl_pair (dl C m) m)
    exact (List.pairwise_append.1 h1).1
  have hval : ∀ j, j < K → fy out j = nm (ev C (fa out j)) ∧ 0 ≤ fy out j ∧ fy out j ≤ 2147483646 := fun j hj => by
    obtain ⟨i, _, e⟩ := hmem j hj
    unfold fy fa
    rw [e]
    exact ⟨rfl, (dlf_bd C i).1, (dlf_bd C i).2⟩
  refine ⟨fun j hj => ?_, fun j hj => ?_, hval⟩
  · obtain ⟨i, hi, e⟩ := hmem j hj
    refine ⟨by unfold fa; rw [e]; simp only; omega, fun q hq => ?_⟩
    have h2 := List.pairwise_iff_getElem.1 hpw q j (by omega) (by omega) hq
    unfold fa
    rw [List.getD_eq_getElem?_getD, List.getElem?_eq_getElem (show q < out.length by omega), List.getD_eq_getElem?_getD, List.getElem?_eq_getElem (show j < out.length by omega)]
    exact h2
  · have := (hval j hj).1
    unfold fy fa at this
    rw [this, nm_nm]

/-- The weights make of the values the value at 0. -/
theorem sum_wt {ts C : List Int} {K : Nat} (hd : dis (fi ts) K) (hC : C.length ≤ K) (y : Nat → Int) (hy : ∀ j, j < K → nm (y j) = nm (ev C (ts.getD j 0))) : nm (sm (fun i => wt ts K i * y i) K) = nm (ev C 0) := by
  have main : ∀ k, k ≤ K → ∃ R : List Int, R.length ≤ K ∧ (∀ j, j < K → nm (ev R (ts.getD j 0)) = if j < k then nm (y j) else 0) ∧ nm (ev R 0) = nm (sm (fun i => wt ts K i * y i) k) := by
    intro k
    induction k with
    | zero => exact fun _ => ⟨[], Nat.zero_le _, fun j _ => by rw [if_neg (by omega)]; rfl, rfl⟩
    | succ k ih =>
      intro hk
      obtain ⟨R, r1, r2, r3⟩ := ih (by omega)
      obtain ⟨Q, q1, q2, q3⟩ := wt_wgt hd (show k < K by omega)
      have hev : ∀ x, nm (ev (sml R (cvl [y k] Q)) x) = nm (ev R x + y k * ev Q x) := fun x => by
        rw [sml_ev]
        refine nm_add_congr rfl ?_
        rw [cvl_ev, ev, ev, Int.mul_zero, Int.add_zero]
      refine ⟨sml R (cvl [y k] Q), ?_, fun j hj => ?_, ?_⟩
      · rw [sml_len, cvl_len, List.length_singleton]; omega
      · rw [hev]
        have h1 := q2 j hj
        have h2 := r2 j hj
        by_cases e : j = k
        · subst e
          rw [if_pos rfl] at h1
          rw [if_neg (by omega)] at h2
          rw [if_pos (by omega), nm_add_congr (c := 0) (d := y j * 1) h2 (nm_mul_congr rfl (by rw [h1]; rfl)), Int.zero_add, Int.mul_one]
        · rw [if_neg e] at h1
          rw [nm_add_congr (c := ev R (ts.getD j 0)) (d := y k * 0) rfl (nm_mul_congr rfl (by rw [h1]; rfl)), Int.mul_zero, Int.add_zero, h2]
          by_cases e2 : j < k
          · rw [if_pos e2, if_pos (by omega)]
          · rw [if_neg e2, if_neg (by omega)]
      · rw [hev, sm]
        refine nm_add_congr r3 ?_
        rw [q3, nm_mull, Int.mul_comm]
  obtain ⟨R, r1, r2, r3⟩ := main K (Nat.le_refl _)
  rw [← r3]
  have hw : ∀ j, j < K → ((List.range K).map fun k => (ts.getD k 0, y k)).getD j (0, 0) = (ts.getD j 0, y j) := fun j hj => by simp [hj]
  refine ev_one (hs_one (l := (List.range K).map fun k => (ts.getD k 0, y k)) (n := K) (fun j hj => ?_) (fun j hj => ?_) (fun j hj => ?_) r1 hC) 0
  · rw [hw j hj]
    refine ⟨⟨(hd j hj).1.1, by have := (hd j hj).1.2; unfold fi at this; simp only; omega⟩, fun q hq => ?_⟩
    rw [hw q (by omega)]
    exact (hd j hj).2 q hq
  · rw [hw j hj]
    simp only
    rw [r2 j hj, if_pos hj]
  · rw [hw j hj]
    simp only
    exact (hy j hj).symm
end Go.Proofs.YtgmelcdgnjcojagDoor

namespace Go.Proofs.YtgmelcdgnjcojagDoor
open Crm

/-- Each party's numbers mixed: a times the one, b times the other, and c. -/
def mxl (x y : List Int) (a b c : Int) (n : Nat) : List Int := (List.range n).map fun i => nm (a * x.getD i 0 + b * y.getD i 0 + c)
theorem mxl_len (x y : List Int) (a b c : Int) (n : Nat) : (mxl x y a b c n).length = n := by simp [mxl]
theorem mxl_getD (x y : List Int) (a b c : Int) {n i : Nat} (h : i < n) : (mxl x y a b c n).getD i 0 = nm (a * x.getD i 0 + b * y.getD i 0 + c) := by simp [mxl, h]
theorem mxl_snoc (x y : List Int) (a b c : Int) (n : Nat) : mxl x y a b c n ++ [nm (a * x.getD n 0 + b * y.getD n 0 + c)] = mxl x y a b c (n + 1) := by simp [mxl, List.range_succ]
theorem mxl_bd (x y : List Int) (a b c : Int) (n : Nat) : ∀ z ∈ mxl x y a b c n, 0 ≤ z ∧ z ≤ 2147483646 := by
  intro z hz
  obtain ⟨i, _, rfl⟩ := List.mem_map.1 hz
  exact nm_bd _
theorem mxl_one {a b c p q : Int} : nm (nm (nm (a * p) + nm (b * q)) + c) = nm (a * p + b * q + c) := by
  rw [nm_addl]
  refine nm_add_congr ?_ rfl
  exact nm_add_congr (nm_nm _) (nm_nm _)
/-- The same by other ways. -/
theorem mxl_ext {x y : List Int} {a b c : Int} {n : Nat} {F : Nat → Int} (h : ∀ i, i < n → F i = nm (a * x.getD i 0 + b * y.getD i 0 + c)) : (List.range n).map F = mxl x y a b c n :=
  List.map_congr_left fun i hi => h i (List.mem_range.1 hi)

/-- The parties' numbers. -/
def pty (n : Nat) : List Int := (List.range n).map fun i : Nat => (i : Int) + 1
theorem pty_len (n : Nat) : (pty n).length = n := by simp [pty]
theorem pty_getD {n i : Nat} (h : i < n) : (pty n).getD i 0 = (i : Int) + 1 := by simp [pty, h]
theorem pty_snoc (n : Nat) : pty n ++ [(n : Int) + 1] = pty (n + 1) := by simp [pty, List.range_succ]
theorem pty_dis {n : Nat} (h : n ≤ 9) : dis (fi (pty n)) n := fun i hi => by
  unfold fi
  rw [pty_getD hi]
  exact ⟨⟨by omega, by omega⟩, fun j hj => by rw [pty_getD (show j < n by omega)]; omega⟩

/-- What party i deals: the product of its numbers, and its draws. -/
def prC (t : Nat) (a b ds : List Int) (i : Nat) : List Int := nm (a.getD i 0 * b.getD i 0) :: (ds.drop (i * t)).take t
theorem prC_len (t : Nat) (a b ds : List Int) (i : Nat) : (prC t a b ds i).length ≤ t + 1 := by
  unfold prC; rw [List.length_cons, List.length_take]; omega
/-- What party j was dealt by the first k. -/
def tmR (t : Nat) (a b ds : List Int) (k j : Nat) : List Int := (List.range k).map fun i => dlf (prC t a b ds i) j
theorem tmR_len (t : Nat) (a b ds : List Int) (k j : Nat) : (tmR t a b ds k j).length = k := by simp [tmR]
theorem tmR_getD (t : Nat) (a b ds : List Int) {k i : Nat} (j : Nat) (h : i < k) : (tmR t a b ds k j).getD i 0 = dlf (prC t a b ds i) j := by simp [tmR, h]
theorem tmR_snoc (t : Nat) (a b ds : List Int) (k j : Nat) : tmR t a b ds k j ++ [dlf (prC t a b ds k) j] = tmR t a b ds (k + 1) j := by simp [tmR, List.range_succ]
theorem tmR_bd (t : Nat) (a b ds : List Int) (k j : Nat) : ∀ z ∈ tmR t a b ds k j, 0 ≤ z ∧ z ≤ 2147483646 := by
  intro z hz
  obtain ⟨i, _, rfl⟩ := List.mem_map.1 hz
  exact dlf_bd _ _
/-- What all were dealt, party by party. -/
def tmG (t : Nat) (a b ds : List Int) (n : Nat) : List (List Int) := (List.range n).map fun j => tmR t a b ds n j
theorem tmG_len (t : Nat) (a b ds : List Int) (n : Nat) : (tmG t a b ds n).length = n := by simp [tmG]
theorem tmG_getD (t : Nat) (a b ds : List Int) {n j : Nat} (h : j < n) : (tmG t a b ds n).getD j [] = tmR t a b ds n j := by simp [tmG, h]
/-- Party j's number of the product. -/
def tmf (t : Nat) (a b ds : List Int) (n j : Nat) : Int := nm (sm (fun i => wt (pty n) n i * dlf (prC t a b ds i) j) n)
def tmO (t : Nat) (a b ds : List Int) (n k : Nat) : List Int := (List.range k).map (tmf t a b ds n)
theorem tmO_len (t : Nat) (a b ds : List Int) (n k : Nat) : (tmO t a b ds n k).length = k := by simp [tmO]
theorem tmO_getD (t : Nat) (a b ds : List Int) (n : Nat) {k j : Nat} (h : j < k) : (tmO t a b ds n k).getD j 0 = tmf t a b ds n j := by simp [tmO, h]
theorem tmO_snoc (t : Nat) (a b ds : List Int) (n k : Nat) : tmO t a b ds n k ++ [tmf t a b ds n k] = tmO t a b ds n (k + 1) := by simp [tmO, List.range_succ]
theorem tmO_bd (t : Nat) (a b ds : List Int) (n k : Nat) : ∀ z ∈ tmO t a b ds n k, 0 ≤ z ∧ z ≤ 2147483646 := by
  intro z hz
  obtain ⟨i, _, rfl⟩ := List.mem_map.1 hz
  exact nm_bd _
/-- One polynomial of t + 1 numbers has the parties' numbers of the product. -/
theorem tm_poly (t : Nat) (a b ds : List Int) (W : Nat → Int) : ∀ k, ∃ P : List Int, P.length ≤ t + 1 ∧ ∀ x, ev P x = sm (fun i => W i * ev (prC t a b ds i) x) k
  | 0 => ⟨[], Nat.zero_le _, fun _ => rfl⟩
  | k + 1 => by
    obtain ⟨P, h1, h2⟩ := tm_poly t a b ds W k
    refine ⟨adl (W k) P (prC t a b ds k), ?_, fun x => ?_⟩
    · rw [adl_len]; have := prC_len t a b ds k; omega
    · rw [adl_ev, h2, sm]
/-- Of dealt secrets the product is dealt. -/
theorem times_dealt {t n : Nat} {A B ds : List Int} (hA : A.length ≤ t + 1) (hB : B.length ≤ t + 1) (hn : 2 * t + 1 ≤ n) (hn9 : n ≤ 9) :
    ∃ P : List Int, P.length ≤ t + 1 ∧ (∀ j, j < n → tmf t (dl A n) (dl B n) ds n j = nm (ev P ((j : Int) + 1))) ∧ nm (ev P 0) = nm (ev A 0 * ev B 0) := by
  obtain ⟨P, h1, h2⟩ := tm_poly t (dl A n) (dl B n) ds (wt (pty n) n) n
  refine ⟨P, h1, fun j _ => ?_, ?_⟩
  · unfold tmf
    rw [h2]
    refine sm_ncongr fun i hi => ?_
    unfold dlf
    rw [nm_mulr]
  · rw [h2]
    have h3 := sum_wt (pty_dis hn9) (C := cvl A B) (by rw [cvl_len]; omega) (fun i => ev (prC t (dl A n) (dl B n) ds i) 0) (fun j hj => by
      unfold prC
      rw [ev, Int.zero_mul, Int.add_zero, nm_nm, cvl_ev, dl_getD A hj, dl_getD B hj, pty_getD hj]
      unfold dlf
      exact nm_mul_congr (nm_nm _) (nm_nm _))
    rw [h3, cvl_ev]
/-- Shares of all parties' numbers are those of the polynomial that has them. -/
theorem shl_hs {C L : List Int} {n : Nat} (h : ∀ i, i < n → L.getD i 0 = nm (ev C ((i : Int) + 1))) : Hs (shl L n) n C := fun j hj => by
  rw [shl_getD L hj]
  simp only
  rw [h j hj, nm_nm]
theorem shl_dis (L : List Int) {n : Nat} (h : n ≤ 9) : dis (fa (shl L n)) n := fun i hi => by
  unfold fa
  rw [shl_getD L hi]
  exact ⟨⟨by simp only; omega, by simp only; omega⟩, fun j hj => by rw [shl_getD L (show j < n by omega)]; simp only; omega⟩
/-- What Open tells of them. -/
theorem shl_open {C L : List Int} {n t : Nat} {x r : Int} (hn : n ≤ 9) (ht : t ≤ 4) (htn : t < n) (hC : C.length ≤ t + 1) (h : ∀ i, i < n → L.getD i 0 = nm (ev C ((i : Int) + 1))) (hO : Opn (shl L n) n t x r) : x = nm (ev C 0) ∧ r = 0 :=
  any_open (shl_dis L hn) ht htn hC (shl_hs h) hO
/-- Mixed shares are shares of what is mixed. -/
theorem mxl_dealt {A B : List Int} {a b c : Int} {n t : Nat} (hA : A.length ≤ t + 1) (hB : B.length ≤ t + 1) :
    ∃ P : List Int, P.length ≤ t + 1 ∧ (∀ i, i < n → (mxl (dl A n) (dl B n) a b c n).getD i 0 = nm (ev P ((i : Int) + 1))) ∧ nm (ev P 0) = nm (a * ev A 0 + b * ev B 0 + c) := by
  have e : ∀ x, ev (adl 1 (adl b (A.map (a * ·)) B) [c]) x = a * ev A x + b * ev B x + c := fun x => by
    rw [adl_ev, adl_ev, map_ev, ev, ev, Int.mul_zero, Int.add_zero, Int.one_mul]
  refine ⟨adl 1 (adl b (A.map (a * ·)) B) [c], ?_, fun i hi => ?_, by rw [e]⟩
  · rw [adl_len, adl_len, List.length_map, List.length_singleton]; omega
  · rw [mxl_getD _ _ _ _ _ hi, dl_getD A hi, dl_getD B hi, e]
    refine nm_add_congr (nm_add_congr ?_ ?_) rfl
    · unfold dlf; rw [nm_mulr]
    · unfold dlf; rw [nm_mulr]
end Go.Proofs.YtgmelcdgnjcojagDoor
