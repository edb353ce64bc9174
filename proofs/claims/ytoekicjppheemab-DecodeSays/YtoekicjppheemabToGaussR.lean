/- GAUSS: columns that are sums of those ahead; what row steps keep; the document's way, column by column. Plain. · GAUSS by rows: what row steps keep; what the rows tell once they are reduced. Plain. -/
import Derived.Test.YtoekicjppheemabToPolyM2
namespace Crm

def sm (f : Nat → Int) : Nat → Int
  | 0 => 0
  | n + 1 => sm f n + f n
theorem sm_ncongr {f g : Nat → Int} : ∀ {n : Nat}, (∀ j, j < n → nm (f j) = nm (g j)) → nm (sm f n) = nm (sm g n)
  | 0, _ => rfl
  | n + 1, h => nm_add_congr (sm_ncongr fun j hj => h j (by omega)) (h n (by omega))
theorem sm_add (f g : Nat → Int) : ∀ n, sm (fun j => f j + g j) n = sm f n + sm g n
  | 0 => rfl
  | n + 1 => by rw [sm, sm, sm, sm_add f g n]; omega
theorem sm_mul (c : Int) (f : Nat → Int) : ∀ n, sm (fun j => c * f j) n = c * sm f n
  | 0 => by rw [sm, sm, Int.mul_zero]
  | n + 1 => by rw [sm, sm, sm_mul c f n, Int.mul_add]
theorem sm_zero {f : Nat → Int} {n : Nat} (h : ∀ j, j < n → nm (f j) = 0) : nm (sm f n) = 0 := by
  have : ∀ n, sm (fun _ => 0) n = 0 := fun n => by induction n with | zero => rfl | succ n ih => rw [sm, ih]; rfl
  rw [sm_ncongr (g := fun _ => 0) (fun j hj => h j hj), this]; rfl
theorem sm_cut {f : Nat → Int} {m : Nat} : ∀ {n : Nat}, m ≤ n → (∀ j, m ≤ j → j < n → nm (f j) = 0) → nm (sm f n) = nm (sm f m)
  | 0, hm, _ => by rw [Nat.le_zero.1 hm]
  | n + 1, hm, h => by
    by_cases e : m = n + 1
    · rw [e]
    · rw [sm, nm_add_congr (c := sm f m) (d := 0) (sm_cut (by omega) fun j h1 h2 => h j h1 (by omega)) (h n (by omega) (by omega)), Int.add_zero]
theorem sm_swap (F : Nat → Nat → Int) (n : Nat) : ∀ m, sm (fun j => sm (fun k => F k j) m) n = sm (fun k => sm (fun j => F k j) n) m
  | 0 => by
    have : ∀ n, sm (fun _ => 0) n = 0 := fun n => by induction n with | zero => rfl | succ n ih => rw [sm, ih]; rfl
    exact this n
  | m + 1 => by
    show sm (fun j => sm (fun k => F k j) m + F m j) n = sm (fun k => sm (fun j => F k j) n) m + sm (fun j => F m j) n
    rw [sm_add, sm_swap F n m]

/-- f, number by number times the columns, is nought in each row. -/
def NS (M : Nat → Nat → Int) (r w : Nat) (f : Nat → Int) : Prop := ∀ i, i < r → nm (sm (fun j => f j * M i j) w) = 0
/-- Column c is a sum of columns ahead of it, each times some number. -/
def dep (M : Nat → Nat → Int) (r c : Nat) : Prop := ∃ f : Nat → Int, ∀ i, i < r → nm (sm (fun j => f j * M i j) c) = nm (M i c)

theorem dep_of_ns {M : Nat → Nat → Int} {r w c : Nat} {f : Nat → Int} (h : NS M r w f) (hc : c < w) (h0 : nm (f c) ≠ 0) (hz : ∀ j, c < j → j < w → nm (f j) = 0) : dep M r c := by
  refine ⟨fun j => -(iv (f c)) * f j, fun i hi => ?_⟩
  have h1 := h i hi
  rw [sm_cut (m := c + 1) (by omega) (fun j h1 h2 => by rw [nm_mul_congr (c := 0) (hz j (by omega) h2) rfl, Int.zero_mul]; rfl), sm] at h1
  have e : nm (sm (fun j => -(iv (f c)) * f j * M i j) c) = nm (-(iv (f c)) * sm (fun j => f j * M i j) c) := by
    rw [← sm_mul]
    exact sm_ncongr fun j _ => by rw [Int.mul_assoc]
  rw [e]
  generalize sm (fun j => f j * M i j) c = S at *
  have h2 : nm S = nm (-(f c * M i c)) := by unfold nm at *; omega
  rw [nm_mul_congr rfl h2, Int.neg_mul_neg, ← Int.mul_assoc, ← nm_mull, iv_mul h0, Int.one_mul]
theorem ns_of_dep {M : Nat → Nat → Int} {r w c : Nat} (h : dep M r c) (hc : c < w) : ∃ f, NS M r w f ∧ nm (f c) ≠ 0 ∧ ∀ j, c < j → j < w → nm (f j) = 0 := by
  obtain ⟨f, hf⟩ := h
  refine ⟨fun j => if j < c then f j else if j = c then -1 else 0, fun i hi => ?_, ?_, fun j h1 h2 => ?_⟩
  · rw [sm_cut (m := c + 1) (by omega) (fun j h1 h2 => by
      show nm ((if j < c then f j else if j = c then -1 else 0) * M i j) = 0
      rw [if_neg (by omega), if_neg (by omega), Int.zero_mul]; rfl), sm]
    have e : nm (sm (fun j => (if j < c then f j else if j = c then -1 else 0) * M i j) c) = nm (M i c) := by
      rw [← hf i hi]
      exact sm_ncongr fun j hj => by rw [if_pos hj]
    have e2 : (if c < c then f c else if c = c then (-1 : Int) else 0) = -1 := by rw [if_neg (by omega), if_pos rfl]
    show nm (sm (fun j => (if j < c then f j else if j = c then -1 else 0) * M i j) c + (if c < c then f c else if c = c then (-1 : Int) else 0) * M i c) = 0
    rw [e2, nm_add_congr (c := M i c) (d := -1 * M i c) e rfl, Int.neg_one_mul, Int.add_right_neg]; rfl
  · show nm (if c < c then f c else if c = c then (-1 : Int) else 0) ≠ 0
    rw [if_neg (by omega), if_pos rfl]; decide
  · show nm (if j < c then f j else if j = c then (-1 : Int) else 0) = 0
    rw [if_neg (by omega), if_neg (by omega)]; rfl
/-- Which columns are sums hangs on what is nought alone. -/
theorem dep_congr {M A : Nat → Nat → Int} {r s w : Nat} (h : ∀ f, NS M r w f ↔ NS A s w f) {c : Nat} (hc : c < w) : dep M r c ↔ dep A s c := by
  constructor
  · intro hd
    obtain ⟨f, h1, h2, h3⟩ := ns_of_dep hd hc
    exact dep_of_ns ((h f).1 h1) hc h2 h3
  · intro hd
    obtain ⟨f, h1, h2, h3⟩ := ns_of_dep hd hc
    exact dep_of_ns ((h f).2 h1) hc h2 h3
/-- What is nought and has numbers at columns alone that are no sums is 0. -/
theorem ns_zero {M : Nat → Nat → Int} {r w : Nat} {f : Nat → Int} (h : NS M r w f) (hd : ∀ c, c < w → nm (f c) ≠ 0 → ¬ dep M r c) : ∀ c, c < w → nm (f c) = 0 := by
  have key : ∀ d, d ≤ w → ∀ j, w - d ≤ j → j < w → nm (f j) = 0 := by
    intro d
    induction d with
    | zero => intro _ j h1 h2; omega
    | succ d ih =>
      intro hdw j h1 h2
      by_cases e : w - d ≤ j
      · exact ih (by omega) j e h2
      · rcases Int.decEq (nm (f j)) 0 with hne | heq
        · exact absurd (dep_of_ns h h2 hne fun k h3 h4 => ih (by omega) k (by omega) h4) (hd j h2 hne)
        · exact heq
  exact fun c hc => key w (Nat.le_refl _) c (by omega) hc

/-- Number i of the k-th list. -/
def bk (B : List (List Int)) (k i : Nat) : Int := (B.getD k []).getD i 0
theorem bk_old {B : List (List Int)} {b : List Int} {k : Nat} (h : k < B.length) (i : Nat) : bk (B ++ [b]) k i = bk B k i := by
  unfold bk; simp [List.getElem?_append_left h]
theorem bk_new (B : List (List Int)) (b : List Int) (i : Nat) : bk (B ++ [b]) B.length i = b.getD i 0 := by
  unfold bk; simp

/-- Where the document's way stands ahead of column c. -/
structure LeI (M : Nat → Nat → Int) (r c : Nat) (B : List (List Int)) (at_ L : List Nat) : Prop where
  la : at_.length = B.length
  ll : L.length = B.length
  lb : ∀ k, k < B.length → (B.getD k []).length = r
  ab : ∀ k, k < B.length → at_.getD k 0 < r
  one : ∀ k, k < B.length → nm (bk B k (at_.getD k 0)) = 1
  later : ∀ k q, k < q → q < B.length → nm (bk B q (at_.getD k 0)) = 0
  ins : ∀ k, k < B.length → ∃ f : Nat → Int, ∀ i, i < r → nm (sm (fun j => f j * M i j) c) = nm (bk B k i)
  spans : ∀ j, j < c → ∃ a : Nat → Int, ∀ i, i < r → nm (sm (fun k => a k * bk B k i) B.length) = nm (M i j)
  lead : ∀ j, j < c → (j ∈ L ↔ ¬ dep M r j)
  lt : ∀ j ∈ L, j < c
  up : L.Pairwise (· < ·)

theorem le_start (M : Nat → Nat → Int) (r : Nat) : LeI M r 0 [] [] [] :=
  ⟨rfl, rfl, fun k hk => by simp at hk, fun k hk => by simp at hk, fun k hk => by simp at hk, fun k q _ hq => by simp at hq, fun k hk => by simp at hk, fun j hj => by omega, fun j hj => by omega, fun j hj => by simp at hj, List.Pairwise.nil⟩

/-- The column, cleared by the first k lists. -/
structure ClI (M : Nat → Nat → Int) (r c : Nat) (B : List (List Int)) (at_ : List Nat) (k : Nat) (C : Nat → Int) : Prop where
  eq : ∃ a : Nat → Int, ∀ i, i < r → nm (C i + sm (fun q => a q * bk B q i) k) = nm (M i c)
  z : ∀ q, q < k → nm (C (at_.getD q 0)) = 0
theorem cl_start (M : Nat → Nat → Int) (r c : Nat) (B : List (List Int)) (at_ : List Nat) {C : Nat → Int} (h : ∀ i, i < r → nm (C i) = nm (M i c)) : ClI M r c B at_ 0 C :=
  ⟨⟨fun _ => 0, fun i hi => by rw [sm, Int.add_zero]; exact h i hi⟩, fun q hq => by omega⟩
theorem cl_step {M : Nat → Nat → Int} {r c : Nat} {B : List (List Int)} {at_ L : List Nat} {k : Nat} {C D : Nat → Int} {m : Int} (hl : LeI M r c B at_ L) (h : ClI M r c B at_ k C) (hk : k < B.length)
    (hm : m = nm (-(C (at_.getD k 0)))) (hD : ∀ i, i < r → nm (D i) = nm (C i + m * bk B k i)) : ClI M r c B at_ (k + 1) D := by
  obtain ⟨a, ha⟩ := h.eq
  refine ⟨⟨fun q => if q = k then -m else a q, fun i hi => ?_⟩, fun q hq => ?_⟩
  · rw [← ha i hi, sm]
    show nm (D i + (sm (fun q => (if q = k then -m else a q) * bk B q i) k + (if k = k then -m else a k) * bk B k i)) = _
    rw [if_pos rfl]
    have e : nm (sm (fun q => (if q = k then -m else a q) * bk B q i) k) = nm (sm (fun q => a q * bk B q i) k) := sm_ncongr fun q hq => by rw [if_neg (by omega)]
    rw [nm_add_congr (hD i hi) (nm_add_congr e rfl), Int.neg_mul]
    congr 1; omega
  · have hr := hl.ab q (by omega)
    rw [hD _ hr]
    by_cases e : q = k
    · subst e
      rw [nm_add_congr (c := C (at_.getD q 0)) (d := m * 1) rfl (nm_mul_congr rfl (by rw [hl.one q hk]; rfl)), Int.mul_one, hm, nm_addr, Int.add_right_neg]; rfl
    · rw [nm_add_congr (c := 0) (d := m * 0) (h.z q (by omega)) (nm_mul_congr rfl (hl.later q k (by omega) hk)), Int.mul_zero]; rfl

/-- Sums of sums of columns are sums of columns. -/
theorem ins_sum {M : Nat → Nat → Int} {r c : Nat} {B : List (List Int)} (h : ∀ k, k < B.length → ∃ f : Nat → Int, ∀ i, i < r → nm (sm (fun j => f j * M i j) c) = nm (bk B k i)) (a : Nat → Int) :
    ∃ f : Nat → Int, ∀ i, i < r → nm (sm (fun j => f j * M i j) c) = nm (sm (fun k => a k * bk B k i) B.length) := by
  have hc : ∀ k, ∃ f : Nat → Int, k < B.length → ∀ i, i < r → nm (sm (fun j => f j * M i j) c) = nm (bk B k i) := fun k => by
    by_cases hk : k < B.length
    · obtain ⟨f, hf⟩ := h k hk; exact ⟨f, fun _ => hf⟩
    · exact ⟨fun _ => 0, fun h => absurd h hk⟩
  let F := fun k => Classical.choose (hc k)
  have hF := fun k => Classical.choose_spec (hc k)
  refine ⟨fun j => sm (fun k => a k * F k j) B.length, fun i hi => ?_⟩
  have e1 : nm (sm (fun j => sm (fun k => a k * F k j) B.length * M i j) c) = nm (sm (fun j => sm (fun k => a k * F k j * M i j) B.length) c) := sm_ncongr fun j _ => by
    rw [Int.mul_comm, ← sm_mul]
    exact sm_ncongr fun k _ => by rw [Int.mul_comm]
  rw [e1, sm_swap]
  refine sm_ncongr fun k hk => ?_
  have e2 : nm (sm (fun j => a k * F k j * M i j) c) = nm (a k * sm (fun j => F k j * M i j) c) := by
    rw [← sm_mul]
    exact sm_ncongr fun j _ => by rw [Int.mul_assoc]
  rw [e2]
  exact nm_mul_congr rfl (hF k hk i hi)
/-- A sum of the lists that is 0 at all their places is 0. -/
theorem at_zero {M : Nat → Nat → Int} {r c : Nat} {B : List (List Int)} {at_ L : List Nat} (hl : LeI M r c B at_ L) {a : Nat → Int}
    (h : ∀ q, q < B.length → nm (sm (fun k => a k * bk B k (at_.getD q 0)) B.length) = 0) : ∀ q, q < B.length → nm (a q) = 0 := by
  intro q
  induction q using Nat.strongRecOn with
  | ind q ih =>
    intro hq
    have h1 := h q hq
    rw [sm_cut (m := q + 1) (by omega) (fun k h1 h2 => by rw [nm_mul_congr (d := 0) rfl (hl.later q k (by omega) h2), Int.mul_zero]; rfl), sm,
      nm_add_congr (c := 0) (d := a q * 1) (sm_zero fun k hk => by rw [nm_mul_congr (c := 0) (ih k hk (by omega)) rfl, Int.zero_mul]; rfl) (nm_mul_congr rfl (by rw [hl.one q hq]; rfl)),
      Int.zero_add, Int.mul_one] at h1
    exact h1
/-- A column that is a sum of those ahead is cleared wholly. -/
theorem cl_dep {M : Nat → Nat → Int} {r c : Nat} {B : List (List Int)} {at_ L : List Nat} {C : Nat → Int} (hl : LeI M r c B at_ L) (h : ClI M r c B at_ B.length C) (hd : dep M r c) : ∀ i, i < r → nm (C i) = 0 := by
  obtain ⟨a, ha⟩ := h.eq
  obtain ⟨f, hf⟩ := hd
  have hc : ∀ j, ∃ b : Nat → Int, j < c → ∀ i, i < r → nm (sm (fun k => b k * bk B k i) B.length) = nm (M i j) := fun j => by
    by_cases hj : j < c
    · obtain ⟨b, hb⟩ := hl.spans j hj; exact ⟨b, fun _ => hb⟩
    · exact ⟨fun _ => 0, fun h => absurd h hj⟩
  let F := fun j => Classical.choose (hc j)
  have hF := fun j => Classical.choose_spec (hc j)
  have h1 : ∀ i, i < r → nm (C i) = nm (sm (fun k => (sm (fun j => f j * F j k) c - a k) * bk B k i) B.length) := fun i hi => by
    have e1 : nm (sm (fun j => f j * M i j) c) = nm (sm (fun k => sm (fun j => f j * F j k) c * bk B k i) B.length) := by
      have e2 : nm (sm (fun j => f j * M i j) c) = nm (sm (fun j => sm (fun k => f j * F j k * bk B k i) B.length) c) := sm_ncongr fun j hj => by
        rw [nm_mul_congr rfl (hF j hj i hi).symm, ← sm_mul]
        exact sm_ncongr fun k _ => by rw [Int.mul_assoc]
      rw [e2, sm_swap]
      exact sm_ncongr fun k _ => by
        rw [Int.mul_comm, ← sm_mul]
        exact sm_ncongr fun j _ => by rw [Int.mul_comm]
    have e3 : sm (fun k => (sm (fun j => f j * F j k) c - a k) * bk B k i) B.length = sm (fun k => sm (fun j => f j * F j k) c * bk B k i) B.length + (-1) * sm (fun k => a k * bk B k i) B.length := by
      rw [← sm_mul, ← sm_add]
      congr 1; funext k
      rw [Int.sub_mul, Int.neg_one_mul]; omega
    rw [e3]
    have h2 := ha i hi
    have h3 := hf i hi
    rw [e1] at h3
    generalize sm (fun k => sm (fun j => f j * F j k) c * bk B k i) B.length = X at *
    generalize sm (fun k => a k * bk B k i) B.length = Y at *
    unfold nm at *; omega
  have h2 := at_zero hl (a := fun k => sm (fun j => f j * F j k) c - a k) fun q hq => by
    rw [← h1 _ (hl.ab q hq)]; exact h.z q hq
  intro i hi
  rw [h1 i hi]
  exact sm_zero fun k hk => by rw [nm_mul_congr (c := 0) (h2 k hk) rfl, Int.zero_mul]; rfl
/-- A column that is cleared wholly is a sum of those ahead. -/
theorem dep_cl {M : Nat → Nat → Int} {r c : Nat} {B : List (List Int)} {at_ L : List Nat} {C : Nat → Int} (hl : LeI M r c B at_ L) (h : ClI M r c B at_ B.length C) (hz : ∀ i, i < r → nm (C i) = 0) : dep M r c := by
  obtain ⟨a, ha⟩ := h.eq
  obtain ⟨f, hf⟩ := ins_sum hl.ins a
  refine ⟨f, fun i hi => ?_⟩
  rw [hf i hi, ← ha i hi, nm_add_congr (c := 0) (hz i hi) rfl, Int.zero_add]
theorem getD_nat_old {l : List Nat} {b k : Nat} (h : k < l.length) : (l ++ [b]).getD k 0 = l.getD k 0 := by simp [List.getElem?_append_left h]
theorem getD_nat_new (l : List Nat) (b : Nat) : (l ++ [b]).getD l.length 0 = b := by simp
theorem getD_list_old {l : List (List Int)} {b : List Int} {k : Nat} (h : k < l.length) : (l ++ [b]).getD k [] = l.getD k [] := by simp [List.getElem?_append_left h]
theorem getD_list_new (l : List (List Int)) (b : List Int) : (l ++ [b]).getD l.length [] = b := by simp
/-- The next column is a sum of those ahead: nothing is added. -/
theorem le_skip {M : Nat → Nat → Int} {r c : Nat} {B : List (List Int)} {at_ L : List Nat} {C : Nat → Int} (hl : LeI M r c B at_ L) (h : ClI M r c B at_ B.length C) (hz : ∀ i, i < r → nm (C i) = 0) : LeI M r (c + 1) B at_ L := by
  have hd := dep_cl hl h hz
  refine ⟨hl.la, hl.ll, hl.lb, hl.ab, hl.one, hl.later, fun k hk => ?_, fun j hj => ?_, fun j hj => ?_, fun j hj => ?_, hl.up⟩
  · obtain ⟨f, hf⟩ := hl.ins k hk
    refine ⟨fun j => if j < c then f j else 0, fun i hi => ?_⟩
    rw [sm]
    show nm (sm (fun j => (if j < c then f j else 0) * M i j) c + (if c < c then f c else 0) * M i c) = _
    rw [if_neg (by omega), Int.zero_mul, Int.add_zero, ← hf i hi]
    exact sm_ncongr fun j hj => by rw [if_pos hj]
  · by_cases e : j = c
    · subst e
      obtain ⟨a, ha⟩ := h.eq
      refine ⟨a, fun i hi => ?_⟩
      rw [← ha i hi, nm_add_congr (c := 0) (hz i hi) rfl, Int.zero_add]
    · exact hl.spans j (by omega)
  · by_cases e : j = c
    · subst e
      exact ⟨fun h => absurd (hl.lt j h) (by omega), fun h => absurd hd h⟩
    · exact hl.lead j (by omega)
  · have := hl.lt j hj; omega
/-- The next column leads: it is added, made 1 at its place. -/
theorem le_lead {M : Nat → Nat → Int} {r c : Nat} {B : List (List Int)} {at_ L : List Nat} {C : Nat → Int} {b : List Int} {p : Nat} (hl : LeI M r c B at_ L) (h : ClI M r c B at_ B.length C) (hp : p < r) (hC : nm (C p) ≠ 0)
    (hb : b.length = r) (hbi : ∀ i, i < r → nm (b.getD i 0) = nm (C i * iv (C p))) : LeI M r (c + 1) (B ++ [b]) (at_ ++ [p]) (L ++ [c]) := by
  have hnd : ¬ dep M r c := fun hd => hC (cl_dep hl h hd p hp)
  have hlen : (B ++ [b]).length = B.length + 1 := by simp
  obtain ⟨a, ha⟩ := h.eq
  refine ⟨by rw [List.length_append, List.length_append, hl.la]; rfl, by rw [List.length_append, List.length_append, hl.ll]; rfl, fun k hk => ?_, fun k hk => ?_, fun k hk => ?_, fun k q hkq hq => ?_, fun k hk => ?_, fun j hj => ?_, fun j hj => ?_, fun j hj => ?_, ?_⟩
  · rw [hlen] at hk
    by_cases e : k < B.length
    · rw [getD_list_old e]; exact hl.lb k e
    · rw [show k = B.length by omega, getD_list_new]; exact hb
  · rw [hlen] at hk
    by_cases e : k < B.length
    · rw [getD_nat_old (by rw [hl.la]; exact e)]; exact hl.ab k e
    · rw [show k = at_.length by rw [hl.la]; omega, getD_nat_new]; exact hp
  · rw [hlen] at hk
    by_cases e : k < B.length
    · rw [getD_nat_old (by rw [hl.la]; exact e), bk_old e]; exact hl.one k e
    · rw [show k = B.length by omega, bk_new, ← hl.la, getD_nat_new, hbi p hp, mul_iv hC]
  · rw [hlen] at hq
    have hk : k < B.length := by omega
    rw [getD_nat_old (by rw [hl.la]; exact hk)]
    by_cases e : q < B.length
    · rw [bk_old e]; exact hl.later k q hkq e
    · rw [show q = B.length by omega, bk_new, hbi _ (hl.ab k hk), nm_mul_congr (c := 0) (h.z k hk) rfl, Int.zero_mul]; rfl
  · rw [hlen] at hk
    by_cases e : k < B.length
    · obtain ⟨f, hf⟩ := hl.ins k e
      refine ⟨fun j => if j < c then f j else 0, fun i hi => ?_⟩
      rw [sm]
      show nm (sm (fun j => (if j < c then f j else 0) * M i j) c + (if c < c then f c else 0) * M i c) = _
      rw [if_neg (by omega), Int.zero_mul, Int.add_zero, bk_old e, ← hf i hi]
      exact sm_ncongr fun j hj => by rw [if_pos hj]
    · obtain ⟨f, hf⟩ := ins_sum hl.ins a
      refine ⟨fun j => if j < c then -(iv (C p)) * f j else iv (C p), fun i hi => ?_⟩
      rw [sm]
      show nm (sm (fun j => (if j < c then -(iv (C p)) * f j else iv (C p)) * M i j) c + (if c < c then -(iv (C p)) * f c else iv (C p)) * M i c) = _
      rw [if_neg (by omega), show k = B.length by omega, bk_new, hbi i hi]
      have e1 : nm (sm (fun j => (if j < c then -(iv (C p)) * f j else iv (C p)) * M i j) c) = nm (-(iv (C p)) * sm (fun k => a k * bk B k i) B.length) := by
        have e2 : nm (sm (fun j => (if j < c then -(iv (C p)) * f j else iv (C p)) * M i j) c) = nm (-(iv (C p)) * sm (fun j => f j * M i j) c) := by
          rw [← sm_mul]
          exact sm_ncongr fun j hj => by rw [if_pos hj, Int.mul_assoc]
        rw [e2]
        exact nm_mul_congr rfl (hf i hi)
      rw [nm_add_congr e1 (nm_mul_congr rfl (ha i hi).symm), Int.mul_add, Int.neg_mul, Int.mul_comm (C i)]
      congr 1; omega
  · by_cases e : j < c
    · obtain ⟨d, hd⟩ := hl.spans j e
      refine ⟨fun k => if k < B.length then d k else 0, fun i hi => ?_⟩
      rw [hlen, sm]
      show nm (sm (fun k => (if k < B.length then d k else 0) * bk (B ++ [b]) k i) B.length + (if B.length < B.length then d B.length else 0) * bk (B ++ [b]) B.length i) = _
      rw [if_neg (by omega), Int.zero_mul, Int.add_zero, ← hd i hi]
      exact sm_ncongr fun k hk => by rw [if_pos hk, bk_old hk]
    · refine ⟨fun k => if k < B.length then a k else C p, fun i hi => ?_⟩
      rw [hlen, sm]
      show nm (sm (fun k => (if k < B.length then a k else C p) * bk (B ++ [b]) k i) B.length + (if B.length < B.length then a B.length else C p) * bk (B ++ [b]) B.length i) = _
      rw [if_neg (by omega), bk_new, show j = c by omega, ← ha i hi, Int.add_comm (C i)]
      refine nm_add_congr (sm_ncongr fun k hk => by rw [if_pos hk, bk_old hk]) ?_
      rw [nm_mul_congr rfl (hbi i hi), Int.mul_comm (C i), ← Int.mul_assoc, ← nm_mull, mul_iv hC, Int.one_mul]
  · by_cases e : j < c
    · rw [List.mem_append, List.mem_singleton]
      have := hl.lead j e
      exact ⟨fun hh => this.1 (hh.resolve_right (by omega)), fun hh => .inl (this.2 hh)⟩
    · have e2 : j = c := by omega
      subst e2
      exact ⟨fun _ => hnd, fun _ => by simp⟩
  · rw [List.mem_append, List.mem_singleton] at hj
    rcases hj with hj | hj
    · have := hl.lt j hj; omega
    · omega
  · rw [List.pairwise_append]
    refine ⟨hl.up, by simp, fun x hx y hy => ?_⟩
    rw [List.mem_singleton] at hy
    have := hl.lt x hx
    omega

/-- Two lists that go up and hold the same are the same. -/
theorem up_ext : ∀ {l m : List Nat}, l.Pairwise (· < ·) → m.Pairwise (· < ·) → (∀ x, x ∈ l ↔ x ∈ m) → l = m
  | [], [], _, _, _ => rfl
  | [], b :: m, _, _, h => absurd ((h b).2 (List.mem_cons_self ..)) (by simp)
  | a :: l, [], _, _, h => absurd ((h a).1 (List.mem_cons_self ..)) (by simp)
  | a :: l, b :: m, hl, hm, h => by
    rw [List.pairwise_cons] at hl hm
    have hab : a = b := by
      have h1 := (h a).1 (List.mem_cons_self ..)
      have h2 := (h b).2 (List.mem_cons_self ..)
      rcases List.mem_cons.1 h1 with e | e
      · exact e
      · rcases List.mem_cons.1 h2 with e2 | e2
        · exact e2.symm
        · have := hm.1 a e
          have := hl.1 b e2
          omega
    subst hab
    refine congrArg _ (up_ext hl.2 hm.2 fun x => ?_)
    have := h x
    rw [List.mem_cons, List.mem_cons] at this
    constructor
    · intro hx
      rcases this.1 (.inr hx) with e | e
      · have := hl.1 x hx; omega
      · exact e
    · intro hx
      rcases this.2 (.inr hx) with e | e
      · have := hm.1 x hx; omega
      · exact e
end Crm

namespace Crm

theorem sm_pick (F : Nat → Int) (a : Nat) : ∀ n, sm (fun j => if a = j then F j else 0) n = if a < n then F a else 0
  | 0 => by rw [sm, if_neg (by omega)]
  | n + 1 => by
    rw [sm, sm_pick F a n]
    by_cases h1 : a < n
    · rw [if_pos h1, if_neg (by omega), if_pos (by omega), Int.add_zero]
    · by_cases h2 : a = n
      · subst h2; rw [if_neg h1, if_pos rfl, if_pos (by omega), Int.zero_add]
      · rw [if_neg h1, if_neg h2, if_neg (by omega)]; rfl
theorem sm_mulr (f : Nat → Int) (x : Int) (n : Nat) : sm f n * x = sm (fun j => f j * x) n := by
  rw [Int.mul_comm, ← sm_mul]; congr 1; funext j; rw [Int.mul_comm]

/-- Where the rows stand ahead of column c. -/
structure RrI (M A : Nat → Nat → Int) (r w c : Nat) (L : List Nat) : Prop where
  ns : ∀ f, NS M r w f ↔ NS A r w f
  kr : L.length ≤ r
  lt : ∀ j ∈ L, j < c
  up : L.Pairwise (· < ·)
  one : ∀ q i, q < L.length → i < r → nm (A i (L.getD q 0)) = if i = q then 1 else 0
  z : ∀ i j, L.length ≤ i → i < r → j < c → nm (A i j) = 0
  lead : ∀ j, j < c → (j ∈ L ↔ ¬ dep M r j)

theorem ns_congr {M A : Nat → Nat → Int} {r w : Nat} (h : ∀ i j, i < r → j < w → nm (A i j) = nm (M i j)) (f : Nat → Int) : NS M r w f ↔ NS A r w f := by
  have e : ∀ i, i < r → nm (sm (fun j => f j * M i j) w) = nm (sm (fun j => f j * A i j) w) := fun i hi => sm_ncongr fun j hj => nm_mul_congr rfl (h i j hi hj).symm
  exact ⟨fun hf i hi => by rw [← e i hi]; exact hf i hi, fun hf i hi => by rw [e i hi]; exact hf i hi⟩
theorem rr_start {M A : Nat → Nat → Int} {r w : Nat} (h : ∀ i j, i < r → j < w → nm (A i j) = nm (M i j)) : RrI M A r w 0 [] :=
  ⟨ns_congr h, Nat.zero_le _, by simp, List.Pairwise.nil, fun q i hq => by simp at hq, fun i j _ _ hj => by omega, fun j hj => by omega⟩

/-- What is told for the variables from the column v, by the rows of the columns that lead. -/
def tell (A : Nat → Nat → Int) (L : List Nat) (v m j : Nat) : Int := sm (fun q => if L.getD q 0 = j then A q v else 0) m

theorem getN_mem {L : List Nat} {q : Nat} (h : q < L.length) : L.getD q 0 ∈ L := by
  rw [List.getD_eq_getElem?_getD, List.getElem?_eq_getElem h]; exact List.getElem_mem h
theorem getD_up {L : List Nat} (h : L.Pairwise (· < ·)) {q m : Nat} (hqm : q < m) (hm : m < L.length) : L.getD q 0 < L.getD m 0 := by
  rw [List.pairwise_iff_getElem] at h
  have := h q m (by omega) hm hqm
  rw [List.getD_eq_getElem?_getD, List.getD_eq_getElem?_getD, List.getElem?_eq_getElem (show q < L.length by omega), List.getElem?_eq_getElem hm]
  exact this

/-- The sum of the columns, each times what is told for it, is the column v in the rows of those that lead. -/
theorem tell_sum {M A : Nat → Nat → Int} {r w c : Nat} {L : List Nat} (h : RrI M A r w c L) (v i : Nat) (hi : i < r) : nm (sm (fun j => tell A L v L.length j * A i j) c) = if i < L.length then nm (A i v) else 0 := by
  have e1 : sm (fun j => tell A L v L.length j * A i j) c = sm (fun q => sm (fun j => (if L.getD q 0 = j then A q v else 0) * A i j) c) L.length := by
    rw [← sm_swap]
    congr 1; funext j
    unfold tell
    rw [sm_mulr]
  have e2 : ∀ q, q < L.length → nm (sm (fun j => (if L.getD q 0 = j then A q v else 0) * A i j) c) = nm (if i = q then A q v else 0) := fun q hq => by
    have e3 : (fun j => (if L.getD q 0 = j then A q v else 0) * A i j) = fun j => if L.getD q 0 = j then A q v * A i j else 0 := by
      funext j; split
      · rfl
      · rw [Int.zero_mul]
    rw [e3, sm_pick (fun j => A q v * A i j), if_pos (h.lt _ (getN_mem hq)), nm_mul_congr (c := A q v) (d := if i = q then 1 else 0) rfl (by rw [h.one q i hq hi]; split <;> rfl)]
    split
    · rw [Int.mul_one]
    · rw [Int.mul_zero]
  rw [e1, sm_ncongr e2, sm_pick (fun q => A q v)]
  split <;> rfl

/-- A column that has nothing in the rows behind is a sum of those ahead. -/
theorem rr_dep {M A : Nat → Nat → Int} {r w c : Nat} {L : List Nat} (h : RrI M A r w c L) (hc : c < w) : (∀ i, L.length ≤ i → i < r → nm (A i c) = 0) ↔ dep M r c := by
  rw [dep_congr h.ns hc]
  constructor
  · intro hz
    refine ⟨tell A L c L.length, fun i hi => ?_⟩
    rw [tell_sum h c i hi]
    split
    · rfl
    · exact (hz i (by omega) hi).symm
  · rintro ⟨f, hf⟩ i h1 h2
    rw [← hf i h2]
    exact sm_zero fun j hj => by rw [nm_mul_congr (d := 0) rfl (h.z i j h1 h2 hj), Int.mul_zero]; rfl
theorem rr_skip {M A : Nat → Nat → Int} {r w c : Nat} {L : List Nat} (h : RrI M A r w c L) (hc : c < w) (hz : ∀ i, L.length ≤ i → i < r → nm (A i c) = 0) : RrI M A r w (c + 1) L := by
  have hd := (rr_dep h hc).1 hz
  refine ⟨h.ns, h.kr, fun j hj => Nat.lt_succ_of_lt (h.lt j hj), h.up, h.one, fun i j h1 h2 h3 => ?_, fun j hj => ?_⟩
  · by_cases e : j = c
    · rw [e]; exact hz i h1 h2
    · exact h.z i j h1 h2 (by omega)
  · by_cases e : j = c
    · subst e
      exact ⟨fun hh => absurd (h.lt j hh) (by omega), fun hh => absurd hd hh⟩
    · exact h.lead j (by omega)

/-- A row that leads is put first and made 1 in its column. -/
theorem ns_lead {A A1 : Nat → Nat → Int} {r w k p : Nat} {u x : Int} (hk : k < r) (hp : p < r) (hu : nm (u * x) = 1)
    (h1 : ∀ i j, i < r → j < w → nm (A1 i j) = nm (if i = k then A p j * u else if i = p then A k j else A i j)) (f : Nat → Int) : NS A r w f ↔ NS A1 r w f := by
  have ek : nm (sm (fun j => f j * A1 k j) w) = nm (sm (fun j => f j * A p j) w * u) := by
    rw [sm_mulr]
    exact sm_ncongr fun j hj => by rw [nm_mul_congr (c := f j) rfl (h1 k j hk hj), if_pos rfl, Int.mul_assoc]
  have ep : p ≠ k → nm (sm (fun j => f j * A1 p j) w) = nm (sm (fun j => f j * A k j) w) := fun hne =>
    sm_ncongr fun j hj => by rw [nm_mul_congr (c := f j) rfl (h1 p j hp hj), if_neg hne, if_pos rfl]
  have eo : ∀ i, i < r → i ≠ k → i ≠ p → nm (sm (fun j => f j * A1 i j) w) = nm (sm (fun j => f j * A i j) w) := fun i hi h2 h3 =>
    sm_ncongr fun j hj => by rw [nm_mul_congr (c := f j) rfl (h1 i j hi hj), if_neg h2, if_neg h3]
  constructor
  · intro hf i hi
    by_cases e : i = k
    · subst e
      rw [ek, nm_mul_congr (c := 0) (hf p hp) rfl, Int.zero_mul]; rfl
    · by_cases e2 : i = p
      · subst e2; rw [ep e]; exact hf k hk
      · rw [eo i hi e e2]; exact hf i hi
  · intro hf i hi
    by_cases e2 : i = p
    · subst e2
      have h0 : nm (sm (fun j => f j * A i j) w * u) = 0 := by rw [← ek]; exact hf k hk
      have h3 : nm (sm (fun j => f j * A i j) w * u * x) = 0 := by rw [nm_mul_congr (c := 0) h0 rfl, Int.zero_mul]; rfl
      rw [Int.mul_assoc, nm_mul_congr (d := 1) rfl (by rw [hu]; rfl), Int.mul_one] at h3
      exact h3
    · by_cases e : i = k
      · subst e; rw [← ep (fun h => e2 h.symm)]; exact hf p hp
      · rw [← eo i hi e e2]; exact hf i hi
/-- The row that leads, times some number, is taken from all others. -/
theorem ns_take {A1 A2 : Nat → Nat → Int} {r w k : Nat} {t : Nat → Int} (hk : k < r)
    (h2 : ∀ i j, i < r → j < w → nm (A2 i j) = nm (if i = k then A1 k j else A1 i j - t i * A1 k j)) (f : Nat → Int) : NS A1 r w f ↔ NS A2 r w f := by
  have ek : nm (sm (fun j => f j * A2 k j) w) = nm (sm (fun j => f j * A1 k j) w) := sm_ncongr fun j hj => by rw [nm_mul_congr (c := f j) rfl (h2 k j hk hj), if_pos rfl]
  have eo : ∀ i, i < r → i ≠ k → nm (sm (fun j => f j * A2 i j) w) = nm (sm (fun j => f j * A1 i j) w + (-t i) * sm (fun j => f j * A1 k j) w) := fun i hi hne => by
    rw [← sm_mul, ← sm_add]
    exact sm_ncongr fun j hj => by
      rw [nm_mul_congr (c := f j) rfl (h2 i j hi hj), if_neg hne, Int.mul_sub, Int.neg_mul, ← Int.mul_assoc, Int.mul_comm (f j) (t i), Int.mul_assoc, Int.sub_eq_add_neg]
  constructor
  · intro hf i hi
    by_cases e : i = k
    · subst e; rw [ek]; exact hf i hi
    · rw [eo i hi e, nm_add_congr (c := 0) (d := -t i * 0) (hf i hi) (nm_mul_congr rfl (hf k hk)), Int.mul_zero]; rfl
  · intro hf i hi
    by_cases e : i = k
    · subst e; rw [← ek]; exact hf i hi
    · have hk0 : nm (sm (fun j => f j * A1 k j) w) = 0 := by rw [← ek]; exact hf k hk
      have h0 := hf i hi
      rw [eo i hi e, nm_add_congr (c := sm (fun j => f j * A1 i j) w) (d := -t i * 0) rfl (nm_mul_congr rfl hk0), Int.mul_zero, Int.add_zero] at h0
      exact h0

theorem rr_lead {M A A1 A2 : Nat → Nat → Int} {r w c p : Nat} {L : List Nat} (h : RrI M A r w c L) (hc : c < w) (hk : L.length ≤ p) (hp : p < r) (hx : nm (A p c) ≠ 0)
    (h1 : ∀ i j, i < r → j < w → nm (A1 i j) = nm (if i = L.length then A p j * iv (A p c) else if i = p then A L.length j else A i j))
    (h2 : ∀ i j, i < r → j < w → nm (A2 i j) = nm (if i = L.length then A1 L.length j else A1 i j - A1 i c * A1 L.length j)) : RrI M A2 r w (c + 1) (L ++ [c]) := by
  have hkr : L.length < r := by omega
  have hns : ∀ f, NS M r w f ↔ NS A2 r w f := fun f => (h.ns f).trans ((ns_lead hkr hp (iv_mul hx) h1 f).trans (ns_take hkr h2 f))
  have hlen : (L ++ [c]).length = L.length + 1 := by simp
  -- the new row of the lead: nothing ahead of c, 1 there
  have r1 : ∀ j, j < c → nm (A1 L.length j) = 0 := fun j hj => by
    rw [h1 _ _ hkr (by omega), if_pos rfl, nm_mul_congr (c := 0) (h.z p j hk hp hj) rfl, Int.zero_mul]; rfl
  have r2 : nm (A1 L.length c) = 1 := by rw [h1 _ _ hkr hc, if_pos rfl, mul_iv hx]
  have s1 : ∀ i j, i < r → j < c → i ≠ L.length → nm (A2 i j) = nm (A1 i j) := fun i j hi hj hne => by
    rw [h2 i j hi (by omega), if_neg hne, Int.sub_eq_add_neg, nm_add_congr (c := A1 i j) (d := 0) rfl ?_, Int.add_zero]
    have e : nm (A1 i c * A1 L.length j) = 0 := by rw [nm_mul_congr (d := 0) rfl (r1 j hj), Int.mul_zero]; rfl
    unfold nm at *; omega
  have s2 : ∀ i, i < r → i ≠ L.length → nm (A2 i c) = 0 := fun i hi hne => by
    have e : nm (A1 i c * A1 L.length c) = nm (A1 i c) := by rw [nm_mul_congr (d := 1) rfl (by rw [r2]; rfl), Int.mul_one]
    rw [h2 i c hi hc, if_neg hne]
    unfold nm at *; omega
  have s3 : ∀ j, j < w → nm (A2 L.length j) = nm (A1 L.length j) := fun j hj => by rw [h2 _ j hkr hj, if_pos rfl]
  refine ⟨hns, by rw [hlen]; omega, fun j hj => ?_, ?_, fun q i hq hi => ?_, fun i j hi1 hi2 hj => ?_, fun j hj => ?_⟩
  · rw [List.mem_append, List.mem_singleton] at hj
    rcases hj with hj | hj
    · have := h.lt j hj; omega
    · omega
  · rw [List.pairwise_append]
    refine ⟨h.up, by simp, fun x hx y hy => ?_⟩
    rw [List.mem_singleton] at hy
    have := h.lt x hx; omega
  · rw [hlen] at hq
    by_cases e : q < L.length
    · rw [getD_nat_old e]
      have hlt := h.lt _ (getN_mem e)
      by_cases e2 : i = L.length
      · rw [if_neg (by omega), e2, s3 _ (by omega), r1 _ hlt]
      · rw [s1 i _ hi hlt e2, h1 i _ hi (by omega), if_neg e2]
        by_cases e3 : i = p
        · rw [if_pos e3, if_neg (by omega), h.one q _ e hkr, if_neg (by omega)]
        · rw [if_neg e3, h.one q i e hi]
    · rw [show q = L.length by omega, getD_nat_new]
      by_cases e2 : i = L.length
      · rw [if_pos e2, e2, s3 c hc, r2]
      · rw [if_neg e2, s2 i hi e2]
  · rw [hlen] at hi1
    have hne : i ≠ L.length := by omega
    by_cases e : j = c
    · rw [e]; exact s2 i hi2 hne
    · rw [s1 i j hi2 (by omega) hne, h1 i j hi2 (by omega), if_neg hne]
      split
      · exact h.z _ j (Nat.le_refl _) hkr (by omega)
      · exact h.z i j (by omega) hi2 (by omega)
  · by_cases e : j < c
    · rw [List.mem_append, List.mem_singleton]
      have := h.lead j e
      exact ⟨fun hh => this.1 (hh.resolve_right (by omega)), fun hh => .inl (this.2 hh)⟩
    · have e2 : j = c := by omega
      subst e2
      refine ⟨fun _ => ?_, fun _ => by simp⟩
      rw [dep_congr hns hc]
      rintro ⟨f, hf⟩
      have h3 := hf _ hkr
      rw [s3 j hc, r2, sm_zero (fun i hi => by rw [nm_mul_congr (d := 0) rfl (show nm (A2 L.length i) = nm 0 by rw [s3 i (by omega), r1 i hi]; rfl), Int.mul_zero]; rfl)] at h3
      omega

/-- Values that make all equations right, with 0 where a column is a sum of those ahead. -/
structure Sol (M : Nat → Nat → Int) (r v : Nat) (V : List Int) : Prop where
  len : V.length = v
  bd : ∀ x ∈ V, 0 ≤ x ∧ x ≤ 2147483646
  own : ∀ j, j < v → V.getD j 0 ≠ 0 → ¬ dep M r j
  ns : NS M r (v + 1) (fun j => if j < v then V.getD j 0 else -1)

theorem tell_zero {A : Nat → Nat → Int} {L : List Nat} {v m j : Nat} (h : ∀ q, q < m → L.getD q 0 ≠ j) : tell A L v m j = 0 := by
  unfold tell
  induction m with
  | zero => rfl
  | succ m ih => rw [sm, ih (fun q hq => h q (by omega)), if_neg (h m (by omega))]; rfl
theorem tell_succ {A : Nat → Nat → Int} {L : List Nat} {v m j : Nat} (hu : L.Pairwise (· < ·)) (hm : m < L.length) : tell A L v (m + 1) j = if L.getD m 0 = j then A m v else tell A L v m j := by
  have : tell A L v (m + 1) j = tell A L v m j + (if L.getD m 0 = j then A m v else 0) := rfl
  rw [this]
  split
  · rename_i e
    rw [tell_zero (fun q hq => by have := getD_up hu hq hm; omega), Int.zero_add]
  · rw [Int.add_zero]
theorem rr_sol {M A : Nat → Nat → Int} {r v : Nat} {L : List Nat} {V : List Int} (h : RrI M A r (v + 1) v L) (hz : ∀ i, L.length ≤ i → i < r → nm (A i v) = 0)
    (hl : V.length = v) (hb : ∀ x ∈ V, 0 ≤ x ∧ x ≤ 2147483646) (hV : ∀ j, j < v → V.getD j 0 = tell A L v L.length j) : Sol M r v V := by
  refine ⟨hl, hb, fun j hj hne => ?_, ?_⟩
  · rw [← h.lead j hj]
    rw [hV j hj] at hne
    refine Decidable.byContradiction fun hn => hne (tell_zero fun q hq e => hn ?_)
    rw [← e]; exact getN_mem hq
  · rw [h.ns]
    intro i hi
    rw [sm]
    have e : nm (sm (fun j => (if j < v then V.getD j 0 else -1) * A i j) v) = nm (A i v) := by
      have e2 : nm (sm (fun j => (if j < v then V.getD j 0 else -1) * A i j) v) = nm (sm (fun j => tell A L v L.length j * A i j) v) := sm_ncongr fun j hj => by
        rw [if_pos hj, hV j hj]
      rw [e2, tell_sum h v i hi]
      split
      · rfl
      · exact (hz i (by omega) hi).symm
    show nm (sm (fun j => (if j < v then V.getD j 0 else -1) * A i j) v + (if v < v then V.getD v 0 else -1) * A i v) = 0
    rw [if_neg (by omega), nm_add_congr (c := A i v) (d := -1 * A i v) e rfl, Int.neg_one_mul, Int.add_right_neg]; rfl
/-- There is but one such list. -/
theorem sol_one {M N : Nat → Nat → Int} {r s v : Nat} {V U : List Int} (hn : ∀ f, NS M r (v + 1) f ↔ NS N s (v + 1) f) (h : Sol M r v V) (k : Sol N s v U) : V = U := by
  have hns : NS M r (v + 1) (fun j => (if j < v then V.getD j 0 else -1) + -1 * (if j < v then U.getD j 0 else -1)) := fun i hi => by
    have h1 := h.ns i hi
    have h2 := (hn _).2 k.ns i hi
    have e : sm (fun j => ((if j < v then V.getD j 0 else -1) + -1 * (if j < v then U.getD j 0 else -1)) * M i j) (v + 1) = sm (fun j => (if j < v then V.getD j 0 else -1) * M i j) (v + 1) + -1 * sm (fun j => (if j < v then U.getD j 0 else -1) * M i j) (v + 1) := by
      rw [← sm_mul, ← sm_add]; congr 1; funext j
      rw [Int.add_mul, Int.mul_assoc]
    rw [e]
    generalize sm (fun j => (if j < v then V.getD j 0 else -1) * M i j) (v + 1) = X at *
    generalize sm (fun j => (if j < v then U.getD j 0 else -1) * M i j) (v + 1) = Y at *
    unfold nm at *; omega
  have hd : ∀ j, j < v → (dep M r j ↔ dep N s j) := fun j hj => dep_congr hn (by omega)
  have hz := ns_zero hns fun c hc hne => by
    by_cases e : c < v
    · rw [if_pos e, if_pos e] at hne
      by_cases e1 : V.getD c 0 = 0
      · by_cases e2 : U.getD c 0 = 0
        · exact absurd (by rw [e1, e2]; rfl) hne
        · rw [hd c e]; exact k.own c e e2
      · exact h.own c e e1
    · exact absurd (by rw [if_neg e, if_neg e]; rfl) hne
  refine List.ext_getElem (by rw [h.len, k.len]) fun j h1 h2 => ?_
  have hj : j < v := by rw [← h.len]; exact h1
  have h3 := hz j (by omega)
  simp only [if_pos hj, List.getD_eq_getElem?_getD, List.getElem?_eq_getElem h1, List.getElem?_eq_getElem h2, Option.getD_some] at h3
  have b1 := h.bd _ (List.getElem_mem h1)
  have b2 := k.bd _ (List.getElem_mem h2)
  unfold nm at h3; omega
end Crm
