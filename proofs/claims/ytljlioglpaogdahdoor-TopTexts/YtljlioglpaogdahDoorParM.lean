/- Reading a circuit's text: plain facts. -/
import Derived.Test.YtljlioglpaogdahDoorToNumbC
import Derived.Test.YtljlioglpaogdahDoorToGRightC
namespace Go.Proofs.YtljlioglpaogdahDoor
set_option linter.unusedVariables false
set_option maxRecDepth 100000
set_option maxHeartbeats 8000000
section
open Crm
/-- The words of a line, and those behind the first. -/
def wds (t : ByteArray) : List ByteArray := pcs t 32 t.size
def ags (t : ByteArray) : List ByteArray := (wds t).drop 1
def agn (t : ByteArray) (i : Nat) : Int := dgn (tx (ags t) i) (tx (ags t) i).size
def outB : ByteArray := ⟨#[111, 117, 116]⟩
/-- How many numbers a gate's line has. -/
def arn (k : Nat) : Nat := [0, 1, 1, 2, 2, 2, 2].getD k 0
/-- A gate of kind k, by its line's numbers. -/
def gof (k : Nat) (t : ByteArray) : Gt :=
  if k = 1 then ⟨1, agn t 0, 0, 0⟩ else if k = 2 then ⟨2, 0, 0, agn t 0⟩ else if k = 6 then ⟨6, agn t 0, 0, agn t 1⟩ else ⟨k, agn t 0, agn t 1, 0⟩
/-- A line is a gate's. -/
def Lng (t : ByteArray) (g : Gt) : Prop := ∃ k, (1 ≤ k ∧ k < 7) ∧ tx (wds t) 0 = vb k ∧ (ags t).length = arn k ∧ okn (ags t) (arn k) ∧ g = gof k t
/-- A line is an out's. -/
def Lno (t : ByteArray) (x : Int) : Prop := tx (wds t) 0 = outB ∧ (ags t).length = 1 ∧ okn (ags t) 1 ∧ x = agn t 0
theorem vb_inj : ∀ i, i < 7 → ∀ j, j < 7 → vb i = vb j → i = j := by decide +kernel
theorem vb_out : ∀ i, i < 7 → vb i ≠ outB := by decide +kernel
theorem Lng.one {t : ByteArray} {g h : Gt} (a : Lng t g) (b : Lng t h) : g = h := by
  obtain ⟨k, hk, e1, _, _, rfl⟩ := a
  obtain ⟨j, hj, e2, _, _, rfl⟩ := b
  obtain rfl := vb_inj k hk.2 j hj.2 (e1.symm.trans e2)
  rfl
theorem Lng.no {t : ByteArray} {g : Gt} {x : Int} (a : Lng t g) (b : Lno t x) : False := by
  obtain ⟨k, hk, e1, _⟩ := a
  exact vb_out k hk.2 (e1.symm.trans b.1)
/-- The first i lines read as the gates G and the outs O. -/
def Rds (l : List ByteArray) : Nat → List Gt → List Int → Prop
  | 0, G, O => G = [] ∧ O = []
  | i + 1, G, O => ∃ G0 O0, Rds l i G0 O0 ∧ ((∃ g, Lng (tx l i) g ∧ O0 = [] ∧ G = G0 ++ [g] ∧ O = []) ∨ (∃ x, Lno (tx l i) x ∧ G = G0 ∧ O = O0 ++ [x]))
theorem Rds.one {l : List ByteArray} : ∀ {i : Nat} {G H : List Gt} {O Q : List Int}, Rds l i G O → Rds l i H Q → G = H ∧ O = Q
  | 0, _, _, _, _, h, k => by obtain ⟨rfl, rfl⟩ := h; obtain ⟨rfl, rfl⟩ := k; exact ⟨rfl, rfl⟩
  | i + 1, _, _, _, _, h, k => by
    obtain ⟨G0, O0, h0, h1⟩ := h
    obtain ⟨H0, Q0, k0, k1⟩ := k
    obtain ⟨rfl, rfl⟩ := h0.one k0
    rcases h1 with ⟨g, a, _, rfl, rfl⟩ | ⟨x, a, rfl, rfl⟩ <;> rcases k1 with ⟨g', b, _, rfl, rfl⟩ | ⟨x', b, rfl, rfl⟩
    · rw [a.one b]; exact ⟨rfl, rfl⟩
    · exact (a.no b).elim
    · exact (b.no a).elim
    · rw [a.2.2.2, b.2.2.2]; exact ⟨rfl, rfl⟩
theorem Rds.down {l : List ByteArray} : ∀ {i j : Nat} {G : List Gt} {O : List Int}, Rds l i G O → j ≤ i → ∃ G0 O0, Rds l j G0 O0
  | 0, j, G, O, h, hj => by obtain rfl : j = 0 := by omega
                            exact ⟨G, O, h⟩
  | i + 1, j, G, O, h, hj => by
    by_cases e : j = i + 1
    · subst e; exact ⟨G, O, h⟩
    · obtain ⟨G0, O0, h0, _⟩ := h
      exact h0.down (by omega)
/-- Line i can't follow the outs O. -/
def Nok (t : ByteArray) (O : List Int) : Prop := ¬ ((∃ g, Lng t g ∧ O = []) ∨ ∃ x, Lno t x)
theorem Nok.stop {l : List ByteArray} {i : Nat} {G H : List Gt} {O Q : List Int} (h : Rds l i G O) (k : Nok (tx l i) O) (r : Rds l (i + 1) H Q) : False := by
  obtain ⟨G0, O0, h0, h1⟩ := r
  obtain ⟨_, rfl⟩ := h.one h0
  rcases h1 with ⟨g, a, e, _⟩ | ⟨x, a, _⟩
  · exact k (.inl ⟨g, a, e⟩)
  · exact k (.inr ⟨x, a⟩)
/-- The lines of a text, the last one, with no byte 10 behind it, apart. -/
def lns (s : ByteArray) : List ByteArray := pcs s 10 s.size
def lnn (s : ByteArray) : Nat := (lns s).length - 1
theorem lns_len (s : ByteArray) : (lns s).length = lnn s + 1 := by
  have := pcs_len s 10 s.size
  unfold lnn lns
  omega
/-- What Parse tells: the circuit, the line, the error. -/
def Par (s : ByteArray) (G : List Gt) (O : List Int) (at_ : Nat) (r : Int) : Prop :=
  (2048 < s.size ∧ G = [] ∧ O = [] ∧ at_ = 0 ∧ r = 2) ∨
  (s.size ≤ 2048 ∧ ((∃ i G0 O0, i < lnn s ∧ Rds (lns s) i G0 O0 ∧ Nok (tx (lns s) i) O0 ∧ G = [] ∧ O = [] ∧ at_ = i + 1 ∧ r = 3) ∨
    (∃ G0 O0, Rds (lns s) (lnn s) G0 O0 ∧ ((tx (lns s) (lnn s) ≠ mt ∧ G = [] ∧ O = [] ∧ at_ = lnn s + 1 ∧ r = 3) ∨
      (tx (lns s) (lnn s) = mt ∧ at_ = 0 ∧ Cke G0 O0 G0.length O0.length r ∧ ((r ≠ 0 ∧ G = [] ∧ O = []) ∨ (r = 0 ∧ G = G0 ∧ O = O0)))))))
theorem Par.one {s : ByteArray} {G H : List Gt} {O Q : List Int} {m n : Nat} {r q : Int} (h : Par s G O m r) (k : Par s H Q n q) : G = H ∧ O = Q ∧ m = n ∧ r = q := by
  rcases h with ⟨h0, rfl, rfl, rfl, rfl⟩ | ⟨h0, h⟩ <;> rcases k with ⟨k0, rfl, rfl, rfl, rfl⟩ | ⟨k0, k⟩
  · exact ⟨rfl, rfl, rfl, rfl⟩
  · exfalso; omega
  · exfalso; omega
  · rcases h with ⟨i, G0, O0, hi, h1, h2, rfl, rfl, rfl, rfl⟩ | ⟨G0, O0, h1, h2⟩ <;> rcases k with ⟨j, H0, Q0, hj, k1, k2, rfl, rfl, rfl, rfl⟩ | ⟨H0, Q0, k1, k2⟩
    · obtain rfl : i = j := by
        rcases Nat.lt_trichotomy i j with e | e | e
        · obtain ⟨_, _, x⟩ := k1.down (show i + 1 ≤ j from e); exact (h2.stop h1 x).elim
        · exact e
        · obtain ⟨_, _, x⟩ := h1.down (show j + 1 ≤ i from e); exact (k2.stop k1 x).elim
      exact ⟨rfl, rfl, rfl, rfl⟩
    · obtain ⟨_, _, x⟩ := k1.down (show i + 1 ≤ lnn s from hi); exact (h2.stop h1 x).elim
    · obtain ⟨_, _, x⟩ := h1.down (show j + 1 ≤ lnn s from hj); exact (k2.stop k1 x).elim
    · obtain ⟨rfl, rfl⟩ := h1.one k1
      rcases h2 with ⟨a, rfl, rfl, rfl, rfl⟩ | ⟨a, rfl, c, d⟩ <;> rcases k2 with ⟨a', rfl, rfl, rfl, rfl⟩ | ⟨a', rfl, c', d'⟩
      · exact ⟨rfl, rfl, rfl, rfl⟩
      · exact absurd a' a
      · exact absurd a a'
      · obtain rfl := c.one c'
        rcases d with ⟨d1, rfl, rfl⟩ | ⟨d1, rfl, rfl⟩ <;> rcases d' with ⟨e1, rfl, rfl⟩ | ⟨e1, rfl, rfl⟩
        · exact ⟨rfl, rfl, rfl, rfl⟩
        · exact absurd e1 d1
        · exact absurd d1 e1
        · exact ⟨rfl, rfl, rfl, rfl⟩
theorem Par.bd {s : ByteArray} {G : List Gt} {O : List Int} {n : Nat} {r : Int} (h : Par s G O n r) : 0 ≤ r ∧ r ≤ 3 := by
  rcases h with ⟨_, _, _, _, rfl⟩ | ⟨_, ⟨_, _, _, _, _, _, _, _, _, rfl⟩ | ⟨_, _, _, ⟨_, _, _, _, rfl⟩ | ⟨_, _, c, _⟩⟩⟩
  · omega
  · omega
  · omega
  · have := c.bd; omega
end
end Go.Proofs.YtljlioglpaogdahDoor
