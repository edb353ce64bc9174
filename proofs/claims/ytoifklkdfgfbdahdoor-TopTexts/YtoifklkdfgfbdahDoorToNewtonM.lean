/- Reading a circuit's text: plain facts. · Package circuit: readGate. · NEWTON: a polynomial made share by share. Plain but for the list of shares. -/
import Derived.Test.YtoifklkdfgfbdahDoorToShLay
import Derived.Test.YtoifklkdfgfbdahDoorToSubC
import Derived.Test.YtoifklkdfgfbdahDoorToGRightC
import Derived.Deep.RegionWith
import Derived.BigRegion
import Derived.Test.YtoifklkdfgfbdahDoorToPlacedC
namespace Go.Proofs.YtoifklkdfgfbdahDoor
open Crm

/-- The words of a line, and those behind the first. -/
def wds (t : ByteArray) : List ByteArray := pcs t 32 t.size
def ags (t : ByteArray) : List ByteArray := (wds t).drop 1
def agn (t : ByteArray) (i : Nat) : Int := dgn (tx (ags t) i) (tx (ags t) i).size
def outB : ByteArray := ⟨#[111, 117, 116]⟩
/-- How many numbers a gate's line has. -/
def arn (k : Nat) : Nat := [0, 1, 1, 2, 2, 2, 2].getD k 0
/-- A gate of kind k, by its line's numbers. -/
def gof (k : Nat) (t : ByteArray) : Gt :=
  if k = 1 then ⟨1, agn t 0, 0, 0⟩ else if k = 2 then ⟨2, 0, 0, agn t 0⟩ else if k = 6 then ⟨6, agn t 0, 0, agn t 1⟩ else ⟨k, agn t 0, agn t 1, 0⟩
/-- A line is a gate's. -/
def Lng (t : ByteArray) (g : Gt) : Prop := ∃ k, (1 ≤ k ∧ k < 7) ∧ tx (wds t) 0 = vb k ∧ (ags t).length = arn k ∧ okn (ags t) (arn k) ∧ g = gof k t
/-- A line is an out's. -/
def Lno (t : ByteArray) (x : Int) : Prop := tx (wds t) 0 = outB ∧ (ags t).length = 1 ∧ okn (ags t) 1 ∧ x = agn t 0
theorem vb_inj : ∀ i, i < 7 → ∀ j, j < 7 → vb i = vb j → i = j := by decide +kernel
theorem vb_out : ∀ i, i < 7 → vb i ≠ outB := by decide +kernel
theorem Lng.one {t : ByteArray} {g h : Gt} (a : Lng t g) (b : Lng t h) : g = h := by
  obtain ⟨k, hk, e1, _, _, rfl⟩ := a
  obtain ⟨j, hj, e2, _, _, rfl⟩ := b
  obtain rfl := vb_inj k hk.2 j hj.2 (e1.symm.trans e2)
  rfl
theorem Lng.no {t : ByteArray} {g : Gt} {x : Int} (a : Lng t g) (b : Lno t x) : False := by
  obtain ⟨k, hk, e1, _⟩ := a
  exact vb_out k hk.2 (e1.symm.trans b.1)
/-- The first i lines read as the gates G and the outs O. -/
def Rds (l : List ByteArray) : Nat → List Gt → List Int → Prop
  | 0, G, O => G = [] ∧ O = []
  | i + 1, G, O => ∃ G0 O0, Rds l i G0 O0 ∧ ((∃ g, Lng (tx l i) g ∧ O0 = [] ∧ G = G0 ++ [g] ∧ O = []) ∨ (∃ x, Lno (tx l i) x ∧ G = G0 ∧ O = O0 ++ [x]))
theorem Rds.one {l : List ByteArray} : ∀ {i : Nat} {G H : List Gt} {O Q : List Int}, Rds l i G O → Rds l i H Q → G = H ∧ O = Q
  | 0, _, _, _, _, h, k => by obtain ⟨rfl, rfl⟩ := h; obtain ⟨rfl, rfl⟩ := k; exact ⟨rfl, rfl⟩
  | i + 1, _, _, _, _, h, k => by
    obtain ⟨G0, O0, h0, h1⟩ := h
    obtain ⟨H0, Q0, k0, k1⟩ := k
    obtain ⟨rfl, rfl⟩ := h0.one k0
    rcases h1 with ⟨g, a, _, rfl, rfl⟩ | ⟨x, a, rfl, rfl⟩ <;> rcases k1 with ⟨g', b, _, rfl, rfl⟩ | ⟨x', b, rfl, rfl⟩
    · rw [a.one b]; exact ⟨rfl, rfl⟩
    · exact (a.no b).elim
    · exact (b.no a).elim
    · rw [a.2.2.2, b.2.2.2]; exact ⟨rfl, rfl⟩
theorem Rds.down {l : List ByteArray} : ∀ {i j : Nat} {G : List Gt} {O : List Int}, Rds l i G O → j ≤ i → ∃ G0 O0, Rds l j G0 O0
  | 0, j, G, O, h, hj => by obtain rfl : j = 0 := by omega
                            exact ⟨G, O, h⟩
  | i + 1, j, G, O, h, hj => by
    by_cases e : j = i + 1
    · subst e; exact ⟨G, O, h⟩
    · obtain ⟨G0, O0, h0, _⟩ := h
      exact h0.down (by omega)
/-- Line i can't follow the outs O. -/
def Nok (t : ByteArray) (O : List Int) : Prop := ¬ ((∃ g, Lng t g ∧ O = []) ∨ ∃ x, Lno t x)
theorem Nok.stop {l : List ByteArray} {i : Nat} {G H : List Gt} {O Q : List Int} (h : Rds l i G O) (k : Nok (tx l i) O) (r : Rds l (i + 1) H Q) : False := by
  obtain ⟨G0, O0, h0, h1⟩ := r
  obtain ⟨_, rfl⟩ := h.one h0
  rcases h1 with ⟨g, a, e, _⟩ | ⟨x, a, _⟩
  · exact k (.inl ⟨g, a, e⟩)
  · exact k (.inr ⟨x, a⟩)
/-- The lines of a text, the last one, with no byte 10 behind it, apart. -/
def lns (s : ByteArray) : List ByteArray := pcs s 10 s.size
def lnn (s : ByteArray) : Nat := (lns s).length - 1
theorem lns_len (s : ByteArray) : (lns s).length = lnn s + 1 := by
  have := pcs_len s 10 s.size
  unfold lnn lns
  omega
/-- What Parse tells: the circuit, the line, the error. -/
def Par (s : ByteArray) (G : List Gt) (O : List Int) (at_ : Nat) (r : Int) : Prop :=
  (2048 < s.size ∧ G = [] ∧ O = [] ∧ at_ = 0 ∧ r = 2) ∨
  (s.size ≤ 2048 ∧ ((∃ i G0 O0, i < lnn s ∧ Rds (lns s) i G0 O0 ∧ Nok (tx (lns s) i) O0 ∧ G = [] ∧ O = [] ∧ at_ = i + 1 ∧ r = 3) ∨
    (∃ G0 O0, Rds (lns s) (lnn s) G0 O0 ∧ ((tx (lns s) (lnn s) ≠ mt ∧ G = [] ∧ O = [] ∧ at_ = lnn s + 1 ∧ r = 3) ∨
      (tx (lns s) (lnn s) = mt ∧ at_ = 0 ∧ Cke G0 O0 G0.length O0.length r ∧ ((r ≠ 0 ∧ G = [] ∧ O = []) ∨ (r = 0 ∧ G = G0 ∧ O = O0)))))))
theorem Par.one {s : ByteArray} {G H : List Gt} {O Q : List Int} {m n : Nat} {r q : Int} (h : Par s G O m r) (k : Par s H Q n q) : G = H ∧ O = Q ∧ m = n ∧ r = q := by
  rcases h with ⟨h0, rfl, rfl, rfl, rfl⟩ | ⟨h0, h⟩ <;> rcases k with ⟨k0, rfl, rfl, rfl, rfl⟩ | ⟨k0, k⟩
  · exact ⟨rfl, rfl, rfl, rfl⟩
  · exfalso; omega
  · exfalso; omega
  · rcases h with ⟨i, G0, O0, hi, h1, h2, rfl, rfl, rfl, rfl⟩ | ⟨G0, O0, h1, h2⟩ <;> rcases k with ⟨j, H0, Q0, hj, k1, k2, rfl, rfl, rfl, rfl⟩ | ⟨H0, Q0, k1, k2⟩
    · obtain rfl : i = j := by
        rcases Nat.lt_trichotomy i j with e | e | e
        · obtain ⟨_, _, x⟩ := k1.down (show i + 1 ≤ j from e); exact (h2.stop h1 x).elim
        · exact e
        · obtain ⟨_, _, x⟩ := h1.down (show j + 1 ≤ i from e); exact (k2.stop k1 x).elim
      exact ⟨rfl, rfl, rfl, rfl⟩
    · obtain ⟨_, _, x⟩ := k1.down (show i + 1 ≤ lnn s from hi); exact (h2.stop h1 x).elim
    · obtain ⟨_, _, x⟩ := h1.down (show j + 1 ≤ lnn s from hj); exact (k2.stop k1 x).elim
    · obtain ⟨rfl, rfl⟩ := h1.one k1
      rcases h2 with ⟨a, rfl, rfl, rfl, rfl⟩ | ⟨a, rfl, c, d⟩ <;> rcases k2 with ⟨a', rfl, rfl, rfl, rfl⟩ | ⟨a', rfl, c', d'⟩
      · exact ⟨rfl, rfl, rfl, rfl⟩
      · exact absurd a' a
      · exact absurd a a'
      · obtain rfl := c.one c'
        rcases d with ⟨d1, rfl, rfl⟩ | ⟨d1, rfl, rfl⟩ <;> rcases d' with ⟨e1, rfl, rfl⟩ | ⟨e1, rfl, rfl⟩
        · exact ⟨rfl, rfl, rfl, rfl⟩
        · exact absurd e1 d1
        · exact absurd d1 e1
        · exact ⟨rfl, rfl, rfl, rfl⟩
theorem Par.bd {s : ByteArray} {G : List Gt} {O : List Int} {n : Nat} {r : Int} (h : Par s G O n r) : 0 ≤ r ∧ r ≤ 3 := by
  rcases h with ⟨_, _, _, _, rfl⟩ | ⟨_, ⟨_, _, _, _, _, _, _, _, _, rfl⟩ | ⟨_, _, _, ⟨_, _, _, _, rfl⟩ | ⟨_, _, c, _⟩⟩⟩
  · omega
  · omega
  · omega
  · have := c.bd; omega
end Go.Proofs.YtoifklkdfgfbdahDoor

namespace Go.Proofs.YtoifklkdfgfbdahDoor
open Go.RowKit Crm

/-- A gate that is boxed. -/
def Gbx (w : World) (b : Nat) (k x y z : Int) : Prop := w.heap[b]? = some (.cells #[.int .i64 k, .int .i64 x, .int .i64 y, .int .u64 z] 52 (0, 0))
theorem Gbx.lt {w : World} {b : Nat} {k x y z : Int} (h : Gbx w b k x y z) : b < w.heap.size := (Array.getElem?_eq_some_iff.1 h).1
theorem Gbx.cells {w : World} {b : Nat} {k x y z : Int} (h : Gbx w b k x y z) : w.cell? ⟨b, 0, none⟩ = some (.int .i64 k) ∧ w.cell? ⟨b, 1, none⟩ = some (.int .i64 x) ∧ w.cell? ⟨b, 2, none⟩ = some (.int .i64 y) ∧ w.cell? ⟨b, 3, none⟩ = some (.int .u64 z) := by
  unfold Gbx at h
  refine ⟨?_, ?_, ?_, ?_⟩ <;> (rw [cell_of_row _ _ _ _ _ (0, 0) h]; rfl)
theorem Gbx.frozen {w : World} {b : Nat} {k x y z : Int} (h : Gbx w b k x y z) (i : Nat) : w.frozen? ⟨b, i, none⟩ = false := frozen_of_row w b i _ _ h
theorem Gbx.new (w : World) (k x y z : Int) : Gbx (w.alloc (.cells #[.int .i64 k, .int .i64 x, .int .i64 y, .int .u64 z] 52)) w.heap.size k x y z := heap_alloc_new w _
theorem Gbx.below {w w' : World} {b B : Nat} {k x y z : Int} (h : Gbx w b k x y z) (hb : Below B w w') (hB : b < B) : Gbx w' b k x y z := by
  unfold Gbx; rw [hb.block b hB]; exact h
theorem Gbx.grown {w w' : World} {b : Nat} {r : Option Nat} {k x y z : Int} (h : Gbx w b k x y z) (hg : w.grownBy w' r) (hr : some b ≠ r) : Gbx w' b k x y z := by
  unfold Gbx; rw [hg.block b h.lt hr]; exact h
theorem Gbx.set1 {w : World} {b : Nat} {k x y z : Int} (h : Gbx w b k x y z) (v : Int) : Gbx (w.setCell ⟨b, 1, none⟩ (.int .i64 v)) b k v y z := by
  have := heap_setCell_same w b 1 _ _ (.int .i64 v) h
  unfold Gbx; rw [this]; rfl
theorem Gbx.set2 {w : World} {b : Nat} {k x y z : Int} (h : Gbx w b k x y z) (v : Int) : Gbx (w.setCell ⟨b, 2, none⟩ (.int .i64 v)) b k x v z := by
  have := heap_setCell_same w b 2 _ _ (.int .i64 v) h
  unfold Gbx; rw [this]; rfl
theorem Gbx.set3 {w : World} {b : Nat} {k x y z : Int} (h : Gbx w b k x y z) (v : Int) : Gbx (w.setCell ⟨b, 3, none⟩ (.int .u64 v)) b k x y v := by
  have := heap_setCell_same w b 3 _ _ (.int .u64 v) h
  unfold Gbx; rw [this]; rfl
theorem Gbx.set0 {w : World} {b : Nat} {k x y z : Int} (h : Gbx w b k x y z) (v : Int) : Gbx (w.setCell ⟨b, 0, none⟩ (.int .i64 v)) b v x y z := by
  have := heap_setCell_same w b 0 _ _ (.int .i64 v) h
  unfold Gbx; rw [this]; rfl
/-- All of it is written. -/
def put4 (w : World) (b : Nat) (k x y z : Int) : World := (((w.setCell ⟨b, 0, none⟩ (.int .i64 k)).setCell ⟨b, 1, none⟩ (.int .i64 x)).setCell ⟨b, 2, none⟩ (.int .i64 y)).setCell ⟨b, 3, none⟩ (.int .u64 z)
theorem Gbx.put {w : World} {b : Nat} {k x y z : Int} (h : Gbx w b k x y z) (k' x' y' z' : Int) : Gbx (put4 w b k' x' y' z') b k' x' y' z' := (((h.set0 k').set1 x').set2 y').set3 z'
theorem put4_grown (w : World) (b : Nat) (k x y z : Int) : w.grownBy (put4 w b k x y z) (some b) := grown_trans (grown_trans (grown_trans (grown_set _ _ _ _) (grown_set _ _ _ _)) (grown_set _ _ _ _)) (grown_set _ _ _ _)
theorem put4_below {w0 w : World} {b : Nat} {k x y z : Int} (h : Below w0.heap.size w0 w) (hb : w0.heap.size ≤ b) : Below w0.heap.size w0 (put4 w b k x y z) := below_grown h (put4_grown w b k x y z) hb
/-- A gate of kind k by its numbers. -/
def gol (k : Nat) (L : List Int) : Gt :=
  if k = 1 then ⟨1, L.getD 0 0, 0, 0⟩ else if k = 2 then ⟨2, 0, 0, nm (L.getD 0 0)⟩ else if k = 6 then ⟨6, L.getD 0 0, 0, nm (L.getD 1 0)⟩ else ⟨k, L.getD 0 0, L.getD 1 0, 0⟩
def gcell (g : Gt) : Value := .agg #[.int .i64 g.k, .int .i64 g.a, .int .i64 g.b, .int .u64 g.n]
/-- What readGate answers. -/
def Rgt (x : ByteArray) (L : List Int) (n : Nat) (w : World) (e : Ending) (w' : World) : Prop :=
  ((∃ k, 1 ≤ k ∧ k < 7 ∧ shw k = x ∧ n = arn k ∧ e = .returned (.tuple #[gcell (gol k L), .bool true])) ∨ ((∀ k, 1 ≤ k → k < 7 → shw k = x → n ≠ arn k) ∧ e = .returned (.tuple #[gcell ⟨0, 0, 0, 0⟩, .bool false]))) ∧ Below w.heap.size w w'
theorem shw_inj : ∀ i, i < 7 → ∀ j, j < 7 → shw i = shw j → i = j := by decide +kernel
theorem Rgt.n {x : ByteArray} {L : List Int} {n k : Nat} {w w' : World} (h1 : k < 7) (hx : shw k = x) (hn : n ≠ arn k) (hb : Below w.heap.size w w') : Rgt x L n w (.returned (.tuple #[gcell ⟨0, 0, 0, 0⟩, .bool false])) w' :=
  ⟨.inr ⟨fun j _ h7 hj e => hn (by rw [e, shw_inj j h7 k h1 (hj.trans hx.symm)]), rfl⟩, hb⟩
theorem Rgt.y {x : ByteArray} {L : List Int} {n k : Nat} {w w' : World} {g : Gt} (h0 : 1 ≤ k) (h1 : k < 7) (hx : shw k = x) (hn : n = arn k) (hg : g = gol k L) (hb : Below w.heap.size w w') : Rgt x L n w (.returned (.tuple #[gcell g, .bool true])) w' :=
  ⟨.inl ⟨k, h0, h1, hx, hn, by rw [hg]⟩, hb⟩

theorem infoU1c2 : (Tryd.prog.info? 42).map (·.size) = some 1 := by kernel_rfl
theorem getD_bd9 {L : List Int} (h : ∀ v ∈ L, 0 ≤ v ∧ v ≤ 9999999999) (i : Nat) : 0 ≤ L.getD i 0 ∧ L.getD i 0 ≤ 9999999999 := by
  rw [List.getD_eq_getElem?_getD]
  cases e : L[i]? with
  | none => simp
  | some v => simpa using h v (List.mem_of_getElem? e)

set_option maxRecDepth 100000 in
set_option maxHeartbeats 4000000 in
theorem cReadGate (x : ByteArray) (g n : Nat) (L : List Int) (w : World) (h : Blk w g L) (hl : L.length = n) (hn : n ≤ 100000) (hbd : ∀ v ∈ L, 0 ≤ v ∧ v ≤ 9999999999) (hS : Shp w) :
    Calls Tryd.prog 34 #[.string x, .slice (some ⟨g, 0, none⟩) n n] w fun e w' => Rgt x L n w e w' := by
  have hb0 : Below w.heap.size w (w.alloc (.cells #[.int .i64 0, .int .i64 0, .int .i64 0, .int .u64 0] 52)) := (Below.refl _ _).alloc (Nat.le_refl _) _
  have hR0 := Gbx.new w 0 0 0 0
  have hHB : Hid (∀ v ∈ L, 0 ≤ v ∧ v ≤ 9999999999) := hbd
  clear hbd
  go_enter Tryd.func34, Tryd.ntmps34
  go_upto_region 1 with fail
  generalize w.alloc (.cells #[.int .i64 0, .int .i64 0, .int .i64 0, .int .u64 0] 52) = W at *
  have hS0 := hS.below hb0
  have hBl0 := h.below hb0 h.lt
  have hgw := h.lt
  have hw1 : w.heap.size < W.heap.size := hR0.lt
  go_wp2_with fail
  refine (cKind x W hS0).mono ?_
  rintro e w1 ⟨k, rfl, hK, hw⟩
  have hw := hw.symm
  subst hw
  rcases hK with ⟨hk1, hk7, hx⟩ | ⟨rfl, hno⟩
  · have hkk : k = 1 ∨ k = 2 ∨ k = 3 ∨ k = 4 ∨ k = 5 ∨ k = 6 := by omega
    clear hk1 hk7
    rcases hkk with rfl | rfl | rfl | rfl | rfl | rfl
    · obtain ⟨s0, s1, s2, s3⟩ := hS0.at1
      have slt := hS0.lt
      have hb1' : Below W.heap.size W (W.alloc (.cells #[.string ⟨#[105, 110, 112, 117, 116]⟩, .bool true, .bool false, .bool false] 72)) := (Below.refl _ _).alloc (Nat.le_refl _) _
      have hb1 := hb0.trans (hb1'.mono hb0.size)
      obtain ⟨t0, t1, t2, t3⟩ := shape_box W ⟨#[105, 110, 112, 117, 116]⟩ true false false 72
      have hlt1 : W.heap.size < (W.alloc (.cells #[.string ⟨#[105, 110, 112, 117, 116]⟩, .bool true, .bool false, .bool false] 72)).heap.size := by simp
      have hR1 := hR0.below hb1' hR0.lt
      have hBl1 := hBl0.below hb1' hBl0.lt
      go_upto_region 3 with fail
      generalize W.alloc (.cells #[.string ⟨#[105, 110, 112, 117, 116]⟩, .bool true, .bool false, .bool false] 72) = V at *
      clear s0 s1 s2 s3 hb1' hb0 hS0 hBl0 hR0 slt
      have HX : Hid (shw 1 = x) := hx
      have hb2' : Below V.heap.size V (V.alloc (.cells #[.bool true, .bool false, .bool false] 4)) := (Below.refl _ _).alloc (Nat.le_refl _) _
      have hb2 := hb1.trans (hb2'.mono hb1.size)
      have hR2 := hR1.below hb2' hR1.lt
      have hBl2 := hBl1.below hb2' hBl1.lt
      have e0 : (V.alloc (.cells #[.bool true, .bool false, .bool false] 4)).cell? ⟨V.heap.size, 0, none⟩ = some (.bool true) := by rw [cell_of_row _ _ _ _ _ (0, 0) (heap_alloc_new V _)]; rfl
      have e1 : (V.alloc (.cells #[.bool true, .bool false, .bool false] 4)).cell? ⟨V.heap.size, 1, none⟩ = some (.bool false) := by rw [cell_of_row _ _ _ _ _ (0, 0) (heap_alloc_new V _)]; rfl
      have e2 : (V.alloc (.cells #[.bool true, .bool false, .bool false] 4)).cell? ⟨V.heap.size, 2, none⟩ = some (.bool false) := by rw [cell_of_row _ _ _ _ _ (0, 0) (heap_alloc_new V _)]; rfl
      have hltU : V.heap.size < (V.alloc (.cells #[.bool true, .bool false, .bool false] 4)).heap.size := by simp
      have T0 : (V.alloc (.cells #[.bool true, .bool false, .bool false] 4)).cell? ⟨W.heap.size, 0, none⟩ = some (.string ⟨#[105, 110, 112, 117, 116]⟩) := by rw [hb2'.cell (p := ⟨W.heap.size, 0, none⟩) hlt1]; exact t0
      have T1 : (V.alloc (.cells #[.bool true, .bool false, .bool false] 4)).cell? ⟨W.heap.size, 1, none⟩ = some (.bool true) := by rw [hb2'.cell (p := ⟨W.heap.size, 1, none⟩) hlt1]; exact t1
      have T2 : (V.alloc (.cells #[.bool true, .bool false, .bool false] 4)).cell? ⟨W.heap.size, 2, none⟩ = some (.bool false) := by rw [hb2'.cell (p := ⟨W.heap.size, 2, none⟩) hlt1]; exact t2
      have T3 : (V.alloc (.cells #[.bool true, .bool false, .bool false] 4)).cell? ⟨W.heap.size, 3, none⟩ = some (.bool false) := by rw [hb2'.cell (p := ⟨W.heap.size, 3, none⟩) hlt1]; exact t3
      have hlt2 := Nat.lt_trans hlt1 hltU
      go_wp2_with fail
      generalize V.alloc (.cells #[.bool true, .bool false, .bool false] 4) = U at *
      refine (cCount V.heap.size true false false U e0 e1 e2 hltU).mono ?_
      rintro e w3 ⟨rfl, hw3⟩
      have hw3 := hw3.symm
      subst hw3
      have hcn : bn true + bn false + bn false = 1 := rfl
      rw [hcn]
      clear e0 e1 e2 hcn t0 t1 t2 t3 hb2' hb1 hR1 hBl1 hx
      by_cases hne : n = 1
      · subst hne
        have HEQ : Hid (1 = arn 1) := rfl
        have hP0 := Gbx.new U 1 0 0 0
        have hb3' : Below U.heap.size U (U.alloc (.cells #[.int .i64 1, .int .i64 0, .int .i64 0, .int .u64 0] 52)) := (Below.refl _ _).alloc (Nat.le_refl _) _
        have hb3 := hb2.trans (hb3'.mono hb2.size)
        have hR3 := hR2.below hb3' hR2.lt
        have hBl3 := hBl2.below hb3' hBl2.lt
        have hlt3 := hltU
        have hlt4 := hP0.lt
        have S1 : (U.alloc (.cells #[.int .i64 1, .int .i64 0, .int .i64 0, .int .u64 0] 52)).cell? ⟨W.heap.size, 1, none⟩ = some (.bool true) := by rw [hb3'.cell (p := ⟨W.heap.size, 1, none⟩) hlt2]; exact T1
        have S2 : (U.alloc (.cells #[.int .i64 1, .int .i64 0, .int .i64 0, .int .u64 0] 52)).cell? ⟨W.heap.size, 2, none⟩ = some (.bool false) := by rw [hb3'.cell (p := ⟨W.heap.size, 2, none⟩) hlt2]; exact T2
        have S3 : (U.alloc (.cells #[.int .i64 1, .int .i64 0, .int .i64 0, .int .u64 0] 52)).cell? ⟨W.heap.size, 3, none⟩ = some (.bool false) := by rw [hb3'.cell (p := ⟨W.heap.size, 3, none⟩) hlt2]; exact T3
        have hneR : w.heap.size ≠ U.heap.size := Nat.ne_of_lt hR2.lt
        have hneB : g ≠ U.heap.size := Nat.ne_of_lt hBl2.lt
        have hneS : W.heap.size ≠ U.heap.size := Nat.ne_of_lt hlt2
        have hBU : w.heap.size ≤ U.heap.size := hb2.size
        obtain ⟨v0, HV0⟩ : ∃ v, Hid (L.getD 0 0 = v) := ⟨_, rfl⟩
        have hv0 : 0 ≤ v0 ∧ v0 ≤ 9999999999 := by rw [← HV0.out]; exact getD_bd9 hHB.out 0
        have HL : Hid (L.length = 1) := hl
        clear hl T0 T1 T2 T3 hBl2 hR2 hb2
        go_upto_region 6 with fail
        generalize U.alloc (.cells #[.int .i64 1, .int .i64 0, .int .i64 0, .int .u64 0] 52) = Y0 at *
        clear hb3'
        have hsl0 : ∀ W, (Instr.sliceAt 26 (.slice (some ⟨g, 0, none⟩) 1 1) (some (.int .i64 1)) none none).run Tryd.prog W = .ok (.slice (some ⟨g, 0, none⟩) 0 0) W := fun W => run_subl Tryd.underlying26 infoU1c2 (some ⟨g, 0, none⟩) 1 1 1 rfl (by omega) W
        have hc0 := hBl3.cell (i := 0) (by rw [HL.out]; omega)
        rw [HV0.out] at hc0
        have hwr0 : IntKind.i64.wrap v0 = v0 := by rw [IntKind.wrap_i64]; omega
        have hgl0 := hBl3.lt
        have hP1 : Gbx (Y0.setCell ⟨U.heap.size, 1, none⟩ (.int .i64 v0)).drew U.heap.size 1 v0 0 0 := hP0.set1 v0
        have hgr0 : Y0.grownBy (Y0.setCell ⟨U.heap.size, 1, none⟩ (.int .i64 v0)).drew (some U.heap.size) := grown_drew (grown_set _ _ _ _)
        have hR4 := hR3.grown hgr0 (fun e => hneR (Option.some.inj e))
        have hBl4 := hBl3.grown hgr0 (fun e => hneB (Option.some.inj e))
        have hb4 := below_grown hb3 hgr0 hBU
        have S10 : (Y0.setCell ⟨U.heap.size, 1, none⟩ (.int .i64 v0)).drew.cell? ⟨W.heap.size, 1, none⟩ = some (.bool true) := (World.cell?_setCell_other _ _ _ _ (by simp)).trans S1
        have S20 : (Y0.setCell ⟨U.heap.size, 1, none⟩ (.int .i64 v0)).drew.cell? ⟨W.heap.size, 2, none⟩ = some (.bool false) := (World.cell?_setCell_other _ _ _ _ (by simp)).trans S2
        have S30 : (Y0.setCell ⟨U.heap.size, 1, none⟩ (.int .i64 v0)).drew.cell? ⟨W.heap.size, 3, none⟩ = some (.bool false) := (World.cell?_setCell_other _ _ _ _ (by simp)).trans S3
        obtain ⟨p0, p1, p2, p3⟩ := hP0.cells
        have pf := hP0.frozen 1
        have pl := hP0.lt
        have sl := hBl3.lt
        have hszS : W.heap.size < Y0.heap.size := Nat.lt_trans (Nat.lt_of_le_of_ne (Nat.le_of_lt hlt2) hneS) hP0.lt
        clear hb3 hP0 hR3 hBl3 hgr0
        go_wp2
        go_region
        all_goals
          generalize (Y0.setCell ⟨U.heap.size, 1, none⟩ (.int .i64 v0)).drew = Y1 at *
          clear S1 S2 S3 p0 p1 p2 p3 pf pl sl hszS hsl0 hc0 hgl0
          have hszS : W.heap.size < Y1.heap.size := Nat.lt_trans (Nat.lt_of_le_of_ne (Nat.le_of_lt hlt2) hneS) hP1.lt
          have HGO : Hid ((⟨1, v0, 0, 0⟩ : Gt) = gol 1 L) := by
            unfold Hid
            show _ = (⟨1, L.getD 0 0, 0, 0⟩ : Gt)
            rw [HV0.out]
          obtain ⟨p0, p1, p2, p3⟩ := hP1.cells
          have pl := hP1.lt
          obtain ⟨z0, z1, z2, z3⟩ := (hR4.put 1 (v0) (0) (0)).cells
          obtain ⟨y0, y1, y2, y3⟩ := hR4.cells
          have fz := fun i => hR4.frozen i
          have rl := hR4.lt
          have HBE : Hid (Below w.heap.size w (put4 Y1 w.heap.size 1 (v0) (0) (0))) := put4_below hb4 (Nat.le_refl _)
          clear hR4 hP1 hb4 hBl4
          unfold put4 at z0 z1 z2 z3 HBE
          go_wp2
          exact bodyPost_ret (v := .tuple #[gcell ⟨1, v0, 0, 0⟩, .bool true]) (by simp [results, Tryd.results34, go_sem, z0, z1, z2, z3, gcell]) rfl (Rgt.y (k := 1) (by omega) (by omega) HX.out HEQ.out HGO.out HBE.out)
      · have HNE : Hid (n ≠ arn 1) := hne
        have hnb : ((n : Int) != 1) = true := by rw [bne_iff_ne]; omega
        clear hne
        obtain ⟨z0, z1, z2, z3⟩ := (hR2.put 0 0 0 0).cells
        obtain ⟨y0, y1, y2, y3⟩ := hR2.cells
        have fz := fun i => hR2.frozen i
        have HBE : Hid (Below w.heap.size w (put4 U w.heap.size 0 0 0 0)) := put4_below hb2 (Nat.le_refl _)
        have rl := hR2.lt
        clear hR2 hBl2 hb2
        unfold put4 at z0 z1 z2 z3 HBE
        go_wp2
        exact bodyPost_ret (v := .tuple #[gcell ⟨0, 0, 0, 0⟩, .bool false]) (by simp [results, Tryd.results34, go_sem, z0, z1, z2, z3, gcell]) rfl (Rgt.n (k := 1) (by omega) HX.out HNE.out HBE.out)
    · obtain ⟨s0, s1, s2, s3⟩ := hS0.at2
      have slt := hS0.lt
      have hb1' : Below W.heap.size W (W.alloc (.cells #[.string ⟨#[99, 111, 110, 115, 116]⟩, .bool false, .bool false, .bool true] 72)) := (Below.refl _ _).alloc (Nat.le_refl _) _
      have hb1 := hb0.trans (hb1'.mono hb0.size)
      obtain ⟨t0, t1, t2, t3⟩ := shape_box W ⟨#[99, 111, 110, 115, 116]⟩ false false true 72
      have hlt1 : W.heap.size < (W.alloc (.cells #[.string ⟨#[99, 111, 110, 115, 116]⟩, .bool false, .bool false, .bool true] 72)).heap.size := by simp
      have hR1 := hR0.below hb1' hR0.lt
      have hBl1 := hBl0.below hb1' hBl0.lt
      go_upto_region 3 with fail
      generalize W.alloc (.cells #[.string ⟨#[99, 111, 110, 115, 116]⟩, .bool false, .bool false, .bool true] 72) = V at *
      clear s0 s1 s2 s3 hb1' hb0 hS0 hBl0 hR0 slt
      have HX : Hid (shw 2 = x) := hx
      have hb2' : Below V.heap.size V (V.alloc (.cells #[.bool false, .bool false, .bool true] 4)) := (Below.refl _ _).alloc (Nat.le_refl _) _
      have hb2 := hb1.trans (hb2'.mono hb1.size)
      have hR2 := hR1.below hb2' hR1.lt
      have hBl2 := hBl1.below hb2' hBl1.lt
      have e0 : (V.alloc (.cells #[.bool false, .bool false, .bool true] 4)).cell? ⟨V.heap.size, 0, none⟩ = some (.bool false) := by rw [cell_of_row _ _ _ _ _ (0, 0) (heap_alloc_new V _)]; rfl
      have e1 : (V.alloc (.cells #[.bool false, .bool false, .bool true] 4)).cell? ⟨V.heap.size, 1, none⟩ = some (.bool false) := by rw [cell_of_row _ _ _ _ _ (0, 0) (heap_alloc_new V _)]; rfl
      have e2 : (V.alloc (.cells #[.bool false, .bool false, .bool true] 4)).cell? ⟨V.heap.size, 2, none⟩ = some (.bool true) := by rw [cell_of_row _ _ _ _ _ (0, 0) (heap_alloc_new V _)]; rfl
      have hltU : V.heap.size < (V.alloc (.cells #[.bool false, .bool false, .bool true] 4)).heap.size := by simp
      have T0 : (V.alloc (.cells #[.bool false, .bool false, .bool true] 4)).cell? ⟨W.heap.size, 0, none⟩ = some (.string ⟨#[99, 111, 110, 115, 116]⟩) := by rw [hb2'.cell (p := ⟨W.heap.size, 0, none⟩) hlt1]; exact t0
      have T1 : (V.alloc (.cells #[.bool false, .bool false, .bool true] 4)).cell? ⟨W.heap.size, 1, none⟩ = some (.bool false) := by rw [hb2'.cell (p := ⟨W.heap.size, 1, none⟩) hlt1]; exact t1
      have T2 : (V.alloc (.cells #[.bool false, .bool false, .bool true] 4)).cell? ⟨W.heap.size, 2, none⟩ = some (.bool false) := by rw [hb2'.cell (p := ⟨W.heap.size, 2, none⟩) hlt1]; exact t2
      have T3 : (V.alloc (.cells #[.bool false, .bool false, .bool true] 4)).cell? ⟨W.heap.size, 3, none⟩ = some (.bool true) := by rw [hb2'.cell (p := ⟨W.heap.size, 3, none⟩) hlt1]; exact t3
      have hlt2 := Nat.lt_trans hlt1 hltU
      go_wp2_with fail
      generalize V.alloc (.cells #[.bool false, .bool false, .bool true] 4) = U at *
      refine (cCount V.heap.size false false true U e0 e1 e2 hltU).mono ?_
      rintro e w3 ⟨rfl, hw3⟩
      have hw3 := hw3.symm
      subst hw3
      have hcn : bn false + bn false + bn true = 1 := rfl
      rw [hcn]
      clear e0 e1 e2 hcn t0 t1 t2 t3 hb2' hb1 hR1 hBl1 hx
      by_cases hne : n = 1
      · subst hne
        have HEQ : Hid (1 = arn 2) := rfl
        have hP0 := Gbx.new U 2 0 0 0
        have hb3' : Below U.heap.size U (U.alloc (.cells #[.int .i64 2, .int .i64 0, .int .i64 0, .int .u64 0] 52)) := (Below.refl _ _).alloc (Nat.le_refl _) _
        have hb3 := hb2.trans (hb3'.mono hb2.size)
        have hR3 := hR2.below hb3' hR2.lt
        have hBl3 := hBl2.below hb3' hBl2.lt
        have hlt3 := hltU
        have hlt4 := hP0.lt
        have S1 : (U.alloc (.cells #[.int .i64 2, .int .i64 0, .int .i64 0, .int .u64 0] 52)).cell? ⟨W.heap.size, 1, none⟩ = some (.bool false) := by rw [hb3'.cell (p := ⟨W.heap.size, 1, none⟩) hlt2]; exact T1
        have S2 : (U.alloc (.cells #[.int .i64 2, .int .i64 0, .int .i64 0, .int .u64 0] 52)).cell? ⟨W.heap.size, 2, none⟩ = some (.bool false) := by rw [hb3'.cell (p := ⟨W.heap.size, 2, none⟩) hlt2]; exact T2
        have S3 : (U.alloc (.cells #[.int .i64 2, .int .i64 0, .int .i64 0, .int .u64 0] 52)).cell? ⟨W.heap.size, 3, none⟩ = some (.bool true) := by rw [hb3'.cell (p := ⟨W.heap.size, 3, none⟩) hlt2]; exact T3
        have hneR : w.heap.size ≠ U.heap.size := Nat.ne_of_lt hR2.lt
        have hneB : g ≠ U.heap.size := Nat.ne_of_lt hBl2.lt
        have hneS : W.heap.size ≠ U.heap.size := Nat.ne_of_lt hlt2
        have hBU : w.heap.size ≤ U.heap.size := hb2.size
        obtain ⟨v0, HV0⟩ : ∃ v, Hid (L.getD 0 0 = v) := ⟨_, rfl⟩
        have hv0 : 0 ≤ v0 ∧ v0 ≤ 9999999999 := by rw [← HV0.out]; exact getD_bd9 hHB.out 0
        have HL : Hid (L.length = 1) := hl
        clear hl T0 T1 T2 T3 hBl2 hR2 hb2
        go_upto_region 6 with fail
        generalize U.alloc (.cells #[.int .i64 2, .int .i64 0, .int .i64 0, .int .u64 0] 52) = Y0 at *
        clear hb3'
        have hc0 := hBl3.cell (i := 0) (by rw [HL.out]; omega)
        rw [HV0.out] at hc0
        obtain ⟨N, HN⟩ : ∃ N, Hid (nm v0 = N) := ⟨_, rfl⟩
        have hP1 : Gbx (Y0.setCell ⟨U.heap.size, 3, none⟩ (.int .u64 N)) U.heap.size 2 0 0 N := hP0.set3 N
        have hgr0 : Y0.grownBy (Y0.setCell ⟨U.heap.size, 3, none⟩ (.int .u64 N)) (some U.heap.size) := grown_set _ _ _ _
        have hR4 := hR3.grown hgr0 (fun e => hneR (Option.some.inj e))
        have hb4 := below_grown hb3 hgr0 hBU
        obtain ⟨p0, p1, p2, p3⟩ := hP0.cells
        have pf := hP0.frozen 3
        have pl := hP0.lt
        have sl := hBl3.lt
        have hszS : W.heap.size < Y0.heap.size := Nat.lt_trans (Nat.lt_of_le_of_ne (Nat.le_of_lt hlt2) hneS) hP0.lt
        clear hb3 hP0 hR3 hBl3 hgr0
        go_upto_region 12 with (go_at_call 29; refine (fNorm _ _ (by omega) (by omega)).mono ?_; rintro e w' ⟨rfl, hw⟩; have hw := hw.symm; subst hw; rw [HN.out])
        generalize Y0.setCell ⟨U.heap.size, 3, none⟩ (.int .u64 N) = Y1 at *
        clear S1 S2 S3 p0 p1 p2 p3 pf pl sl hszS hc0
        have HGO : Hid ((⟨2, 0, 0, N⟩ : Gt) = gol 2 L) := by
          unfold Hid
          show _ = (⟨2, 0, 0, nm (L.getD 0 0)⟩ : Gt)
          rw [HV0.out, HN.out]
        obtain ⟨p0, p1, p2, p3⟩ := hP1.cells
        have pl := hP1.lt
        obtain ⟨z0, z1, z2, z3⟩ := (hR4.put 2 (0) (0) (N)).cells
        obtain ⟨y0, y1, y2, y3⟩ := hR4.cells
        have fz := fun i => hR4.frozen i
        have rl := hR4.lt
        have HBE : Hid (Below w.heap.size w (put4 Y1 w.heap.size 2 (0) (0) (N))) := put4_below hb4 (Nat.le_refl _)
        clear hR4 hP1 hb4
        unfold put4 at z0 z1 z2 z3 HBE
        go_wp2
        exact bodyPost_ret (v := .tuple #[gcell ⟨2, 0, 0, N⟩, .bool true]) (by simp [results, Tryd.results34, go_sem, z0, z1, z2, z3, gcell]) rfl (Rgt.y (k := 2) (by omega) (by omega) HX.out HEQ.out HGO.out HBE.out)
      · have HNE : Hid (n ≠ arn 2) := hne
        have hnb : ((n : Int) != 1) = true := by rw [bne_iff_ne]; omega
        clear hne
        obtain ⟨z0, z1, z2, z3⟩ := (hR2.put 0 0 0 0).cells
        obtain ⟨y0, y1, y2, y3⟩ := hR2.cells
        have fz := fun i => hR2.frozen i
        have HBE : Hid (Below w.heap.size w (put4 U w.heap.size 0 0 0 0)) := put4_below hb2 (Nat.le_refl _)
        have rl := hR2.lt
        clear hR2 hBl2 hb2
        unfold put4 at z0 z1 z2 z3 HBE
        go_wp2
        exact bodyPost_ret (v := .tuple #[gcell ⟨0, 0, 0, 0⟩, .bool false]) (by simp [results, Tryd.results34, go_sem, z0, z1, z2, z3, gcell]) rfl (Rgt.n (k := 2) (by omega) HX.out HNE.out HBE.out)
    · obtain ⟨s0, s1, s2, s3⟩ := hS0.at3
      have slt := hS0.lt
      have hb1' : Below W.heap.size W (W.alloc (.cells #[.string ⟨#[97, 100, 100]⟩, .bool true, .bool true, .bool false] 72)) := (Below.refl _ _).alloc (Nat.le_refl _) _
      have hb1 := hb0.trans (hb1'.mono hb0.size)
      obtain ⟨t0, t1, t2, t3⟩ := shape_box W ⟨#[97, 100, 100]⟩ true true false 72
      have hlt1 : W.heap.size < (W.alloc (.cells #[.string ⟨#[97, 100, 100]⟩, .bool true, .bool true, .bool false] 72)).heap.size := by simp
      have hR1 := hR0.below hb1' hR0.lt
      have hBl1 := hBl0.below hb1' hBl0.lt
      go_upto_region 3 with fail
      generalize W.alloc (.cells #[.string ⟨#[97, 100, 100]⟩, .bool true, .bool true, .bool false] 72) = V at *
      clear s0 s1 s2 s3 hb1' hb0 hS0 hBl0 hR0 slt
      have HX : Hid (shw 3 = x) := hx
      have hb2' : Below V.heap.size V (V.alloc (.cells #[.bool true, .bool true, .bool false] 4)) := (Below.refl _ _).alloc (Nat.le_refl _) _
      have hb2 := hb1.trans (hb2'.mono hb1.size)
      have hR2 := hR1.below hb2' hR1.lt
      have hBl2 := hBl1.below hb2' hBl1.lt
      have e0 : (V.alloc (.cells #[.bool true, .bool true, .bool false] 4)).cell? ⟨V.heap.size, 0, none⟩ = some (.bool true) := by rw [cell_of_row _ _ _ _ _ (0, 0) (heap_alloc_new V _)]; rfl
      have e1 : (V.alloc (.cells #[.bool true, .bool true, .bool false] 4)).cell? ⟨V.heap.size, 1, none⟩ = some (.bool true) := by rw [cell_of_row _ _ _ _ _ (0, 0) (heap_alloc_new V _)]; rfl
      have e2 : (V.alloc (.cells #[.bool true, .bool true, .bool false] 4)).cell? ⟨V.heap.size, 2, none⟩ = some (.bool false) := by rw [cell_of_row _ _ _ _ _ (0, 0) (heap_alloc_new V _)]; rfl
      have hltU : V.heap.size < (V.alloc (.cells #[.bool true, .bool true, .bool false] 4)).heap.size := by simp
      have T0 : (V.alloc (.cells #[.bool true, .bool true, .bool false] 4)).cell? ⟨W.heap.size, 0, none⟩ = some (.string ⟨#[97, 100, 100]⟩) := by rw [hb2'.cell (p := ⟨W.heap.size, 0, none⟩) hlt1]; exact t0
      have T1 : (V.alloc (.cells #[.bool true, .bool true, .bool false] 4)).cell? ⟨W.heap.size, 1, none⟩ = some (.bool true) := by rw [hb2'.cell (p := ⟨W.heap.size, 1, none⟩) hlt1]; exact t1
      have T2 : (V.alloc (.cells #[.bool true, .bool true, .bool false] 4)).cell? ⟨W.heap.size, 2, none⟩ = some (.bool true) := by rw [hb2'.cell (p := ⟨W.heap.size, 2, none⟩) hlt1]; exact t2
      have T3 : (V.alloc (.cells #[.bool true, .bool true, .bool false] 4)).cell? ⟨W.heap.size, 3, none⟩ = some (.bool false) := by rw [hb2'.cell (p := ⟨W.heap.size, 3, none⟩) hlt1]; exact t3
      have hlt2 := Nat.lt_trans hlt1 hltU
      go_wp2_with fail
      generalize V.alloc (.cells #[.bool true, .bool true, .bool false] 4) = U at *
      refine (cCount V.heap.size true true false U e0 e1 e2 hltU).mono ?_
      rintro e w3 ⟨rfl, hw3⟩
      have hw3 := hw3.symm
      subst hw3
      have hcn : bn true + bn true + bn false = 2 := rfl
      rw [hcn]
      clear e0 e1 e2 hcn t0 t1 t2 t3 hb2' hb1 hR1 hBl1 hx
      by_cases hne : n = 2
      · subst hne
        have HEQ : Hid (2 = arn 3) := rfl
        have hP0 := Gbx.new U 3 0 0 0
        have hb3' : Below U.heap.size U (U.alloc (.cells #[.int .i64 3, .int .i64 0, .int .i64 0, .int .u64 0] 52)) := (Below.refl _ _).alloc (Nat.le_refl _) _
        have hb3 := hb2.trans (hb3'.mono hb2.size)
        have hR3 := hR2.below hb3' hR2.lt
        have hBl3 := hBl2.below hb3' hBl2.lt
        have hlt3 := hltU
        have hlt4 := hP0.lt
        have S1 : (U.alloc (.cells #[.int .i64 3, .int .i64 0, .int .i64 0, .int .u64 0] 52)).cell? ⟨W.heap.size, 1, none⟩ = some (.bool true) := by rw [hb3'.cell (p := ⟨W.heap.size, 1, none⟩) hlt2]; exact T1
        have S2 : (U.alloc (.cells #[.int .i64 3, .int .i64 0, .int .i64 0, .int .u64 0] 52)).cell? ⟨W.heap.size, 2, none⟩ = some (.bool true) := by rw [hb3'.cell (p := ⟨W.heap.size, 2, none⟩) hlt2]; exact T2
        have S3 : (U.alloc (.cells #[.int .i64 3, .int .i64 0, .int .i64 0, .int .u64 0] 52)).cell? ⟨W.heap.size, 3, none⟩ = some (.bool false) := by rw [hb3'.cell (p := ⟨W.heap.size, 3, none⟩) hlt2]; exact T3
        have hneR : w.heap.size ≠ U.heap.size := Nat.ne_of_lt hR2.lt
        have hneB : g ≠ U.heap.size := Nat.ne_of_lt hBl2.lt
        have hneS : W.heap.size ≠ U.heap.size := Nat.ne_of_lt hlt2
        have hBU : w.heap.size ≤ U.heap.size := hb2.size
        obtain ⟨v0, HV0⟩ : ∃ v, Hid (L.getD 0 0 = v) := ⟨_, rfl⟩
        have hv0 : 0 ≤ v0 ∧ v0 ≤ 9999999999 := by rw [← HV0.out]; exact getD_bd9 hHB.out 0
        obtain ⟨v1, HV1⟩ : ∃ v, Hid (L.getD 1 0 = v) := ⟨_, rfl⟩
        have hv1 : 0 ≤ v1 ∧ v1 ≤ 9999999999 := by rw [← HV1.out]; exact getD_bd9 hHB.out 1
        have HL : Hid (L.length = 2) := hl
        clear hl T0 T1 T2 T3 hBl2 hR2 hb2
        go_upto_region 6 with fail
        generalize U.alloc (.cells #[.int .i64 3, .int .i64 0, .int .i64 0, .int .u64 0] 52) = Y0 at *
        clear hb3'
        have hsl0 : ∀ W, (Instr.sliceAt 26 (.slice (some ⟨g, 0, none⟩) 2 2) (some (.int .i64 1)) none none).run Tryd.prog W = .ok (.slice (some ⟨g, 1, none⟩) 1 1) W := fun W => run_subl Tryd.underlying26 infoU1c2 (some ⟨g, 0, none⟩) 2 2 1 rfl (by omega) W
        have hc0 := hBl3.cell (i := 0) (by rw [HL.out]; omega)
        rw [HV0.out] at hc0
        have hwr0 : IntKind.i64.wrap v0 = v0 := by rw [IntKind.wrap_i64]; omega
        have hgl0 := hBl3.lt
        have hP1 : Gbx (Y0.setCell ⟨U.heap.size, 1, none⟩ (.int .i64 v0)).drew U.heap.size 3 v0 0 0 := hP0.set1 v0
        have hgr0 : Y0.grownBy (Y0.setCell ⟨U.heap.size, 1, none⟩ (.int .i64 v0)).drew (some U.heap.size) := grown_drew (grown_set _ _ _ _)
        have hR4 := hR3.grown hgr0 (fun e => hneR (Option.some.inj e))
        have hBl4 := hBl3.grown hgr0 (fun e => hneB (Option.some.inj e))
        have hb4 := below_grown hb3 hgr0 hBU
        have S10 : (Y0.setCell ⟨U.heap.size, 1, none⟩ (.int .i64 v0)).drew.cell? ⟨W.heap.size, 1, none⟩ = some (.bool true) := (World.cell?_setCell_other _ _ _ _ (by simp)).trans S1
        have S20 : (Y0.setCell ⟨U.heap.size, 1, none⟩ (.int .i64 v0)).drew.cell? ⟨W.heap.size, 2, none⟩ = some (.bool true) := (World.cell?_setCell_other _ _ _ _ (by simp)).trans S2
        have S30 : (Y0.setCell ⟨U.heap.size, 1, none⟩ (.int .i64 v0)).drew.cell? ⟨W.heap.size, 3, none⟩ = some (.bool false) := (World.cell?_setCell_other _ _ _ _ (by simp)).trans S3
        obtain ⟨p0, p1, p2, p3⟩ := hP0.cells
        have pf := hP0.frozen 1
        have pl := hP0.lt
        have sl := hBl3.lt
        have hszS : W.heap.size < Y0.heap.size := Nat.lt_trans (Nat.lt_of_le_of_ne (Nat.le_of_lt hlt2) hneS) hP0.lt
        clear hb3 hP0 hR3 hBl3 hgr0
        go_wp2
        go_region
        all_goals
          generalize (Y0.setCell ⟨U.heap.size, 1, none⟩ (.int .i64 v0)).drew = Y1 at *
          clear S1 S2 S3 p0 p1 p2 p3 pf pl sl hszS hsl0 hc0 hgl0
          have hsl1 : ∀ W, (Instr.sliceAt 26 (.slice (some ⟨g, 1, none⟩) 1 1) (some (.int .i64 1)) none none).run Tryd.prog W = .ok (.slice (some ⟨g, 1, none⟩) 0 0) W := fun W => run_subl Tryd.underlying26 infoU1c2 (some ⟨g, 1, none⟩) 1 1 1 rfl (by omega) W
          have hc1 := hBl4.cell (i := 1) (by rw [HL.out]; omega)
          rw [HV1.out] at hc1
          have hwr1 : IntKind.i64.wrap v1 = v1 := by rw [IntKind.wrap_i64]; omega
          have hgl1 := hBl4.lt
          have hP2 : Gbx (Y1.setCell ⟨U.heap.size, 2, none⟩ (.int .i64 v1)).drew U.heap.size 3 v0 v1 0 := hP1.set2 v1
          have hgr1 : Y1.grownBy (Y1.setCell ⟨U.heap.size, 2, none⟩ (.int .i64 v1)).drew (some U.heap.size) := grown_drew (grown_set _ _ _ _)
          have hR5 := hR4.grown hgr1 (fun e => hneR (Option.some.inj e))
          have hBl5 := hBl4.grown hgr1 (fun e => hneB (Option.some.inj e))
          have hb5 := below_grown hb4 hgr1 hBU
          have S11 : (Y1.setCell ⟨U.heap.size, 2, none⟩ (.int .i64 v1)).drew.cell? ⟨W.heap.size, 1, none⟩ = some (.bool true) := (World.cell?_setCell_other _ _ _ _ (by simp)).trans S10
          have S21 : (Y1.setCell ⟨U.heap.size, 2, none⟩ (.int .i64 v1)).drew.cell? ⟨W.heap.size, 2, none⟩ = some (.bool true) := (World.cell?_setCell_other _ _ _ _ (by simp)).trans S20
          have S31 : (Y1.setCell ⟨U.heap.size, 2, none⟩ (.int .i64 v1)).drew.cell? ⟨W.heap.size, 3, none⟩ = some (.bool false) := (World.cell?_setCell_other _ _ _ _ (by simp)).trans S30
          obtain ⟨p0, p1, p2, p3⟩ := hP1.cells
          have pf := hP1.frozen 2
          have pl := hP1.lt
          have sl := hBl4.lt
          have hszS : W.heap.size < Y1.heap.size := Nat.lt_trans (Nat.lt_of_le_of_ne (Nat.le_of_lt hlt2) hneS) hP1.lt
          clear hb4 hP1 hR4 hBl4 hgr1
          go_wp2
          go_region
          all_goals
            generalize (Y1.setCell ⟨U.heap.size, 2, none⟩ (.int .i64 v1)).drew = Y2 at *
            clear S10 S20 S30 p0 p1 p2 p3 pf pl sl hszS hsl1 hc1 hgl1
            have hszS : W.heap.size < Y2.heap.size := Nat.lt_trans (Nat.lt_of_le_of_ne (Nat.le_of_lt hlt2) hneS) hP2.lt
            have HGO : Hid ((⟨3, v0, v1, 0⟩ : Gt) = gol 3 L) := by
              unfold Hid
              show _ = (⟨3, L.getD 0 0, L.getD 1 0, 0⟩ : Gt)
              rw [HV0.out, HV1.out]
            obtain ⟨p0, p1, p2, p3⟩ := hP2.cells
            have pl := hP2.lt
            obtain ⟨z0, z1, z2, z3⟩ := (hR5.put 3 (v0) (v1) (0)).cells
            obtain ⟨y0, y1, y2, y3⟩ := hR5.cells
            have fz := fun i => hR5.frozen i
            have rl := hR5.lt
            have HBE : Hid (Below w.heap.size w (put4 Y2 w.heap.size 3 (v0) (v1) (0))) := put4_below hb5 (Nat.le_refl _)
            clear hR5 hP2 hb5 hBl5
            unfold put4 at z0 z1 z2 z3 HBE
            go_wp2
            exact bodyPost_ret (v := .tuple #[gcell ⟨3, v0, v1, 0⟩, .bool true]) (by simp [results, Tryd.results34, go_sem, z0, z1, z2, z3, gcell]) rfl (Rgt.y (k := 3) (by omega) (by omega) HX.out HEQ.out HGO.out HBE.out)
      · have HNE : Hid (n ≠ arn 3) := hne
        have hnb : ((n : Int) != 2) = true := by rw [bne_iff_ne]; omega
        clear hne
        obtain ⟨z0, z1, z2, z3⟩ := (hR2.put 0 0 0 0).cells
        obtain ⟨y0, y1, y2, y3⟩ := hR2.cells
        have fz := fun i => hR2.frozen i
        have HBE : Hid (Below w.heap.size w (put4 U w.heap.size 0 0 0 0)) := put4_below hb2 (Nat.le_refl _)
        have rl := hR2.lt
        clear hR2 hBl2 hb2
        unfold put4 at z0 z1 z2 z3 HBE
        go_wp2
        exact bodyPost_ret (v := .tuple #[gcell ⟨0, 0, 0, 0⟩, .bool false]) (by simp [results, Tryd.results34, go_sem, z0, z1, z2, z3, gcell]) rfl (Rgt.n (k := 3) (by omega) HX.out HNE.out HBE.out)
    · obtain ⟨s0, s1, s2, s3⟩ := hS0.at4
      have slt := hS0.lt
      have hb1' : Below W.heap.size W (W.alloc (.cells #[.string ⟨#[115, 117, 98]⟩, .bool true, .bool true, .bool false] 72)) := (Below.refl _ _).alloc (Nat.le_refl _) _
      have hb1 := hb0.trans (hb1'.mono hb0.size)
      obtain ⟨t0, t1, t2, t3⟩ := shape_box W ⟨#[115, 117, 98]⟩ true true false 72
      have hlt1 : W.heap.size < (W.alloc (.cells #[.string ⟨#[115, 117, 98]⟩, .bool true, .bool true, .bool false] 72)).heap.size := by simp
      have hR1 := hR0.below hb1' hR0.lt
      have hBl1 := hBl0.below hb1' hBl0.lt
      go_upto_region 3 with fail
      generalize W.alloc (.cells #[.string ⟨#[115, 117, 98]⟩, .bool true, .bool true, .bool false] 72) = V at *
      clear s0 s1 s2 s3 hb1' hb0 hS0 hBl0 hR0 slt
      have HX : Hid (shw 4 = x) := hx
      have hb2' : Below V.heap.size V (V.alloc (.cells #[.bool true, .bool true, .bool false] 4)) := (Below.refl _ _).alloc (Nat.le_refl _) _
      have hb2 := hb1.trans (hb2'.mono hb1.size)
      have hR2 := hR1.below hb2' hR1.lt
      have hBl2 := hBl1.below hb2' hBl1.lt
      have e0 : (V.alloc (.cells #[.bool true, .bool true, .bool false] 4)).cell? ⟨V.heap.size, 0, none⟩ = some (.bool true) := by rw [cell_of_row _ _ _ _ _ (0, 0) (heap_alloc_new V _)]; rfl
      have e1 : (V.alloc (.cells #[.bool true, .bool true, .bool false] 4)).cell? ⟨V.heap.size, 1, none⟩ = some (.bool true) := by rw [cell_of_row _ _ _ _ _ (0, 0) (heap_alloc_new V _)]; rfl
      have e2 : (V.alloc (.cells #[.bool true, .bool true, .bool false] 4)).cell? ⟨V.heap.size, 2, none⟩ = some (.bool false) := by rw [cell_of_row _ _ _ _ _ (0, 0) (heap_alloc_new V _)]; rfl
      have hltU : V.heap.size < (V.alloc (.cells #[.bool true, .bool true, .bool false] 4)).heap.size := by simp
      have T0 : (V.alloc (.cells #[.bool true, .bool true, .bool false] 4)).cell? ⟨W.heap.size, 0, none⟩ = some (.string ⟨#[115, 117, 98]⟩) := by rw [hb2'.cell (p := ⟨W.heap.size, 0, none⟩) hlt1]; exact t0
      have T1 : (V.alloc (.cells #[.bool true, .bool true, .bool false] 4)).cell? ⟨W.heap.size, 1, none⟩ = some (.bool true) := by rw [hb2'.cell (p := ⟨W.heap.size, 1, none⟩) hlt1]; exact t1
      have T2 : (V.alloc (.cells #[.bool true, .bool true, .bool false] 4)).cell? ⟨W.heap.size, 2, none⟩ = some (.bool true) := by rw [hb2'.cell (p := ⟨W.heap.size, 2, none⟩) hlt1]; exact t2
      have T3 : (V.alloc (.cells #[.bool true, .bool true, .bool false] 4)).cell? ⟨W.heap.size, 3, none⟩ = some (.bool false) := by rw [hb2'.cell (p := ⟨W.heap.size, 3, none⟩) hlt1]; exact t3
      have hlt2 := Nat.lt_trans hlt1 hltU
      go_wp2_with fail
      generalize V.alloc (.cells #[.bool true, .bool true, .bool false] 4) = U at *
      refine (cCount V.heap.size true true false U e0 e1 e2 hltU).mono ?_
      rintro e w3 ⟨rfl, hw3⟩
      have hw3 := hw3.symm
      subst hw3
      have hcn : bn true + bn true + bn false = 2 := rfl
      rw [hcn]
      clear e0 e1 e2 hcn t0 t1 t2 t3 hb2' hb1 hR1 hBl1 hx
      by_cases hne : n = 2
      · subst hne
        have HEQ : Hid (2 = arn 4) := rfl
        have hP0 := Gbx.new U 4 0 0 0
        have hb3' : Below U.heap.size U (U.alloc (.cells #[.int .i64 4, .int .i64 0, .int .i64 0, .int .u64 0] 52)) := (Below.refl _ _).alloc (Nat.le_refl _) _
        have hb3 := hb2.trans (hb3'.mono hb2.size)
        have hR3 := hR2.below hb3' hR2.lt
        have hBl3 := hBl2.below hb3' hBl2.lt
        have hlt3 := hltU
        have hlt4 := hP0.lt
        have S1 : (U.alloc (.cells #[.int .i64 4, .int .i64 0, .int .i64 0, .int .u64 0] 52)).cell? ⟨W.heap.size, 1, none⟩ = some (.bool true) := by rw [hb3'.cell (p := ⟨W.heap.size, 1, none⟩) hlt2]; exact T1
        have S2 : (U.alloc (.cells #[.int .i64 4, .int .i64 0, .int .i64 0, .int .u64 0] 52)).cell? ⟨W.heap.size, 2, none⟩ = some (.bool true) := by rw [hb3'.cell (p := ⟨W.heap.size, 2, none⟩) hlt2]; exact T2
        have S3 : (U.alloc (.cells #[.int .i64 4, .int .i64 0, .int .i64 0, .int .u64 0] 52)).cell? ⟨W.heap.size, 3, none⟩ = some (.bool false) := by rw [hb3'.cell (p := ⟨W.heap.size, 3, none⟩) hlt2]; exact T3
        have hneR : w.heap.size ≠ U.heap.size := Nat.ne_of_lt hR2.lt
        have hneB : g ≠ U.heap.size := Nat.ne_of_lt hBl2.lt
        have hneS : W.heap.size ≠ U.heap.size := Nat.ne_of_lt hlt2
        have hBU : w.heap.size ≤ U.heap.size := hb2.size
        obtain ⟨v0, HV0⟩ : ∃ v, Hid (L.getD 0 0 = v) := ⟨_, rfl⟩
        have hv0 : 0 ≤ v0 ∧ v0 ≤ 9999999999 := by rw [← HV0.out]; exact getD_bd9 hHB.out 0
        obtain ⟨v1, HV1⟩ : ∃ v, Hid (L.getD 1 0 = v) := ⟨_, rfl⟩
        have hv1 : 0 ≤ v1 ∧ v1 ≤ 9999999999 := by rw [← HV1.out]; exact getD_bd9 hHB.out 1
        have HL : Hid (L.length = 2) := hl
        clear hl T0 T1 T2 T3 hBl2 hR2 hb2
        go_upto_region 6 with fail
        generalize U.alloc (.cells #[.int .i64 4, .int .i64 0, .int .i64 0, .int .u64 0] 52) = Y0 at *
        clear hb3'
        have hsl0 : ∀ W, (Instr.sliceAt 26 (.slice (some ⟨g, 0, none⟩) 2 2) (some (.int .i64 1)) none none).run Tryd.prog W = .ok (.slice (some ⟨g, 1, none⟩) 1 1) W := fun W => run_subl Tryd.underlying26 infoU1c2 (some ⟨g, 0, none⟩) 2 2 1 rfl (by omega) W
        have hc0 := hBl3.cell (i := 0) (by rw [HL.out]; omega)
        rw [HV0.out] at hc0
        have hwr0 : IntKind.i64.wrap v0 = v0 := by rw [IntKind.wrap_i64]; omega
        have hgl0 := hBl3.lt
        have hP1 : Gbx (Y0.setCell ⟨U.heap.size, 1, none⟩ (.int .i64 v0)).drew U.heap.size 4 v0 0 0 := hP0.set1 v0
        have hgr0 : Y0.grownBy (Y0.setCell ⟨U.heap.size, 1, none⟩ (.int .i64 v0)).drew (some U.heap.size) := grown_drew (grown_set _ _ _ _)
        have hR4 := hR3.grown hgr0 (fun e => hneR (Option.some.inj e))
        have hBl4 := hBl3.grown hgr0 (fun e => hneB (Option.some.inj e))
        have hb4 := below_grown hb3 hgr0 hBU
        have S10 : (Y0.setCell ⟨U.heap.size, 1, none⟩ (.int .i64 v0)).drew.cell? ⟨W.heap.size, 1, none⟩ = some (.bool true) := (World.cell?_setCell_other _ _ _ _ (by simp)).trans S1
        have S20 : (Y0.setCell ⟨U.heap.size, 1, none⟩ (.int .i64 v0)).drew.cell? ⟨W.heap.size, 2, none⟩ = some (.bool true) := (World.cell?_setCell_other _ _ _ _ (by simp)).trans S2
        have S30 : (Y0.setCell ⟨U.heap.size, 1, none⟩ (.int .i64 v0)).drew.cell? ⟨W.heap.size, 3, none⟩ = some (.bool false) := (World.cell?_setCell_other _ _ _ _ (by simp)).trans S3
        obtain ⟨p0, p1, p2, p3⟩ := hP0.cells
        have pf := hP0.frozen 1
        have pl := hP0.lt
        have sl := hBl3.lt
        have hszS : W.heap.size < Y0.heap.size := Nat.lt_trans (Nat.lt_of_le_of_ne (Nat.le_of_lt hlt2) hneS) hP0.lt
        clear hb3 hP0 hR3 hBl3 hgr0
        go_wp2
        go_region
        all_goals
          generalize (Y0.setCell ⟨U.heap.size, 1, none⟩ (.int .i64 v0)).drew = Y1 at *
          clear S1 S2 S3 p0 p1 p2 p3 pf pl sl hszS hsl0 hc0 hgl0
          have hsl1 : ∀ W, (Instr.sliceAt 26 (.slice (some ⟨g, 1, none⟩) 1 1) (some (.int .i64 1)) none none).run Tryd.prog W = .ok (.slice (some ⟨g, 1, none⟩) 0 0) W := fun W => run_subl Tryd.underlying26 infoU1c2 (some ⟨g, 1, none⟩) 1 1 1 rfl (by omega) W
          have hc1 := hBl4.cell (i := 1) (by rw [HL.out]; omega)
          rw [HV1.out] at hc1
          have hwr1 : IntKind.i64.wrap v1 = v1 := by rw [IntKind.wrap_i64]; omega
          have hgl1 := hBl4.lt
          have hP2 : Gbx (Y1.setCell ⟨U.heap.size, 2, none⟩ (.int .i64 v1)).drew U.heap.size 4 v0 v1 0 := hP1.set2 v1
          have hgr1 : Y1.grownBy (Y1.setCell ⟨U.heap.size, 2, none⟩ (.int .i64 v1)).drew (some U.heap.size) := grown_drew (grown_set _ _ _ _)
          have hR5 := hR4.grown hgr1 (fun e => hneR (Option.some.inj e))
          have hBl5 := hBl4.grown hgr1 (fun e => hneB (Option.some.inj e))
          have hb5 := below_grown hb4 hgr1 hBU
          have S11 : (Y1.setCell ⟨U.heap.size, 2, none⟩ (.int .i64 v1)).drew.cell? ⟨W.heap.size, 1, none⟩ = some (.bool true) := (World.cell?_setCell_other _ _ _ _ (by simp)).trans S10
          have S21 : (Y1.setCell ⟨U.heap.size, 2, none⟩ (.int .i64 v1)).drew.cell? ⟨W.heap.size, 2, none⟩ = some (.bool true) := (World.cell?_setCell_other _ _ _ _ (by simp)).trans S20
          have S31 : (Y1.setCell ⟨U.heap.size, 2, none⟩ (.int .i64 v1)).drew.cell? ⟨W.heap.size, 3, none⟩ = some (.bool false) := (World.cell?_setCell_other _ _ _ _ (by simp)).trans S30
          obtain ⟨p0, p1, p2, p3⟩ := hP1.cells
          have pf := hP1.frozen 2
          have pl := hP1.lt
          have sl := hBl4.lt
          have hszS : W.heap.size < Y1.heap.size := Nat.lt_trans (Nat.lt_of_le_of_ne (Nat.le_of_lt hlt2) hneS) hP1.lt
          clear hb4 hP1 hR4 hBl4 hgr1
          go_wp2
          go_region
          all_goals
            generalize (Y1.setCell ⟨U.heap.size, 2, none⟩ (.int .i64 v1)).drew = Y2 at *
            clear S10 S20 S30 p0 p1 p2 p3 pf pl sl hszS hsl1 hc1 hgl1
            have hszS : W.heap.size < Y2.heap.size := Nat.lt_trans (Nat.lt_of_le_of_ne (Nat.le_of_lt hlt2) hneS) hP2.lt
            have HGO : Hid ((⟨4, v0, v1, 0⟩ : Gt) = gol 4 L) := by
              unfold Hid
              show _ = (⟨4, L.getD 0 0, L.getD 1 0, 0⟩ : Gt)
              rw [HV0.out, HV1.out]
            obtain ⟨p0, p1, p2, p3⟩ := hP2.cells
            have pl := hP2.lt
            obtain ⟨z0, z1, z2, z3⟩ := (hR5.put 4 (v0) (v1) (0)).cells
            obtain ⟨y0, y1, y2, y3⟩ := hR5.cells
            have fz := fun i => hR5.frozen i
            have rl := hR5.lt
            have HBE : Hid (Below w.heap.size w (put4 Y2 w.heap.size 4 (v0) (v1) (0))) := put4_below hb5 (Nat.le_refl _)
            clear hR5 hP2 hb5 hBl5
            unfold put4 at z0 z1 z2 z3 HBE
            go_wp2
            exact bodyPost_ret (v := .tuple #[gcell ⟨4, v0, v1, 0⟩, .bool true]) (by simp [results, Tryd.results34, go_sem, z0, z1, z2, z3, gcell]) rfl (Rgt.y (k := 4) (by omega) (by omega) HX.out HEQ.out HGO.out HBE.out)
      · have HNE : Hid (n ≠ arn 4) := hne
        have hnb : ((n : Int) != 2) = true := by rw [bne_iff_ne]; omega
        clear hne
        obtain ⟨z0, z1, z2, z3⟩ := (hR2.put 0 0 0 0).cells
        obtain ⟨y0, y1, y2, y3⟩ := hR2.cells
        have fz := fun i => hR2.frozen i
        have HBE : Hid (Below w.heap.size w (put4 U w.heap.size 0 0 0 0)) := put4_below hb2 (Nat.le_refl _)
        have rl := hR2.lt
        clear hR2 hBl2 hb2
        unfold put4 at z0 z1 z2 z3 HBE
        go_wp2
        exact bodyPost_ret (v := .tuple #[gcell ⟨0, 0, 0, 0⟩, .bool false]) (by simp [results, Tryd.results34, go_sem, z0, z1, z2, z3, gcell]) rfl (Rgt.n (k := 4) (by omega) HX.out HNE.out HBE.out)
    · obtain ⟨s0, s1, s2, s3⟩ := hS0.at5
      have slt := hS0.lt
      have hb1' : Below W.heap.size W (W.alloc (.cells #[.string ⟨#[109, 117, 108]⟩, .bool true, .bool true, .bool false] 72)) := (Below.refl _ _).alloc (Nat.le_refl _) _
      have hb1 := hb0.trans (hb1'.mono hb0.size)
      obtain ⟨t0, t1, t2, t3⟩ := shape_box W ⟨#[109, 117, 108]⟩ true true false 72
      have hlt1 : W.heap.size < (W.alloc (.cells #[.string ⟨#[109, 117, 108]⟩, .bool true, .bool true, .bool false] 72)).heap.size := by simp
      have hR1 := hR0.below hb1' hR0.lt
      have hBl1 := hBl0.below hb1' hBl0.lt
      go_upto_region 3 with fail
      generalize W.alloc (.cells #[.string ⟨#[109, 117, 108]⟩, .bool true, .bool true, .bool false] 72) = V at *
      clear s0 s1 s2 s3 hb1' hb0 hS0 hBl0 hR0 slt
      have HX : Hid (shw 5 = x) := hx
      have hb2' : Below V.heap.size V (V.alloc (.cells #[.bool true, .bool true, .bool false] 4)) := (Below.refl _ _).alloc (Nat.le_refl _) _
      have hb2 := hb1.trans (hb2'.mono hb1.size)
      have hR2 := hR1.below hb2' hR1.lt
      have hBl2 := hBl1.below hb2' hBl1.lt
      have e0 : (V.alloc (.cells #[.bool true, .bool true, .bool false] 4)).cell? ⟨V.heap.size, 0, none⟩ = some (.bool true) := by rw [cell_of_row _ _ _ _ _ (0, 0) (heap_alloc_new V _)]; rfl
      have e1 : (V.alloc (.cells #[.bool true, .bool true, .bool false] 4)).cell? ⟨V.heap.size, 1, none⟩ = some (.bool true) := by rw [cell_of_row _ _ _ _ _ (0, 0) (heap_alloc_new V _)]; rfl
      have e2 : (V.alloc (.cells #[.bool true, .bool true, .bool false] 4)).cell? ⟨V.heap.size, 2, none⟩ = some (.bool false) := by rw [cell_of_row _ _ _ _ _ (0, 0) (heap_alloc_new V _)]; rfl
      have hltU : V.heap.size < (V.alloc (.cells #[.bool true, .bool true, .bool false] 4)).heap.size := by simp
      have T0 : (V.alloc (.cells #[.bool true, .bool true, .bool false] 4)).cell? ⟨W.heap.size, 0, none⟩ = some (.string ⟨#[109, 117, 108]⟩) := by rw [hb2'.cell (p := ⟨W.heap.size, 0, none⟩) hlt1]; exact t0
      have T1 : (V.alloc (.cells #[.bool true, .bool true, .bool false] 4)).cell? ⟨W.heap.size, 1, none⟩ = some (.bool true) := by rw [hb2'.cell (p := ⟨W.heap.size, 1, none⟩) hlt1]; exact t1
      have T2 : (V.alloc (.cells #[.bool true, .bool true, .bool false] 4)).cell? ⟨W.heap.size, 2, none⟩ = some (.bool true) := by rw [hb2'.cell (p := ⟨W.heap.size, 2, none⟩) hlt1]; exact t2
      have T3 : (V.alloc (.cells #[.bool true, .bool true, .bool false] 4)).cell? ⟨W.heap.size, 3, none⟩ = some (.bool false) := by rw [hb2'.cell (p := ⟨W.heap.size, 3, none⟩) hlt1]; exact t3
      have hlt2 := Nat.lt_trans hlt1 hltU
      go_wp2_with fail
      generalize V.alloc (.cells #[.bool true, .bool true, .bool false] 4) = U at *
      refine (cCount V.heap.size true true false U e0 e1 e2 hltU).mono ?_
      rintro e w3 ⟨rfl, hw3⟩
      have hw3 := hw3.symm
      subst hw3
      have hcn : bn true + bn true + bn false = 2 := rfl
      rw [hcn]
      clear e0 e1 e2 hcn t0 t1 t2 t3 hb2' hb1 hR1 hBl1 hx
      by_cases hne : n = 2
      · subst hne
        have HEQ : Hid (2 = arn 5) := rfl
        have hP0 := Gbx.new U 5 0 0 0
        have hb3' : Below U.heap.size U (U.alloc (.cells #[.int .i64 5, .int .i64 0, .int .i64 0, .int .u64 0] 52)) := (Below.refl _ _).alloc (Nat.le_refl _) _
        have hb3 := hb2.trans (hb3'.mono hb2.size)
        have hR3 := hR2.below hb3' hR2.lt
        have hBl3 := hBl2.below hb3' hBl2.lt
        have hlt3 := hltU
        have hlt4 := hP0.lt
        have S1 : (U.alloc (.cells #[.int .i64 5, .int .i64 0, .int .i64 0, .int .u64 0] 52)).cell? ⟨W.heap.size, 1, none⟩ = some (.bool true) := by rw [hb3'.cell (p := ⟨W.heap.size, 1, none⟩) hlt2]; exact T1
        have S2 : (U.alloc (.cells #[.int .i64 5, .int .i64 0, .int .i64 0, .int .u64 0] 52)).cell? ⟨W.heap.size, 2, none⟩ = some (.bool true) := by rw [hb3'.cell (p := ⟨W.heap.size, 2, none⟩) hlt2]; exact T2
        have S3 : (U.alloc (.cells #[.int .i64 5, .int .i64 0, .int .i64 0, .int .u64 0] 52)).cell? ⟨W.heap.size, 3, none⟩ = some (.bool false) := by rw [hb3'.cell (p := ⟨W.heap.size, 3, none⟩) hlt2]; exact T3
        have hneR : w.heap.size ≠ U.heap.size := Nat.ne_of_lt hR2.lt
        have hneB : g ≠ U.heap.size := Nat.ne_of_lt hBl2.lt
        have hneS : W.heap.size ≠ U.heap.size := Nat.ne_of_lt hlt2
        have hBU : w.heap.size ≤ U.heap.size := hb2.size
        obtain ⟨v0, HV0⟩ : ∃ v, Hid (L.getD 0 0 = v) := ⟨_, rfl⟩
        have hv0 : 0 ≤ v0 ∧ v0 ≤ 9999999999 := by rw [← HV0.out]; exact getD_bd9 hHB.out 0
        obtain ⟨v1, HV1⟩ : ∃ v, Hid (L.getD 1 0 = v) := ⟨_, rfl⟩
        have hv1 : 0 ≤ v1 ∧ v1 ≤ 9999999999 := by rw [← HV1.out]; exact getD_bd9 hHB.out 1
        have HL : Hid (L.length = 2) := hl
        clear hl T0 T1 T2 T3 hBl2 hR2 hb2
        go_upto_region 6 with fail
        generalize U.alloc (.cells #[.int .i64 5, .int .i64 0, .int .i64 0, .int .u64 0] 52) = Y0 at *
        clear hb3'
        have hsl0 : ∀ W, (Instr.sliceAt 26 (.slice (some ⟨g, 0, none⟩) 2 2) (some (.int .i64 1)) none none).run Tryd.prog W = .ok (.slice (some ⟨g, 1, none⟩) 1 1) W := fun W => run_subl Tryd.underlying26 infoU1c2 (some ⟨g, 0, none⟩) 2 2 1 rfl (by omega) W
        have hc0 := hBl3.cell (i := 0) (by rw [HL.out]; omega)
        rw [HV0.out] at hc0
        have hwr0 : IntKind.i64.wrap v0 = v0 := by rw [IntKind.wrap_i64]; omega
        have hgl0 := hBl3.lt
        have hP1 : Gbx (Y0.setCell ⟨U.heap.size, 1, none⟩ (.int .i64 v0)).drew U.heap.size 5 v0 0 0 := hP0.set1 v0
        have hgr0 : Y0.grownBy (Y0.setCell ⟨U.heap.size, 1, none⟩ (.int .i64 v0)).drew (some U.heap.size) := grown_drew (grown_set _ _ _ _)
        have hR4 := hR3.grown hgr0 (fun e => hneR (Option.some.inj e))
        have hBl4 := hBl3.grown hgr0 (fun e => hneB (Option.some.inj e))
        have hb4 := below_grown hb3 hgr0 hBU
        have S10 : (Y0.setCell ⟨U.heap.size, 1, none⟩ (.int .i64 v0)).drew.cell? ⟨W.heap.size, 1, none⟩ = some (.bool true) := (World.cell?_setCell_other _ _ _ _ (by simp)).trans S1
        have S20 : (Y0.setCell ⟨U.heap.size, 1, none⟩ (.int .i64 v0)).drew.cell? ⟨W.heap.size, 2, none⟩ = some (.bool true) := (World.cell?_setCell_other _ _ _ _ (by simp)).trans S2
        have S30 : (Y0.setCell ⟨U.heap.size, 1, none⟩ (.int .i64 v0)).drew.cell? ⟨W.heap.size, 3, none⟩ = some (.bool false) := (World.cell?_setCell_other _ _ _ _ (by simp)).trans S3
        obtain ⟨p0, p1, p2, p3⟩ := hP0.cells
        have pf := hP0.frozen 1
        have pl := hP0.lt
        have sl := hBl3.lt
        have hszS : W.heap.size < Y0.heap.size := Nat.lt_trans (Nat.lt_of_le_of_ne (Nat.le_of_lt hlt2) hneS) hP0.lt
        clear hb3 hP0 hR3 hBl3 hgr0
        go_wp2
        go_region
        all_goals
          generalize (Y0.setCell ⟨U.heap.size, 1, none⟩ (.int .i64 v0)).drew = Y1 at *
          clear S1 S2 S3 p0 p1 p2 p3 pf pl sl hszS hsl0 hc0 hgl0
          have hsl1 : ∀ W, (Instr.sliceAt 26 (.slice (some ⟨g, 1, none⟩) 1 1) (some (.int .i64 1)) none none).run Tryd.prog W = .ok (.slice (some ⟨g, 1, none⟩) 0 0) W := fun W => run_subl Tryd.underlying26 infoU1c2 (some ⟨g, 1, none⟩) 1 1 1 rfl (by omega) W
          have hc1 := hBl4.cell (i := 1) (by rw [HL.out]; omega)
          rw [HV1.out] at hc1
          have hwr1 : IntKind.i64.wrap v1 = v1 := by rw [IntKind.wrap_i64]; omega
          have hgl1 := hBl4.lt
          have hP2 : Gbx (Y1.setCell ⟨U.heap.size, 2, none⟩ (.int .i64 v1)).drew U.heap.size 5 v0 v1 0 := hP1.set2 v1
          have hgr1 : Y1.grownBy (Y1.setCell ⟨U.heap.size, 2, none⟩ (.int .i64 v1)).drew (some U.heap.size) := grown_drew (grown_set _ _ _ _)
          have hR5 := hR4.grown hgr1 (fun e => hneR (Option.some.inj e))
          have hBl5 := hBl4.grown hgr1 (fun e => hneB (Option.some.inj e))
          have hb5 := below_grown hb4 hgr1 hBU
          have S11 : (Y1.setCell ⟨U.heap.size, 2, none⟩ (.int .i64 v1)).drew.cell? ⟨W.heap.size, 1, none⟩ = some (.bool true) := (World.cell?_setCell_other _ _ _ _ (by simp)).trans S10
          have S21 : (Y1.setCell ⟨U.heap.size, 2, none⟩ (.int .i64 v1)).drew.cell? ⟨W.heap.size, 2, none⟩ = some (.bool true) := (World.cell?_setCell_other _ _ _ _ (by simp)).trans S20
          have S31 : (Y1.setCell ⟨U.heap.size, 2, none⟩ (.int .i64 v1)).drew.cell? ⟨W.heap.size, 3, none⟩ = some (.bool false) := (World.cell?_setCell_other _ _ _ _ (by simp)).trans S30
          obtain ⟨p0, p1, p2, p3⟩ := hP1.cells
          have pf := hP1.frozen 2
          have pl := hP1.lt
          have sl := hBl4.lt
          have hszS : W.heap.size < Y1.heap.size := Nat.lt_trans (Nat.lt_of_le_of_ne (Nat.le_of_lt hlt2) hneS) hP1.lt
          clear hb4 hP1 hR4 hBl4 hgr1
          go_wp2
          go_region
          all_goals
            generalize (Y1.setCell ⟨U.heap.size, 2, none⟩ (.int .i64 v1)).drew = Y2 at *
            clear S10 S20 S30 p0 p1 p2 p3 pf pl sl hszS hsl1 hc1 hgl1
            have hszS : W.heap.size < Y2.heap.size := Nat.lt_trans (Nat.lt_of_le_of_ne (Nat.le_of_lt hlt2) hneS) hP2.lt
            have HGO : Hid ((⟨5, v0, v1, 0⟩ : Gt) = gol 5 L) := by
              unfold Hid
              show _ = (⟨5, L.getD 0 0, L.getD 1 0, 0⟩ : Gt)
              rw [HV0.out, HV1.out]
            obtain ⟨p0, p1, p2, p3⟩ := hP2.cells
            have pl := hP2.lt
            obtain ⟨z0, z1, z2, z3⟩ := (hR5.put 5 (v0) (v1) (0)).cells
            obtain ⟨y0, y1, y2, y3⟩ := hR5.cells
            have fz := fun i => hR5.frozen i
            have rl := hR5.lt
            have HBE : Hid (Below w.heap.size w (put4 Y2 w.heap.size 5 (v0) (v1) (0))) := put4_below hb5 (Nat.le_refl _)
            clear hR5 hP2 hb5 hBl5
            unfold put4 at z0 z1 z2 z3 HBE
            go_wp2
            exact bodyPost_ret (v := .tuple #[gcell ⟨5, v0, v1, 0⟩, .bool true]) (by simp [results, Tryd.results34, go_sem, z0, z1, z2, z3, gcell]) rfl (Rgt.y (k := 5) (by omega) (by omega) HX.out HEQ.out HGO.out HBE.out)
      · have HNE : Hid (n ≠ arn 5) := hne
        have hnb : ((n : Int) != 2) = true := by rw [bne_iff_ne]; omega
        clear hne
        obtain ⟨z0, z1, z2, z3⟩ := (hR2.put 0 0 0 0).cells
        obtain ⟨y0, y1, y2, y3⟩ := hR2.cells
        have fz := fun i => hR2.frozen i
        have HBE : Hid (Below w.heap.size w (put4 U w.heap.size 0 0 0 0)) := put4_below hb2 (Nat.le_refl _)
        have rl := hR2.lt
        clear hR2 hBl2 hb2
        unfold put4 at z0 z1 z2 z3 HBE
        go_wp2
        exact bodyPost_ret (v := .tuple #[gcell ⟨0, 0, 0, 0⟩, .bool false]) (by simp [results, Tryd.results34, go_sem, z0, z1, z2, z3, gcell]) rfl (Rgt.n (k := 5) (by omega) HX.out HNE.out HBE.out)
    · obtain ⟨s0, s1, s2, s3⟩ := hS0.at6
      have slt := hS0.lt
      have hb1' : Below W.heap.size W (W.alloc (.cells #[.string ⟨#[115, 99, 97, 108, 101]⟩, .bool true, .bool false, .bool true] 72)) := (Below.refl _ _).alloc (Nat.le_refl _) _
      have hb1 := hb0.trans (hb1'.mono hb0.size)
      obtain ⟨t0, t1, t2, t3⟩ := shape_box W ⟨#[115, 99, 97, 108, 101]⟩ true false true 72
      have hlt1 : W.heap.size < (W.alloc (.cells #[.string ⟨#[115, 99, 97, 108, 101]⟩, .bool true, .bool false, .bool true] 72)).heap.size := by simp
      have hR1 := hR0.below hb1' hR0.lt
      have hBl1 := hBl0.below hb1' hBl0.lt
      go_upto_region 3 with fail
      generalize W.alloc (.cells #[.string ⟨#[115, 99, 97, 108, 101]⟩, .bool true, .bool false, .bool true] 72) = V at *
      clear s0 s1 s2 s3 hb1' hb0 hS0 hBl0 hR0 slt
      have HX : Hid (shw 6 = x) := hx
      have hb2' : Below V.heap.size V (V.alloc (.cells #[.bool true, .bool false, .bool true] 4)) := (Below.refl _ _).alloc (Nat.le_refl _) _
      have hb2 := hb1.trans (hb2'.mono hb1.size)
      have hR2 := hR1.below hb2' hR1.lt
      have hBl2 := hBl1.below hb2' hBl1.lt
      have e0 : (V.alloc (.cells #[.bool true, .bool false, .bool true] 4)).cell? ⟨V.heap.size, 0, none⟩ = some (.bool true) := by rw [cell_of_row _ _ _ _ _ (0, 0) (heap_alloc_new V _)]; rfl
      have e1 : (V.alloc (.cells #[.bool true, .bool false, .bool true] 4)).cell? ⟨V.heap.size, 1, none⟩ = some (.bool false) := by rw [cell_of_row _ _ _ _ _ (0, 0) (heap_alloc_new V _)]; rfl
      have e2 : (V.alloc (.cells #[.bool true, .bool false, .bool true] 4)).cell? ⟨V.heap.size, 2, none⟩ = some (.bool true) := by rw [cell_of_row _ _ _ _ _ (0, 0) (heap_alloc_new V _)]; rfl
      have hltU : V.heap.size < (V.alloc (.cells #[.bool true, .bool false, .bool true] 4)).heap.size := by simp
      have T0 : (V.alloc (.cells #[.bool true, .bool false, .bool true] 4)).cell? ⟨W.heap.size, 0, none⟩ = some (.string ⟨#[115, 99, 97, 108, 101]⟩) := by rw [hb2'.cell (p := ⟨W.heap.size, 0, none⟩) hlt1]; exact t0
      have T1 : (V.alloc (.cells #[.bool true, .bool false, .bool true] 4)).cell? ⟨W.heap.size, 1, none⟩ = some (.bool true) := by rw [hb2'.cell (p := ⟨W.heap.size, 1, none⟩) hlt1]; exact t1
      have T2 : (V.alloc (.cells #[.bool true, .bool false, .bool true] 4)).cell? ⟨W.heap.size, 2, none⟩ = some (.bool false) := by rw [hb2'.cell (p := ⟨W.heap.size, 2, none⟩) hlt1]; exact t2
      have T3 : (V.alloc (.cells #[.bool true, .bool false, .bool true] 4)).cell? ⟨W.heap.size, 3, none⟩ = some (.bool true) := by rw [hb2'.cell (p := ⟨W.heap.size, 3, none⟩) hlt1]; exact t3
      have hlt2 := Nat.lt_trans hlt1 hltU
      go_wp2_with fail
      generalize V.alloc (.cells #[.bool true, .bool false, .bool true] 4) = U at *
      refine (cCount V.heap.size true false true U e0 e1 e2 hltU).mono ?_
      rintro e w3 ⟨rfl, hw3⟩
      have hw3 := hw3.symm
      subst hw3
      have hcn : bn true + bn false + bn true = 2 := rfl
      rw [hcn]
      clear e0 e1 e2 hcn t0 t1 t2 t3 hb2' hb1 hR1 hBl1 hx
      by_cases hne : n = 2
      · subst hne
        have HEQ : Hid (2 = arn 6) := rfl
        have hP0 := Gbx.new U 6 0 0 0
        have hb3' : Below U.heap.size U (U.alloc (.cells #[.int .i64 6, .int .i64 0, .int .i64 0, .int .u64 0] 52)) := (Below.refl _ _).alloc (Nat.le_refl _) _
        have hb3 := hb2.trans (hb3'.mono hb2.size)
        have hR3 := hR2.below hb3' hR2.lt
        have hBl3 := hBl2.below hb3' hBl2.lt
        have hlt3 := hltU
        have hlt4 := hP0.lt
        have S1 : (U.alloc (.cells #[.int .i64 6, .int .i64 0, .int .i64 0, .int .u64 0] 52)).cell? ⟨W.heap.size, 1, none⟩ = some (.bool true) := by rw [hb3'.cell (p := ⟨W.heap.size, 1, none⟩) hlt2]; exact T1
        have S2 : (U.alloc (.cells #[.int .i64 6, .int .i64 0, .int .i64 0, .int .u64 0] 52)).cell? ⟨W.heap.size, 2, none⟩ = some (.bool false) := by rw [hb3'.cell (p := ⟨W.heap.size, 2, none⟩) hlt2]; exact T2
        have S3 : (U.alloc (.cells #[.int .i64 6, .int .i64 0, .int .i64 0, .int .u64 0] 52)).cell? ⟨W.heap.size, 3, none⟩ = some (.bool true) := by rw [hb3'.cell (p := ⟨W.heap.size, 3, none⟩) hlt2]; exact T3
        have hneR : w.heap.size ≠ U.heap.size := Nat.ne_of_lt hR2.lt
        have hneB : g ≠ U.heap.size := Nat.ne_of_lt hBl2.lt
        have hneS : W.heap.size ≠ U.heap.size := Nat.ne_of_lt hlt2
        have hBU : w.heap.size ≤ U.heap.size := hb2.size
        obtain ⟨v0, HV0⟩ : ∃ v, Hid (L.getD 0 0 = v) := ⟨_, rfl⟩
        have hv0 : 0 ≤ v0 ∧ v0 ≤ 9999999999 := by rw [← HV0.out]; exact getD_bd9 hHB.out 0
        obtain ⟨v1, HV1⟩ : ∃ v, Hid (L.getD 1 0 = v) := ⟨_, rfl⟩
        have hv1 : 0 ≤ v1 ∧ v1 ≤ 9999999999 := by rw [← HV1.out]; exact getD_bd9 hHB.out 1
        have HL : Hid (L.length = 2) := hl
        clear hl T0 T1 T2 T3 hBl2 hR2 hb2
        go_upto_region 6 with fail
        generalize U.alloc (.cells #[.int .i64 6, .int .i64 0, .int .i64 0, .int .u64 0] 52) = Y0 at *
        clear hb3'
        have hsl0 : ∀ W, (Instr.sliceAt 26 (.slice (some ⟨g, 0, none⟩) 2 2) (some (.int .i64 1)) none none).run Tryd.prog W = .ok (.slice (some ⟨g, 1, none⟩) 1 1) W := fun W => run_subl Tryd.underlying26 infoU1c2 (some ⟨g, 0, none⟩) 2 2 1 rfl (by omega) W
        have hc0 := hBl3.cell (i := 0) (by rw [HL.out]; omega)
        rw [HV0.out] at hc0
        have hwr0 : IntKind.i64.wrap v0 = v0 := by rw [IntKind.wrap_i64]; omega
        have hgl0 := hBl3.lt
        have hP1 : Gbx (Y0.setCell ⟨U.heap.size, 1, none⟩ (.int .i64 v0)).drew U.heap.size 6 v0 0 0 := hP0.set1 v0
        have hgr0 : Y0.grownBy (Y0.setCell ⟨U.heap.size, 1, none⟩ (.int .i64 v0)).drew (some U.heap.size) := grown_drew (grown_set _ _ _ _)
        have hR4 := hR3.grown hgr0 (fun e => hneR (Option.some.inj e))
        have hBl4 := hBl3.grown hgr0 (fun e => hneB (Option.some.inj e))
        have hb4 := below_grown hb3 hgr0 hBU
        have S10 : (Y0.setCell ⟨U.heap.size, 1, none⟩ (.int .i64 v0)).drew.cell? ⟨W.heap.size, 1, none⟩ = some (.bool true) := (World.cell?_setCell_other _ _ _ _ (by simp)).trans S1
        have S20 : (Y0.setCell ⟨U.heap.size, 1, none⟩ (.int .i64 v0)).drew.cell? ⟨W.heap.size, 2, none⟩ = some (.bool false) := (World.cell?_setCell_other _ _ _ _ (by simp)).trans S2
        have S30 : (Y0.setCell ⟨U.heap.size, 1, none⟩ (.int .i64 v0)).drew.cell? ⟨W.heap.size, 3, none⟩ = some (.bool true) := (World.cell?_setCell_other _ _ _ _ (by simp)).trans S3
        obtain ⟨p0, p1, p2, p3⟩ := hP0.cells
        have pf := hP0.frozen 1
        have pl := hP0.lt
        have sl := hBl3.lt
        have hszS : W.heap.size < Y0.heap.size := Nat.lt_trans (Nat.lt_of_le_of_ne (Nat.le_of_lt hlt2) hneS) hP0.lt
        clear hb3 hP0 hR3 hBl3 hgr0
        go_wp2
        go_region
        all_goals
          generalize (Y0.setCell ⟨U.heap.size, 1, none⟩ (.int .i64 v0)).drew = Y1 at *
          clear S1 S2 S3 p0 p1 p2 p3 pf pl sl hszS hsl0 hc0 hgl0
          have hc1 := hBl4.cell (i := 1) (by rw [HL.out]; omega)
          rw [HV1.out] at hc1
          obtain ⟨N, HN⟩ : ∃ N, Hid (nm v1 = N) := ⟨_, rfl⟩
          have hP2 : Gbx (Y1.setCell ⟨U.heap.size, 3, none⟩ (.int .u64 N)) U.heap.size 6 v0 0 N := hP1.set3 N
          have hgr1 : Y1.grownBy (Y1.setCell ⟨U.heap.size, 3, none⟩ (.int .u64 N)) (some U.heap.size) := grown_set _ _ _ _
          have hR5 := hR4.grown hgr1 (fun e => hneR (Option.some.inj e))
          have hb5 := below_grown hb4 hgr1 hBU
          obtain ⟨p0, p1, p2, p3⟩ := hP1.cells
          have pf := hP1.frozen 3
          have pl := hP1.lt
          have sl := hBl4.lt
          have hszS : W.heap.size < Y1.heap.size := Nat.lt_trans (Nat.lt_of_le_of_ne (Nat.le_of_lt hlt2) hneS) hP1.lt
          clear hb4 hP1 hR4 hBl4 hgr1
          go_upto_region 12 with (go_at_call 29; refine (fNorm _ _ (by omega) (by omega)).mono ?_; rintro e w' ⟨rfl, hw⟩; have hw := hw.symm; subst hw; rw [HN.out])
          generalize Y1.setCell ⟨U.heap.size, 3, none⟩ (.int .u64 N) = Y2 at *
          clear S10 S20 S30 p0 p1 p2 p3 pf pl sl hszS hc1
          have HGO : Hid ((⟨6, v0, 0, N⟩ : Gt) = gol 6 L) := by
            unfold Hid
            show _ = (⟨6, L.getD 0 0, 0, nm (L.getD 1 0)⟩ : Gt)
            rw [HV0.out, HV1.out, HN.out]
          obtain ⟨p0, p1, p2, p3⟩ := hP2.cells
          have pl := hP2.lt
          obtain ⟨z0, z1, z2, z3⟩ := (hR5.put 6 (v0) (0) (N)).cells
          obtain ⟨y0, y1, y2, y3⟩ := hR5.cells
          have fz := fun i => hR5.frozen i
          have rl := hR5.lt
          have HBE : Hid (Below w.heap.size w (put4 Y2 w.heap.size 6 (v0) (0) (N))) := put4_below hb5 (Nat.le_refl _)
          clear hR5 hP2 hb5
          unfold put4 at z0 z1 z2 z3 HBE
          go_wp2
          exact bodyPost_ret (v := .tuple #[gcell ⟨6, v0, 0, N⟩, .bool true]) (by simp [results, Tryd.results34, go_sem, z0, z1, z2, z3, gcell]) rfl (Rgt.y (k := 6) (by omega) (by omega) HX.out HEQ.out HGO.out HBE.out)
      · have HNE : Hid (n ≠ arn 6) := hne
        have hnb : ((n : Int) != 2) = true := by rw [bne_iff_ne]; omega
        clear hne
        obtain ⟨z0, z1, z2, z3⟩ := (hR2.put 0 0 0 0).cells
        obtain ⟨y0, y1, y2, y3⟩ := hR2.cells
        have fz := fun i => hR2.frozen i
        have HBE : Hid (Below w.heap.size w (put4 U w.heap.size 0 0 0 0)) := put4_below hb2 (Nat.le_refl _)
        have rl := hR2.lt
        clear hR2 hBl2 hb2
        unfold put4 at z0 z1 z2 z3 HBE
        go_wp2
        exact bodyPost_ret (v := .tuple #[gcell ⟨0, 0, 0, 0⟩, .bool false]) (by simp [results, Tryd.results34, go_sem, z0, z1, z2, z3, gcell]) rfl (Rgt.n (k := 6) (by omega) HX.out HNE.out HBE.out)
  · obtain ⟨s0, s1, s2, s3⟩ := hS0.at0
    have slt := hS0.lt
    have hb1' : Below W.heap.size W (W.alloc (.cells #[.string ⟨#[]⟩, .bool false, .bool false, .bool false] 72)) := (Below.refl _ _).alloc (Nat.le_refl _) _
    have hb1 := hb0.trans (hb1'.mono hb0.size)
    obtain ⟨t0, t1, t2, t3⟩ := shape_box W ⟨#[]⟩ false false false 72
    have hlt1 : W.heap.size < (W.alloc (.cells #[.string ⟨#[]⟩, .bool false, .bool false, .bool false] 72)).heap.size := by simp
    have hR1 := hR0.below hb1' hR0.lt
    have hBl1 := hBl0.below hb1' hBl0.lt
    go_upto_region 3 with fail
    generalize W.alloc (.cells #[.string ⟨#[]⟩, .bool false, .bool false, .bool false] 72) = V at *
    clear s0 s1 s2 s3 hb1' hb0 hS0 hBl0 hR0 slt
    have HX : Hid (∀ k, 1 ≤ k → k < 7 → shw k = x → n ≠ arn k) := fun j h1 h2 e => absurd e (hno j h1 h2)
    obtain ⟨U, hU⟩ : ∃ U, U = V := ⟨_, rfl⟩
    subst hU
    obtain ⟨z0, z1, z2, z3⟩ := (hR1.put 0 0 0 0).cells
    obtain ⟨y0, y1, y2, y3⟩ := hR1.cells
    have fz := fun i => hR1.frozen i
    have HBE : Hid (Below w.heap.size w (put4 U w.heap.size 0 0 0 0)) := put4_below hb1 (Nat.le_refl _)
    have rl := hR1.lt
    clear hR1 hBl1 hb1 hno
    unfold put4 at z0 z1 z2 z3 HBE
    go_wp2
    exact bodyPost_ret (v := .tuple #[gcell ⟨0, 0, 0, 0⟩, .bool false]) (by simp [results, Tryd.results34, go_sem, z0, z1, z2, z3, gcell]) rfl ⟨.inr ⟨HX.out, rfl⟩, HBE.out⟩
end Go.Proofs.YtoifklkdfgfbdahDoor

namespace Go.Proofs.YtoifklkdfgfbdahDoor
open Crm

structure NwI (l : List (Int × Int)) (n k : Nat) (S Z : List Int) : Prop where
  ls : S.length = n
  lz : Z.length = k + 1
  bs : ∀ x ∈ S, 0 ≤ x ∧ x ≤ 2147483646
  bz : ∀ x ∈ Z, 0 ≤ x ∧ x ≤ 2147483646
  s : ∀ j, j < k → nm (ev S (l.getD j (0, 0)).1) = nm (l.getD j (0, 0)).2
  z0 : ∀ j, j < k → nm (ev Z (l.getD j (0, 0)).1) = 0
  z1 : ∀ j, k ≤ j → j < n → nm (ev Z (l.getD j (0, 0)).1) ≠ 0

theorem nw_start (l : List (Int × Int)) (n : Nat) : NwI l n 0 (List.replicate n 0) [1] := by
  refine ⟨by simp, rfl, fun x hx => by rw [List.eq_of_mem_replicate hx]; omega, fun x hx => by rw [List.mem_singleton.1 hx]; omega, fun j hj => by omega, fun j hj => by omega, fun j _ _ => ?_⟩
  rw [ev, ev, Int.mul_zero]
  decide

theorem ats_apart {l : List (Int × Int)} {n i j : Nat} (h : okk l n) (hi : i < n) (hj : j < n) (hij : i ≠ j) : nm ((l.getD i (0, 0)).1 - (l.getD j (0, 0)).1) ≠ 0 := by
  have h1 := (h i hi).1
  have h2 := (h j hj).1
  have h3 : (l.getD i (0, 0)).1 ≠ (l.getD j (0, 0)).1 := by
    rcases Nat.lt_or_ge i j with hlt | hge
    · exact (h j hj).2 i hlt
    · exact fun e => (h i hi).2 j (by omega) e.symm
  unfold nm
  omega

theorem ev_pair (a b x : Int) : ev [a, b] x = a + x * b := by
  rw [ev, ev, ev, Int.mul_zero, Int.add_zero]

theorem nw_step {l : List (Int × Int)} {n k : Nat} {S Z : List Int} (h : NwI l n k S Z) (hk : k < n) (ho : okk l n) {x y t : Int} (hx : (l.getD k (0, 0)).1 = x) (hy : (l.getD k (0, 0)).2 = y)
    (ht : t = nm (nm (y - nm (ev S x)) * iv (nm (ev Z x)))) : NwI l n (k + 1) (addAt S 0 Z t (k + 1)) (cvl Z [nm (-x), 1]) := by
  have hE : nm (ev Z x) ≠ 0 := by rw [← hx]; exact h.z1 k (Nat.le_refl _) hk
  have hadd : ∀ u, nm (ev (addAt S 0 Z t (k + 1)) u) = nm (ev S u + t * ev Z u) := fun u => by rw [← h.lz]; exact addAt_ev S Z t u (by rw [h.lz, h.ls]; omega)
  have hmul : ∀ u, nm (ev (cvl Z [nm (-x), 1]) u) = nm (ev Z u * (u - x)) := fun u => by
    rw [cvl_ev]
    refine nm_mul_congr rfl ?_
    rw [ev_pair, Int.mul_one, nm_addl]
    congr 1; omega
  refine ⟨by rw [addAt_len, h.ls], by rw [cvl_len, h.lz]; simp, addAt_bd' h.bs _ _ _ _, cvl_bd _ _, ?_, ?_, ?_⟩
  · intro j hj
    rw [hadd]
    by_cases e : j = k
    · subst e
      rw [hx, hy]
      have h1 : nm (t * ev Z x) = nm (y - ev S x) := by
        rw [ht, nm_mull, Int.mul_assoc, iv_nm, ← nm_mulr, iv_mul hE, Int.mul_one, nm_nm, nm_subr]
      rw [nm_add_congr (c := ev S x) (d := y - ev S x) rfl h1]
      congr 1; omega
    · rw [nm_add_congr (c := ev S (l.getD j (0, 0)).1) (d := t * 0) rfl (nm_mul_congr rfl (h.z0 j (by omega))), Int.mul_zero, Int.add_zero]
      exact h.s j (by omega)
  · intro j hj
    rw [hmul]
    by_cases e : j = k
    · subst e
      rw [hx, Int.sub_self, Int.mul_zero]; rfl
    · rw [nm_mul_congr (c := 0) (h.z0 j (by omega)) rfl, Int.zero_mul]; rfl
  · intro j h1 h2 e
    rw [hmul] at e
    have h3 := nm_mul_zero e (h.z1 j (by omega) h2)
    rw [← hx] at h3
    exact ats_apart ho h2 hk (by omega) h3

/-- The places, one by one. -/
def ats (l : List (Int × Int)) : List Int := l.map Prod.fst
theorem ats_pair {l : List (Int × Int)} {n : Nat} (hl : l.length = n) (h : okk l n) : (ats l).Pairwise (fun a b => nm (a - b) ≠ 0) := by
  unfold ats
  rw [List.pairwise_map, List.pairwise_iff_getElem]
  intro i j hi hj hij
  have := ats_apart h (show i < n by omega) (show j < n by omega) (by omega)
  simpa [List.getElem?_eq_getElem hi, List.getElem?_eq_getElem hj] using this
theorem ats_mem {l : List (Int × Int)} {c : Int} (h : c ∈ ats l) : ∃ j, j < l.length ∧ (l.getD j (0, 0)).1 = c := by
  obtain ⟨p, hp, rfl⟩ := List.mem_map.1 h
  obtain ⟨j, hj, rfl⟩ := List.getElem_of_mem hp
  exact ⟨j, hj, by simp [List.getElem?_eq_getElem hj]⟩
theorem ats_len (l : List (Int × Int)) : (ats l).length = l.length := by simp [ats]
/-- Through the shares goes one polynomial of no more numbers than they are. -/
theorem one_through {l : List (Int × Int)} {n : Nat} {p q : List Int} (hl : l.length = n) (h : okk l n) (hp : p.length ≤ n) (hq : q.length ≤ n)
    (h1 : ∀ j, j < n → nm (ev p (l.getD j (0, 0)).1) = nm (l.getD j (0, 0)).2) (h2 : ∀ j, j < n → nm (ev q (l.getD j (0, 0)).1) = nm (l.getD j (0, 0)).2) : nrm p = nrm q := by
  refine same_poly (ats_pair hl h) (fun c hc => ?_) (by rw [ats_len]; omega) (by rw [ats_len]; omega)
  obtain ⟨j, hj, rfl⟩ := ats_mem hc
  rw [h1 j (by omega), h2 j (by omega)]
end Go.Proofs.YtoifklkdfgfbdahDoor
