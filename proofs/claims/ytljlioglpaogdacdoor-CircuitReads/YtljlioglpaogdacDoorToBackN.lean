/- croftref.CircuitText: plain facts. · Reading a circuit's text: plain facts. · A circuit that is being read: its box, its gates and outs. · Texts that are compared; slices.Index of texts; pieces of slices of texts. · What is read of a text: bounds; what Parse answers. · Package circuit: kindOf, count. · What is printed is read as it was: plain facts. · What is printed is read as it was: the text of a circuit. -/
import Derived.Test.YtljlioglpaogdacDoorItoaC
import Derived.Test.YtljlioglpaogdacDoorCircC
import Derived.Test.YtljlioglpaogdacDoorToTrimC
import Derived.Test.YtljlioglpaogdacDoorToNumbC
import Derived.Lib.ItoaLen
import Derived.Deep.AppendLies
import Derived.Deep.RegionLaw
import Derived.Test.YtljlioglpaogdacDoorToShamirM
import Derived.Test.YtljlioglpaogdacDoorToShpM
namespace Go.Proofs.YtljlioglpaogdacDoor
set_option linter.unusedVariables false
set_option maxRecDepth 100000
set_option maxHeartbeats 8000000
section
open Crm Go.RowKit
/-- The verbs. -/
def vbs : List ByteArray := [⟨#[]⟩, ⟨#[105, 110, 112, 117, 116]⟩, ⟨#[99, 111, 110, 115, 116]⟩, ⟨#[97, 100, 100]⟩, ⟨#[115, 117, 98]⟩, ⟨#[109, 117, 108]⟩, ⟨#[115, 99, 97, 108, 101]⟩]
def vb (k : Nat) : ByteArray := vbs.getD k mt
def Vb (w : World) : Prop := ∀ i, i < 7 → w.cell? ⟨0, i, none⟩ = some (.string (vb i))
theorem Vb.below {w w' : World} (h : Vb w) (hb : Below w.heap.size w w') : Vb w' := fun i hi => by
  rw [hb.cell (World.block_lt_of_cell? w _ (h i hi))]
  exact h i hi
theorem vb_size (k : Nat) (hk : k < 7) : (vb k).size ≤ 5 := by
  have : k = 0 ∨ k = 1 ∨ k = 2 ∨ k = 3 ∨ k = 4 ∨ k = 5 ∨ k = 6 := by omega
  rcases this with rfl | rfl | rfl | rfl | rfl | rfl | rfl <;> decide
/-- What stands behind the verb. -/
def arg (g : Gt) : ByteArray :=
  if g.k = 1 then ⟨#[32]⟩ ++ itb g.a else if g.k = 2 then ⟨#[32]⟩ ++ itb (nm g.n) else if g.k = 6 then ⟨#[32]⟩ ++ itb g.a ++ ⟨#[32]⟩ ++ itb (nm g.n) else ⟨#[32]⟩ ++ itb g.a ++ ⟨#[32]⟩ ++ itb g.b
end
section
open Crm
/-- The words of a line, and those behind the first. -/
def wds (t : ByteArray) : List ByteArray := pcs t 32 t.size
def ags (t : ByteArray) : List ByteArray := (wds t).drop 1
def agn (t : ByteArray) (i : Nat) : Int := dgn (tx (ags t) i) (tx (ags t) i).size
def outB : ByteArray := ⟨#[111, 117, 116]⟩
/-- How many numbers a gate's line has. -/
def arn (k : Nat) : Nat := [0, 1, 1, 2, 2, 2, 2].getD k 0
/-- A gate of kind k, by its line's numbers. -/
def gof (k : Nat) (t : ByteArray) : Gt :=
  if k = 1 then ⟨1, agn t 0, 0, 0⟩ else if k = 2 then ⟨2, 0, 0, agn t 0⟩ else if k = 6 then ⟨6, agn t 0, 0, agn t 1⟩ else ⟨k, agn t 0, agn t 1, 0⟩
/-- A line is a gate's. -/
def Lng (t : ByteArray) (g : Gt) : Prop := ∃ k, (1 ≤ k ∧ k < 7) ∧ tx (wds t) 0 = vb k ∧ (ags t).length = arn k ∧ okn (ags t) (arn k) ∧ g = gof k t
/-- A line is an out's. -/
def Lno (t : ByteArray) (x : Int) : Prop := tx (wds t) 0 = outB ∧ (ags t).length = 1 ∧ okn (ags t) 1 ∧ x = agn t 0
theorem vb_inj : ∀ i, i < 7 → ∀ j, j < 7 → vb i = vb j → i = j := by decide +kernel
theorem vb_out : ∀ i, i < 7 → vb i ≠ outB := by decide +kernel
theorem Lng.one {t : ByteArray} {g h : Gt} (a : Lng t g) (b : Lng t h) : g = h := by
  obtain ⟨k, hk, e1, _, _, rfl⟩ := a
  obtain ⟨j, hj, e2, _, _, rfl⟩ := b
  obtain rfl := vb_inj k hk.2 j hj.2 (e1.symm.trans e2)
  rfl
theorem Lng.no {t : ByteArray} {g : Gt} {x : Int} (a : Lng t g) (b : Lno t x) : False := by
  obtain ⟨k, hk, e1, _⟩ := a
  exact vb_out k hk.2 (e1.symm.trans b.1)
/-- The first i lines read as the gates G and the outs O. -/
def Rds (l : List ByteArray) : Nat → List Gt → List Int → Prop
  | 0, G, O => G = [] ∧ O = []
  | i + 1, G, O => ∃ G0 O0, Rds l i G0 O0 ∧ ((∃ g, Lng (tx l i) g ∧ O0 = [] ∧ G = G0 ++ [g] ∧ O = []) ∨ (∃ x, Lno (tx l i) x ∧ G = G0 ∧ O = O0 ++ [x]))
theorem Rds.one {l : List ByteArray} : ∀ {i : Nat} {G H : List Gt} {O Q : List Int}, Rds l i G O → Rds l i H Q → G = H ∧ O = Q
  | 0, _, _, _, _, h, k => by obtain ⟨rfl, rfl⟩ := h; obtain ⟨rfl, rfl⟩ := k; exact ⟨rfl, rfl⟩
  | i + 1, _, _, _, _, h, k => by
    obtain ⟨G0, O0, h0, h1⟩ := h
    obtain ⟨H0, Q0, k0, k1⟩ := k
    obtain ⟨rfl, rfl⟩ := h0.one k0
    rcases h1 with ⟨g, a, _, rfl, rfl⟩ | ⟨x, a, rfl, rfl⟩ <;> rcases k1 with ⟨g', b, _, rfl, rfl⟩ | ⟨x', b, rfl, rfl⟩
    · rw [a.one b]; exact ⟨rfl, rfl⟩
    · exact (a.no b).elim
    · exact (b.no a).elim
    · rw [a.2.2.2, b.2.2.2]; exact ⟨rfl, rfl⟩
theorem Rds.down {l : List ByteArray} : ∀ {i j : Nat} {G : List Gt} {O : List Int}, Rds l i G O → j ≤ i → ∃ G0 O0, Rds l j G0 O0
  | 0, j, G, O, h, hj => by obtain rfl : j = 0 := by omega
                            exact ⟨G, O, h⟩
  | i + 1, j, G, O, h, hj => by
    by_cases e : j = i + 1
    · subst e; exact ⟨G, O, h⟩
    · obtain ⟨G0, O0, h0, _⟩ := h
      exact h0.down (by omega)
/-- Line i can't follow the outs O. -/
def Nok (t : ByteArray) (O : List Int) : Prop := ¬ ((∃ g, Lng t g ∧ O = []) ∨ ∃ x, Lno t x)
theorem Nok.stop {l : List ByteArray} {i : Nat} {G H : List Gt} {O Q : List Int} (h : Rds l i G O) (k : Nok (tx l i) O) (r : Rds l (i + 1) H Q) : False := by
  obtain ⟨G0, O0, h0, h1⟩ := r
  obtain ⟨_, rfl⟩ := h.one h0
  rcases h1 with ⟨g, a, e, _⟩ | ⟨x, a, _⟩
  · exact k (.inl ⟨g, a, e⟩)
  · exact k (.inr ⟨x, a⟩)
/-- The lines of a text, the last one, with no byte 10 behind it, apart. -/
def lns (s : ByteArray) : List ByteArray := pcs s 10 s.size
def lnn (s : ByteArray) : Nat := (lns s).length - 1
theorem lns_len (s : ByteArray) : (lns s).length = lnn s + 1 := by
  have := pcs_len s 10 s.size
  unfold lnn lns
  omega
/-- What Parse tells: the circuit, the line, the error. -/
def Par (s : ByteArray) (G : List Gt) (O : List Int) (at_ : Nat) (r : Int) : Prop :=
  (2048 < s.size ∧ G = [] ∧ O = [] ∧ at_ = 0 ∧ r = 2) ∨
  (s.size ≤ 2048 ∧ ((∃ i G0 O0, i < lnn s ∧ Rds (lns s) i G0 O0 ∧ Nok (tx (lns s) i) O0 ∧ G = [] ∧ O = [] ∧ at_ = i + 1 ∧ r = 3) ∨
    (∃ G0 O0, Rds (lns s) (lnn s) G0 O0 ∧ ((tx (lns s) (lnn s) ≠ mt ∧ G = [] ∧ O = [] ∧ at_ = lnn s + 1 ∧ r = 3) ∨
      (tx (lns s) (lnn s) = mt ∧ at_ = 0 ∧ Cke G0 O0 G0.length O0.length r ∧ ((r ≠ 0 ∧ G = [] ∧ O = []) ∨ (r = 0 ∧ G = G0 ∧ O = O0)))))))
theorem Par.one {s : ByteArray} {G H : List Gt} {O Q : List Int} {m n : Nat} {r q : Int} (h : Par s G O m r) (k : Par s H Q n q) : G = H ∧ O = Q ∧ m = n ∧ r = q := by
  rcases h with ⟨h0, rfl, rfl, rfl, rfl⟩ | ⟨h0, h⟩ <;> rcases k with ⟨k0, rfl, rfl, rfl, rfl⟩ | ⟨k0, k⟩
  · exact ⟨rfl, rfl, rfl, rfl⟩
  · exfalso; omega
  · exfalso; omega
  · rcases h with ⟨i, G0, O0, hi, h1, h2, rfl, rfl, rfl, rfl⟩ | ⟨G0, O0, h1, h2⟩ <;> rcases k with ⟨j, H0, Q0, hj, k1, k2, rfl, rfl, rfl, rfl⟩ | ⟨H0, Q0, k1, k2⟩
    · obtain rfl : i = j := by
        rcases Nat.lt_trichotomy i j with e | e | e
        · obtain ⟨_, _, x⟩ := k1.down (show i + 1 ≤ j from e); exact (h2.stop h1 x).elim
        · exact e
        · obtain ⟨_, _, x⟩ := h1.down (show j + 1 ≤ i from e); exact (k2.stop k1 x).elim
      exact ⟨rfl, rfl, rfl, rfl⟩
    · obtain ⟨_, _, x⟩ := k1.down (show i + 1 ≤ lnn s from hi); exact (h2.stop h1 x).elim
    · obtain ⟨_, _, x⟩ := h1.down (show j + 1 ≤ lnn s from hj); exact (k2.stop k1 x).elim
    · obtain ⟨rfl, rfl⟩ := h1.one k1
      rcases h2 with ⟨a, rfl, rfl, rfl, rfl⟩ | ⟨a, rfl, c, d⟩ <;> rcases k2 with ⟨a', rfl, rfl, rfl, rfl⟩ | ⟨a', rfl, c', d'⟩
      · exact ⟨rfl, rfl, rfl, rfl⟩
      · exact absurd a' a
      · exact absurd a a'
      · obtain rfl := c.one c'
        rcases d with ⟨d1, rfl, rfl⟩ | ⟨d1, rfl, rfl⟩ <;> rcases d' with ⟨e1, rfl, rfl⟩ | ⟨e1, rfl, rfl⟩
        · exact ⟨rfl, rfl, rfl, rfl⟩
        · exact absurd e1 d1
        · exact absurd d1 e1
        · exact ⟨rfl, rfl, rfl, rfl⟩
theorem Par.bd {s : ByteArray} {G : List Gt} {O : List Int} {n : Nat} {r : Int} (h : Par s G O n r) : 0 ≤ r ∧ r ≤ 3 := by
  rcases h with ⟨_, _, _, _, rfl⟩ | ⟨_, ⟨_, _, _, _, _, _, _, _, _, rfl⟩ | ⟨_, _, _, ⟨_, _, _, _, rfl⟩ | ⟨_, _, c, _⟩⟩⟩
  · omega
  · omega
  · omega
  · have := c.bd; omega
end
section
open Crm Go.RowKit
/-- append of one element of z cells to a slice that the call itself gathers, a step of a region that draws; where it lies. -/
theorem step_appZ {P : Program} {T E : TypeId} {z0 : Value} {z by_ : Nat} (hT : P.underlying T = some (.slice E)) (info : (P.info? E).map (fun i => (i.zero, i.size, i.bytes)) = some (some z0, z, by_)) (hz : z0.cells.size = z) (hzp : 0 < z) (hby : by_ ≤ 100)
    (w : World) {w1 : World} {ops : Array Oper} {o : Oper} {a : Act} {K : Act → World → Prop} {Q : Exit → Act → World → Prop} {F : Prop} (hgd : o.guard = none) (s x : Operand)
    (ho : o.op = .call { callee := .builtin .append, args := #[s, x], argTypes := #[T, T] })
    (base : Nat) (v : Value) (n : Nat) (xs : List Value) (hs : a.eval s = v) (hown : w.ownsRow base E z v n xs) (ys : List Value) (hyl : ys.length = z) (hy1 : ∀ u ∈ ys, u.oneCell' = true) (hx : a.eval x = .slice (some ⟨w.heap.size, 0, none⟩) 1 1)
    (hw1 : w1 = w.alloc (.cells ys.toArray E)) (hn : n ≤ 1000000) (hbase : base ≤ w.heap.size)
    (h : ∀ g cap w', w'.ownsRow base E z (.slice (some ⟨g, 0, none⟩) (n + 1) cap) (n + 1) (xs ++ ys) → w.grownBy w' v.ownBlock → base ≤ g → K (a.put o.dst (.slice (some ⟨g, 0, none⟩) (n + 1) cap)) w') :
    if Region.wanted o (yielded ops a.tmps) = true then Oper.wp P o a w1 K Q else F := by
  subst hw1
  obtain ⟨i0, hi, hz0, hz1, hz2⟩ := info_parts info
  refine step_append_lies _ hgd s x T ho base E i0 z0 z by_ hT hi hz0 hz1 hz2 hz hzp v n _ hs (hown.alloc _) ⟨w.heap.size, 0, none⟩ 1 1 ys hx (by rw [hyl, Nat.one_mul]) ?_ hy1 (by decide) (by unfold maxLen; omega) ?_ (by simp; omega) _ rfl ?_
  · intro j u hj
    exact World.news_of_block (heap_alloc_new w (.cells ys.toArray E)) j u (by simpa using hj)
  · have : (n + 1) * by_ ≤ 1000001 * 100 := Nat.mul_le_mul (by omega) hby
    omega
  · intro g cap w' hown' hgrow _ _
    refine h g cap w' hown' ⟨hgrow.os, hgrow.tape, hgrow.output, ?_, fun k hk hne => ?_⟩ (hown'.lt g rfl).1
    · have := hgrow.size; simp at this; omega
    · rw [hgrow.block k (by simp; omega) hne]; exact Below.heap_alloc _ _ _ hk
theorem infoGt : (Tryd.prog.info? 58).map (fun i => (i.zero, i.size, i.bytes)) = some (some (.agg #[.int .i64 0, .int .i64 0, .int .i64 0, .int .u64 0]), 4, 32) := by kernel_rfl
theorem infoIt : (Tryd.prog.info? 3).map (fun i => (i.zero, i.size, i.bytes)) = some (some (.int .i64 0), 1, 8) := by kernel_rfl
theorem gcs_snoc (G : List Gt) (g : Gt) : gcs G ++ [.int .i64 g.k, .int .i64 g.a, .int .i64 g.b, .int .u64 g.n] = gcs (G ++ [g]) := by simp [gcs]

structure Crd (w : World) (B gc : Nat) (ag : Option Addr) (n cg : Nat) (ao : Option Addr) (m co : Nat) (G : List Gt) (O : List Int) : Prop where
  box : CBox w gc ag n cg ao m co
  ln : G.length = n
  lo : O.length = m
  own : w.ownsRow B 58 4 (.slice ag n cg) n (gcs G)
  ins : w.ownsRow B 3 1 (.slice ao m co) m (zns O)
theorem own_belowZ {w w' : World} {base n z : Nat} {E : TypeId} {v : Value} {xs : List Value} (h : w.ownsRow base E z v n xs) (hb : Below w.heap.size w w') : w'.ownsRow base E z v n xs :=
  h.kept (grown_below hb none) (by cases h' : v.ownBlock <;> simp)
theorem Crd.below {w w' : World} {B gc : Nat} {ag : Option Addr} {n cg : Nat} {ao : Option Addr} {m co : Nat} {G : List Gt} {O : List Int} (h : Crd w B gc ag n cg ao m co G O) (hb : Below w.heap.size w w') : Crd w' B gc ag n cg ao m co G O :=
  ⟨h.box.below hb h.box.lt, h.ln, h.lo, own_belowZ h.own hb, own_belowZ h.ins hb⟩
theorem box_apart {w : World} {gc : Nat} {ag : Option Addr} {n cg : Nat} {ao : Option Addr} {m co : Nat} {B k z : Nat} {E : TypeId} {v : Value} {xs : List Value} (h : CBox w gc ag n cg ao m co) (ho : w.ownsRow B E z v k xs) (hE : E ≠ 25) : some gc ≠ v.ownBlock := by
  rcases ho.2 with ⟨rfl, _⟩ | ⟨g, cap, cur, rfl, _, hg, _⟩
  · simp [Value.ownBlock]
  · intro e
    have e' : gc = g := by simpa [Value.ownBlock] using e
    subst e'
    unfold CBox at h
    rw [hg] at h
    simp only [Option.some.injEq, Obj.cells.injEq] at h
    exact hE h.2.1
/-- When another row grows. -/
theorem Crd.grown {w w' : World} {B gc : Nat} {ag : Option Addr} {n cg : Nat} {ao : Option Addr} {m co : Nat} {G : List Gt} {O : List Int} {r : Option Nat} (h : Crd w B gc ag n cg ao m co G O) (hg : w.grownBy w' r) (h1 : some gc ≠ r) (h2 : (Value.slice ag n cg).ownBlock = none ∨ (Value.slice ag n cg).ownBlock ≠ r) (h3 : (Value.slice ao m co).ownBlock = none ∨ (Value.slice ao m co).ownBlock ≠ r) : Crd w' B gc ag n cg ao m co G O :=
  ⟨h.box.grown hg h1, h.ln, h.lo, h.own.kept hg h2, h.ins.kept hg h3⟩
theorem CBox.set0 {w : World} {gc : Nat} {ag : Option Addr} {n cg : Nat} {ao : Option Addr} {m co : Nat} (h : CBox w gc ag n cg ao m co) (a : Option Addr) (n' c : Nat) : CBox (w.setCell ⟨gc, 0, none⟩ (.slice a n' c)) gc a n' c ao m co := by
  have := heap_setCell_same w gc 0 _ _ (.slice a n' c) h
  unfold CBox
  rw [this]
  rfl
theorem CBox.set1 {w : World} {gc : Nat} {ag : Option Addr} {n cg : Nat} {ao : Option Addr} {m co : Nat} (h : CBox w gc ag n cg ao m co) (a : Option Addr) (n' c : Nat) : CBox (w.setCell ⟨gc, 1, none⟩ (.slice a n' c)) gc ag n cg a n' c := by
  have := heap_setCell_same w gc 1 _ _ (.slice a n' c) h
  unfold CBox
  rw [this]
  rfl
theorem CBox.frozen {w : World} {gc : Nat} {ag : Option Addr} {n cg : Nat} {ao : Option Addr} {m co : Nat} (h : CBox w gc ag n cg ao m co) (i : Nat) : w.frozen? ⟨gc, i, none⟩ = false := frozen_of_row w gc i _ _ h
theorem eGC : (58 : TypeId) ≠ 25 := by decide
theorem eIC : (3 : TypeId) ≠ 25 := by decide
theorem eGI : (58 : TypeId) ≠ 3 := by decide
theorem eSG : (9 : TypeId) ≠ 58 := by decide
theorem eSI : (9 : TypeId) ≠ 3 := by decide
theorem eSC : (9 : TypeId) ≠ 25 := by decide
/-- One gate more: the row grows, and is laid into the box. -/
theorem Crd.gate {w w7 : World} {B gc g7 c7 : Nat} {ag : Option Addr} {n cg : Nat} {ao : Option Addr} {m co : Nat} {G : List Gt} {O : List Int} {x : Gt} (h : Crd w B gc ag n cg ao m co G O)
    (ho : w7.ownsRow B 58 4 (.slice (some ⟨g7, 0, none⟩) (n + 1) c7) (n + 1) (gcs (G ++ [x]))) (hg : w.grownBy w7 (Value.slice ag n cg).ownBlock) :
    Crd (w7.setCell ⟨gc, 0, none⟩ (.slice (some ⟨g7, 0, none⟩) (n + 1) c7)) B gc (some ⟨g7, 0, none⟩) (n + 1) c7 ao m co (G ++ [x]) O := by
  have hb7 := h.box.grown hg (box_apart h.box h.own eGC)
  have hi7 := h.ins.kept hg (own_apart h.own h.ins eGI)
  have hg2 : w7.grownBy (w7.setCell ⟨gc, 0, none⟩ (.slice (some ⟨g7, 0, none⟩) (n + 1) c7)) (some gc) := grown_set _ _ _ _
  have k1 := box_apart hb7 ho eGC
  have k2 := box_apart hb7 hi7 eIC
  exact ⟨hb7.set0 _ _ _, by simp [h.ln], h.lo, ho.kept hg2 (.inr (fun e => k1 e.symm)), hi7.kept hg2 (.inr (fun e => k2 e.symm))⟩
/-- One out more. -/
theorem Crd.out {w w7 : World} {B gc g7 c7 : Nat} {ag : Option Addr} {n cg : Nat} {ao : Option Addr} {m co : Nat} {G : List Gt} {O : List Int} {x : Int} (h : Crd w B gc ag n cg ao m co G O)
    (ho : w7.ownsRow B 3 1 (.slice (some ⟨g7, 0, none⟩) (m + 1) c7) (m + 1) (zns (O ++ [x]))) (hg : w.grownBy w7 (Value.slice ao m co).ownBlock) :
    Crd (w7.setCell ⟨gc, 1, none⟩ (.slice (some ⟨g7, 0, none⟩) (m + 1) c7)) B gc ag n cg (some ⟨g7, 0, none⟩) (m + 1) c7 G (O ++ [x]) := by
  have hb7 := h.box.grown hg (box_apart h.box h.ins eIC)
  have hi7 := h.own.kept hg (own_apart h.ins h.own (fun e => eGI e.symm))
  have hg2 : w7.grownBy (w7.setCell ⟨gc, 1, none⟩ (.slice (some ⟨g7, 0, none⟩) (m + 1) c7)) (some gc) := grown_set _ _ _ _
  have k1 := box_apart hb7 ho eIC
  have k2 := box_apart hb7 hi7 eGC
  exact ⟨hb7.set1 _ _ _, h.ln, by simp [h.lo], hi7.kept hg2 (.inr (fun e => k2 e.symm)), ho.kept hg2 (.inr (fun e => k1 e.symm))⟩
/-- What is gathered beside it stays. -/
theorem own_beside {w w7 : World} {B gc k z r z2 : Nat} {E E2 : TypeId} {v v2 : Value} {xs ys : List Value} {u : Value} {ag : Option Addr} {n cg : Nat} {ao : Option Addr} {m co i : Nat} (h : w.ownsRow B E z v k xs) (h2 : w.ownsRow B E2 z2 v2 r ys) (hE : E2 ≠ E) (hC : E ≠ 25) (hg : w.grownBy w7 v2.ownBlock) (hb : CBox w7 gc ag n cg ao m co) :
    (w7.setCell ⟨gc, i, none⟩ u).ownsRow B E z v k xs := by
  have h7 := h.kept hg (own_apart h2 h hE)
  have k1 := box_apart hb h7 hC
  exact h7.kept (grown_set _ _ _ _) (.inr (fun e => k1 e.symm))
theorem tl_yes {x y : ByteArray} (h : x = y) : (x.toList == y.toList) = true := by rw [h]; simp
theorem tl_no {x y : ByteArray} (h : x ≠ y) : (x.toList == y.toList) = false := by
  rw [beq_eq_false_iff_ne]
  intro e
  rw [ByteArray.toList_eq, ByteArray.toList_eq] at e
  exact h (ByteArray.ext (Array.ext' e))
/-- Where a text stands among others. -/
def Ixt (L : List ByteArray) (n : Nat) (x : ByteArray) (r : Int) : Prop := (∃ k : Nat, k < n ∧ tx L k = x ∧ r = (k : Int)) ∨ ((∀ j, j < n → tx L j ≠ x) ∧ r = -1)
theorem Ixt.bd {L : List ByteArray} {n : Nat} {x : ByteArray} {r : Int} (h : Ixt L n x r) : -1 ≤ r ∧ r < (n : Int) := by
  rcases h with ⟨k, hk, _, rfl⟩ | ⟨_, rfl⟩ <;> omega

theorem sIndexT (a : Option Addr) (n c : Nat) (L : List ByteArray) (x : ByteArray) (w : World) (h : RdT w a n c L) :
    Calls Tryd.prog 21 #[.slice a n c, .string x] w fun e w' => ∃ r, e = .returned (.int .i64 r) ∧ Ixt L n x r ∧ w' = w := by
  have hcap := h.cap
  have hmax := h.max
  unfold maxLen at hmax
  go_enter Tryd.func21, Tryd.ntmps21
  go_wp2
  go_loop [8] (fun q => ∃ i : Nat, i ≤ n ∧ q = .int .i64 i ∧ Hid (∀ j, j < i → tx L j ≠ x)) (fun q => n - (intOf q).toNat)
  case atStart => exact ⟨0, Nat.zero_le _, rfl, fun j hj => by omega⟩
  case round =>
    obtain ⟨i, hi, rfl, HN⟩ := hrel
    by_cases hlt : i < n
    · obtain ⟨b, o, y, rfl, hb, HY, hys, hc⟩ := h.one hlt
      by_cases e : x = y
      · have HE : Hid (Ixt L n x i) := .inl ⟨i, hlt, by rw [HY.out, e], rfl⟩
        have he := tl_yes e
        clear e HN
        go_wp2
        go_ret
        exact ⟨_, rfl, HE.out, rfl⟩
      · have he := tl_no e
        have HN2 : Hid (∀ j, j < i + 1 → tx L j ≠ x) := fun j hj => by
          by_cases ej : j = i
          · rw [ej, HY.out]; exact fun e' => e e'.symm
          · exact HN.out j (by omega)
        clear e HN
        go_wp2
        go_round
        case rel => exact ⟨i + 1, by omega, by go_num, HN2⟩
        case measure => simp [intOf]; omega
    · have hin : i = n := by omega
      subst hin
      have HE : Hid (Ixt L i x (-1)) := .inr ⟨HN.out, rfl⟩
      clear HN
      go_wp2
      go_ret
      exact ⟨_, rfl, HE.out, rfl⟩
/-- The verbs as texts that are read. -/
theorem Vb.rd {w : World} (h : Vb w) : RdT w (some ⟨0, 0, none⟩) 7 7 vbs := by
  refine ⟨rfl, Nat.le_refl _, by decide, by simp, fun i hi => ?_, fun x hx i hi => ?_⟩
  · have := vb_size i hi
    unfold vb at this
    unfold tx
    omega
  · obtain rfl := Option.some.inj hx
    rw [Addr.add_lit, Nat.zero_add]
    exact h i hi
theorem RdT.take {w : World} {a : Option Addr} {n c : Nat} {L : List ByteArray} (h : RdT w a n c L) {k : Nat} (hk : k ≤ n) : RdT w a k c (L.take k) := by
  have hl := h.len
  have ht : ∀ i, i < k → tx (L.take k) i = tx L i := fun i hi => by simp [tx, List.getElem?_take_of_lt hi]
  refine ⟨by simp; omega, by have := h.cap; omega, h.max, h.nil, fun i hi => by rw [ht i hi]; exact h.bd i (by omega), fun x hx i hi => by rw [ht i hi]; exact h.cell x hx i (by omega)⟩
theorem RdT.sub1 {w : World} {g n c : Nat} {L : List ByteArray} (h : RdT w (some ⟨g, 0, none⟩) (n + 1) c L) : RdT w (subA (some ⟨g, 0, none⟩) c 1) n (c - 1) (L.drop 1) := by
  have hc := h.cap
  have hl := h.len
  obtain ⟨c', rfl⟩ : ∃ c', c = c' + 1 := ⟨c - 1, by omega⟩
  unfold subA
  by_cases e : c' + 1 = 1
  · rw [if_pos e]
    obtain rfl : c' = 0 := by omega
    obtain rfl : n = 0 := by omega
    exact ⟨by simp; omega, by omega, by unfold maxLen; omega, by simp, fun i hi => by omega, fun x hx i hi => by omega⟩
  · rw [if_neg e]
    exact h.tail
theorem arn_of {k : Nat} (h1 : 1 ≤ k) (h7 : k < 7) : (k = 1 ∧ arn k = 1) ∨ (k = 2 ∧ arn k = 1) ∨ (k = 6 ∧ arn k = 2) ∨ ((k = 3 ∨ k = 4 ∨ k = 5) ∧ arn k = 2) := by
  have : k = 1 ∨ k = 2 ∨ k = 3 ∨ k = 4 ∨ k = 5 ∨ k = 6 := by omega
  rcases this with rfl | rfl | rfl | rfl | rfl | rfl <;> simp [arn]
theorem ag_bd {t : ByteArray} {n i : Nat} (h : okn (ags t) n) (hi : i < n) : 0 ≤ agn t i ∧ agn t i ≤ 9999999999 := okd_bd (h i hi)
def gbd (g : Gt) : Prop := (1 ≤ g.k ∧ g.k ≤ 6) ∧ (0 ≤ g.a ∧ g.a ≤ 9999999999) ∧ (0 ≤ g.b ∧ g.b ≤ 9999999999) ∧ 0 ≤ g.n ∧ g.n ≤ 9999999999
theorem gof_bd {k : Nat} {t : ByteArray} (h1 : 1 ≤ k) (h7 : k < 7) (ho : okn (ags t) (arn k)) : gbd (gof k t) := by
  rcases arn_of h1 h7 with ⟨rfl, e⟩ | ⟨rfl, e⟩ | ⟨rfl, e⟩ | ⟨h3, e⟩
  · rw [e] at ho
    have := ag_bd ho (i := 0) (by omega)
    unfold gof gbd
    simp
    omega
  · rw [e] at ho
    have := ag_bd ho (i := 0) (by omega)
    unfold gof gbd
    simp
    omega
  · rw [e] at ho
    have := ag_bd ho (i := 0) (by omega)
    have := ag_bd ho (i := 1) (by omega)
    unfold gof gbd
    simp
    omega
  · rw [e] at ho
    have := ag_bd ho (i := 0) (by omega)
    have := ag_bd ho (i := 1) (by omega)
    unfold gof gbd
    rw [if_neg (by omega), if_neg (by omega), if_neg (by omega)]
    simp only
    omega
theorem Rds.bd {l : List ByteArray} : ∀ {i : Nat} {G : List Gt} {O : List Int}, Rds l i G O → (∀ g ∈ G, gbd g) ∧ (∀ x ∈ O, 0 ≤ x ∧ x ≤ 9999999999)
  | 0, _, _, h => by obtain ⟨rfl, rfl⟩ := h; exact ⟨fun g hg => by simp at hg, fun x hx => by simp at hx⟩
  | i + 1, _, _, h => by
    obtain ⟨G0, O0, h0, h1⟩ := h
    obtain ⟨b1, b2⟩ := h0.bd
    rcases h1 with ⟨g, ⟨k, hk, _, _, ho, rfl⟩, _, rfl, rfl⟩ | ⟨x, ⟨_, _, ho, rfl⟩, rfl, rfl⟩
    · refine ⟨fun y hy => ?_, fun x hx => by simp at hx⟩
      rcases List.mem_append.1 hy with hy | hy
      · exact b1 y hy
      · obtain rfl := List.mem_singleton.1 hy
        exact gof_bd hk.1 hk.2 ho
    · refine ⟨b1, fun y hy => ?_⟩
      rcases List.mem_append.1 hy with hy | hy
      · exact b2 y hy
      · obtain rfl := List.mem_singleton.1 hy
        exact ag_bd ho (by omega)
theorem Par.gbd {s : ByteArray} {G : List Gt} {O : List Int} {a : Nat} {r : Int} (h : Par s G O a r) : (∀ g ∈ G, gbd g) ∧ (∀ x ∈ O, 0 ≤ x ∧ x ≤ 9999999999) := by
  have nil : (∀ g ∈ ([] : List Gt), Go.Proofs.YtljlioglpaogdacDoor.gbd g) ∧ (∀ x ∈ ([] : List Int), 0 ≤ x ∧ x ≤ 9999999999) := ⟨fun g hg => by simp at hg, fun x hx => by simp at hx⟩
  rcases h with ⟨_, rfl, rfl, _, _⟩ | ⟨_, ⟨_, _, _, _, _, _, rfl, rfl, _, _⟩ | ⟨G0, O0, h1, ⟨_, rfl, rfl, _, _⟩ | ⟨_, _, _, ⟨_, rfl, rfl⟩ | ⟨_, rfl, rfl⟩⟩⟩⟩
  · exact nil
  · exact nil
  · exact nil
  · exact nil
  · exact h1.bd
theorem gt_mem {G : List Gt} {i : Nat} (h : i < G.length) : gt G i ∈ G := by
  unfold gt
  rw [List.getD_eq_getElem?_getD, List.getElem?_eq_getElem h]
  exact List.getElem_mem _
/-- Gates that a call has made its own, none among them too. -/
theorem RdG.ownA {w : World} {base n c : Nat} {a : Option Addr} {E : TypeId} {G : List Gt} (h : w.ownsRow base E 4 (.slice a n c) n (gcs G)) (hl : G.length = n) (hb : ∀ g ∈ G, gbd g) : RdG w a n c G := by
  have hb' : ∀ i, i < n → (-9223372036854775808 ≤ (gt G i).k ∧ (gt G i).k ≤ 9223372036854775807) ∧ (-9223372036854775808 ≤ (gt G i).a ∧ (gt G i).a ≤ 9223372036854775807) ∧ (-9223372036854775808 ≤ (gt G i).b ∧ (gt G i).b ≤ 9223372036854775807) ∧ 0 ≤ (gt G i).n ∧ (gt G i).n ≤ 18446744073709551615 := fun i hi => by
    have := hb _ (gt_mem (show i < G.length by omega))
    unfold gbd at this
    omega
  rcases h.2 with ⟨e, rfl⟩ | ⟨g, cap, cur, e, _⟩
  · simp only [Value.slice.injEq] at e
    obtain ⟨rfl, _, rfl⟩ := e
    exact ⟨hl, Nat.le_refl _, Nat.zero_le _, fun _ => rfl, hb', fun x hx => by simp at hx⟩
  · simp only [Value.slice.injEq] at e
    obtain ⟨rfl, _, rfl⟩ := e
    exact RdG.own h hl hb'
theorem RdI.ownA {w : World} {base n c : Nat} {a : Option Addr} {E : TypeId} {L : List Int} (h : w.ownsRow base E 1 (.slice a n c) n (zns L)) (hb : ∀ x ∈ L, 0 ≤ x ∧ x ≤ 9999999999) : RdI w a n c L := by
  obtain ⟨a', c', e, hr⟩ := RdI.own h (fun x hx => by have := hb x hx; omega)
  simp only [Value.slice.injEq] at e
  obtain ⟨rfl, _, rfl⟩ := e
  exact hr
/-- What Parse answers. -/
def Prd (s : ByteArray) (w : World) (e : Ending) (w' : World) : Prop :=
  ∃ (ag : Option Addr) (cg : Nat) (ao : Option Addr) (co at_ : Nat) (r : Int) (G : List Gt) (O : List Int), e = .returned (.tuple #[.agg #[.slice ag G.length cg, .slice ao O.length co], .int .i64 (at_ : Int), .int .i64 r]) ∧ Par s G O at_ r ∧
    w'.ownsRow w.heap.size 58 4 (.slice ag G.length cg) G.length (gcs G) ∧ w'.ownsRow w.heap.size 3 1 (.slice ao O.length co) O.length (zns O) ∧ Below w.heap.size w w'
theorem Prd.err {s : ByteArray} {w w' : World} {a r : Int} {n : Nat} (h : Par s [] [] n r) (ha : a = (n : Int)) (hb : Below w.heap.size w w') : Prd s w (.returned (.tuple #[.agg #[.slice none 0 0, .slice none 0 0], .int .i64 a, .int .i64 r])) w' := by
  subst ha
  exact ⟨none, 0, none, 0, n, r, [], [], rfl, h, World.ownsRow_nil _ _ _ _, World.ownsRow_nil _ _ _ _, hb⟩
theorem two_put {w : World} {g : Nat} {u v x y : Value} (h0 : w.cell? ⟨g, 0, none⟩ = some u) (h1 : w.cell? ⟨g, 1, none⟩ = some v) :
    ((w.setCell ⟨g, 0, none⟩ x).setCell ⟨g, 1, none⟩ y).cell? ⟨g, 0, none⟩ = some x ∧ ((w.setCell ⟨g, 0, none⟩ x).setCell ⟨g, 1, none⟩ y).cell? ⟨g, 1, none⟩ = some y := by
  refine ⟨?_, ?_⟩
  · rw [World.cell?_setCell_other _ _ _ _ (by simp)]
    exact World.cell?_setCell_same w _ x h0
  · exact World.cell?_setCell_same _ _ y (show (w.setCell ⟨g, 0, none⟩ x).cell? ⟨g, 1, none⟩ = some v by rw [World.cell?_setCell_other _ _ _ _ (by simp)]; exact h1)
/-- Which verb. -/
theorem ixt_some (x : ByteArray) : ∃ r, Ixt vbs 7 x r := by
  by_cases h : ∃ k, k < 7 ∧ tx vbs k = x
  · obtain ⟨k, h1, h2⟩ := h; exact ⟨k, .inl ⟨k, h1, h2, rfl⟩⟩
  · exact ⟨-1, .inr ⟨fun j hj e => h ⟨j, hj, e⟩, rfl⟩⟩
theorem ixt_one {x : ByteArray} {r q : Int} (h : Ixt vbs 7 x r) (k : Ixt vbs 7 x q) : r = q := by
  rcases h with ⟨i, hi, e1, rfl⟩ | ⟨h1, rfl⟩ <;> rcases k with ⟨j, hj, e2, rfl⟩ | ⟨k1, rfl⟩
  · rw [vb_inj i hi j hj (e1.trans e2.symm)]
  · exact absurd e1 (k1 i hi)
  · exact absurd e2 (h1 j hj)
  · rfl
theorem sIndexV (x : ByteArray) (r : Int) (w : World) (h : Ixt vbs 7 x r) (hV : Vb w) : Calls Tryd.prog 21 #[.slice (some ⟨0, 0, none⟩) 7 7, .string x] w fun e w' => e = .returned (.int .i64 r) ∧ w' = w := by
  refine (sIndexT _ _ _ _ x w hV.rd).mono ?_
  rintro e w' ⟨q, rfl, hq, rfl⟩
  rw [ixt_one h hq]
  exact ⟨rfl, rfl⟩
theorem Vb.drewN {w : World} (h : Vb w) (q : Nat) : Vb (w.drewN q) := h
/-- A line that is neither. -/
theorem nok_num {t : ByteArray} {O : List Int} {k : Nat} (hl : (ags t).length = k) (h : ¬ okn (ags t) k) : Nok t O := by
  rintro (⟨g, ⟨j, _, _, e, ho, _⟩, _⟩ | ⟨x, _, e, ho, _⟩)
  · rw [← hl, e] at h; exact h ho
  · rw [← hl, e] at h; exact h ho
theorem nok_out {t : ByteArray} {O : List Int} (ho : tx (wds t) 0 = outB) (hl : (ags t).length ≠ 1) : Nok t O := by
  rintro (⟨g, ⟨j, hj, e, _⟩, _⟩ | ⟨x, _, e, _⟩)
  · exact vb_out j hj.2 (e.symm.trans ho)
  · exact hl e
theorem nok_kind {t : ByteArray} {O : List Int} {r : Int} (ho : tx (wds t) 0 ≠ outB) (h : Ixt vbs 7 (tx (wds t) 0) r) (hr : r < 1) : Nok t O := by
  rintro (⟨g, ⟨j, hj, e, _⟩, _⟩ | ⟨x, e, _⟩)
  · rcases h with ⟨i, hi, e1, rfl⟩ | ⟨h1, _⟩
    · have := vb_inj i hi j hj.2 (e1.trans e); omega
    · exact h1 j hj.2 e.symm
  · exact ho e
theorem nok_outs {t : ByteArray} {O : List Int} (ho : tx (wds t) 0 ≠ outB) (h : O ≠ []) : Nok t O := by
  rintro (⟨g, _, e⟩ | ⟨x, e, _⟩)
  · exact h e
  · exact ho e
theorem nok_many {t : ByteArray} {O : List Int} {k : Nat} (ho : tx (wds t) 0 ≠ outB) (hk : k < 7) (h : tx (wds t) 0 = vb k) (hl : (ags t).length ≠ arn k) : Nok t O := by
  rintro (⟨g, ⟨j, hj, e, e2, _⟩, _⟩ | ⟨x, e, _⟩)
  · obtain rfl := vb_inj k hk j hj.2 (h.symm.trans e)
    exact hl e2
  · exact ho e
/-- Which kind has the word: k, or none. -/
def Knd (x : ByteArray) (k : Nat) : Prop := (1 ≤ k ∧ k < 7 ∧ shw k = x) ∨ (k = 0 ∧ ∀ j, 1 ≤ j → j < 7 → shw j ≠ x)
/-- How many hold. -/
def bn (b : Bool) : Int := if b then 1 else 0

theorem cKind (x : ByteArray) (w : World) (hS : Shp w) :
    Calls Tryd.prog 62 #[.string x] w fun e w' => ∃ k : Nat, e = .returned (.int .i64 k) ∧ Knd x k ∧ w' = w := by
  have slt := hS.lt
  go_enter Tryd.func62, Tryd.ntmps62
  go_wp2
  go_loopw [3] (fun v wr => ∃ k : Nat, (1 ≤ k ∧ k ≤ 7) ∧ v = .int .i64 k ∧ Hid (∀ j, 1 ≤ j → j < k → shw j ≠ x) ∧ wr = w) (fun v _ => 7 - (intOf v).toNat)
  case atStart => exact ⟨1, ⟨by omega, by omega⟩, rfl, fun j h1 h2 => by omega, rfl⟩
  case round =>
    obtain ⟨k, hk, rfl, HK, rfl⟩ := hrel
    have hkk : k = 1 ∨ k = 2 ∨ k = 3 ∨ k = 4 ∨ k = 5 ∨ k = 6 ∨ k = 7 := by omega
    rcases hkk with rfl | rfl | rfl | rfl | rfl | rfl | rfl
    · have s0 : wr.cell? ⟨1, 4, none⟩ = some (.string (shw 1)) := hS.at1.1
      obtain ⟨v, HV⟩ : ∃ v, Hid (shw 1 = v) := ⟨_, rfl⟩
      rw [HV.out] at s0
      by_cases he : v = x
      · have HN : Hid (Knd x 1) := .inl ⟨by omega, by omega, by rw [HV.out]; exact he⟩
        have hy := tl_yes he
        clear he
        go_wp2
        go_ret
        exact ⟨1, rfl, HN.out, rfl⟩
      · have HN : Hid (∀ j, 1 ≤ j → j < 2 → shw j ≠ x) := fun j h1 h2 => by
          by_cases e : j = 1
          · rw [e, HV.out]; exact he
          · exact HK.out j h1 (by omega)
        have hy := tl_no he
        clear he
        go_wp2
        go_roundw
        case rel => exact ⟨2, ⟨by omega, by omega⟩, by go_num, HN, by trivial⟩
        case measure => simp [intOf]
    · have s0 : wr.cell? ⟨1, 8, none⟩ = some (.string (shw 2)) := hS.at2.1
      obtain ⟨v, HV⟩ : ∃ v, Hid (shw 2 = v) := ⟨_, rfl⟩
      rw [HV.out] at s0
      by_cases he : v = x
      · have HN : Hid (Knd x 2) := .inl ⟨by omega, by omega, by rw [HV.out]; exact he⟩
        have hy := tl_yes he
        clear he
        go_wp2
        go_ret
        exact ⟨2, rfl, HN.out, rfl⟩
      · have HN : Hid (∀ j, 1 ≤ j → j < 3 → shw j ≠ x) := fun j h1 h2 => by
          by_cases e : j = 2
          · rw [e, HV.out]; exact he
          · exact HK.out j h1 (by omega)
        have hy := tl_no he
        clear he
        go_wp2
        go_roundw
        case rel => exact ⟨3, ⟨by omega, by omega⟩, by go_num, HN, by trivial⟩
        case measure => simp [intOf]
    · have s0 : wr.cell? ⟨1, 12, none⟩ = some (.string (shw 3)) := hS.at3.1
      obtain ⟨v, HV⟩ : ∃ v, Hid (shw 3 = v) := ⟨_, rfl⟩
      rw [HV.out] at s0
      by_cases he : v = x
      · have HN : Hid (Knd x 3) := .inl ⟨by omega, by omega, by rw [HV.out]; exact he⟩
        have hy := tl_yes he
        clear he
        go_wp2
        go_ret
        exact ⟨3, rfl, HN.out, rfl⟩
      · have HN : Hid (∀ j, 1 ≤ j → j < 4 → shw j ≠ x) := fun j h1 h2 => by
          by_cases e : j = 3
          · rw [e, HV.out]; exact he
          · exact HK.out j h1 (by omega)
        have hy := tl_no he
        clear he
        go_wp2
        go_roundw
        case rel => exact ⟨4, ⟨by omega, by omega⟩, by go_num, HN, by trivial⟩
        case measure => simp [intOf]
    · have s0 : wr.cell? ⟨1, 16, none⟩ = some (.string (shw 4)) := hS.at4.1
      obtain ⟨v, HV⟩ : ∃ v, Hid (shw 4 = v) := ⟨_, rfl⟩
      rw [HV.out] at s0
      by_cases he : v = x
      · have HN : Hid (Knd x 4) := .inl ⟨by omega, by omega, by rw [HV.out]; exact he⟩
        have hy := tl_yes he
        clear he
        go_wp2
        go_ret
        exact ⟨4, rfl, HN.out, rfl⟩
      · have HN : Hid (∀ j, 1 ≤ j → j < 5 → shw j ≠ x) := fun j h1 h2 => by
          by_cases e : j = 4
          · rw [e, HV.out]; exact he
          · exact HK.out j h1 (by omega)
        have hy := tl_no he
        clear he
        go_wp2
        go_roundw
        case rel => exact ⟨5, ⟨by omega, by omega⟩, by go_num, HN, by trivial⟩
        case measure => simp [intOf]
    · have s0 : wr.cell? ⟨1, 20, none⟩ = some (.string (shw 5)) := hS.at5.1
      obtain ⟨v, HV⟩ : ∃ v, Hid (shw 5 = v) := ⟨_, rfl⟩
      rw [HV.out] at s0
      by_cases he : v = x
      · have HN : Hid (Knd x 5) := .inl ⟨by omega, by omega, by rw [HV.out]; exact he⟩
        have hy := tl_yes he
        clear he
        go_wp2
        go_ret
        exact ⟨5, rfl, HN.out, rfl⟩
      · have HN : Hid (∀ j, 1 ≤ j → j < 6 → shw j ≠ x) := fun j h1 h2 => by
          by_cases e : j = 5
          · rw [e, HV.out]; exact he
          · exact HK.out j h1 (by omega)
        have hy := tl_no he
        clear he
        go_wp2
        go_roundw
        case rel => exact ⟨6, ⟨by omega, by omega⟩, by go_num, HN, by trivial⟩
        case measure => simp [intOf]
    · have s0 : wr.cell? ⟨1, 24, none⟩ = some (.string (shw 6)) := hS.at6.1
      obtain ⟨v, HV⟩ : ∃ v, Hid (shw 6 = v) := ⟨_, rfl⟩
      rw [HV.out] at s0
      by_cases he : v = x
      · have HN : Hid (Knd x 6) := .inl ⟨by omega, by omega, by rw [HV.out]; exact he⟩
        have hy := tl_yes he
        clear he
        go_wp2
        go_ret
        exact ⟨6, rfl, HN.out, rfl⟩
      · have HN : Hid (∀ j, 1 ≤ j → j < 7 → shw j ≠ x) := fun j h1 h2 => by
          by_cases e : j = 6
          · rw [e, HV.out]; exact he
          · exact HK.out j h1 (by omega)
        have hy := tl_no he
        clear he
        go_wp2
        go_roundw
        case rel => exact ⟨7, ⟨by omega, by omega⟩, by go_num, HN, by trivial⟩
        case measure => simp [intOf]
    · have HN : Hid (Knd x 0) := .inr ⟨rfl, HK.out⟩
      go_wp2
      go_ret
      exact ⟨0, rfl, HN.out, rfl⟩

theorem cCount (g : Nat) (a b c : Bool) (w : World) (h0 : w.cell? ⟨g, 0, none⟩ = some (.bool a)) (h1 : w.cell? ⟨g, 1, none⟩ = some (.bool b)) (h2 : w.cell? ⟨g, 2, none⟩ = some (.bool c)) (hg : g < w.heap.size) :
    Calls Tryd.prog 63 #[.slice (some ⟨g, 0, none⟩) 3 3] w fun e w' => e = .returned (.int .i64 (bn a + bn b + bn c)) ∧ w' = w := by
  go_enter Tryd.func63, Tryd.ntmps63
  go_wp2
  go_loopw [3, 8] (fun v i wr => wr = w ∧ ∃ k : Nat, k ≤ 3 ∧ i = .int .i64 k ∧ Hid (∃ z : Int, v = .int .i64 z ∧ (0 ≤ z ∧ z ≤ 3) ∧ z = ((if 0 < k then bn a else 0) + (if 1 < k then bn b else 0) + (if 2 < k then bn c else 0)))) (fun _ i _ => 3 - (intOf i).toNat)
  case atStart => exact ⟨rfl, 0, by omega, rfl, 0, rfl, ⟨by omega, by omega⟩, by simp⟩
  case round =>
    obtain ⟨rfl, k, hk, rfl, HV⟩ := hrel
    obtain ⟨z, rfl, hz, hv⟩ := HV.out
    have HZ : Hid (z = _) := hv
    have ba : bn a = 0 ∨ bn a = 1 := by cases a <;> simp [bn]
    have bb : bn b = 0 ∨ bn b = 1 := by cases b <;> simp [bn]
    have bc : bn c = 0 ∨ bn c = 1 := by cases c <;> simp [bn]
    have hkk : k = 0 ∨ k = 1 ∨ k = 2 ∨ k = 3 := by omega
    clear HV hv
    rcases hkk with rfl | rfl | rfl | rfl
    · have hz0 : z = 0 := by have := HZ.out; simpa using this
      subst hz0
      cases a
      · go_wp2
        go_roundw
        case rel => exact ⟨by trivial, 1, by omega, by go_num, 0, rfl, ⟨by omega, by omega⟩, by simp [bn]⟩
        case measure => simp [intOf]
      · go_wp2
        go_roundw
        case rel => exact ⟨by trivial, 1, by omega, by go_num, 1, rfl, ⟨by omega, by omega⟩, by simp [bn]⟩
        case measure => simp [intOf]
    · have hz1 : z = bn a := by have := HZ.out; simpa using this
      have hzb : z ≤ 1 := by omega
      have HZ1 : Hid (z = bn a) := hz1
      clear HZ hz1 ba bb bc
      cases b
      · go_wp2
        go_roundw
        case rel => exact ⟨by trivial, 2, by omega, by go_num, z, rfl, hz, by have := HZ1.out; simp [bn] at this ⊢; omega⟩
        case measure => simp [intOf]
      · go_wp2
        go_roundw
        case rel => exact ⟨by trivial, 2, by omega, by go_num, z + 1, rfl, ⟨by omega, by omega⟩, by have := HZ1.out; simp [bn] at this ⊢; omega⟩
        case measure => simp [intOf]
    · have hz1 : z = bn a + bn b := by have := HZ.out; simpa using this
      have hzb : z ≤ 2 := by omega
      have HZ1 : Hid (z = bn a + bn b) := hz1
      clear HZ hz1 ba bb bc
      cases c
      · go_wp2
        go_roundw
        case rel => exact ⟨by trivial, 3, by omega, by go_num, z, rfl, hz, by have := HZ1.out; simp [bn] at this ⊢; omega⟩
        case measure => simp [intOf]
      · go_wp2
        go_roundw
        case rel => exact ⟨by trivial, 3, by omega, by go_num, z + 1, rfl, ⟨by omega, by omega⟩, by have := HZ1.out; simp [bn] at this ⊢; omega⟩
        case measure => simp [intOf]
    · have hz1 : z = bn a + bn b + bn c := by have := HZ.out; simpa using this
      have HZ1 : Hid (z = bn a + bn b + bn c) := hz1
      clear HZ ba bb bc hz1
      go_wp2
      go_ret
      exact ⟨by rw [← HZ1.out]; rfl, rfl⟩
end
section
open Crm
/-- Bytes as a text. -/
def toB (l : List UInt8) : ByteArray := ⟨l.toArray⟩
theorem toB_size (l : List UInt8) : (toB l).size = l.length := by simp [toB, ByteArray.size]
theorem toB_app (l m : List UInt8) : toB l ++ toB m = toB (l ++ m) := by
  apply ByteArray.ext
  rw [ByteArray.data_append]
  simp [toB]
theorem toB_list (s : ByteArray) : toB s.data.toList = s := by simp [toB]
theorem bt_toB (l : List UInt8) {i : Nat} (h : i < l.length) : bt (toB l) i = ((l[i]'h).toNat : Int) := by
  have h' : i < (toB l).size := by rw [toB_size]; exact h
  rw [← bt_get _ h']
  rfl
theorem toB_ext (l : List UInt8) {i : Nat} (h : i < l.length) : (toB l).extract i (i + 1) = toB [l[i]'h] := by
  apply ByteArray.ext
  rw [ByteArray.data_extract]
  apply Array.ext'
  rw [Array.toList_extract]
  show (l.drop i).take (i + 1 - i) = [l[i]]
  rw [Nat.add_sub_cancel_left, List.drop_eq_getElem_cons h]
  rfl
/-- Pieces, byte by byte. -/
def pst (b : Int) (P : List (List UInt8)) (c : UInt8) : List (List UInt8) := if (c.toNat : Int) = b then P ++ [[]] else P.set (P.length - 1) (P.getD (P.length - 1) [] ++ [c])
def pll (b : Int) (l : List UInt8) : List (List UInt8) := l.foldl (pst b) [[]]
theorem pst_no {b : Int} {c : UInt8} (A : List (List UInt8)) (h : List UInt8) (hc : (c.toNat : Int) ≠ b) : pst b (A ++ [h]) c = A ++ [h ++ [c]] := by
  unfold pst
  rw [if_neg hc]
  simp
theorem pst_yes {b : Int} {c : UInt8} (P : List (List UInt8)) (hc : (c.toNat : Int) = b) : pst b P c = P ++ [[]] := by unfold pst; rw [if_pos hc]
theorem pll_run {b : Int} : ∀ (xs : List UInt8) (A : List (List UInt8)) (h : List UInt8), (∀ c ∈ xs, (c.toNat : Int) ≠ b) → xs.foldl (pst b) (A ++ [h]) = A ++ [h ++ xs]
  | [], A, h, _ => by simp
  | c :: xs, A, h, hx => by
    rw [List.foldl_cons, pst_no A h (hx c (by simp)), pll_run xs A (h ++ [c]) (fun d hd => hx d (by simp [hd]))]
    simp
theorem pll_cut {b : Int} {c : UInt8} (xs : List UInt8) (A : List (List UInt8)) (hx : ∀ d ∈ xs, (d.toNat : Int) ≠ b) (hc : (c.toNat : Int) = b) : (xs ++ [c]).foldl (pst b) (A ++ [[]]) = A ++ [xs] ++ [[]] := by
  rw [List.foldl_append, pll_run xs A [] hx, List.nil_append, List.foldl_cons, List.foldl_nil, pst_yes _ hc]
theorem pcs_toB (b : Int) (l : List UInt8) : ∀ k, k ≤ l.length → pcs (toB l) b k = (pll b (l.take k)).map toB
  | 0, _ => rfl
  | k + 1, hk => by
    have ih := pcs_toB b l k (by omega)
    have e : pll b (l.take (k + 1)) = pst b (pll b (l.take k)) (l[k]'hk) := by
      unfold pll
      rw [List.take_succ_eq_append_getElem hk, List.foldl_append]
      rfl
    rw [pcs, e, bt_toB l hk, ih]
    unfold pst
    split
    · simp [toB, mt]
    · rw [List.map_set, toB_ext l hk]
      congr 1
      · simp
      · rw [← toB_app]
        congr 1
        simp [List.getD_eq_getElem?_getD, List.getElem?_map]
        cases (pll b (l.take k))[(pll b (l.take k)).length - 1]? <;> rfl
theorem pcs_all (b : Int) (l : List UInt8) : pcs (toB l) b (toB l).size = (pll b l).map toB := by
  rw [toB_size, pcs_toB b l l.length (Nat.le_refl _), List.take_length]
/-- Digits of a number. -/
def dd (u : Nat) : List UInt8 := Lib.decDigits u
/-- A number that is told, by its rest. -/
def nmg (g : Gt) : Gt := ⟨g.k, g.a, g.b, nm g.n⟩
end
end Go.Proofs.YtljlioglpaogdacDoor
