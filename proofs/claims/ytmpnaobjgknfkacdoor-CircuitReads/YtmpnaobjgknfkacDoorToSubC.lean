/- A circuit that is being read: its box, its gates and outs. · A piece of a slice: x[l:h]. -/
import Derived.Test.YtmpnaobjgknfkacDoorToTwoC
import Derived.Test.YtmpnaobjgknfkacDoorToPiecC
import Derived.Deep.AppendLies
import Derived.Deep.RegionLaw
import Derived.Test.YtmpnaobjgknfkacDoorToMath
namespace Go.Proofs.YtmpnaobjgknfkacDoor
open Go.RowKit Crm

/-- append of one element of z cells to a slice that the call itself gathers, a step of a region that draws; where it lies. -/
theorem step_appZ {P : Program} {T E : TypeId} {z0 : Value} {z by_ : Nat} (hT : P.underlying T = some (.slice E)) (info : (P.info? E).map (fun i => (i.zero, i.size, i.bytes)) = some (some z0, z, by_)) (hz : z0.cells.size = z) (hzp : 0 < z) (hby : by_ ≤ 100)
    (w : World) {w1 : World} {ops : Array Oper} {o : Oper} {a : Act} {K : Act → World → Prop} {Q : Exit → Act → World → Prop} {F : Prop} (hgd : o.guard = none) (s x : Operand)
    (ho : o.op = .call { callee := .builtin .append, args := #[s, x], argTypes := #[T, T] })
    (base : Nat) (v : Value) (n : Nat) (xs : List Value) (hs : a.eval s = v) (hown : w.ownsRow base E z v n xs) (ys : List Value) (hyl : ys.length = z) (hy1 : ∀ u ∈ ys, u.oneCell' = true) (hx : a.eval x = .slice (some ⟨w.heap.size, 0, none⟩) 1 1)
    (hw1 : w1 = w.alloc (.cells ys.toArray E)) (hn : n ≤ 1000000) (hbase : base ≤ w.heap.size)
    (h : ∀ g cap w', w'.ownsRow base E z (.slice (some ⟨g, 0, none⟩) (n + 1) cap) (n + 1) (xs ++ ys) → w.grownBy w' v.ownBlock → base ≤ g → K (a.put o.dst (.slice (some ⟨g, 0, none⟩) (n + 1) cap)) w') :
    if Region.wanted o (yielded ops a.tmps) = true then Oper.wp P o a w1 K Q else F := by
  subst hw1
  obtain ⟨i0, hi, hz0, hz1, hz2⟩ := info_parts info
  refine step_append_lies _ hgd s x T ho base E i0 z0 z by_ hT hi hz0 hz1 hz2 hz hzp v n _ hs (hown.alloc _) ⟨w.heap.size, 0, none⟩ 1 1 ys hx (by rw [hyl, Nat.one_mul]) ?_ hy1 (by decide) (by unfold maxLen; omega) ?_ (by simp; omega) _ rfl ?_
  · intro j u hj
    exact World.news_of_block (heap_alloc_new w (.cells ys.toArray E)) j u (by simpa using hj)
  · have : (n + 1) * by_ ≤ 1000001 * 100 := Nat.mul_le_mul (by omega) hby
    omega
  · intro g cap w' hown' hgrow _ _
    refine h g cap w' hown' ⟨hgrow.os, hgrow.tape, hgrow.output, ?_, fun k hk hne => ?_⟩ (hown'.lt g rfl).1
    · have := hgrow.size; simp at this; omega
    · rw [hgrow.block k (by simp; omega) hne]; exact Below.heap_alloc _ _ _ hk
theorem infoGt : (Tryd.prog.info? 44).map (fun i => (i.zero, i.size, i.bytes)) = some (some (.agg #[.int .i64 0, .int .i64 0, .int .i64 0, .int .u64 0]), 4, 32) := by kernel_rfl
theorem infoIt : (Tryd.prog.info? 3).map (fun i => (i.zero, i.size, i.bytes)) = some (some (.int .i64 0), 1, 8) := by kernel_rfl
theorem gcs_snoc (G : List Gt) (g : Gt) : gcs G ++ [.int .i64 g.k, .int .i64 g.a, .int .i64 g.b, .int .u64 g.n] = gcs (G ++ [g]) := by simp [gcs]

structure Crd (w : World) (B gc : Nat) (ag : Option Addr) (n cg : Nat) (ao : Option Addr) (m co : Nat) (G : List Gt) (O : List Int) : Prop where
  box : CBox w gc ag n cg ao m co
  ln : G.length = n
  lo : O.length = m
  own : w.ownsRow B 44 4 (.slice ag n cg) n (gcs G)
  ins : w.ownsRow B 3 1 (.slice ao m co) m (zns O)
theorem own_belowZ {w w' : World} {base n z : Nat} {E : TypeId} {v : Value} {xs : List Value} (h : w.ownsRow base E z v n xs) (hb : Below w.heap.size w w') : w'.ownsRow base E z v n xs :=
  h.kept (grown_below hb none) (by cases h' : v.ownBlock <;> simp)
theorem Crd.below {w w' : World} {B gc : Nat} {ag : Option Addr} {n cg : Nat} {ao : Option Addr} {m co : Nat} {G : List Gt} {O : List Int} (h : Crd w B gc ag n cg ao m co G O) (hb : Below w.heap.size w w') : Crd w' B gc ag n cg ao m co G O :=
  ⟨h.box.below hb h.box.lt, h.ln, h.lo, own_belowZ h.own hb, own_belowZ h.ins hb⟩
theorem box_apart {w : World} {gc : Nat} {ag : Option Addr} {n cg : Nat} {ao : Option Addr} {m co : Nat} {B k z : Nat} {E : TypeId} {v : Value} {xs : List Value} (h : CBox w gc ag n cg ao m co) (ho : w.ownsRow B E z v k xs) (hE : E ≠ 25) : some gc ≠ v.ownBlock := by
  rcases ho.2 with ⟨rfl, _⟩ | ⟨g, cap, cur, rfl, _, hg, _⟩
  · simp [Value.ownBlock]
  · intro e
    have e' : gc = g := by simpa [Value.ownBlock] using e
    subst e'
    unfold CBox at h
    rw [hg] at h
    simp only [Option.some.injEq, Obj.cells.injEq] at h
    exact hE h.2.1
/-- When another row grows. -/
theorem Crd.grown {w w' : World} {B gc : Nat} {ag : Option Addr} {n cg : Nat} {ao : Option Addr} {m co : Nat} {G : List Gt} {O : List Int} {r : Option Nat} (h : Crd w B gc ag n cg ao m co G O) (hg : w.grownBy w' r) (h1 : some gc ≠ r) (h2 : (Value.slice ag n cg).ownBlock = none ∨ (Value.slice ag n cg).ownBlock ≠ r) (h3 : (Value.slice ao m co).ownBlock = none ∨ (Value.slice ao m co).ownBlock ≠ r) : Crd w' B gc ag n cg ao m co G O :=
  ⟨h.box.grown hg h1, h.ln, h.lo, h.own.kept hg h2, h.ins.kept hg h3⟩
theorem CBox.set0 {w : World} {gc : Nat} {ag : Option Addr} {n cg : Nat} {ao : Option Addr} {m co : Nat} (h : CBox w gc ag n cg ao m co) (a : Option Addr) (n' c : Nat) : CBox (w.setCell ⟨gc, 0, none⟩ (.slice a n' c)) gc a n' c ao m co := by
  have := heap_setCell_same w gc 0 _ _ (.slice a n' c) h
  unfold CBox
  rw [this]
  rfl
theorem CBox.set1 {w : World} {gc : Nat} {ag : Option Addr} {n cg : Nat} {ao : Option Addr} {m co : Nat} (h : CBox w gc ag n cg ao m co) (a : Option Addr) (n' c : Nat) : CBox (w.setCell ⟨gc, 1, none⟩ (.slice a n' c)) gc ag n cg a n' c := by
  have := heap_setCell_same w gc 1 _ _ (.slice a n' c) h
  unfold CBox
  rw [this]
  rfl
theorem CBox.frozen {w : World} {gc : Nat} {ag : Option Addr} {n cg : Nat} {ao : Option Addr} {m co : Nat} (h : CBox w gc ag n cg ao m co) (i : Nat) : w.frozen? ⟨gc, i, none⟩ = false := frozen_of_row w gc i _ _ h
theorem eGC : (44 : TypeId) ≠ 25 := by decide
theorem eIC : (3 : TypeId) ≠ 25 := by decide
theorem eGI : (44 : TypeId) ≠ 3 := by decide
theorem eSG : (9 : TypeId) ≠ 44 := by decide
theorem eSI : (9 : TypeId) ≠ 3 := by decide
theorem eSC : (9 : TypeId) ≠ 25 := by decide
/-- One gate more: the row grows, and is laid into the box. -/
theorem Crd.gate {w w7 : World} {B gc g7 c7 : Nat} {ag : Option Addr} {n cg : Nat} {ao : Option Addr} {m co : Nat} {G : List Gt} {O : List Int} {x : Gt} (h : Crd w B gc ag n cg ao m co G O)
    (ho : w7.ownsRow B 44 4 (.slice (some ⟨g7, 0, none⟩) (n + 1) c7) (n + 1) (gcs (G ++ [x]))) (hg : w.grownBy w7 (Value.slice ag n cg).ownBlock) :
    Crd (w7.setCell ⟨gc, 0, none⟩ (.slice (some ⟨g7, 0, none⟩) (n + 1) c7)) B gc (some ⟨g7, 0, none⟩) (n + 1) c7 ao m co (G ++ [x]) O := by
  have hb7 := h.box.grown hg (box_apart h.box h.own eGC)
  have hi7 := h.ins.kept hg (own_apart h.own h.ins eGI)
  have hg2 : w7.grownBy (w7.setCell ⟨gc, 0, none⟩ (.slice (some ⟨g7, 0, none⟩) (n + 1) c7)) (some gc) := grown_set _ _ _ _
  have k1 := box_apart hb7 ho eGC
  have k2 := box_apart hb7 hi7 eIC
  exact ⟨hb7.set0 _ _ _, by simp [h.ln], h.lo, ho.kept hg2 (.inr (fun e => k1 e.symm)), hi7.kept hg2 (.inr (fun e => k2 e.symm))⟩
/-- One out more. -/
theorem Crd.out {w w7 : World} {B gc g7 c7 : Nat} {ag : Option Addr} {n cg : Nat} {ao : Option Addr} {m co : Nat} {G : List Gt} {O : List Int} {x : Int} (h : Crd w B gc ag n cg ao m co G O)
    (ho : w7.ownsRow B 3 1 (.slice (some ⟨g7, 0, none⟩) (m + 1) c7) (m + 1) (zns (O ++ [x]))) (hg : w.grownBy w7 (Value.slice ao m co).ownBlock) :
    Crd (w7.setCell ⟨gc, 1, none⟩ (.slice (some ⟨g7, 0, none⟩) (m + 1) c7)) B gc ag n cg (some ⟨g7, 0, none⟩) (m + 1) c7 G (O ++ [x]) := by
  have hb7 := h.box.grown hg (box_apart h.box h.ins eIC)
  have hi7 := h.own.kept hg (own_apart h.ins h.own (fun e => eGI e.symm))
  have hg2 : w7.grownBy (w7.setCell ⟨gc, 1, none⟩ (.slice (some ⟨g7, 0, none⟩) (m + 1) c7)) (some gc) := grown_set _ _ _ _
  have k1 := box_apart hb7 ho eIC
  have k2 := box_apart hb7 hi7 eGC
  exact ⟨hb7.set1 _ _ _, h.ln, by simp [h.lo], hi7.kept hg2 (.inr (fun e => k2 e.symm)), ho.kept hg2 (.inr (fun e => k1 e.symm))⟩
/-- What is gathered beside it stays. -/
theorem own_beside {w w7 : World} {B gc k z r z2 : Nat} {E E2 : TypeId} {v v2 : Value} {xs ys : List Value} {u : Value} {ag : Option Addr} {n cg : Nat} {ao : Option Addr} {m co i : Nat} (h : w.ownsRow B E z v k xs) (h2 : w.ownsRow B E2 z2 v2 r ys) (hE : E2 ≠ E) (hC : E ≠ 25) (hg : w.grownBy w7 v2.ownBlock) (hb : CBox w7 gc ag n cg ao m co) :
    (w7.setCell ⟨gc, i, none⟩ u).ownsRow B E z v k xs := by
  have h7 := h.kept hg (own_apart h2 h hE)
  have k1 := box_apart hb h7 hC
  exact h7.kept (grown_set _ _ _ _) (.inr (fun e => k1 e.symm))
end Go.Proofs.YtmpnaobjgknfkacDoor

namespace Go.Proofs.YtmpnaobjgknfkacDoor
open Go.RowKit

/-- Where a piece lies. -/
def subA (a : Option Addr) (c lo : Nat) : Option Addr := if c = lo then a else a.map (·.add lo)
theorem Rd.sub {w : World} {a : Option Addr} {n c : Nat} {xs : List Int} (h : Rd w a n c xs) {lo k : Nat} (hk : lo + k ≤ n) : Rd w (subA a c lo) k (c - lo) ((xs.drop lo).take k) := by
  have hl := h.len
  have hc := h.cap
  have hm := h.max
  refine ⟨by simp; omega, by omega, by omega, fun x hx => h.bd x (List.mem_of_mem_drop (List.mem_of_mem_take hx)), fun e => ?_, fun x hx i hi => ?_⟩
  · unfold subA at e
    split at e
    · omega
    · cases a with
      | none => have := h.nil rfl; omega
      | some y => simp at e
  · obtain ⟨b, o, rfl, _, hcell⟩ := h.at (k := lo + i) (by omega)
    unfold subA at hx
    rw [if_neg (by omega), Option.map_some] at hx
    obtain rfl := Option.some.inj hx
    rw [Addr.add_lit, Addr.add_lit, Nat.add_assoc, hcell (lo + i) (by omega)]
    congr 2
    simp [hi]
/-- .. as a walk meets it. -/
theorem run_sub {P : Program} {T E : TypeId} (hT : P.underlying T = some (.slice E)) (hE : (P.info? E).map (·.size) = some 1) (a : Option Addr) (n c lo k : Nat) {l h : Int} (hl : l = (lo : Int)) (hh : h = (lo : Int) + (k : Int)) (hc : lo + k ≤ c) (W : World) :
    (Instr.sliceAt T (.slice a n c) (some (.int .i64 l)) (some (.int .i64 h)) none).run P W = .ok (.slice (subA a c lo) k (c - lo)) W := by
  subst hl hh
  have he : P.elem T = E := by simp [Program.elem, hT]
  have hT' : P.underlying T = some (.slice (P.elem T)) := by rw [he]; exact hT
  have e1 : ((lo : Int) + (k : Int)).toNat = lo + k := by omega
  cases hi : P.info? E with
  | none => simp [hi] at hE
  | some i =>
    have hs : i.size = 1 := by simpa [hi] using hE
    rw [run_sliceAt_slice W T _ _ _ _ hT', run_slice_lh W T a n c hT' .i64 .i64 (lo : Int) ((lo : Int) + (k : Int)) (by omega) (by omega) (by omega), he, e1]
    simp [sizeOf, typeInfo, hi, hs, sliced, subA, Result.andThen]
theorem run_subl {P : Program} {T E : TypeId} (hT : P.underlying T = some (.slice E)) (hE : (P.info? E).map (·.size) = some 1) (a : Option Addr) (n c lo : Nat) {l : Int} (hl : l = (lo : Int)) (hn : lo ≤ n) (W : World) :
    (Instr.sliceAt T (.slice a n c) (some (.int .i64 l)) none none).run P W = .ok (.slice (subA a c lo) (n - lo) (c - lo)) W := by
  subst hl
  have he : P.elem T = E := by simp [Program.elem, hT]
  have hT' : P.underlying T = some (.slice (P.elem T)) := by rw [he]; exact hT
  cases hi : P.info? E with
  | none => simp [hi] at hE
  | some i =>
    have hs : i.size = 1 := by simpa [hi] using hE
    rw [run_sliceAt_slice W T _ _ _ _ hT', run_slice_l W T a n c hT' .i64 (lo : Int) (by omega) (by omega), he]
    simp [sizeOf, typeInfo, hi, hs, sliced, subA, Result.andThen]
end Go.Proofs.YtmpnaobjgknfkacDoor
