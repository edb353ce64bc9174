/- A circuit that is being read: its box, its gates and outs. · What is read of a text: bounds; what Parse answers. · What is printed is read as it was: the text of a circuit. · Package circuit: readLine. -/
import Derived.Test.YtljlioglpaogdafDoorParM
import Derived.Test.YtljlioglpaogdafDoorToNumbC
import Derived.Test.YtljlioglpaogdafDoorToTwoC
import Derived.Deep.AppendLies
import Derived.Deep.RegionLaw
import Derived.Test.YtljlioglpaogdafDoorToGRightC
import Derived.Test.YtljlioglpaogdafDoorRGateC
namespace Go.Proofs.YtljlioglpaogdafDoor
set_option linter.unusedVariables false
set_option maxRecDepth 100000
set_option maxHeartbeats 8000000
section
open Crm Go.RowKit
/-- append of one element of z cells to a slice that the call itself gathers, a step of a region that draws; where it lies. -/
theorem step_appZ {P : Program} {T E : TypeId} {z0 : Value} {z by_ : Nat} (hT : P.underlying T = some (.slice E)) (info : (P.info? E).map (fun i => (i.zero, i.size, i.bytes)) = some (some z0, z, by_)) (hz : z0.cells.size = z) (hzp : 0 < z) (hby : by_ ≤ 100)
    (w : World) {w1 : World} {ops : Array Oper} {o : Oper} {a : Act} {K : Act → World → Prop} {Q : Exit → Act → World → Prop} {F : Prop} (hgd : o.guard = none) (s x : Operand)
    (ho : o.op = .call { callee := .builtin .append, args := #[s, x], argTypes := #[T, T] })
    (base : Nat) (v : Value) (n : Nat) (xs : List Value) (hs : a.eval s = v) (hown : w.ownsRow base E z v n xs) (ys : List Value) (hyl : ys.length = z) (hy1 : ∀ u ∈ ys, u.oneCell' = true) (hx : a.eval x = .slice (some ⟨w.heap.size, 0, none⟩) 1 1)
    (hw1 : w1 = w.alloc (.cells ys.toArray E)) (hn : n ≤ 1000000) (hbase : base ≤ w.heap.size)
    (h : ∀ g cap w', w'.ownsRow base E z (.slice (some ⟨g, 0, none⟩) (n + 1) cap) (n + 1) (xs ++ ys) → w.grownBy w' v.ownBlock → base ≤ g → K (a.put o.dst (.slice (some ⟨g, 0, none⟩) (n + 1) cap)) w') :
    if Region.wanted o (yielded ops a.tmps) = true then Oper.wp P o a w1 K Q else F := by
  subst hw1
  obtain ⟨i0, hi, hz0, hz1, hz2⟩ := info_parts info
  refine step_append_lies _ hgd s x T ho base E i0 z0 z by_ hT hi hz0 hz1 hz2 hz hzp v n _ hs (hown.alloc _) ⟨w.heap.size, 0, none⟩ 1 1 ys hx (by rw [hyl, Nat.one_mul]) ?_ hy1 (by decide) (by unfold maxLen; omega) ?_ (by simp; omega) _ rfl ?_
  · intro j u hj
    exact World.news_of_block (heap_alloc_new w (.cells ys.toArray E)) j u (by simpa using hj)
  · have : (n + 1) * by_ ≤ 1000001 * 100 := Nat.mul_le_mul (by omega) hby
    omega
  · intro g cap w' hown' hgrow _ _
    refine h g cap w' hown' ⟨hgrow.os, hgrow.tape, hgrow.output, ?_, fun k hk hne => ?_⟩ (hown'.lt g rfl).1
    · have := hgrow.size; simp at this; omega
    · rw [hgrow.block k (by simp; omega) hne]; exact Below.heap_alloc _ _ _ hk
theorem infoGt : (Tryd.prog.info? 43).map (fun i => (i.zero, i.size, i.bytes)) = some (some (.agg #[.int .i64 0, .int .i64 0, .int .i64 0, .int .u64 0]), 4, 32) := by kernel_rfl
theorem infoIt : (Tryd.prog.info? 3).map (fun i => (i.zero, i.size, i.bytes)) = some (some (.int .i64 0), 1, 8) := by kernel_rfl
theorem gcs_snoc (G : List Gt) (g : Gt) : gcs G ++ [.int .i64 g.k, .int .i64 g.a, .int .i64 g.b, .int .u64 g.n] = gcs (G ++ [g]) := by simp [gcs]

structure Crd (w : World) (B gc : Nat) (ag : Option Addr) (n cg : Nat) (ao : Option Addr) (m co : Nat) (G : List Gt) (O : List Int) : Prop where
  box : CBox w gc ag n cg ao m co
  ln : G.length = n
  lo : O.length = m
  own : w.ownsRow B 43 4 (.slice ag n cg) n (gcs G)
  ins : w.ownsRow B 3 1 (.slice ao m co) m (zns O)
theorem own_belowZ {w w' : World} {base n z : Nat} {E : TypeId} {v : Value} {xs : List Value} (h : w.ownsRow base E z v n xs) (hb : Below w.heap.size w w') : w'.ownsRow base E z v n xs :=
  h.kept (grown_below hb none) (by cases h' : v.ownBlock <;> simp)
theorem Crd.below {w w' : World} {B gc : Nat} {ag : Option Addr} {n cg : Nat} {ao : Option Addr} {m co : Nat} {G : List Gt} {O : List Int} (h : Crd w B gc ag n cg ao m co G O) (hb : Below w.heap.size w w') : Crd w' B gc ag n cg ao m co G O :=
  ⟨h.box.below hb h.box.lt, h.ln, h.lo, own_belowZ h.own hb, own_belowZ h.ins hb⟩
theorem box_apart {w : World} {gc : Nat} {ag : Option Addr} {n cg : Nat} {ao : Option Addr} {m co : Nat} {B k z : Nat} {E : TypeId} {v : Value} {xs : List Value} (h : CBox w gc ag n cg ao m co) (ho : w.ownsRow B E z v k xs) (hE : E ≠ 25) : some gc ≠ v.ownBlock := by
  rcases ho.2 with ⟨rfl, _⟩ | ⟨g, cap, cur, rfl, _, hg, _⟩
  · simp [Value.ownBlock]
  · intro e
    have e' : gc = g := by simpa [Value.ownBlock] using e
    subst e'
    unfold CBox at h
    rw [hg] at h
    simp only [Option.some.injEq, Obj.cells.injEq] at h
    exact hE h.2.1
/-- When another row grows. -/
theorem Crd.grown {w w' : World} {B gc : Nat} {ag : Option Addr} {n cg : Nat} {ao : Option Addr} {m co : Nat} {G : List Gt} {O : List Int} {r : Option Nat} (h : Crd w B gc ag n cg ao m co G O) (hg : w.grownBy w' r) (h1 : some gc ≠ r) (h2 : (Value.slice ag n cg).ownBlock = none ∨ (Value.slice ag n cg).ownBlock ≠ r) (h3 : (Value.slice ao m co).ownBlock = none ∨ (Value.slice ao m co).ownBlock ≠ r) : Crd w' B gc ag n cg ao m co G O :=
  ⟨h.box.grown hg h1, h.ln, h.lo, h.own.kept hg h2, h.ins.kept hg h3⟩
theorem CBox.set0 {w : World} {gc : Nat} {ag : Option Addr} {n cg : Nat} {ao : Option Addr} {m co : Nat} (h : CBox w gc ag n cg ao m co) (a : Option Addr) (n' c : Nat) : CBox (w.setCell ⟨gc, 0, none⟩ (.slice a n' c)) gc a n' c ao m co := by
  have := heap_setCell_same w gc 0 _ _ (.slice a n' c) h
  unfold CBox
  rw [this]
  rfl
theorem CBox.set1 {w : World} {gc : Nat} {ag : Option Addr} {n cg : Nat} {ao : Option Addr} {m co : Nat} (h : CBox w gc ag n cg ao m co) (a : Option Addr) (n' c : Nat) : CBox (w.setCell ⟨gc, 1, none⟩ (.slice a n' c)) gc ag n cg a n' c := by
  have := heap_setCell_same w gc 1 _ _ (.slice a n' c) h
  unfold CBox
  rw [this]
  rfl
theorem CBox.frozen {w : World} {gc : Nat} {ag : Option Addr} {n cg : Nat} {ao : Option Addr} {m co : Nat} (h : CBox w gc ag n cg ao m co) (i : Nat) : w.frozen? ⟨gc, i, none⟩ = false := frozen_of_row w gc i _ _ h
theorem eGC : (43 : TypeId) ≠ 25 := by decide
theorem eIC : (3 : TypeId) ≠ 25 := by decide
theorem eGI : (43 : TypeId) ≠ 3 := by decide
/-- One gate more: the row grows, and is laid into the box. -/
theorem Crd.gate {w w7 : World} {B gc g7 c7 : Nat} {ag : Option Addr} {n cg : Nat} {ao : Option Addr} {m co : Nat} {G : List Gt} {O : List Int} {x : Gt} (h : Crd w B gc ag n cg ao m co G O)
    (ho : w7.ownsRow B 43 4 (.slice (some ⟨g7, 0, none⟩) (n + 1) c7) (n + 1) (gcs (G ++ [x]))) (hg : w.grownBy w7 (Value.slice ag n cg).ownBlock) :
    Crd (w7.setCell ⟨gc, 0, none⟩ (.slice (some ⟨g7, 0, none⟩) (n + 1) c7)) B gc (some ⟨g7, 0, none⟩) (n + 1) c7 ao m co (G ++ [x]) O := by
  have hb7 := h.box.grown hg (box_apart h.box h.own eGC)
  have hi7 := h.ins.kept hg (own_apart h.own h.ins eGI)
  have hg2 : w7.grownBy (w7.setCell ⟨gc, 0, none⟩ (.slice (some ⟨g7, 0, none⟩) (n + 1) c7)) (some gc) := grown_set _ _ _ _
  have k1 := box_apart hb7 ho eGC
  have k2 := box_apart hb7 hi7 eIC
  exact ⟨hb7.set0 _ _ _, by simp [h.ln], h.lo, ho.kept hg2 (.inr (fun e => k1 e.symm)), hi7.kept hg2 (.inr (fun e => k2 e.symm))⟩
/-- One out more. -/
theorem Crd.out {w w7 : World} {B gc g7 c7 : Nat} {ag : Option Addr} {n cg : Nat} {ao : Option Addr} {m co : Nat} {G : List Gt} {O : List Int} {x : Int} (h : Crd w B gc ag n cg ao m co G O)
    (ho : w7.ownsRow B 3 1 (.slice (some ⟨g7, 0, none⟩) (m + 1) c7) (m + 1) (zns (O ++ [x]))) (hg : w.grownBy w7 (Value.slice ao m co).ownBlock) :
    Crd (w7.setCell ⟨gc, 1, none⟩ (.slice (some ⟨g7, 0, none⟩) (m + 1) c7)) B gc ag n cg (some ⟨g7, 0, none⟩) (m + 1) c7 G (O ++ [x]) := by
  have hb7 := h.box.grown hg (box_apart h.box h.ins eIC)
  have hi7 := h.own.kept hg (own_apart h.ins h.own (fun e => eGI e.symm))
  have hg2 : w7.grownBy (w7.setCell ⟨gc, 1, none⟩ (.slice (some ⟨g7, 0, none⟩) (m + 1) c7)) (some gc) := grown_set _ _ _ _
  have k1 := box_apart hb7 ho eIC
  have k2 := box_apart hb7 hi7 eGC
  exact ⟨hb7.set1 _ _ _, h.ln, by simp [h.lo], hi7.kept hg2 (.inr (fun e => k2 e.symm)), ho.kept hg2 (.inr (fun e => k1 e.symm))⟩
theorem arn_of {k : Nat} (h1 : 1 ≤ k) (h7 : k < 7) : (k = 1 ∧ arn k = 1) ∨ (k = 2 ∧ arn k = 1) ∨ (k = 6 ∧ arn k = 2) ∨ ((k = 3 ∨ k = 4 ∨ k = 5) ∧ arn k = 2) := by
  have : k = 1 ∨ k = 2 ∨ k = 3 ∨ k = 4 ∨ k = 5 ∨ k = 6 := by omega
  rcases this with rfl | rfl | rfl | rfl | rfl | rfl <;> simp [arn]
theorem ag_bd {t : ByteArray} {n i : Nat} (h : okn (ags t) n) (hi : i < n) : 0 ≤ agn t i ∧ agn t i ≤ 9999999999 := okd_bd (h i hi)
def gbd (g : Gt) : Prop := (1 ≤ g.k ∧ g.k ≤ 6) ∧ (0 ≤ g.a ∧ g.a ≤ 9999999999) ∧ (0 ≤ g.b ∧ g.b ≤ 9999999999) ∧ 0 ≤ g.n ∧ g.n ≤ 9999999999
theorem gof_bd {k : Nat} {t : ByteArray} (h1 : 1 ≤ k) (h7 : k < 7) (ho : okn (ags t) (arn k)) : gbd (gof k t) := by
  rcases arn_of h1 h7 with ⟨rfl, e⟩ | ⟨rfl, e⟩ | ⟨rfl, e⟩ | ⟨h3, e⟩
  · rw [e] at ho
    have := ag_bd ho (i := 0) (by omega)
    unfold gof gbd
    simp
    omega
  · rw [e] at ho
    have := ag_bd ho (i := 0) (by omega)
    unfold gof gbd
    simp
    omega
  · rw [e] at ho
    have := ag_bd ho (i := 0) (by omega)
    have := ag_bd ho (i := 1) (by omega)
    unfold gof gbd
    simp
    omega
  · rw [e] at ho
    have := ag_bd ho (i := 0) (by omega)
    have := ag_bd ho (i := 1) (by omega)
    unfold gof gbd
    rw [if_neg (by omega), if_neg (by omega), if_neg (by omega)]
    simp only
    omega
theorem Rds.bd {l : List ByteArray} : ∀ {i : Nat} {G : List Gt} {O : List Int}, Rds l i G O → (∀ g ∈ G, gbd g) ∧ (∀ x ∈ O, 0 ≤ x ∧ x ≤ 9999999999)
  | 0, _, _, h => by obtain ⟨rfl, rfl⟩ := h; exact ⟨fun g hg => by simp at hg, fun x hx => by simp at hx⟩
  | i + 1, _, _, h => by
    obtain ⟨G0, O0, h0, h1⟩ := h
    obtain ⟨b1, b2⟩ := h0.bd
    rcases h1 with ⟨g, ⟨k, hk, _, _, ho, rfl⟩, _, rfl, rfl⟩ | ⟨x, ⟨_, _, ho, rfl⟩, rfl, rfl⟩
    · refine ⟨fun y hy => ?_, fun x hx => by simp at hx⟩
      rcases List.mem_append.1 hy with hy | hy
      · exact b1 y hy
      · obtain rfl := List.mem_singleton.1 hy
        exact gof_bd hk.1 hk.2 ho
    · refine ⟨b1, fun y hy => ?_⟩
      rcases List.mem_append.1 hy with hy | hy
      · exact b2 y hy
      · obtain rfl := List.mem_singleton.1 hy
        exact ag_bd ho (by omega)
theorem Par.gbd {s : ByteArray} {G : List Gt} {O : List Int} {a : Nat} {r : Int} (h : Par s G O a r) : (∀ g ∈ G, gbd g) ∧ (∀ x ∈ O, 0 ≤ x ∧ x ≤ 9999999999) := by
  have nil : (∀ g ∈ ([] : List Gt), Go.Proofs.YtljlioglpaogdafDoor.gbd g) ∧ (∀ x ∈ ([] : List Int), 0 ≤ x ∧ x ≤ 9999999999) := ⟨fun g hg => by simp at hg, fun x hx => by simp at hx⟩
  rcases h with ⟨_, rfl, rfl, _, _⟩ | ⟨_, ⟨_, _, _, _, _, _, rfl, rfl, _, _⟩ | ⟨G0, O0, h1, ⟨_, rfl, rfl, _, _⟩ | ⟨_, _, _, ⟨_, rfl, rfl⟩ | ⟨_, rfl, rfl⟩⟩⟩⟩
  · exact nil
  · exact nil
  · exact nil
  · exact nil
  · exact h1.bd
theorem gt_mem {G : List Gt} {i : Nat} (h : i < G.length) : gt G i ∈ G := by
  unfold gt
  rw [List.getD_eq_getElem?_getD, List.getElem?_eq_getElem h]
  exact List.getElem_mem _
/-- Gates that a call has made its own, none among them too. -/
theorem RdG.ownA {w : World} {base n c : Nat} {a : Option Addr} {E : TypeId} {G : List Gt} (h : w.ownsRow base E 4 (.slice a n c) n (gcs G)) (hl : G.length = n) (hb : ∀ g ∈ G, gbd g) : RdG w a n c G := by
  have hb' : ∀ i, i < n → (-9223372036854775808 ≤ (gt G i).k ∧ (gt G i).k ≤ 9223372036854775807) ∧ (-9223372036854775808 ≤ (gt G i).a ∧ (gt G i).a ≤ 9223372036854775807) ∧ (-9223372036854775808 ≤ (gt G i).b ∧ (gt G i).b ≤ 9223372036854775807) ∧ 0 ≤ (gt G i).n ∧ (gt G i).n ≤ 18446744073709551615 := fun i hi => by
    have := hb _ (gt_mem (show i < G.length by omega))
    unfold gbd at this
    omega
  rcases h.2 with ⟨e, rfl⟩ | ⟨g, cap, cur, e, _⟩
  · simp only [Value.slice.injEq] at e
    obtain ⟨rfl, _, rfl⟩ := e
    exact ⟨hl, Nat.le_refl _, Nat.zero_le _, fun _ => rfl, hb', fun x hx => by simp at hx⟩
  · simp only [Value.slice.injEq] at e
    obtain ⟨rfl, _, rfl⟩ := e
    exact RdG.own h hl hb'
theorem RdI.ownA {w : World} {base n c : Nat} {a : Option Addr} {E : TypeId} {L : List Int} (h : w.ownsRow base E 1 (.slice a n c) n (zns L)) (hb : ∀ x ∈ L, 0 ≤ x ∧ x ≤ 9999999999) : RdI w a n c L := by
  obtain ⟨a', c', e, hr⟩ := RdI.own h (fun x hx => by have := hb x hx; omega)
  simp only [Value.slice.injEq] at e
  obtain ⟨rfl, _, rfl⟩ := e
  exact hr
/-- What Parse answers. -/
def Prd (s : ByteArray) (w : World) (e : Ending) (w' : World) : Prop :=
  ∃ (ag : Option Addr) (cg : Nat) (ao : Option Addr) (co at_ : Nat) (r : Int) (G : List Gt) (O : List Int), e = .returned (.tuple #[.agg #[.slice ag G.length cg, .slice ao O.length co], .int .i64 (at_ : Int), .int .i64 r]) ∧ Par s G O at_ r ∧
    w'.ownsRow w.heap.size 43 4 (.slice ag G.length cg) G.length (gcs G) ∧ w'.ownsRow w.heap.size 3 1 (.slice ao O.length co) O.length (zns O) ∧ Below w.heap.size w w'
theorem Prd.err {s : ByteArray} {w w' : World} {a r : Int} {n : Nat} (h : Par s [] [] n r) (ha : a = (n : Int)) (hb : Below w.heap.size w w') : Prd s w (.returned (.tuple #[.agg #[.slice none 0 0, .slice none 0 0], .int .i64 a, .int .i64 r])) w' := by
  subst ha
  exact ⟨none, 0, none, 0, n, r, [], [], rfl, h, World.ownsRow_nil _ _ _ _, World.ownsRow_nil _ _ _ _, hb⟩
theorem two_put {w : World} {g : Nat} {u v x y : Value} (h0 : w.cell? ⟨g, 0, none⟩ = some u) (h1 : w.cell? ⟨g, 1, none⟩ = some v) :
    ((w.setCell ⟨g, 0, none⟩ x).setCell ⟨g, 1, none⟩ y).cell? ⟨g, 0, none⟩ = some x ∧ ((w.setCell ⟨g, 0, none⟩ x).setCell ⟨g, 1, none⟩ y).cell? ⟨g, 1, none⟩ = some y := by
  refine ⟨?_, ?_⟩
  · rw [World.cell?_setCell_other _ _ _ _ (by simp)]
    exact World.cell?_setCell_same w _ x h0
  · exact World.cell?_setCell_same _ _ y (show (w.setCell ⟨g, 0, none⟩ x).cell? ⟨g, 1, none⟩ = some v by rw [World.cell?_setCell_other _ _ _ _ (by simp)]; exact h1)
/-- A line that is neither. -/
theorem nok_num {t : ByteArray} {O : List Int} {k : Nat} (hl : (ags t).length = k) (h : ¬ okn (ags t) k) : Nok t O := by
  rintro (⟨g, ⟨j, _, _, e, ho, _⟩, _⟩ | ⟨x, _, e, ho, _⟩)
  · rw [← hl, e] at h; exact h ho
  · rw [← hl, e] at h; exact h ho
theorem nok_out {t : ByteArray} {O : List Int} (ho : tx (wds t) 0 = outB) (hl : (ags t).length ≠ 1) : Nok t O := by
  rintro (⟨g, ⟨j, hj, e, _⟩, _⟩ | ⟨x, _, e, _⟩)
  · exact vb_out j hj.2 (e.symm.trans ho)
  · exact hl e
theorem nok_outs {t : ByteArray} {O : List Int} (ho : tx (wds t) 0 ≠ outB) (h : O ≠ []) : Nok t O := by
  rintro (⟨g, _, e⟩ | ⟨x, e, _⟩)
  · exact h e
  · exact ho e
end
section
open Crm
/-- A number that is told, by its rest. -/
def nmg (g : Gt) : Gt := ⟨g.k, g.a, g.b, nm g.n⟩
def vbl (k : Nat) : List UInt8 := (vb k).data.toList
theorem vbl_no : ∀ k, k < 7 → ∀ d ∈ vbl k, (d.toNat : Int) ≠ 32 ∧ (d.toNat : Int) ≠ 10 := by decide +kernel
theorem vbl_len : ∀ k, k < 7 → (vbl k).length ≤ 5 := by decide +kernel
/-- A gate's line. -/
def gll (g : Gt) : List UInt8 :=
  vbl g.k.toNat ++ [32] ++ (if g.k = 1 then dd g.a.toNat else if g.k = 2 then dd (nm g.n).toNat else if g.k = 6 then dd g.a.toNat ++ [32] ++ dd (nm g.n).toNat else dd g.a.toNat ++ [32] ++ dd g.b.toNat)
/-- An out's line. -/
def oll (x : Int) : List UInt8 := [111, 117, 116] ++ [32] ++ dd x.toNat
theorem itb_of {x : Int} (h : 0 ≤ x) : itb x = toB (dd x.toNat) := by
  obtain ⟨u, rfl⟩ : ∃ u : Nat, x = u := ⟨x.toNat, by omega⟩
  rw [itb_dd, Int.toNat_natCast]
theorem sp_toB : (⟨#[32]⟩ : ByteArray) = toB [32] := rfl
theorem nl_toB : (⟨#[10]⟩ : ByteArray) = toB [10] := rfl
theorem out_toB : (⟨#[111, 117, 116, 32]⟩ : ByteArray) = toB [111, 117, 116, 32] := rfl
theorem vb_toB (k : Nat) : vb k = toB (vbl k) := (toB_list _).symm
theorem txt_snoc (L : List (List UInt8)) (x : List UInt8) : txt (L ++ [x]) = txt L ++ (x ++ [10]) := by simp [txt]
theorem txt_app (L M : List (List UInt8)) : txt (L ++ M) = txt L ++ txt M := by simp [txt]
theorem gln_toB {i : Nat} {g : Gt} (h : okg i g) (L : List (List UInt8)) : gln (toB (txt L)) g = toB (txt (L ++ [gll g])) := by
  have hn := nm_bd g.n
  unfold gln arg gll
  rw [txt_snoc]
  rcases h with ⟨h1, h3, _, _⟩ | ⟨h1, _, _⟩ | ⟨h1, h3, _⟩ | ⟨h1, h3, h4, _⟩
  · rw [if_pos h1, if_pos h1, itb_of (by omega), sp_toB, nl_toB, vb_toB]
    simp only [toB_app]
    congr 1
    simp
  · rw [if_neg (by omega), if_pos h1, if_neg (by omega), if_pos h1, itb_of (by omega), sp_toB, nl_toB, vb_toB]
    simp only [toB_app]
    congr 1
    simp
  · rw [if_neg (by omega), if_neg (by omega), if_pos h1, if_neg (by omega), if_neg (by omega), if_pos h1, itb_of (by omega), itb_of (x := nm g.n) (by omega), sp_toB, nl_toB, vb_toB]
    simp only [toB_app]
    congr 1
    simp
  · rw [if_neg (by omega), if_neg (by omega), if_neg (by omega), if_neg (by omega), if_neg (by omega), if_neg (by omega), itb_of (by omega), itb_of (x := g.b) (by omega), sp_toB, nl_toB, vb_toB]
    simp only [toB_app]
    congr 1
    simp
def gls (G : List Gt) (k : Nat) : List (List UInt8) := (List.range k).map fun i => gll (gt G i)
def ols (O : List Int) (k : Nat) : List (List UInt8) := (List.range k).map fun i => oll (O.getD i 0)
theorem gls_len (G : List Gt) (k : Nat) : (gls G k).length = k := by simp [gls]
theorem ols_len (O : List Int) (k : Nat) : (ols O k).length = k := by simp [ols]
theorem gls_succ (G : List Gt) (k : Nat) : gls G (k + 1) = gls G k ++ [gll (gt G k)] := by simp [gls, List.range_succ]
theorem ols_succ (O : List Int) (k : Nat) : ols O (k + 1) = ols O k ++ [oll (O.getD k 0)] := by simp [ols, List.range_succ]
theorem gtx_toB {G : List Gt} {n : Nat} (h : okG G n) : ∀ k, k ≤ n → gtx G k = toB (txt (gls G k))
  | 0, _ => rfl
  | k + 1, hk => by rw [gtx, gtx_toB h k (by omega), gln_toB (h k (by omega)), gls_succ]
theorem otx_toB {O : List Int} {n m : Nat} (h : okO O n m) (L : List (List UInt8)) : ∀ k, k ≤ m → otx (toB (txt L)) O k = toB (txt (L ++ ols O k))
  | 0, _ => by simp [otx, ols]
  | k + 1, hk => by
    have ho := h k (by omega)
    rw [otx, otx_toB h L k (by omega), ols_succ, ← List.append_assoc, txt_snoc, itb_of ho.1, nl_toB, out_toB]
    simp only [toB_app]
    simp [oll]
/-- The text of a right circuit. -/
theorem text_toB {G : List Gt} {O : List Int} {n m : Nat} (hG : okG G n) (hO : okO O n m) : otx (gtx G n) O m = toB (txt (gls G n ++ ols O m)) := by
  rw [gtx_toB hG n (Nat.le_refl _), otx_toB hO _ m (Nat.le_refl _)]
theorem kind_lt {i : Nat} {g : Gt} (h : okg i g) : 1 ≤ g.k.toNat ∧ g.k.toNat < 7 ∧ ((g.k.toNat : Nat) : Int) = g.k := by
  unfold okg at h
  omega
theorem gll_no10 {i : Nat} {g : Gt} (h : okg i g) : ∀ d ∈ gll g, (d.toNat : Int) ≠ 10 := by
  intro d hd
  unfold gll at hd
  have hk := kind_lt h
  rcases List.mem_append.1 hd with hd | hd
  · rcases List.mem_append.1 hd with hd | hd
    · exact (vbl_no _ hk.2.1 d hd).2
    · obtain rfl := List.mem_singleton.1 hd; decide
  · have two : ∀ a b : Nat, d ∈ dd a ++ [32] ++ dd b → (d.toNat : Int) ≠ 10 := fun a b hd => by
      rcases List.mem_append.1 hd with hd | hd
      · rcases List.mem_append.1 hd with hd | hd
        · exact dd_no10 _ d hd
        · obtain rfl := List.mem_singleton.1 hd; decide
      · exact dd_no10 _ d hd
    split at hd
    · exact dd_no10 _ d hd
    · split at hd
      · exact dd_no10 _ d hd
      · split at hd
        · exact two _ _ hd
        · exact two _ _ hd
theorem oll_no10 (x : Int) : ∀ d ∈ oll x, (d.toNat : Int) ≠ 10 := by
  intro d hd
  unfold oll at hd
  rcases List.mem_append.1 hd with hd | hd
  · simp at hd
    rcases hd with rfl | rfl | rfl | rfl <;> decide
  · exact dd_no10 _ d hd
theorem lines_no10 {G : List Gt} {O : List Int} {n m : Nat} (hG : okG G n) : ∀ x ∈ gls G n ++ ols O m, ∀ d ∈ x, (d.toNat : Int) ≠ 10 := by
  intro x hx
  rcases List.mem_append.1 hx with hx | hx
  · obtain ⟨i, hi, rfl⟩ := List.mem_map.1 hx
    exact gll_no10 (hG i (List.mem_range.1 hi))
  · obtain ⟨i, hi, rfl⟩ := List.mem_map.1 hx
    exact oll_no10 _
theorem ags_two {t : ByteArray} {a b : List UInt8} (h : wds t = [toB a, toB b]) : ags t = [toB b] := by unfold ags; rw [h]; rfl
theorem ags_three {t : ByteArray} {a b c : List UInt8} (h : wds t = [toB a, toB b, toB c]) : ags t = [toB b, toB c] := by unfold ags; rw [h]; rfl
theorem agn_dd0 {t : ByteArray} {u : Nat} {r : List ByteArray} (h : ags t = toB (dd u) :: r) : agn t 0 = (u : Int) := by
  unfold agn; rw [h]; exact dd_dgn u
theorem agn_dd1 {t : ByteArray} {u : Nat} {x : ByteArray} {r : List ByteArray} (h : ags t = x :: toB (dd u) :: r) : agn t 1 = (u : Int) := by
  unfold agn; rw [h]; exact dd_dgn u
theorem okn_one {t : ByteArray} {u : Nat} (hu : u < 10000000000) (h : ags t = [toB (dd u)]) : okn (ags t) 1 := fun i hi => by
  obtain rfl : i = 0 := by omega
  rw [h]
  exact dd_okd hu
theorem okn_two {t : ByteArray} {u v : Nat} (hu : u < 10000000000) (hv : v < 10000000000) (h : ags t = [toB (dd u), toB (dd v)]) : okn (ags t) 2 := fun i hi => by
  rw [h]
  match i, hi with
  | 0, _ => exact dd_okd hu
  | 1, _ => exact dd_okd hv
/-- A gate's line reads as the gate. -/
theorem lng_gll {i : Nat} {g : Gt} (hi : i ≤ 30) (h : okg i g) : Lng (toB (gll g)) (nmg g) := by
  have hn := nm_bd g.n
  have hk := kind_lt h
  have hv := fun d hd => (vbl_no _ hk.2.1 d hd).1
  refine ⟨g.k.toNat, ⟨hk.1, hk.2.1⟩, ?_⟩
  have hnm : g.n = 0 → nm g.n = 0 := fun e => by rw [e]; rfl
  rcases h with ⟨h1, h3, h5, h6⟩ | ⟨h1, h4, h5⟩ | ⟨h1, h3, h5⟩ | ⟨h1, h3, h4, h6⟩
  · have hw : wds (toB (gll g)) = [toB (vbl g.k.toNat), toB (dd g.a.toNat)] := by
      unfold gll; rw [if_pos h1]; exact wds_two hv (dd_no32 _)
    have ha := ags_two hw
    rw [h1] at hw ⊢
    refine ⟨by rw [hw]; exact (vb_toB _).symm, by rw [ha]; rfl, okn_one (u := g.a.toNat) (by omega) ha, ?_⟩
    unfold nmg gof
    rw [if_pos (by decide), agn_dd0 ha, h1, h5, hnm h6]
    congr 1
    omega
  · have hw : wds (toB (gll g)) = [toB (vbl g.k.toNat), toB (dd (nm g.n).toNat)] := by
      unfold gll; rw [if_neg (by omega), if_pos h1]; exact wds_two hv (dd_no32 _)
    have ha := ags_two hw
    rw [h1] at hw ⊢
    refine ⟨by rw [hw]; exact (vb_toB _).symm, by rw [ha]; rfl, okn_one (u := (nm g.n).toNat) (by omega) ha, ?_⟩
    unfold nmg gof
    rw [if_neg (by decide), if_pos (by decide), agn_dd0 ha, h1, h4, h5]
    congr 1
    omega
  · have hw : wds (toB (gll g)) = [toB (vbl g.k.toNat), toB (dd g.a.toNat), toB (dd (nm g.n).toNat)] := by
      unfold gll; rw [if_neg (by omega), if_neg (by omega), if_pos h1, ← List.append_assoc, ← List.append_assoc]; exact wds_three hv (dd_no32 _) (dd_no32 _)
    have ha := ags_three hw
    rw [h1] at hw ⊢
    refine ⟨by rw [hw]; exact (vb_toB _).symm, by rw [ha]; rfl, okn_two (u := g.a.toNat) (v := (nm g.n).toNat) (by omega) (by omega) ha, ?_⟩
    unfold nmg gof
    rw [if_neg (by decide), if_neg (by decide), if_pos (by decide), agn_dd0 ha, agn_dd1 ha, h1, h5]
    congr 1
    · omega
    · omega
  · have hw : wds (toB (gll g)) = [toB (vbl g.k.toNat), toB (dd g.a.toNat), toB (dd g.b.toNat)] := by
      unfold gll; rw [if_neg (by omega), if_neg (by omega), if_neg (by omega), ← List.append_assoc, ← List.append_assoc]; exact wds_three hv (dd_no32 _) (dd_no32 _)
    have ha := ags_three hw
    have har : arn g.k.toNat = 2 := by rcases h1 with h1 | h1 | h1 <;> rw [h1] <;> rfl
    refine ⟨by rw [hw]; exact (vb_toB _).symm, by rw [ha, har]; rfl, by rw [har]; exact okn_two (u := g.a.toNat) (v := g.b.toNat) (by omega) (by omega) ha, ?_⟩
    unfold nmg gof
    rw [if_neg (by omega), if_neg (by omega), if_neg (by omega), agn_dd0 ha, agn_dd1 ha, hnm h6]
    congr 1 <;> omega
theorem lno_oll {x : Int} (h0 : 0 ≤ x) (h1 : x < 10000000000) : Lno (toB (oll x)) x := by
  have hw : wds (toB (oll x)) = [toB [111, 117, 116], toB (dd x.toNat)] := wds_two (by decide) (dd_no32 _)
  have ha := ags_two hw
  refine ⟨by rw [hw]; rfl, by rw [ha]; rfl, okn_one (u := x.toNat) (by omega) ha, ?_⟩
  rw [agn_dd0 ha]
  omega
def nmG (G : List Gt) (k : Nat) : List Gt := (List.range k).map fun i => nmg (gt G i)
theorem nmG_len (G : List Gt) (k : Nat) : (nmG G k).length = k := by simp [nmG]
theorem nmG_gt (G : List Gt) {k i : Nat} (h : i < k) : gt (nmG G k) i = nmg (gt G i) := by
  unfold gt nmG
  simp [h]
  rfl
theorem nmG_succ (G : List Gt) (k : Nat) : nmG G (k + 1) = nmG G k ++ [nmg (gt G k)] := by simp [nmG, List.range_succ]
def oO (O : List Int) (k : Nat) : List Int := (List.range k).map fun i => O.getD i 0
theorem oO_succ (O : List Int) (k : Nat) : oO O (k + 1) = oO O k ++ [O.getD k 0] := by simp [oO, List.range_succ]
theorem oO_all {O : List Int} {m : Nat} (h : O.length = m) : oO O m = O := by
  apply List.ext_getElem?
  intro i
  by_cases hi : i < m
  · simp [oO, hi, h]
  · rw [List.getElem?_eq_none (by simp [oO]; omega), List.getElem?_eq_none (by omega)]
theorem rds_gates {G : List Gt} {O : List Int} {n m : Nat} (hG : okG G n) (hn : n ≤ 30) : ∀ k, k ≤ n → Rds (lns (toB (txt (gls G n ++ ols O m)))) k (nmG G k) []
  | 0, _ => ⟨rfl, rfl⟩
  | k + 1, hk => by
    refine ⟨nmG G k, [], rds_gates hG hn k (by omega), .inl ⟨nmg (gt G k), ?_, rfl, nmG_succ G k, rfl⟩⟩
    rw [tx_txt (lines_no10 hG) (by rw [List.length_append, gls_len]; omega)]
    have e : (gls G n ++ ols O m).getD k [] = gll (gt G k) := by
      rw [List.getD_eq_getElem?_getD, List.getElem?_append_left (by rw [gls_len]; omega)]
      simp [gls, show k < n by omega]
    rw [e]
    exact lng_gll (by omega) (hG k (by omega))
theorem rds_outs {G : List Gt} {O : List Int} {n m : Nat} (hG : okG G n) (hO : okO O n m) (hn : n ≤ 30) : ∀ j, j ≤ m → Rds (lns (toB (txt (gls G n ++ ols O m)))) (n + j) (nmG G n) (oO O j)
  | 0, _ => rds_gates hG hn n (Nat.le_refl _)
  | j + 1, hj => by
    refine ⟨nmG G n, oO O j, rds_outs hG hO hn j (by omega), .inr ⟨O.getD j 0, ?_, rfl, oO_succ O j⟩⟩
    show Lno (tx _ (n + j)) _
    rw [tx_txt (lines_no10 hG) (by rw [List.length_append, gls_len, ols_len]; omega)]
    have e : (gls G n ++ ols O m).getD (n + j) [] = oll (O.getD j 0) := by
      rw [List.getD_eq_getElem?_getD, List.getElem?_append_right (by rw [gls_len]; omega), gls_len, Nat.add_sub_cancel_left]
      simp [ols, show j < m by omega]
    rw [e]
    have := hO j (by omega)
    exact lno_oll this.1 (by omega)
theorem gll_len {i : Nat} {g : Gt} (hi : i ≤ 30) (h : okg i g) : (gll g).length ≤ 19 := by
  have hn := nm_bd g.n
  have hk := kind_lt h
  have hv := vbl_len _ hk.2.1
  have l2 := fun u (hu : u < 100) => dd_len 1 u (by simpa using hu)
  have l10 := dd_len 9 (nm g.n).toNat (by simp; omega)
  unfold gll
  rcases h with ⟨h1, h3, _, _⟩ | ⟨h1, _, _⟩ | ⟨h1, h3, _⟩ | ⟨h1, h3, h4, _⟩
  · rw [if_pos h1]; have := l2 g.a.toNat (by omega); simp; omega
  · rw [if_neg (by omega), if_pos h1]; simp; omega
  · rw [if_neg (by omega), if_neg (by omega), if_pos h1]; have := l2 g.a.toNat (by omega); simp; omega
  · rw [if_neg (by omega), if_neg (by omega), if_neg (by omega)]; have := l2 g.a.toNat (by omega); have := l2 g.b.toNat (by omega); simp; omega
theorem txt_len {L : List (List UInt8)} {b : Nat} (h : ∀ x ∈ L, x.length ≤ b) : (txt L).length ≤ (b + 1) * L.length := by
  induction L with
  | nil => simp [txt]
  | cons x L ih =>
    have e : txt (x :: L) = (x ++ [10]) ++ txt L := by simp [txt]
    have h1 := h x (by simp)
    have h2 := ih (fun y hy => h y (by simp [hy]))
    have e2 : (x :: L).length = L.length + 1 := rfl
    rw [e, List.length_append, List.length_append, e2, Nat.mul_add]
    simp
    omega
theorem text_size {G : List Gt} {O : List Int} {n m : Nat} (hG : okG G n) (hO : okO O n m) (hn : n ≤ 30) (hm : m ≤ 30) : (txt (gls G n ++ ols O m)).length ≤ 2048 := by
  rw [txt_app, List.length_append]
  have h1 := txt_len (L := gls G n) (b := 19) (fun x hx => by
    obtain ⟨i, hi, rfl⟩ := List.mem_map.1 hx
    have := List.mem_range.1 hi
    exact gll_len (by omega) (hG i this))
  have h2 := txt_len (L := ols O m) (b := 6) (fun x hx => by
    obtain ⟨i, hi, rfl⟩ := List.mem_map.1 hx
    have h3 := hO i (List.mem_range.1 hi)
    generalize O.getD i 0 = x at h3
    have := dd_len 1 x.toNat (by have : (10 : Nat) ^ (1 + 1) = 100 := rfl; omega)
    unfold oll
    simp
    omega)
  rw [gls_len] at h1
  rw [ols_len] at h2
  omega
theorem okg_nm {i : Nat} {g : Gt} (h : okg i g) : okg i (nmg g) := by
  unfold nmg
  rcases h with ⟨h1, h2, h3, h4⟩ | ⟨h1, h2, h3⟩ | ⟨h1, h2, h3⟩ | ⟨h1, h2, h3, h4⟩
  · exact .inl ⟨h1, h2, h3, by simp only; rw [h4]; rfl⟩
  · exact .inr (.inl ⟨h1, h2, h3⟩)
  · exact .inr (.inr (.inl ⟨h1, h2, h3⟩))
  · exact .inr (.inr (.inr ⟨h1, h2, h3, by simp only; rw [h4]; rfl⟩))
/-- What is printed of a right circuit is read as the circuit, numbers by P. -/
theorem par_text {G : List Gt} {O : List Int} {n m : Nat} (h : Cke G O n m 0) (hl : O.length = m) : Par (otx (gtx G n) O m) (nmG G n) O 0 0 := by
  obtain ⟨hn, hm, hG, hO⟩ := h.ok
  have hx := lines_no10 (O := O) (m := m) hG
  have hs := text_size hG hO hn.2 hm.2
  have hlen : (gls G n ++ ols O m).length = n + m := by rw [List.length_append, gls_len, ols_len]
  rw [text_toB hG hO]
  refine .inr ⟨by rw [toB_size]; exact hs, .inr ⟨nmG G n, O, ?_, .inr ⟨?_, rfl, ?_, .inr ⟨rfl, rfl, rfl⟩⟩⟩⟩
  · rw [lnn_txt hx, hlen]
    have := rds_outs hG hO hn.2 m (Nat.le_refl _)
    rwa [oO_all hl] at this
  · rw [lnn_txt hx]; exact tx_last hx
  · rw [nmG_len, hl]
    refine .inr ⟨⟨by omega, by omega⟩, .inr ⟨⟨hn.2, hm.2⟩, .inr ⟨⟨fun i hi => ?_, hO⟩, rfl⟩⟩⟩
    rw [nmG_gt G hi]
    exact okg_nm (hG i hi)
end
section
open Crm Go.RowKit
theorem infoS1r : (Tryd.prog.info? 9).map (·.size) = some 1 := by kernel_rfl
theorem outB_listR : outB.toList = [111, 117, 116] := by decide +kernel
/-- What readLine does: a gate more, an out more, or the line can't stand there. -/
def Rln (t : ByteArray) (B gc n m : Nat) (ag : Option Addr) (cg : Nat) (ao : Option Addr) (co : Nat) (G : List Gt) (O : List Int) (w : World) (e : Ending) (w' : World) : Prop :=
  ((∃ g a' c', Lng t g ∧ O = [] ∧ e = .returned (.bool true) ∧ Crd w' B gc a' (n + 1) c' ao m co (G ++ [nmg g]) O) ∨
   (∃ x a' c', Lno t x ∧ e = .returned (.bool true) ∧ Crd w' B gc ag n cg a' (m + 1) c' G (O ++ [x])) ∨
   (Nok t O ∧ e = .returned (.bool false))) ∧ Below B w w'
theorem nbl_at {L : List ByteArray} {k i : Nat} (h : i < k) : (nbl L k).getD i 0 = dgn (tx L i) (tx L i).size := by simp [nbl, h]
theorem nbl_bd {L : List ByteArray} {k : Nat} (h : okn L k) : ∀ v ∈ nbl L k, 0 ≤ v ∧ v ≤ 9999999999 := fun v hv => by
  obtain ⟨i, hi, rfl⟩ := List.mem_map.1 hv
  exact okd_bd (h i (List.mem_range.1 hi))
theorem gol_gof {k : Nat} {t : ByteArray} (h1 : 1 ≤ k) (h7 : k < 7) : gol k (nbl (ags t) (arn k)) = nmg (gof k t) := by
  have n0 : nm 0 = 0 := rfl
  rcases arn_of h1 h7 with ⟨rfl, e⟩ | ⟨rfl, e⟩ | ⟨rfl, e⟩ | ⟨h3, e⟩
  · rw [e]
    unfold gol gof nmg
    rw [if_pos rfl, if_pos rfl, nbl_at (by omega)]
    simp only [n0]
    rfl
  · rw [e]
    unfold gol gof nmg
    rw [if_neg (by omega), if_pos rfl, if_neg (by omega), if_pos rfl, nbl_at (by omega)]
    rfl
  · rw [e]
    unfold gol gof nmg
    rw [if_neg (by omega), if_neg (by omega), if_pos rfl, if_neg (by omega), if_neg (by omega), if_pos rfl, nbl_at (by omega), nbl_at (by omega)]
    rfl
  · rw [e]
    unfold gol gof nmg
    rw [if_neg (by omega), if_neg (by omega), if_neg (by omega), if_neg (by omega), if_neg (by omega), if_neg (by omega), nbl_at (by omega), nbl_at (by omega)]
    simp only [n0]
    rfl
/-- A line whose word is a kind's. -/
theorem lng_of {t : ByteArray} {k : Nat} (h1 : 1 ≤ k) (h7 : k < 7) (hx : shw k = tx (wds t) 0) (hl : (ags t).length = arn k) (ho : okn (ags t) (arn k)) : Lng t (gof k t) := ⟨k, ⟨h1, h7⟩, hx.symm, hl, ho, rfl⟩
/-- A line whose word is no out and no kind of as many numbers. -/
theorem nok_gate {t : ByteArray} {O : List Int} {k : Nat} (ho : tx (wds t) 0 ≠ outB) (hl : (ags t).length = k) (h : ∀ j, 1 ≤ j → j < 7 → shw j = tx (wds t) 0 → k ≠ arn j) : Nok t O := by
  rintro (⟨g, ⟨j, hj, e, e2, _⟩, _⟩ | ⟨x, e, _⟩)
  · exact h j hj.1 hj.2 e.symm (by rw [← hl, e2])
  · exact ho e

theorem cReadLine (B gc : Nat) (t : ByteArray) (ag : Option Addr) (n cg : Nat) (ao : Option Addr) (m co : Nat) (G : List Gt) (O : List Int) (w : World) (hC : Crd w B gc ag n cg ao m co G O) (hBg : B ≤ gc) (hS : Shp w) (ht : t.size ≤ 2048) (hn : n ≤ 3000) (hm : m ≤ 3000) (hob : ∀ x ∈ O, 0 ≤ x ∧ x ≤ 9999999999) :
    Calls Tryd.prog 26 #[.pointer (some ⟨gc, 0, none⟩), .string t] w fun e w' => Rln t B gc n m ag cg ao co G O w e w' := by
  have hwl := (pcs_len t 32 t.size)
  obtain ⟨k, hk⟩ : ∃ k, (wds t).length = k + 1 := ⟨(wds t).length - 1, by unfold wds; omega⟩
  have hkb : k ≤ 2048 := by have := hwl.2; unfold wds at hk; omega
  have HAL : Hid ((ags t).length = k) := by unfold Hid ags; rw [List.length_drop, hk]; rfl
  have HW : Hid ((wds t).length = k + 1) := hk
  have hgcl := hC.box.lt
  have hBw : B ≤ w.heap.size := by omega
  have hRT := rdT_alloc w (wds t) (by omega) (fun x hx => by have := pcs_size t 32 t.size x hx; omega)
  have hb1 : Below w.heap.size w (w.alloc (.cells ((wds t).map Value.string).toArray 9)) := (Below.refl _ _).alloc (Nat.le_refl _) _
  have HOB : Hid (∀ x ∈ O, 0 ≤ x ∧ x ≤ 9999999999) := hob
  rw [hk] at hRT
  clear hob hwl
  go_enter Tryd.func26, Tryd.ntmps26
  go_wp2_with fail
  refine (sSplit t w (by omega)).mono ?_
  rintro e w1 ⟨rfl, hw1⟩
  rw [hk]
  rw [← hw1] at hRT hb1
  clear hw1 hk
  have hC1 := hC.below hb1
  have hS1 := hS.below hb1
  have hRT1 := hRT.sub1
  obtain ⟨b0, o0, hd, hab, hbb, HHd, hds, hc0⟩ := hRT.one (k := 0) (by omega)
  simp only [Option.some.injEq, Addr.mk.injEq, and_true] at hab
  obtain ⟨rfl, rfl⟩ := hab
  simp only [Nat.add_zero] at hc0
  obtain ⟨X, HX⟩ : ∃ X, Hid (subA (some ⟨w.heap.size, 0, none⟩) (k + 1) 1 = X) := ⟨_, rfl⟩
  rw [HX.out, Nat.add_sub_cancel] at hRT1
  have hsl : ∀ W, (Instr.sliceAt 89 (.slice (some ⟨w.heap.size, 0, none⟩) (k + 1) (k + 1)) (some (.int .i64 1)) none none).run Tryd.prog W = .ok (.slice X k k) W := fun W => by
    rw [← HX.out]
    exact run_subl Tryd.underlying89 infoS1r (some ⟨w.heap.size, 0, none⟩) (k + 1) (k + 1) 1 rfl (by omega) W
  have hb1B := hb1.mono hBw
  clear hb1 hC hS
  go_wp2_with fail
  refine (cNumbers X k k (ags t) w1 hRT1 (by omega)).mono ?_
  rintro e w2 ⟨hNm, hb2⟩
  have hC2 := hC1.below hb2
  have hS2 := hS1.below hb2
  have hc02 : w2.cell? ⟨w.heap.size, 0, none⟩ = some (.string hd) := by rw [hb2.cell (World.block_lt_of_cell? w1 _ hc0)]; exact hc0
  have hl02 := World.block_lt_of_cell? w2 _ hc02
  have hb2B := hb1B.trans (hb2.mono (Nat.le_trans hBw hb1B.size))
  have hBw2 : B ≤ w2.heap.size := by have := hb2B.size; omega
  clear hC1 hS1 hb2 hc0 hb1B hRT1 hRT hsl hbb
  rcases hNm with ⟨hno, rfl⟩ | ⟨hok, gn, rfl, hgn, hbl⟩
  · have HN : Hid (Nok t O) := nok_num HAL.out hno
    clear hno
    go_wp2
    go_ret
    exact ⟨.inr (.inr ⟨HN.out, rfl⟩), hb2B⟩
  · have HON : Hid (okn (ags t) k) := hok
    have HBl : Hid (Blk w2 gn (nbl (ags t) k)) := hbl
    have hgl := hbl.lt
    clear hok
    by_cases hout : hd = outB
    · have he : (hd.toList == [111, 117, 116]) = true := by rw [← outB_listR]; exact tl_yes hout
      have HHo : Hid (tx (wds t) 0 = outB) := by unfold Hid; rw [HHd.out]; exact hout
      clear hout
      by_cases hk1 : k = 1
      · subst hk1
        obtain ⟨x0, HX0⟩ : ∃ x, Hid (agn t 0 = x) := ⟨_, rfl⟩
        have hcn := hbl.cell (i := 0) (by rw [nbl_len]; omega)
        rw [nbl_at (by omega), show dgn (tx (ags t) 0) (tx (ags t) 0).size = x0 from HX0.out] at hcn
        have hx0 : 0 ≤ x0 ∧ x0 ≤ 9999999999 := by rw [← HX0.out]; exact ag_bd HON.out (by omega)
        have hwr : IntKind.i64.wrap x0 = x0 := by rw [IntKind.wrap_i64]; omega
        have HL : Hid (Lno t x0) := ⟨HHo.out, HAL.out, HON.out, HX0.out.symm⟩
        have hownD : w2.drew.ownsRow B 3 1 (.slice ao m co) m (zns O) := hC2.ins
        have HGf : Hid (zns O ++ [.int .i64 x0] = zns (O ++ [x0])) := zns_snoc O x0
        have HUP : Hid (∀ g7 c7 w7, w7.ownsRow B 3 1 (.slice (some ⟨g7, 0, none⟩) (m + 1) c7) (m + 1) (zns (O ++ [x0])) → w2.drew.grownBy w7 (Value.slice ao m co).ownBlock →
            ((∃ x, w7.cell? ⟨gc, 1, none⟩ = some x) ∧ w7.frozen? ⟨gc, 1, none⟩ = false) ∧ Crd (w7.setCell ⟨gc, 1, none⟩ (.slice (some ⟨g7, 0, none⟩) (m + 1) c7)) B gc ag n cg (some ⟨g7, 0, none⟩) (m + 1) c7 G (O ++ [x0]) ∧ Below B w (w7.setCell ⟨gc, 1, none⟩ (.slice (some ⟨g7, 0, none⟩) (m + 1) c7))) := fun g7 c7 w7 ho hg => by
          have hCd : Crd w2.drew B gc ag n cg ao m co G O := ⟨hC2.box, hC2.ln, hC2.lo, hC2.own, hC2.ins⟩
          have hb7 := hCd.box.grown hg (box_apart hCd.box hCd.ins eIC)
          exact ⟨⟨⟨_, hb7.cells.2⟩, hb7.frozen 1⟩, hCd.out ho hg, ((hb2B.drew).grown hg (by exact hBw2) (fun q hq => (hCd.ins.lt q hq).1)).setCell (p := ⟨gc, 1, none⟩) hBg _⟩
        obtain ⟨d0, d1⟩ := hC2.box.cells
        have hgc2 := hC2.box.lt
        clear hC2 hS2 hb2B hbl HBl
        go_wp2
        go_region_law (refine step_appZ Tryd.underlying23 infoIt rfl (by decide) (by decide) w2.drew rfl _ _ rfl B _ _ _ rfl hownD [.int .i64 x0] rfl (by intro u hu; simp at hu; subst hu; rfl) rfl rfl (by omega) (by exact hBw2) ?_; intro g7 c7 w7 ho7 hgr7 _; rw [HGf.out] at ho7; obtain ⟨⟨⟨xx, dd⟩, ff⟩, hE⟩ := HUP.out g7 c7 w7 ho7 hgr7; have hl7 := World.block_lt_of_cell? w7 _ dd; have HE : Hid (_ ∧ _) := hE; clear ho7 hgr7 hE)
        all_goals
          clear HUP hownD
          go_wp2
          go_ret
          exact ⟨.inr (.inl ⟨x0, _, _, HL.out, rfl, HE.out.1⟩), HE.out.2⟩
      · have HN : Hid (Nok t O) := nok_out HHo.out (by rw [HAL.out]; exact hk1)
        have hkb1 : ((k : Int) != 1) = true := by rw [bne_iff_ne]; omega
        clear hk1 hC2 hS2 hbl HBl
        go_wp2
        go_ret
        exact ⟨.inr (.inr ⟨HN.out, rfl⟩), hb2B⟩
    · have he : (hd.toList == [111, 117, 116]) = false := by rw [← outB_listR]; exact tl_no hout
      have HHo : Hid (tx (wds t) 0 ≠ outB) := by unfold Hid; rw [HHd.out]; exact hout
      clear hout
      go_wp2_with fail
      refine (cReadGate hd gn k (nbl (ags t) k) w2 hbl (nbl_len _ _) (by omega) (nbl_bd HON.out) hS2).mono ?_
      rintro e w3 ⟨hor, hb3⟩
      have hC3 := hC2.below hb3
      have hb3B := hb2B.trans (hb3.mono hBw2)
      have hBw3 : B ≤ w3.heap.size := by have := hb3.size; omega
      clear hC2 hS2 hb3 hbl HBl hb2B hc02 hl02 he
      rcases hor with ⟨q, hq1, hq7, hqx, hqn, rfl⟩ | ⟨hno, rfl⟩
      · obtain ⟨GG, HGG⟩ : ∃ g, Hid (gol q (nbl (ags t) k) = g) := ⟨_, rfl⟩
        have HLg : Hid (Lng t (gof q t)) := by
          refine lng_of hq1 hq7 (hqx.trans HHd.out.symm) (by rw [HAL.out]; exact hqn) ?_
          rw [← hqn]
          exact HON.out
        have HGE : Hid (GG = nmg (gof q t)) := by unfold Hid; rw [← HGG.out, hqn]; exact gol_gof hq1 hq7
        rw [HGG.out]
        obtain ⟨gk, ga, gb, gn'⟩ := GG
        unfold gcell
        simp only
        have hbA : Below w3.heap.size w3 (w3.alloc (.cells #[.int .i64 gk, .int .i64 ga, .int .i64 gb, .int .u64 gn'] 43)) := (Below.refl _ _).alloc (Nat.le_refl _) _
        have hP := Gbx.new w3 gk ga gb gn'
        have hC4 := hC3.below hbA
        have hb4B := hb3B.trans (hbA.mono hBw3)
        clear hqx hqn hq1 hq7 hC3 hb3B
        go_upto_region 11 with fail
        generalize w3.alloc (.cells #[.int .i64 gk, .int .i64 ga, .int .i64 gb, .int .u64 gn'] 43) = w4 at *
        have hBw4 : B ≤ w4.heap.size := by have := hbA.size; omega
        obtain ⟨d0, d1⟩ := hC4.box.cells
        obtain ⟨p0, p1, p2, p3⟩ := hP.cells
        have pl := hP.lt
        have hgc4 := hC4.box.lt
        clear hbA
        by_cases hm0 : m = 0
        · subst hm0
          have HO : Hid (O = []) := List.length_eq_zero_iff.1 hC4.lo
          have hownD : w4.drew.ownsRow B 43 4 (.slice ag n cg) n (gcs G) := hC4.own
          have HGf : Hid (gcs G ++ [.int .i64 gk, .int .i64 ga, .int .i64 gb, .int .u64 gn'] = gcs (G ++ [⟨gk, ga, gb, gn'⟩])) := gcs_snoc G ⟨gk, ga, gb, gn'⟩
          have HUP : Hid (∀ g7 c7 w7, w7.ownsRow B 43 4 (.slice (some ⟨g7, 0, none⟩) (n + 1) c7) (n + 1) (gcs (G ++ [⟨gk, ga, gb, gn'⟩])) → w4.drew.grownBy w7 (Value.slice ag n cg).ownBlock →
              ((∃ x, w7.cell? ⟨gc, 0, none⟩ = some x) ∧ w7.frozen? ⟨gc, 0, none⟩ = false) ∧ Crd (w7.setCell ⟨gc, 0, none⟩ (.slice (some ⟨g7, 0, none⟩) (n + 1) c7)) B gc (some ⟨g7, 0, none⟩) (n + 1) c7 ao 0 co (G ++ [⟨gk, ga, gb, gn'⟩]) O ∧ Below B w (w7.setCell ⟨gc, 0, none⟩ (.slice (some ⟨g7, 0, none⟩) (n + 1) c7))) := fun g7 c7 w7 ho hg => by
            have hCd : Crd w4.drew B gc ag n cg ao 0 co G O := ⟨hC4.box, hC4.ln, hC4.lo, hC4.own, hC4.ins⟩
            have hb7 := hCd.box.grown hg (box_apart hCd.box hCd.own eGC)
            exact ⟨⟨⟨_, hb7.cells.1⟩, hb7.frozen 0⟩, hCd.gate ho hg, ((hb4B.drew).grown hg (by exact hBw4) (fun q hq => (hCd.own.lt q hq).1)).setCell (p := ⟨gc, 0, none⟩) hBg _⟩
          clear hC4 hb4B hP
          go_wp2
          go_region_law (refine step_appZ Tryd.underlying22 infoGt rfl (by decide) (by decide) w4.drew rfl _ _ rfl B _ _ _ rfl hownD [.int .i64 gk, .int .i64 ga, .int .i64 gb, .int .u64 gn'] rfl (by intro u hu; simp at hu; rcases hu with rfl | rfl | rfl | rfl <;> rfl) rfl rfl (by omega) (by exact hBw4) ?_; intro g7 c7 w7 ho7 hgr7 _; rw [HGf.out] at ho7; obtain ⟨⟨⟨xx, dd⟩, ff⟩, hE⟩ := HUP.out g7 c7 w7 ho7 hgr7; have hl7 := World.block_lt_of_cell? w7 _ dd; have HE : Hid (_ ∧ _) := hE; clear ho7 hgr7 hE)
          all_goals
            clear HUP hownD
            go_wp2
            go_ret
            exact ⟨.inl ⟨gof q t, _, _, HLg.out, HO.out, rfl, by rw [← HGE.out]; exact HE.out.1⟩, HE.out.2⟩
        · have HN : Hid (Nok t O) := nok_outs HHo.out (fun e => hm0 (by rw [← hC4.lo, e]; rfl))
          have hmp : (0 : Int) < (m : Int) := by omega
          clear hm0
          go_wp2
          go_ret
          exact ⟨.inr (.inr ⟨HN.out, rfl⟩), hb4B⟩
      · have HN : Hid (Nok t O) := nok_gate HHo.out HAL.out (fun j h1 h7 e => hno j h1 h7 (e.trans HHd.out))
        have hbA : Below w3.heap.size w3 (w3.alloc (.cells #[.int .i64 0, .int .i64 0, .int .i64 0, .int .u64 0] 43)) := (Below.refl _ _).alloc (Nat.le_refl _) _
        have hb4B := hb3B.trans (hbA.mono hBw3)
        unfold gcell
        simp only
        clear hno hC3 hb3B
        go_wp2
        go_ret
        exact ⟨.inr (.inr ⟨HN.out, rfl⟩), hb4B⟩
end
end Go.Proofs.YtljlioglpaogdafDoor
