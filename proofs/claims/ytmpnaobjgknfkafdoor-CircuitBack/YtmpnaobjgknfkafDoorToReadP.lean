/- A circuit that is being read: its box, its gates and outs. · What is read of a text: bounds; what Parse answers. -/
import Derived.Test.YtmpnaobjgknfkafDoorToParM
import Derived.Test.YtmpnaobjgknfkafDoorToOutsM
import Derived.Test.YtmpnaobjgknfkafDoorToTwoC
import Derived.Deep.AppendLies
import Derived.Deep.RegionLaw
import Derived.Test.YtmpnaobjgknfkafDoorToKindC
namespace Go.Proofs.YtmpnaobjgknfkafDoor
open Go.RowKit Crm

/-- append of one element of z cells to a slice that the call itself gathers, a step of a region that draws; where it lies. -/
theorem step_appZ {P : Program} {T E : TypeId} {z0 : Value} {z by_ : Nat} (hT : P.underlying T = some (.slice E)) (info : (P.info? E).map (fun i => (i.zero, i.size, i.bytes)) = some (some z0, z, by_)) (hz : z0.cells.size = z) (hzp : 0 < z) (hby : by_ ≤ 100)
    (w : World) {w1 : World} {ops : Array Oper} {o : Oper} {a : Act} {K : Act → World → Prop} {Q : Exit → Act → World → Prop} {F : Prop} (hgd : o.guard = none) (s x : Operand)
    (ho : o.op = .call { callee := .builtin .append, args := #[s, x], argTypes := #[T, T] })
    (base : Nat) (v : Value) (n : Nat) (xs : List Value) (hs : a.eval s = v) (hown : w.ownsRow base E z v n xs) (ys : List Value) (hyl : ys.length = z) (hy1 : ∀ u ∈ ys, u.oneCell' = true) (hx : a.eval x = .slice (some ⟨w.heap.size, 0, none⟩) 1 1)
    (hw1 : w1 = w.alloc (.cells ys.toArray E)) (hn : n ≤ 1000000) (hbase : base ≤ w.heap.size)
    (h : ∀ g cap w', w'.ownsRow base E z (.slice (some ⟨g, 0, none⟩) (n + 1) cap) (n + 1) (xs ++ ys) → w.grownBy w' v.ownBlock → base ≤ g → K (a.put o.dst (.slice (some ⟨g, 0, none⟩) (n + 1) cap)) w') :
    if Region.wanted o (yielded ops a.tmps) = true then Oper.wp P o a w1 K Q else F := by
  subst hw1
  obtain ⟨i0, hi, hz0, hz1, hz2⟩ := info_parts info
  refine step_append_lies _ hgd s x T ho base E i0 z0 z by_ hT hi hz0 hz1 hz2 hz hzp v n _ hs (hown.alloc _) ⟨w.heap.size, 0, none⟩ 1 1 ys hx (by rw [hyl, Nat.one_mul]) ?_ hy1 (by decide) (by unfold maxLen; omega) ?_ (by simp; omega) _ rfl ?_
  · intro j u hj
    exact World.news_of_block (heap_alloc_new w (.cells ys.toArray E)) j u (by simpa using hj)
  · have : (n + 1) * by_ ≤ 1000001 * 100 := Nat.mul_le_mul (by omega) hby
    omega
  · intro g cap w' hown' hgrow _ _
    refine h g cap w' hown' ⟨hgrow.os, hgrow.tape, hgrow.output, ?_, fun k hk hne => ?_⟩ (hown'.lt g rfl).1
    · have := hgrow.size; simp at this; omega
    · rw [hgrow.block k (by simp; omega) hne]; exact Below.heap_alloc _ _ _ hk
theorem infoGt : (Tryd.prog.info? 43).map (fun i => (i.zero, i.size, i.bytes)) = some (some (.agg #[.int .i64 0, .int .i64 0, .int .i64 0, .int .u64 0]), 4, 32) := by kernel_rfl
theorem infoIt : (Tryd.prog.info? 3).map (fun i => (i.zero, i.size, i.bytes)) = some (some (.int .i64 0), 1, 8) := by kernel_rfl
theorem gcs_snoc (G : List Gt) (g : Gt) : gcs G ++ [.int .i64 g.k, .int .i64 g.a, .int .i64 g.b, .int .u64 g.n] = gcs (G ++ [g]) := by simp [gcs]

structure Crd (w : World) (B gc : Nat) (ag : Option Addr) (n cg : Nat) (ao : Option Addr) (m co : Nat) (G : List Gt) (O : List Int) : Prop where
  box : CBox w gc ag n cg ao m co
  ln : G.length = n
  lo : O.length = m
  own : w.ownsRow B 43 4 (.slice ag n cg) n (gcs G)
  ins : w.ownsRow B 3 1 (.slice ao m co) m (zns O)
theorem own_belowZ {w w' : World} {base n z : Nat} {E : TypeId} {v : Value} {xs : List Value} (h : w.ownsRow base E z v n xs) (hb : Below w.heap.size w w') : w'.ownsRow base E z v n xs :=
  h.kept (grown_below hb none) (by cases h' : v.ownBlock <;> simp)
theorem Crd.below {w w' : World} {B gc : Nat} {ag : Option Addr} {n cg : Nat} {ao : Option Addr} {m co : Nat} {G : List Gt} {O : List Int} (h : Crd w B gc ag n cg ao m co G O) (hb : Below w.heap.size w w') : Crd w' B gc ag n cg ao m co G O :=
  ⟨h.box.below hb h.box.lt, h.ln, h.lo, own_belowZ h.own hb, own_belowZ h.ins hb⟩
theorem box_apart {w : World} {gc : Nat} {ag : Option Addr} {n cg : Nat} {ao : Option Addr} {m co : Nat} {B k z : Nat} {E : TypeId} {v : Value} {xs : List Value} (h : CBox w gc ag n cg ao m co) (ho : w.ownsRow B E z v k xs) (hE : E ≠ 25) : some gc ≠ v.ownBlock := by
  rcases ho.2 with ⟨rfl, _⟩ | ⟨g, cap, cur, rfl, _, hg, _⟩
  · simp [Value.ownBlock]
  · intro e
    have e' : gc = g := by simpa [Value.ownBlock] using e
    subst e'
    unfold CBox at h
    rw [hg] at h
    simp only [Option.some.injEq, Obj.cells.injEq] at h
    exact hE h.2.1
/-- When another row grows. -/
theorem Crd.grown {w w' : World} {B gc : Nat} {ag : Option Addr} {n cg : Nat} {ao : Option Addr} {m co : Nat} {G : List Gt} {O : List Int} {r : Option Nat} (h : Crd w B gc ag n cg ao m co G O) (hg : w.grownBy w' r) (h1 : some gc ≠ r) (h2 : (Value.slice ag n cg).ownBlock = none ∨ (Value.slice ag n cg).ownBlock ≠ r) (h3 : (Value.slice ao m co).ownBlock = none ∨ (Value.slice ao m co).ownBlock ≠ r) : Crd w' B gc ag n cg ao m co G O :=
  ⟨h.box.grown hg h1, h.ln, h.lo, h.own.kept hg h2, h.ins.kept hg h3⟩
theorem CBox.set0 {w : World} {gc : Nat} {ag : Option Addr} {n cg : Nat} {ao : Option Addr} {m co : Nat} (h : CBox w gc ag n cg ao m co) (a : Option Addr) (n' c : Nat) : CBox (w.setCell ⟨gc, 0, none⟩ (.slice a n' c)) gc a n' c ao m co := by
  have := heap_setCell_same w gc 0 _ _ (.slice a n' c) h
  unfold CBox
  rw [this]
  rfl
theorem CBox.set1 {w : World} {gc : Nat} {ag : Option Addr} {n cg : Nat} {ao : Option Addr} {m co : Nat} (h : CBox w gc ag n cg ao m co) (a : Option Addr) (n' c : Nat) : CBox (w.setCell ⟨gc, 1, none⟩ (.slice a n' c)) gc ag n cg a n' c := by
  have := heap_setCell_same w gc 1 _ _ (.slice a n' c) h
  unfold CBox
  rw [this]
  rfl
theorem CBox.frozen {w : World} {gc : Nat} {ag : Option Addr} {n cg : Nat} {ao : Option Addr} {m co : Nat} (h : CBox w gc ag n cg ao m co) (i : Nat) : w.frozen? ⟨gc, i, none⟩ = false := frozen_of_row w gc i _ _ h
theorem eGC : (43 : TypeId) ≠ 25 := by decide
theorem eIC : (3 : TypeId) ≠ 25 := by decide
theorem eGI : (43 : TypeId) ≠ 3 := by decide
theorem eSG : (9 : TypeId) ≠ 43 := by decide
theorem eSI : (9 : TypeId) ≠ 3 := by decide
theorem eSC : (9 : TypeId) ≠ 25 := by decide
/-- One gate more: the row grows, and is laid into the box. -/
theorem Crd.gate {w w7 : World} {B gc g7 c7 : Nat} {ag : Option Addr} {n cg : Nat} {ao : Option Addr} {m co : Nat} {G : List Gt} {O : List Int} {x : Gt} (h : Crd w B gc ag n cg ao m co G O)
    (ho : w7.ownsRow B 43 4 (.slice (some ⟨g7, 0, none⟩) (n + 1) c7) (n + 1) (gcs (G ++ [x]))) (hg : w.grownBy w7 (Value.slice ag n cg).ownBlock) :
    Crd (w7.setCell ⟨gc, 0, none⟩ (.slice (some ⟨g7, 0, none⟩) (n + 1) c7)) B gc (some ⟨g7, 0, none⟩) (n + 1) c7 ao m co (G ++ [x]) O := by
  have hb7 := h.box.grown hg (box_apart h.box h.own eGC)
  have hi7 := h.ins.kept hg (own_apart h.own h.ins eGI)
  have hg2 : w7.grownBy (w7.setCell ⟨gc, 0, none⟩ (.slice (some ⟨g7, 0, none⟩) (n + 1) c7)) (some gc) := grown_set _ _ _ _
  have k1 := box_apart hb7 ho eGC
  have k2 := box_apart hb7 hi7 eIC
  exact ⟨hb7.set0 _ _ _, by simp [h.ln], h.lo, ho.kept hg2 (.inr (fun e => k1 e.symm)), hi7.kept hg2 (.inr (fun e => k2 e.symm))⟩
/-- One out more. -/
theorem Crd.out {w w7 : World} {B gc g7 c7 : Nat} {ag : Option Addr} {n cg : Nat} {ao : Option Addr} {m co : Nat} {G : List Gt} {O : List Int} {x : Int} (h : Crd w B gc ag n cg ao m co G O)
    (ho : w7.ownsRow B 3 1 (.slice (some ⟨g7, 0, none⟩) (m + 1) c7) (m + 1) (zns (O ++ [x]))) (hg : w.grownBy w7 (Value.slice ao m co).ownBlock) :
    Crd (w7.setCell ⟨gc, 1, none⟩ (.slice (some ⟨g7, 0, none⟩) (m + 1) c7)) B gc ag n cg (some ⟨g7, 0, none⟩) (m + 1) c7 G (O ++ [x]) := by
  have hb7 := h.box.grown hg (box_apart h.box h.ins eIC)
  have hi7 := h.own.kept hg (own_apart h.ins h.own (fun e => eGI e.symm))
  have hg2 : w7.grownBy (w7.setCell ⟨gc, 1, none⟩ (.slice (some ⟨g7, 0, none⟩) (m + 1) c7)) (some gc) := grown_set _ _ _ _
  have k1 := box_apart hb7 ho eIC
  have k2 := box_apart hb7 hi7 eGC
  exact ⟨hb7.set1 _ _ _, h.ln, by simp [h.lo], hi7.kept hg2 (.inr (fun e => k2 e.symm)), ho.kept hg2 (.inr (fun e => k1 e.symm))⟩
/-- What is gathered beside it stays. -/
theorem own_beside {w w7 : World} {B gc k z r z2 : Nat} {E E2 : TypeId} {v v2 : Value} {xs ys : List Value} {u : Value} {ag : Option Addr} {n cg : Nat} {ao : Option Addr} {m co i : Nat} (h : w.ownsRow B E z v k xs) (h2 : w.ownsRow B E2 z2 v2 r ys) (hE : E2 ≠ E) (hC : E ≠ 25) (hg : w.grownBy w7 v2.ownBlock) (hb : CBox w7 gc ag n cg ao m co) :
    (w7.setCell ⟨gc, i, none⟩ u).ownsRow B E z v k xs := by
  have h7 := h.kept hg (own_apart h2 h hE)
  have k1 := box_apart hb h7 hC
  exact h7.kept (grown_set _ _ _ _) (.inr (fun e => k1 e.symm))
end Go.Proofs.YtmpnaobjgknfkafDoor

namespace Go.Proofs.YtmpnaobjgknfkafDoor
open Go.RowKit Crm

theorem arn_of {k : Nat} (h1 : 1 ≤ k) (h7 : k < 7) : (k = 1 ∧ arn k = 1) ∨ (k = 2 ∧ arn k = 1) ∨ (k = 6 ∧ arn k = 2) ∨ ((k = 3 ∨ k = 4 ∨ k = 5) ∧ arn k = 2) := by
  have : k = 1 ∨ k = 2 ∨ k = 3 ∨ k = 4 ∨ k = 5 ∨ k = 6 := by omega
  rcases this with rfl | rfl | rfl | rfl | rfl | rfl <;> simp [arn]
theorem ag_bd {t : ByteArray} {n i : Nat} (h : okn (ags t) n) (hi : i < n) : 0 ≤ agn t i ∧ agn t i ≤ 9999999999 := okd_bd (h i hi)
def gbd (g : Gt) : Prop := (1 ≤ g.k ∧ g.k ≤ 6) ∧ (0 ≤ g.a ∧ g.a ≤ 9999999999) ∧ (0 ≤ g.b ∧ g.b ≤ 9999999999) ∧ 0 ≤ g.n ∧ g.n ≤ 9999999999
theorem gof_bd {k : Nat} {t : ByteArray} (h1 : 1 ≤ k) (h7 : k < 7) (ho : okn (ags t) (arn k)) : gbd (gof k t) := by
  rcases arn_of h1 h7 with ⟨rfl, e⟩ | ⟨rfl, e⟩ | ⟨rfl, e⟩ | ⟨h3, e⟩
  · rw [e] at ho
    have := ag_bd ho (i := 0) (by omega)
    unfold gof gbd
    simp
    omega
  · rw [e] at ho
    have := ag_bd ho (i := 0) (by omega)
    unfold gof gbd
    simp
    omega
  · rw [e] at ho
    have := ag_bd ho (i := 0) (by omega)
    have := ag_bd ho (i := 1) (by omega)
    unfold gof gbd
    simp
    omega
  · rw [e] at ho
    have := ag_bd ho (i := 0) (by omega)
    have := ag_bd ho (i := 1) (by omega)
    unfold gof gbd
    rw [if_neg (by omega), if_neg (by omega), if_neg (by omega)]
    simp only
    omega
theorem Rds.bd {l : List ByteArray} : ∀ {i : Nat} {G : List Gt} {O : List Int}, Rds l i G O → (∀ g ∈ G, gbd g) ∧ (∀ x ∈ O, 0 ≤ x ∧ x ≤ 9999999999)
  | 0, _, _, h => by obtain ⟨rfl, rfl⟩ := h; exact ⟨fun g hg => by simp at hg, fun x hx => by simp at hx⟩
  | i + 1, _, _, h => by
    obtain ⟨G0, O0, h0, h1⟩ := h
    obtain ⟨b1, b2⟩ := h0.bd
    rcases h1 with ⟨g, ⟨k, hk, _, _, ho, rfl⟩, _, rfl, rfl⟩ | ⟨x, ⟨_, _, ho, rfl⟩, rfl, rfl⟩
    · refine ⟨fun y hy => ?_, fun x hx => by simp at hx⟩
      rcases List.mem_append.1 hy with hy | hy
      · exact b1 y hy
      · obtain rfl := List.mem_singleton.1 hy
        exact gof_bd hk.1 hk.2 ho
    · refine ⟨b1, fun y hy => ?_⟩
      rcases List.mem_append.1 hy with hy | hy
      · exact b2 y hy
      · obtain rfl := List.mem_singleton.1 hy
        exact ag_bd ho (by omega)
theorem Par.gbd {s : ByteArray} {G : List Gt} {O : List Int} {a : Nat} {r : Int} (h : Par s G O a r) : (∀ g ∈ G, gbd g) ∧ (∀ x ∈ O, 0 ≤ x ∧ x ≤ 9999999999) := by
  have nil : (∀ g ∈ ([] : List Gt), Go.Proofs.YtmpnaobjgknfkafDoor.gbd g) ∧ (∀ x ∈ ([] : List Int), 0 ≤ x ∧ x ≤ 9999999999) := ⟨fun g hg => by simp at hg, fun x hx => by simp at hx⟩
  rcases h with ⟨_, rfl, rfl, _, _⟩ | ⟨_, ⟨_, _, _, _, _, _, rfl, rfl, _, _⟩ | ⟨G0, O0, h1, ⟨_, rfl, rfl, _, _⟩ | ⟨_, _, _, ⟨_, rfl, rfl⟩ | ⟨_, rfl, rfl⟩⟩⟩⟩
  · exact nil
  · exact nil
  · exact nil
  · exact nil
  · exact h1.bd
theorem gt_mem {G : List Gt} {i : Nat} (h : i < G.length) : gt G i ∈ G := by
  unfold gt
  rw [List.getD_eq_getElem?_getD, List.getElem?_eq_getElem h]
  exact List.getElem_mem _
/-- Gates that a call has made its own, none among them too. -/
theorem RdG.ownA {w : World} {base n c : Nat} {a : Option Addr} {E : TypeId} {G : List Gt} (h : w.ownsRow base E 4 (.slice a n c) n (gcs G)) (hl : G.length = n) (hb : ∀ g ∈ G, gbd g) : RdG w a n c G := by
  have hb' : ∀ i, i < n → (-9223372036854775808 ≤ (gt G i).k ∧ (gt G i).k ≤ 9223372036854775807) ∧ (-9223372036854775808 ≤ (gt G i).a ∧ (gt G i).a ≤ 9223372036854775807) ∧ (-9223372036854775808 ≤ (gt G i).b ∧ (gt G i).b ≤ 9223372036854775807) ∧ 0 ≤ (gt G i).n ∧ (gt G i).n ≤ 18446744073709551615 := fun i hi => by
    have := hb _ (gt_mem (show i < G.length by omega))
    unfold gbd at this
    omega
  rcases h.2 with ⟨e, rfl⟩ | ⟨g, cap, cur, e, _⟩
  · simp only [Value.slice.injEq] at e
    obtain ⟨rfl, _, rfl⟩ := e
    exact ⟨hl, Nat.le_refl _, Nat.zero_le _, fun _ => rfl, hb', fun x hx => by simp at hx⟩
  · simp only [Value.slice.injEq] at e
    obtain ⟨rfl, _, rfl⟩ := e
    exact RdG.own h hl hb'
theorem RdI.ownA {w : World} {base n c : Nat} {a : Option Addr} {E : TypeId} {L : List Int} (h : w.ownsRow base E 1 (.slice a n c) n (zns L)) (hb : ∀ x ∈ L, 0 ≤ x ∧ x ≤ 9999999999) : RdI w a n c L := by
  obtain ⟨a', c', e, hr⟩ := RdI.own h (fun x hx => by have := hb x hx; omega)
  simp only [Value.slice.injEq] at e
  obtain ⟨rfl, _, rfl⟩ := e
  exact hr
/-- What Parse answers. -/
def Prd (s : ByteArray) (w : World) (e : Ending) (w' : World) : Prop :=
  ∃ (ag : Option Addr) (cg : Nat) (ao : Option Addr) (co at_ : Nat) (r : Int) (G : List Gt) (O : List Int), e = .returned (.tuple #[.agg #[.slice ag G.length cg, .slice ao O.length co], .int .i64 (at_ : Int), .int .i64 r]) ∧ Par s G O at_ r ∧
    w'.ownsRow w.heap.size 43 4 (.slice ag G.length cg) G.length (gcs G) ∧ w'.ownsRow w.heap.size 3 1 (.slice ao O.length co) O.length (zns O) ∧ Below w.heap.size w w'
theorem Prd.err {s : ByteArray} {w w' : World} {a r : Int} {n : Nat} (h : Par s [] [] n r) (ha : a = (n : Int)) (hb : Below w.heap.size w w') : Prd s w (.returned (.tuple #[.agg #[.slice none 0 0, .slice none 0 0], .int .i64 a, .int .i64 r])) w' := by
  subst ha
  exact ⟨none, 0, none, 0, n, r, [], [], rfl, h, World.ownsRow_nil _ _ _ _, World.ownsRow_nil _ _ _ _, hb⟩
theorem two_put {w : World} {g : Nat} {u v x y : Value} (h0 : w.cell? ⟨g, 0, none⟩ = some u) (h1 : w.cell? ⟨g, 1, none⟩ = some v) :
    ((w.setCell ⟨g, 0, none⟩ x).setCell ⟨g, 1, none⟩ y).cell? ⟨g, 0, none⟩ = some x ∧ ((w.setCell ⟨g, 0, none⟩ x).setCell ⟨g, 1, none⟩ y).cell? ⟨g, 1, none⟩ = some y := by
  refine ⟨?_, ?_⟩
  · rw [World.cell?_setCell_other _ _ _ _ (by simp)]
    exact World.cell?_setCell_same w _ x h0
  · exact World.cell?_setCell_same _ _ y (show (w.setCell ⟨g, 0, none⟩ x).cell? ⟨g, 1, none⟩ = some v by rw [World.cell?_setCell_other _ _ _ _ (by simp)]; exact h1)
/-- Which verb. -/
theorem ixt_some (x : ByteArray) : ∃ r, Ixt vbs 7 x r := by
  by_cases h : ∃ k, k < 7 ∧ tx vbs k = x
  · obtain ⟨k, h1, h2⟩ := h; exact ⟨k, .inl ⟨k, h1, h2, rfl⟩⟩
  · exact ⟨-1, .inr ⟨fun j hj e => h ⟨j, hj, e⟩, rfl⟩⟩
theorem ixt_one {x : ByteArray} {r q : Int} (h : Ixt vbs 7 x r) (k : Ixt vbs 7 x q) : r = q := by
  rcases h with ⟨i, hi, e1, rfl⟩ | ⟨h1, rfl⟩ <;> rcases k with ⟨j, hj, e2, rfl⟩ | ⟨k1, rfl⟩
  · rw [vb_inj i hi j hj (e1.trans e2.symm)]
  · exact absurd e1 (k1 i hi)
  · exact absurd e2 (h1 j hj)
  · rfl
/-- A line that is neither. -/
theorem nok_num {t : ByteArray} {O : List Int} {k : Nat} (hl : (ags t).length = k) (h : ¬ okn (ags t) k) : Nok t O := by
  rintro (⟨g, ⟨j, _, _, e, ho, _⟩, _⟩ | ⟨x, _, e, ho, _⟩)
  · rw [← hl, e] at h; exact h ho
  · rw [← hl, e] at h; exact h ho
theorem nok_out {t : ByteArray} {O : List Int} (ho : tx (wds t) 0 = outB) (hl : (ags t).length ≠ 1) : Nok t O := by
  rintro (⟨g, ⟨j, hj, e, _⟩, _⟩ | ⟨x, _, e, _⟩)
  · exact vb_out j hj.2 (e.symm.trans ho)
  · exact hl e
theorem nok_kind {t : ByteArray} {O : List Int} {r : Int} (ho : tx (wds t) 0 ≠ outB) (h : Ixt vbs 7 (tx (wds t) 0) r) (hr : r < 1) : Nok t O := by
  rintro (⟨g, ⟨j, hj, e, _⟩, _⟩ | ⟨x, e, _⟩)
  · rcases h with ⟨i, hi, e1, rfl⟩ | ⟨h1, _⟩
    · have := vb_inj i hi j hj.2 (e1.trans e); omega
    · exact h1 j hj.2 e.symm
  · exact ho e
theorem nok_outs {t : ByteArray} {O : List Int} (ho : tx (wds t) 0 ≠ outB) (h : O ≠ []) : Nok t O := by
  rintro (⟨g, _, e⟩ | ⟨x, e, _⟩)
  · exact h e
  · exact ho e
theorem nok_many {t : ByteArray} {O : List Int} {k : Nat} (ho : tx (wds t) 0 ≠ outB) (hk : k < 7) (h : tx (wds t) 0 = vb k) (hl : (ags t).length ≠ arn k) : Nok t O := by
  rintro (⟨g, ⟨j, hj, e, e2, _⟩, _⟩ | ⟨x, e, _⟩)
  · obtain rfl := vb_inj k hk j hj.2 (h.symm.trans e)
    exact hl e2
  · exact ho e
end Go.Proofs.YtmpnaobjgknfkafDoor
