/- The parties' reckon: a number. · The parties' reckon, whole; a wire more; what is told lies aside. · circuit.shapes: a variable that start-up lays. -/
import Derived.Test.YtgmelcdgnjcojagDoorToEnKS
import Derived.Test.YtgmelcdgnjcojagDoorToEnKI
import Derived.Test.YtgmelcdgnjcojagDoorToCircC
namespace Go.Proofs.YtgmelcdgnjcojagDoor
open Go.RowKit Crm

set_option maxRecDepth 100000 in
set_option maxHeartbeats 8000000 in
theorem eRkConst {G : List Gt} {n t : Nat} {ins ds : List Int} {w wr : World} {gp gs i q d lo hh : Nat} {vi vd vW : Value} {Ls LW : List Value} {x y z : Int} (h : PSt w wr gp gs n t vi vd Ls (sgl G n t ins ds i) vW LW (ewr G n t ins ds i) lo hh)
    (hvi : Lft w ins q (ci G i) vi) (hvd : Lft w ds d (dwn G n t i) vd) (HGi : Hid (gt G i = ⟨2, x, y, z⟩)) (hz0 : 0 ≤ z) (hz1 : z ≤ 18446744073709551615) (hn : 2 * t + 1 ≤ n) (hn9 : n ≤ 9) :
    Calls Tryd.prog 65 #[.pointer (some ⟨gp, 0, none⟩), .agg #[.int .i64 2, .int .i64 x, .int .i64 y, .int .u64 z]] wr fun e w' => ∃ u, e = .returned u ∧ Pgt G n t ins ds q d w gp gs i vW LW u w' := by
  have hbA : Below wr.heap.size wr (wr.alloc (.cells #[.int .i64 2, .int .i64 x, .int .i64 y, .int .u64 z] 61)) := (Below.refl _ _).alloc (Nat.le_refl _) _
  obtain ⟨q1, q2, q3, q4⟩ := gate_box wr 2 x y z 61
  have hltA : wr.heap.size < (wr.alloc (.cells #[.int .i64 2, .int .i64 x, .int .i64 y, .int .u64 z] 61)).heap.size := by simp
  have hPA := h.below hbA
  obtain ⟨f0, _, _, _, _, _⟩ := hPA.box.cells
  have hlp := hPA.box.lt
  have HE : Hid (ew G n t ins ds i = List.replicate n (nm z)) := by unfold Hid; rw [ew_const (by rw [HGi.out]), HGi.out]
  have hnb := nm_bd z
  go_enter Tryd.func65, Tryd.ntmps65
  go_upto_region 5 with fail
  generalize wr.alloc (.cells #[.int .i64 2, .int .i64 x, .int .i64 y, .int .u64 z] 61) = W at *
  have hb1 : Below W.heap.size W (W.alloc (.cells #[.int .u64 (nm z)] 34)) := (Below.refl _ _).alloc (Nat.le_refl _) _
  have hPB := (hPA.below hb1).drew
  have hl1 : W.heap.size ≤ (W.alloc (.cells #[.int .u64 (nm z)] 34)).drew.heap.size := hb1.size
  have HF : Hid (∀ u w', w'.ownsRow (W.alloc (.cells #[.int .u64 (nm z)] 34)).drew.heap.size 34 1 u n ((List.replicate n (nm z)).map (Value.int .u64)) → Below (W.alloc (.cells #[.int .u64 (nm z)] 34)).drew.heap.size (W.alloc (.cells #[.int .u64 (nm z)] 34)).drew w' → Pgt G n t ins ds q d w gp gs i vW LW u w' ∧ w'.cell? ⟨gp, 0, none⟩ = some (.int .i64 (n : Int)) ∧ w'.cell? ⟨wr.heap.size, 3, none⟩ = some (.int .u64 z)) := fun u w' ho hb => by
    rw [← HE.out] at ho
    refine ⟨hPB.quiet hvi hvd (by omega) hb (by rw [HGi.out]; simp) (by rw [HGi.out]; simp) ho, ?_, ?_⟩
    · rw [hb.cell (Nat.lt_of_lt_of_le hlp hl1)]
      exact hPB.box.cells.1
    · rw [hb.cell (Nat.lt_of_lt_of_le hltA hl1)]
      show (W.alloc _).cell? _ = _
      rw [hb1.cell hltA]
      exact q4
  have HR : Hid (Rd (W.alloc (.cells #[.int .u64 (nm z)] 34)).drew (some ⟨W.heap.size, 0, none⟩) 1 1 [nm z]) := (rd_lit1 W ⟨hnb.1, by have := hnb.2; omega⟩).drew
  have hn1 : 1 ≤ n := by omega
  clear h hPA hPB
  go_region_held3 (fun w' => w'.cell? ⟨gp, 0, none⟩ = some (.int .i64 (n : Int)) ∧ w'.cell? ⟨wr.heap.size, 3, none⟩ = some (.int .u64 z)) (go_keep) (first | (go_at_call 37; refine (fNorm z _ hz0 hz1).mono ?_; rintro en w3 ⟨rfl, hw⟩; have hw := hw.symm; subst hw) | (go_at_call 92; refine (zRepeat (some ⟨W.heap.size, 0, none⟩) 1 (nm z) n _ HR.out hn1 hn9).mono ?_; rintro en w5 ⟨u, rfl, ho, hb5⟩; obtain ⟨HP, j0, j3⟩ := HF.out u w5 ho hb5; clear ho hb5))
  all_goals
    go_wp2
    go_ret
    exact ⟨u, rfl, HP⟩
end Go.Proofs.YtgmelcdgnjcojagDoor

namespace Go.Proofs.YtgmelcdgnjcojagDoor
open Go.RowKit Crm

theorem eReckon {G : List Gt} {n t : Nat} {ins ds : List Int} {w wr : World} {gp gs i N q d lo hh cW : Nat} {vi vd : Value} {aW : Option Addr} {Ls LW : List Value} {k x y z : Int} (h : PSt w wr gp gs n t vi vd Ls (sgl G n t ins ds i) (.slice aW i cW) LW (ewr G n t ins ds i) lo hh)
    (hvi : Lft w ins q (ci G i) vi) (hvd : Lft w ds d (dwn G n t i) vd) (HGi : Hid (gt G i = ⟨k, x, y, z⟩)) (hok : okg i ⟨k, x, y, z⟩) (hz : 0 ≤ z ∧ z ≤ 18446744073709551615) (hi : i < N) (hN : N ≤ 30) (hq : q = ci G N) (hd : d = dwn G n t N) (hn : 2 * t + 1 ≤ n) (hn9 : n ≤ 9) :
    Calls Tryd.prog 65 #[.pointer (some ⟨gp, 0, none⟩), .agg #[.int .i64 k, .int .i64 x, .int .i64 y, .int .u64 z]] wr fun e w' => ∃ u, e = .returned u ∧ Pgt G n t ins ds q d w gp gs i (.slice aW i cW) LW u w' := by
  rcases hok with ⟨h1, _⟩ | ⟨h1, _⟩ | ⟨h1, h2, _⟩ | ⟨h1, h2, h3, _⟩
  · simp only at h1
    subst h1
    exact eRkInput h hvi hvd HGi hi hN hq hd hn hn9
  · simp only at h1
    subst h1
    exact eRkConst h hvi hvd HGi hz.1 hz.2 hn hn9
  · simp only at h1 h2
    subst h1
    obtain ⟨p, rfl⟩ : ∃ p : Nat, x = p := ⟨x.toNat, by omega⟩
    exact eRkScale h hvi hvd HGi (by omega) hz.1 hz.2 hn hn9
  · simp only at h1 h2 h3
    obtain ⟨p, rfl⟩ : ∃ p : Nat, x = p := ⟨x.toNat, by omega⟩
    obtain ⟨r, rfl⟩ : ∃ p : Nat, y = p := ⟨y.toNat, by omega⟩
    rcases h1 with h1 | h1 | h1
    · subst h1
      exact eRkAdd h hvi hvd HGi (by omega) (by omega) hn hn9
    · subst h1
      exact eRkSub h hvi hvd HGi (by omega) (by omega) hn hn9
    · subst h1
      exact eRkMul h hvi hvd HGi (by omega) (by omega) hi hN hd hn hn9

/-- append of one element of one cell, a step of a region that draws; where it lies. -/
theorem step_appVL {P : Program} {T E : TypeId} {z0 : Value} {by_ : Nat} (hT : P.underlying T = some (.slice E)) (info : (P.info? E).map (fun i => (i.zero, i.size, i.bytes)) = some (some z0, 1, by_)) (hz : z0.cells.size = 1) (hby : by_ ≤ 100)
    (w : World) {w1 : World} {ops : Array Oper} {o : Oper} {a : Act} {K : Act → World → Prop} {Q : Exit → Act → World → Prop} {F : Prop} (hgd : o.guard = none) (s x : Operand)
    (ho : o.op = .call { callee := .builtin .append, args := #[s, x], argTypes := #[T, T] })
    (base : Nat) (v : Value) (n : Nat) (xs : List Value) (hs : a.eval s = v) (hown : w.ownsRow base E 1 v n xs) (y : Value) (hy : y.oneCell' = true) (hx : a.eval x = .slice (some ⟨w.heap.size, 0, none⟩) 1 1)
    (hw1 : w1 = w.alloc (.cells #[y] E)) (hn : n ≤ 1000000) (hbase : base ≤ w.heap.size)
    (h : ∀ g cap w', w'.ownsRow base E 1 (.slice (some ⟨g, 0, none⟩) (n + 1) cap) (n + 1) (xs ++ [y]) → w.grownBy w' v.ownBlock → ((Value.slice (some ⟨g, 0, none⟩) (n + 1) cap).ownBlock = v.ownBlock ∨ ∃ k, (Value.slice (some ⟨g, 0, none⟩) (n + 1) cap).ownBlock = some k ∧ w.heap.size ≤ k) → K (a.put o.dst (.slice (some ⟨g, 0, none⟩) (n + 1) cap)) w') :
    if Region.wanted o (yielded ops a.tmps) = true then Oper.wp P o a w1 K Q else F := by
  subst hw1
  obtain ⟨i0, hi, hz0, hz1, hz2⟩ := info_parts info
  refine step_append_lies _ hgd s x T ho base E i0 z0 1 by_ hT hi hz0 hz1 hz2 hz (by decide) v n _ hs (hown.alloc _) ⟨w.heap.size, 0, none⟩ 1 1 [y] hx rfl ?_ ?_ (by decide) (by unfold maxLen; omega) ?_ (by simp; omega) _ rfl ?_
  · exact cell_one_new _ _ _
  · intro u hu; simp at hu; subst hu; exact hy
  · have : (n + 1) * by_ ≤ 1000001 * 100 := Nat.mul_le_mul (by omega) hby
    omega
  · intro g cap w' hown' hgrow h4 _
    refine h g cap w' hown' ⟨hgrow.os, hgrow.tape, hgrow.output, ?_, fun k hk hne => ?_⟩ ?_
    · have := hgrow.size; simp at this; omega
    · rw [hgrow.block k (by simp; omega) hne]; exact Below.heap_alloc _ _ _ hk
    · rcases h4 with e | e
      · exact .inl (by rw [e]; rfl)
      · exact .inr ⟨g, rfl, by simp at e; omega⟩
theorem Sen.turn {w wr w' : World} {gp gs n t : Nat} {vi vd vX vS : Value} {Ls : List Value} {S : List (List Int)} {vW : Value} {LW : List Value} {W : List (List Int)} {lo hi : Nat} (hs : Sen w wr gs n Ls S vW LW W lo hi) (hb : PBox wr gp n t vi vd vX vS) (low : w.heap.size ≤ gp) (hg : wr.grownBy w' (some gp)) : Sen w w' gs n Ls S vW LW W lo hi :=
  ⟨hs.seen.grown hg (hb.off hs.seen.own eVP) (fun i hi => hb.off (hs.seen.row i hi) eUP), hs.len, hs.wires.grown hg (hb.off hs.wires.own eVP) (fun i hi => hb.off (hs.wires.row i hi) eUP), hs.apt, hs.out, hs.far, hs.gl, Nat.le_trans hs.hi hg.size, hs.bel.grown hg hs.bel.size (fun q hq => by
    obtain rfl := Option.some.inj hq
    exact low)⟩
/-- The gate's numbers are laid beside the wires. -/
theorem Pgt.next {G : List Gt} {n t : Nat} {ins ds : List Int} {w wc w2 : World} {gp gs i q d : Nat} {vW v2 u : Value} {LW : List Value} (h : Pgt G n t ins ds q d w gp gs i vW LW u wc) (hn : 0 < n) (ho : w2.ownsRow w.heap.size 22 1 v2 (i + 1) (LW ++ [u])) (hg : wc.grownBy w2 vW.ownBlock)
    (hat : v2.ownBlock = vW.ownBlock ∨ ∃ k, v2.ownBlock = some k ∧ wc.heap.size ≤ k) : (∃ x, w2.cell? ⟨gp, 4, none⟩ = some x) ∧ w2.frozen? ⟨gp, 4, none⟩ = false ∧ gp < w2.heap.size ∧ ∃ vi vd Ls lo hi, PSt w (w2.setCell ⟨gp, 4, none⟩ v2) gp gs n t vi vd Ls (sgl G n t ins ds (i + 1)) v2 (LW ++ [u]) (ewr G n t ins ds (i + 1)) lo hi ∧ Lft w ins q (ci G (i + 1)) vi ∧ Lft w ds d (dwn G n t (i + 1)) vd := by
  obtain ⟨vi, vd, Ls, lo, hi, hP, hvi, hvd, hu, hb, hlw⟩ := h
  obtain ⟨Ls', hS⟩ := Psw.next ⟨Ls, lo, hi, hP.sen, hu, hb, hlw⟩ hn ho hg hat
  have hb2 := hP.box.grown hg (hP.box.off' hP.sen.wires.own eVP)
  exact ⟨⟨_, hb2.cells.2.2.2.2.1⟩, hb2.frozen 4, hb2.lt, vi, vd, Ls', _, _, ⟨hS.turn hb2 hP.low (grown_set _ _ _ _), hb2.set4 v2, hP.low⟩, hvi, hvd⟩
/-- What is told lies aside: it is written. -/
theorem PSt.aside {w wr w' : World} {gp gs n t : Nat} {vi vd : Value} {Ls : List Value} {S : List (List Int)} {vW : Value} {LW : List Value} {W : List (List Int)} {lo hi B m c g : Nat} {xs : List Value} (h : PSt w wr gp gs n t vi vd Ls S vW LW W lo hi) (hLW : ∀ p b, (LW.getD p (.slice none 0 0)).ownBlock = some b → b < lo) (ho : wr.ownsRow B 34 1 (.slice (some ⟨g, 0, none⟩) m c) m xs) (h1 : lo ≤ g) (h2 : g < hi) (hB : w.heap.size ≤ B) (hg : wr.grownBy w' (some g)) : PSt w w' gp gs n t vi vd Ls S vW LW W lo hi := by
  have hs := h.sen
  have hE : (34 : TypeId) ≠ 22 := by decide
  refine ⟨⟨hs.seen.grown hg (own_apart ho hs.seen.own hE) (fun p hp => ?_), hs.len, hs.wires.grown hg (own_apart ho hs.wires.own hE) (fun p hp => ?_), hs.apt, hs.out, hs.far, hs.gl, Nat.le_trans hs.hi hg.size, hs.bel.grown hg hs.bel.size (fun q hq => Nat.le_trans hB (ho.lt q hq).1)⟩, h.box.grown hg (h.box.off' ho eUP), h.low⟩
  · cases hb : (Ls.getD p (.slice none 0 0)).ownBlock with
    | none => exact .inl rfl
    | some b =>
      right
      intro e
      have := hs.far p (by rw [← hs.len]; exact hp) b hb
      have := Option.some.inj e
      omega
  · cases hb : (LW.getD p (.slice none 0 0)).ownBlock with
    | none => exact .inl rfl
    | some b =>
      right
      intro e
      have := hLW p b hb
      have := Option.some.inj e
      omega
theorem PBox.new (w : World) (n t : Nat) (vi vd vW vS : Value) : PBox (w.alloc (.cells #[.int .i64 (n : Int), .int .i64 (t : Int), vi, vd, vW, vS] 113)) w.heap.size n t vi vd vW vS := heap_alloc_new w _
end Go.Proofs.YtgmelcdgnjcojagDoor

namespace Go.Proofs.YtgmelcdgnjcojagDoor
open Go.RowKit Crm

def shw (k : Nat) : ByteArray := ([⟨#[]⟩, ⟨#[105, 110, 112, 117, 116]⟩, ⟨#[99, 111, 110, 115, 116]⟩, ⟨#[97, 100, 100]⟩, ⟨#[115, 117, 98]⟩, ⟨#[109, 117, 108]⟩, ⟨#[115, 99, 97, 108, 101]⟩] : List ByteArray).getD k ⟨#[]⟩
def shA (k : Nat) : Bool := [false, true, false, true, true, true, true].getD k false
def shB (k : Nat) : Bool := [false, false, false, true, true, true, false].getD k false
def shN (k : Nat) : Bool := [false, false, true, false, false, false, true].getD k false
/-- The shapes lie as the text lays them. -/
def Shp (w : World) : Prop := ∀ i, i < 7 → w.cell? ⟨0, i * 4, none⟩ = some (.string (shw i)) ∧ w.cell? ⟨0, i * 4 + 1, none⟩ = some (.bool (shA i)) ∧ w.cell? ⟨0, i * 4 + 2, none⟩ = some (.bool (shB i)) ∧ w.cell? ⟨0, i * 4 + 3, none⟩ = some (.bool (shN i))
theorem Shp.below {w w' : World} (h : Shp w) (hb : Below w.heap.size w w') : Shp w' := fun i hi => by
  obtain ⟨h0, h1, h2, h3⟩ := h i hi
  exact ⟨by rw [hb.cell (World.block_lt_of_cell? w _ h0)]; exact h0, by rw [hb.cell (World.block_lt_of_cell? w _ h1)]; exact h1, by rw [hb.cell (World.block_lt_of_cell? w _ h2)]; exact h2, by rw [hb.cell (World.block_lt_of_cell? w _ h3)]; exact h3⟩
theorem Shp.drewN {w : World} (h : Shp w) (q : Nat) : Shp (w.drewN q) := h
theorem Shp.lt {w : World} (h : Shp w) : 0 < w.heap.size := World.block_lt_of_cell? w _ (h 0 (by omega)).1
theorem Shp.at0 {w : World} (h : Shp w) : w.cell? ⟨0, 0, none⟩ = some (.string ⟨#[]⟩) ∧ w.cell? ⟨0, 1, none⟩ = some (.bool false) ∧ w.cell? ⟨0, 2, none⟩ = some (.bool false) ∧ w.cell? ⟨0, 3, none⟩ = some (.bool false) := h 0 (by omega)
theorem Shp.at1 {w : World} (h : Shp w) : w.cell? ⟨0, 4, none⟩ = some (.string ⟨#[105, 110, 112, 117, 116]⟩) ∧ w.cell? ⟨0, 5, none⟩ = some (.bool true) ∧ w.cell? ⟨0, 6, none⟩ = some (.bool false) ∧ w.cell? ⟨0, 7, none⟩ = some (.bool false) := h 1 (by omega)
theorem Shp.at2 {w : World} (h : Shp w) : w.cell? ⟨0, 8, none⟩ = some (.string ⟨#[99, 111, 110, 115, 116]⟩) ∧ w.cell? ⟨0, 9, none⟩ = some (.bool false) ∧ w.cell? ⟨0, 10, none⟩ = some (.bool false) ∧ w.cell? ⟨0, 11, none⟩ = some (.bool true) := h 2 (by omega)
theorem Shp.at3 {w : World} (h : Shp w) : w.cell? ⟨0, 12, none⟩ = some (.string ⟨#[97, 100, 100]⟩) ∧ w.cell? ⟨0, 13, none⟩ = some (.bool true) ∧ w.cell? ⟨0, 14, none⟩ = some (.bool true) ∧ w.cell? ⟨0, 15, none⟩ = some (.bool false) := h 3 (by omega)
theorem Shp.at4 {w : World} (h : Shp w) : w.cell? ⟨0, 16, none⟩ = some (.string ⟨#[115, 117, 98]⟩) ∧ w.cell? ⟨0, 17, none⟩ = some (.bool true) ∧ w.cell? ⟨0, 18, none⟩ = some (.bool true) ∧ w.cell? ⟨0, 19, none⟩ = some (.bool false) := h 4 (by omega)
theorem Shp.at5 {w : World} (h : Shp w) : w.cell? ⟨0, 20, none⟩ = some (.string ⟨#[109, 117, 108]⟩) ∧ w.cell? ⟨0, 21, none⟩ = some (.bool true) ∧ w.cell? ⟨0, 22, none⟩ = some (.bool true) ∧ w.cell? ⟨0, 23, none⟩ = some (.bool false) := h 5 (by omega)
theorem Shp.at6 {w : World} (h : Shp w) : w.cell? ⟨0, 24, none⟩ = some (.string ⟨#[115, 99, 97, 108, 101]⟩) ∧ w.cell? ⟨0, 25, none⟩ = some (.bool true) ∧ w.cell? ⟨0, 26, none⟩ = some (.bool false) ∧ w.cell? ⟨0, 27, none⟩ = some (.bool true) := h 6 (by omega)
end Go.Proofs.YtgmelcdgnjcojagDoor
