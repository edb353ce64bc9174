/- The parties' reckon, whole; a wire more; what is told lies aside. · circuit.shapes: a variable that start-up lays. · Package circuit: isAhead, gateRight. -/
import Derived.Test.YtgmelcdgnjcojagDoorToEnKM
import Derived.Test.YtgmelcdgnjcojagDoorToEnKK
import Derived.Test.YtgmelcdgnjcojagDoorToGatesR
import Derived.Test.YtgmelcdgnjcojagDoorToValueC
import Derived.BigQuiet
import Derived.Deep.RegionWith
import Derived.Deep.DeepCutAuto
namespace Go.Proofs.YtgmelcdgnjcojagDoor
open Go.RowKit Crm

theorem eReckon {G : List Gt} {n t : Nat} {ins ds : List Int} {w wr : World} {gp gs i N q d lo hh cW : Nat} {vi vd : Value} {aW : Option Addr} {Ls LW : List Value} {k x y z : Int} (h : PSt w wr gp gs n t vi vd Ls (sgl G n t ins ds i) (.slice aW i cW) LW (ewr G n t ins ds i) lo hh)
    (hvi : Lft w ins q (ci G i) vi) (hvd : Lft w ds d (dwn G n t i) vd) (HGi : Hid (gt G i = ⟨k, x, y, z⟩)) (hok : okg i ⟨k, x, y, z⟩) (hz : 0 ≤ z ∧ z ≤ 18446744073709551615) (hi : i < N) (hN : N ≤ 30) (hq : q = ci G N) (hd : d = dwn G n t N) (hn : 2 * t + 1 ≤ n) (hn9 : n ≤ 9) :
    Calls Tryd.prog 65 #[.pointer (some ⟨gp, 0, none⟩), .agg #[.int .i64 k, .int .i64 x, .int .i64 y, .int .u64 z]] wr fun e w' => ∃ u, e = .returned u ∧ Pgt G n t ins ds q d w gp gs i (.slice aW i cW) LW u w' := by
  rcases hok with ⟨h1, _⟩ | ⟨h1, _⟩ | ⟨h1, h2, _⟩ | ⟨h1, h2, h3, _⟩
  · simp only at h1
    subst h1
    exact eRkInput h hvi hvd HGi hi hN hq hd hn hn9
  · simp only at h1
    subst h1
    exact eRkConst h hvi hvd HGi hz.1 hz.2 hn hn9
  · simp only at h1 h2
    subst h1
    obtain ⟨p, rfl⟩ : ∃ p : Nat, x = p := ⟨x.toNat, by omega⟩
    exact eRkScale h hvi hvd HGi (by omega) hz.1 hz.2 hn hn9
  · simp only at h1 h2 h3
    obtain ⟨p, rfl⟩ : ∃ p : Nat, x = p := ⟨x.toNat, by omega⟩
    obtain ⟨r, rfl⟩ : ∃ p : Nat, y = p := ⟨y.toNat, by omega⟩
    rcases h1 with h1 | h1 | h1
    · subst h1
      exact eRkAdd h hvi hvd HGi (by omega) (by omega) hn hn9
    · subst h1
      exact eRkSub h hvi hvd HGi (by omega) (by omega) hn hn9
    · subst h1
      exact eRkMul h hvi hvd HGi (by omega) (by omega) hi hN hd hn hn9

/-- append of one element of one cell, a step of a region that draws; where it lies. -/
theorem step_appVL {P : Program} {T E : TypeId} {z0 : Value} {by_ : Nat} (hT : P.underlying T = some (.slice E)) (info : (P.info? E).map (fun i => (i.zero, i.size, i.bytes)) = some (some z0, 1, by_)) (hz : z0.cells.size = 1) (hby : by_ ≤ 100)
    (w : World) {w1 : World} {ops : Array Oper} {o : Oper} {a : Act} {K : Act → World → Prop} {Q : Exit → Act → World → Prop} {F : Prop} (hgd : o.guard = none) (s x : Operand)
    (ho : o.op = .call { callee := .builtin .append, args := #[s, x], argTypes := #[T, T] })
    (base : Nat) (v : Value) (n : Nat) (xs : List Value) (hs : a.eval s = v) (hown : w.ownsRow base E 1 v n xs) (y : Value) (hy : y.oneCell' = true) (hx : a.eval x = .slice (some ⟨w.heap.size, 0, none⟩) 1 1)
    (hw1 : w1 = w.alloc (.cells #[y] E)) (hn : n ≤ 1000000) (hbase : base ≤ w.heap.size)
    (h : ∀ g cap w', w'.ownsRow base E 1 (.slice (some ⟨g, 0, none⟩) (n + 1) cap) (n + 1) (xs ++ [y]) → w.grownBy w' v.ownBlock → ((Value.slice (some ⟨g, 0, none⟩) (n + 1) cap).ownBlock = v.ownBlock ∨ ∃ k, (Value.slice (some ⟨g, 0, none⟩) (n + 1) cap).ownBlock = some k ∧ w.heap.size ≤ k) → K (a.put o.dst (.slice (some ⟨g, 0, none⟩) (n + 1) cap)) w') :
    if Region.wanted o (yielded ops a.tmps) = true then Oper.wp P o a w1 K Q else F := by
  subst hw1
  obtain ⟨i0, hi, hz0, hz1, hz2⟩ := info_parts info
  refine step_append_lies _ hgd s x T ho base E i0 z0 1 by_ hT hi hz0 hz1 hz2 hz (by decide) v n _ hs (hown.alloc _) ⟨w.heap.size, 0, none⟩ 1 1 [y] hx rfl ?_ ?_ (by decide) (by unfold maxLen; omega) ?_ (by simp; omega) _ rfl ?_
  · exact cell_one_new _ _ _
  · intro u hu; simp at hu; subst hu; exact hy
  · have : (n + 1) * by_ ≤ 1000001 * 100 := Nat.mul_le_mul (by omega) hby
    omega
  · intro g cap w' hown' hgrow h4 _
    refine h g cap w' hown' ⟨hgrow.os, hgrow.tape, hgrow.output, ?_, fun k hk hne => ?_⟩ ?_
    · have := hgrow.size; simp at this; omega
    · rw [hgrow.block k (by simp; omega) hne]; exact Below.heap_alloc _ _ _ hk
    · rcases h4 with e | e
      · exact .inl (by rw [e]; rfl)
      · exact .inr ⟨g, rfl, by simp at e; omega⟩
theorem Sen.turn {w wr w' : World} {gp gs n t : Nat} {vi vd vX vS : Value} {Ls : List Value} {S : List (List Int)} {vW : Value} {LW : List Value} {W : List (List Int)} {lo hi : Nat} (hs : Sen w wr gs n Ls S vW LW W lo hi) (hb : PBox wr gp n t vi vd vX vS) (low : w.heap.size ≤ gp) (hg : wr.grownBy w' (some gp)) : Sen w w' gs n Ls S vW LW W lo hi :=
  ⟨hs.seen.grown hg (hb.off hs.seen.own eVP) (fun i hi => hb.off (hs.seen.row i hi) eUP), hs.len, hs.wires.grown hg (hb.off hs.wires.own eVP) (fun i hi => hb.off (hs.wires.row i hi) eUP), hs.apt, hs.out, hs.far, hs.gl, Nat.le_trans hs.hi hg.size, hs.bel.grown hg hs.bel.size (fun q hq => by
    obtain rfl := Option.some.inj hq
    exact low)⟩
/-- The gate's numbers are laid beside the wires. -/
theorem Pgt.next {G : List Gt} {n t : Nat} {ins ds : List Int} {w wc w2 : World} {gp gs i q d : Nat} {vW v2 u : Value} {LW : List Value} (h : Pgt G n t ins ds q d w gp gs i vW LW u wc) (hn : 0 < n) (ho : w2.ownsRow w.heap.size 22 1 v2 (i + 1) (LW ++ [u])) (hg : wc.grownBy w2 vW.ownBlock)
    (hat : v2.ownBlock = vW.ownBlock ∨ ∃ k, v2.ownBlock = some k ∧ wc.heap.size ≤ k) : (∃ x, w2.cell? ⟨gp, 4, none⟩ = some x) ∧ w2.frozen? ⟨gp, 4, none⟩ = false ∧ gp < w2.heap.size ∧ ∃ vi vd Ls lo hi, PSt w (w2.setCell ⟨gp, 4, none⟩ v2) gp gs n t vi vd Ls (sgl G n t ins ds (i + 1)) v2 (LW ++ [u]) (ewr G n t ins ds (i + 1)) lo hi ∧ Lft w ins q (ci G (i + 1)) vi ∧ Lft w ds d (dwn G n t (i + 1)) vd := by
  obtain ⟨vi, vd, Ls, lo, hi, hP, hvi, hvd, hu, hb, hlw⟩ := h
  obtain ⟨Ls', hS⟩ := Psw.next ⟨Ls, lo, hi, hP.sen, hu, hb, hlw⟩ hn ho hg hat
  have hb2 := hP.box.grown hg (hP.box.off' hP.sen.wires.own eVP)
  exact ⟨⟨_, hb2.cells.2.2.2.2.1⟩, hb2.frozen 4, hb2.lt, vi, vd, Ls', _, _, ⟨hS.turn hb2 hP.low (grown_set _ _ _ _), hb2.set4 v2, hP.low⟩, hvi, hvd⟩
/-- What is told lies aside: it is written. -/
theorem PSt.aside {w wr w' : World} {gp gs n t : Nat} {vi vd : Value} {Ls : List Value} {S : List (List Int)} {vW : Value} {LW : List Value} {W : List (List Int)} {lo hi B m c g : Nat} {xs : List Value} (h : PSt w wr gp gs n t vi vd Ls S vW LW W lo hi) (hLW : ∀ p b, (LW.getD p (.slice none 0 0)).ownBlock = some b → b < lo) (ho : wr.ownsRow B 34 1 (.slice (some ⟨g, 0, none⟩) m c) m xs) (h1 : lo ≤ g) (h2 : g < hi) (hB : w.heap.size ≤ B) (hg : wr.grownBy w' (some g)) : PSt w w' gp gs n t vi vd Ls S vW LW W lo hi := by
  have hs := h.sen
  have hE : (34 : TypeId) ≠ 22 := by decide
  refine ⟨⟨hs.seen.grown hg (own_apart ho hs.seen.own hE) (fun p hp => ?_), hs.len, hs.wires.grown hg (own_apart ho hs.wires.own hE) (fun p hp => ?_), hs.apt, hs.out, hs.far, hs.gl, Nat.le_trans hs.hi hg.size, hs.bel.grown hg hs.bel.size (fun q hq => Nat.le_trans hB (ho.lt q hq).1)⟩, h.box.grown hg (h.box.off' ho eUP), h.low⟩
  · cases hb : (Ls.getD p (.slice none 0 0)).ownBlock with
    | none => exact .inl rfl
    | some b =>
      right
      intro e
      have := hs.far p (by rw [← hs.len]; exact hp) b hb
      have := Option.some.inj e
      omega
  · cases hb : (LW.getD p (.slice none 0 0)).ownBlock with
    | none => exact .inl rfl
    | some b =>
      right
      intro e
      have := hLW p b hb
      have := Option.some.inj e
      omega
theorem PBox.new (w : World) (n t : Nat) (vi vd vW vS : Value) : PBox (w.alloc (.cells #[.int .i64 (n : Int), .int .i64 (t : Int), vi, vd, vW, vS] 113)) w.heap.size n t vi vd vW vS := heap_alloc_new w _
end Go.Proofs.YtgmelcdgnjcojagDoor

namespace Go.Proofs.YtgmelcdgnjcojagDoor
open Go.RowKit Crm

def shw (k : Nat) : ByteArray := ([⟨#[]⟩, ⟨#[105, 110, 112, 117, 116]⟩, ⟨#[99, 111, 110, 115, 116]⟩, ⟨#[97, 100, 100]⟩, ⟨#[115, 117, 98]⟩, ⟨#[109, 117, 108]⟩, ⟨#[115, 99, 97, 108, 101]⟩] : List ByteArray).getD k ⟨#[]⟩
def shA (k : Nat) : Bool := [false, true, false, true, true, true, true].getD k false
def shB (k : Nat) : Bool := [false, false, false, true, true, true, false].getD k false
def shN (k : Nat) : Bool := [false, false, true, false, false, false, true].getD k false
/-- The shapes lie as the text lays them. -/
def Shp (w : World) : Prop := ∀ i, i < 7 → w.cell? ⟨0, i * 4, none⟩ = some (.string (shw i)) ∧ w.cell? ⟨0, i * 4 + 1, none⟩ = some (.bool (shA i)) ∧ w.cell? ⟨0, i * 4 + 2, none⟩ = some (.bool (shB i)) ∧ w.cell? ⟨0, i * 4 + 3, none⟩ = some (.bool (shN i))
theorem Shp.below {w w' : World} (h : Shp w) (hb : Below w.heap.size w w') : Shp w' := fun i hi => by
  obtain ⟨h0, h1, h2, h3⟩ := h i hi
  exact ⟨by rw [hb.cell (World.block_lt_of_cell? w _ h0)]; exact h0, by rw [hb.cell (World.block_lt_of_cell? w _ h1)]; exact h1, by rw [hb.cell (World.block_lt_of_cell? w _ h2)]; exact h2, by rw [hb.cell (World.block_lt_of_cell? w _ h3)]; exact h3⟩
theorem Shp.drewN {w : World} (h : Shp w) (q : Nat) : Shp (w.drewN q) := h
theorem Shp.lt {w : World} (h : Shp w) : 0 < w.heap.size := World.block_lt_of_cell? w _ (h 0 (by omega)).1
theorem Shp.at0 {w : World} (h : Shp w) : w.cell? ⟨0, 0, none⟩ = some (.string ⟨#[]⟩) ∧ w.cell? ⟨0, 1, none⟩ = some (.bool false) ∧ w.cell? ⟨0, 2, none⟩ = some (.bool false) ∧ w.cell? ⟨0, 3, none⟩ = some (.bool false) := h 0 (by omega)
theorem Shp.at1 {w : World} (h : Shp w) : w.cell? ⟨0, 4, none⟩ = some (.string ⟨#[105, 110, 112, 117, 116]⟩) ∧ w.cell? ⟨0, 5, none⟩ = some (.bool true) ∧ w.cell? ⟨0, 6, none⟩ = some (.bool false) ∧ w.cell? ⟨0, 7, none⟩ = some (.bool false) := h 1 (by omega)
theorem Shp.at2 {w : World} (h : Shp w) : w.cell? ⟨0, 8, none⟩ = some (.string ⟨#[99, 111, 110, 115, 116]⟩) ∧ w.cell? ⟨0, 9, none⟩ = some (.bool false) ∧ w.cell? ⟨0, 10, none⟩ = some (.bool false) ∧ w.cell? ⟨0, 11, none⟩ = some (.bool true) := h 2 (by omega)
theorem Shp.at3 {w : World} (h : Shp w) : w.cell? ⟨0, 12, none⟩ = some (.string ⟨#[97, 100, 100]⟩) ∧ w.cell? ⟨0, 13, none⟩ = some (.bool true) ∧ w.cell? ⟨0, 14, none⟩ = some (.bool true) ∧ w.cell? ⟨0, 15, none⟩ = some (.bool false) := h 3 (by omega)
theorem Shp.at4 {w : World} (h : Shp w) : w.cell? ⟨0, 16, none⟩ = some (.string ⟨#[115, 117, 98]⟩) ∧ w.cell? ⟨0, 17, none⟩ = some (.bool true) ∧ w.cell? ⟨0, 18, none⟩ = some (.bool true) ∧ w.cell? ⟨0, 19, none⟩ = some (.bool false) := h 4 (by omega)
theorem Shp.at5 {w : World} (h : Shp w) : w.cell? ⟨0, 20, none⟩ = some (.string ⟨#[109, 117, 108]⟩) ∧ w.cell? ⟨0, 21, none⟩ = some (.bool true) ∧ w.cell? ⟨0, 22, none⟩ = some (.bool true) ∧ w.cell? ⟨0, 23, none⟩ = some (.bool false) := h 5 (by omega)
theorem Shp.at6 {w : World} (h : Shp w) : w.cell? ⟨0, 24, none⟩ = some (.string ⟨#[115, 99, 97, 108, 101]⟩) ∧ w.cell? ⟨0, 25, none⟩ = some (.bool true) ∧ w.cell? ⟨0, 26, none⟩ = some (.bool false) ∧ w.cell? ⟨0, 27, none⟩ = some (.bool true) := h 6 (by omega)
end Go.Proofs.YtgmelcdgnjcojagDoor

namespace Go.Proofs.YtgmelcdgnjcojagDoor
open Go.RowKit Crm

set_option maxRecDepth 100000 in
theorem cAheadY (x c : Int) (w : World) (h0 : 0 ≤ x) (h1 : x < c) : Calls Tryd.prog 90 #[.int .i64 x, .int .i64 c] w fun e w' => e = .returned (.bool true) ∧ w' = w := by
  go_enter Tryd.func90, Tryd.ntmps90
  go_wp2
  go_ret
  exact ⟨rfl, rfl⟩
set_option maxRecDepth 100000 in
theorem cAheadN (x c : Int) (w : World) (h : x < 0 ∨ c ≤ x) : Calls Tryd.prog 90 #[.int .i64 x, .int .i64 c] w fun e w' => e = .returned (.bool false) ∧ w' = w := by
  by_cases h0 : x < 0
  · go_enter Tryd.func90, Tryd.ntmps90
    go_wp2
    go_ret
    exact ⟨rfl, rfl⟩
  · have h1 : ¬ x < c := by omega
    have h2 : 0 ≤ x := by omega
    clear h h0
    go_enter Tryd.func90, Tryd.ntmps90
    go_wp2
    go_ret
    exact ⟨rfl, rfl⟩
/-- The cells of a shape that is boxed. -/
theorem shape_box (w : World) (s : ByteArray) (a b n : Bool) (E : TypeId) : (w.alloc (.cells #[.string s, .bool a, .bool b, .bool n] E)).cell? ⟨w.heap.size, 0, none⟩ = some (.string s) ∧ (w.alloc (.cells #[.string s, .bool a, .bool b, .bool n] E)).cell? ⟨w.heap.size, 1, none⟩ = some (.bool a) ∧ (w.alloc (.cells #[.string s, .bool a, .bool b, .bool n] E)).cell? ⟨w.heap.size, 2, none⟩ = some (.bool b) ∧ (w.alloc (.cells #[.string s, .bool a, .bool b, .bool n] E)).cell? ⟨w.heap.size, 3, none⟩ = some (.bool n) := by
  have h := heap_alloc_new w (.cells #[.string s, .bool a, .bool b, .bool n] E)
  refine ⟨?_, ?_, ?_, ?_⟩ <;> (rw [cell_of_row _ _ _ _ E (0, 0) h]; rfl)

/-- What gateRight answers. -/
def Gri (i : Nat) (g : Gt) (w : World) (e : Ending) (w' : World) : Prop := ((okg i g ∧ e = .returned (.bool true)) ∨ (¬ okg i g ∧ e = .returned (.bool false))) ∧ Below w.heap.size w w'
theorem Gri.y {i : Nat} {g : Gt} {w w' : World} (h : okg i g) (hb : Below w.heap.size w w') : Gri i g w (.returned (.bool true)) w' := ⟨.inl ⟨h, rfl⟩, hb⟩
theorem Gri.n {i : Nat} {g : Gt} {w w' : World} (h : ¬ okg i g) (hb : Below w.heap.size w w') : Gri i g w (.returned (.bool false)) w' := ⟨.inr ⟨h, rfl⟩, hb⟩

set_option maxRecDepth 100000 in
set_option maxHeartbeats 4000000 in
theorem cGateRight (k x y z : Int) (i : Nat) (w : World) (hk : -9223372036854775808 ≤ k ∧ k ≤ 9223372036854775807) (hx : -9223372036854775808 ≤ x ∧ x ≤ 9223372036854775807) (hy : -9223372036854775808 ≤ y ∧ y ≤ 9223372036854775807) (hz : 0 ≤ z ∧ z ≤ 18446744073709551615) (hS : Shp w) :
    Calls Tryd.prog 89 #[.agg #[.int .i64 k, .int .i64 x, .int .i64 y, .int .u64 z], .int .i64 i] w fun e w' => Gri i ⟨k, x, y, z⟩ w e w' := by
  have hb0 : Below w.heap.size w (w.alloc (.cells #[.int .i64 k, .int .i64 x, .int .i64 y, .int .u64 z] 61)) := (Below.refl _ _).alloc (Nat.le_refl _) _
  obtain ⟨q1, q2, q3, q4⟩ := gate_box w k x y z 61
  have hlt : w.heap.size < (w.alloc (.cells #[.int .i64 k, .int .i64 x, .int .i64 y, .int .u64 z] 61)).heap.size := by simp
  go_enter Tryd.func89, Tryd.ntmps89
  go_upto_region 1 with fail
  generalize w.alloc (.cells #[.int .i64 k, .int .i64 x, .int .i64 y, .int .u64 z] 61) = W at *
  have hS0 := hS.below hb0
  clear hS
  by_cases hk1 : k < 1
  · have HN : Hid (¬ okg i ⟨k, x, y, z⟩) := by unfold Hid okg; simp only; omega
    go_wp2
    go_ret
    exact Gri.n HN.out hb0
  by_cases hk6 : 6 < k
  · have HN : Hid (¬ okg i ⟨k, x, y, z⟩) := by unfold Hid okg; simp only; omega
    go_wp2
    go_ret
    exact Gri.n HN.out hb0
  have hkk : k = 1 ∨ k = 2 ∨ k = 3 ∨ k = 4 ∨ k = 5 ∨ k = 6 := by omega
  clear hk1 hk6
  rcases hkk with rfl | rfl | rfl | rfl | rfl | rfl
  · obtain ⟨s0, s1, s2, s3⟩ := hS0.at1
    have slt := hS0.lt
    have hb1' : Below W.heap.size W (W.alloc (.cells #[.string ⟨#[105, 110, 112, 117, 116]⟩, .bool true, .bool false, .bool false] 164)) := (Below.refl _ _).alloc (Nat.le_refl _) _
    have hb1 := hb0.trans (hb1'.mono hb0.size)
    obtain ⟨t0, t1, t2, t3⟩ := shape_box W ⟨#[105, 110, 112, 117, 116]⟩ true false false 164
    have hlt1 : W.heap.size < (W.alloc (.cells #[.string ⟨#[105, 110, 112, 117, 116]⟩, .bool true, .bool false, .bool false] 164)).heap.size := by simp
    have r1 : (W.alloc (.cells #[.string ⟨#[105, 110, 112, 117, 116]⟩, .bool true, .bool false, .bool false] 164)).cell? ⟨w.heap.size, 0, none⟩ = some (.int .i64 1) := by rw [hb1'.cell (p := ⟨w.heap.size, 0, none⟩) hlt]; exact q1
    have r2 : (W.alloc (.cells #[.string ⟨#[105, 110, 112, 117, 116]⟩, .bool true, .bool false, .bool false] 164)).cell? ⟨w.heap.size, 1, none⟩ = some (.int .i64 x) := by rw [hb1'.cell (p := ⟨w.heap.size, 1, none⟩) hlt]; exact q2
    have r3 : (W.alloc (.cells #[.string ⟨#[105, 110, 112, 117, 116]⟩, .bool true, .bool false, .bool false] 164)).cell? ⟨w.heap.size, 2, none⟩ = some (.int .i64 y) := by rw [hb1'.cell (p := ⟨w.heap.size, 2, none⟩) hlt]; exact q3
    have r4 : (W.alloc (.cells #[.string ⟨#[105, 110, 112, 117, 116]⟩, .bool true, .bool false, .bool false] 164)).cell? ⟨w.heap.size, 3, none⟩ = some (.int .u64 z) := by rw [hb1'.cell (p := ⟨w.heap.size, 3, none⟩) hlt]; exact q4
    have hlt2 := Nat.lt_trans hlt hlt1
    go_upto_region 4 with fail
    generalize W.alloc (.cells #[.string ⟨#[105, 110, 112, 117, 116]⟩, .bool true, .bool false, .bool false] 164) = V at *
    clear s0 s1 s2 s3 q1 q2 q3 q4 hb1' hb0 hS0
    by_cases hy0 : y = 0
    · subst hy0
      by_cases hz0 : z = 0
      · subst hz0
        by_cases hx1 : x < 1
        · have HN : Hid (¬ okg i ⟨1, x, 0, 0⟩) := by unfold Hid okg; simp only; omega
          go_wp2
          go_ret
          exact Gri.n HN.out hb1
        · by_cases hx9 : 9 < x
          · have hx9n : ¬ x ≤ 9 := by omega
            clear hx9
            have HN : Hid (¬ okg i ⟨1, x, 0, 0⟩) := by unfold Hid okg; simp only; omega
            go_wp2
            go_ret
            exact Gri.n HN.out hb1
          · have HY : Hid (okg i ⟨1, x, 0, 0⟩) := .inl ⟨rfl, ⟨by simp only; omega, by simp only; omega⟩, rfl, rfl⟩
            go_wp2
            go_ret
            exact Gri.y HY.out hb1
      · have hbz : (z == 0) = false := by rw [beq_eq_false_iff_ne]; exact hz0
        have hcz : (z != 0) = true := by rw [bne_iff_ne]; exact hz0
        have HN : Hid (¬ okg i ⟨1, x, 0, z⟩) := by unfold Hid okg; simp only; omega
        go_wp2
        go_ret
        exact Gri.n HN.out hb1
    · have hby : (y == 0) = false := by rw [beq_eq_false_iff_ne]; exact hy0
      have hcy : (y != 0) = true := by rw [bne_iff_ne]; exact hy0
      have HN : Hid (¬ okg i ⟨1, x, y, z⟩) := by unfold Hid okg; simp only; omega
      go_wp2
      go_ret
      exact Gri.n HN.out hb1
  · obtain ⟨s0, s1, s2, s3⟩ := hS0.at2
    have slt := hS0.lt
    have hb1' : Below W.heap.size W (W.alloc (.cells #[.string ⟨#[99, 111, 110, 115, 116]⟩, .bool false, .bool false, .bool true] 164)) := (Below.refl _ _).alloc (Nat.le_refl _) _
    have hb1 := hb0.trans (hb1'.mono hb0.size)
    obtain ⟨t0, t1, t2, t3⟩ := shape_box W ⟨#[99, 111, 110, 115, 116]⟩ false false true 164
    have hlt1 : W.heap.size < (W.alloc (.cells #[.string ⟨#[99, 111, 110, 115, 116]⟩, .bool false, .bool false, .bool true] 164)).heap.size := by simp
    have r1 : (W.alloc (.cells #[.string ⟨#[99, 111, 110, 115, 116]⟩, .bool false, .bool false, .bool true] 164)).cell? ⟨w.heap.size, 0, none⟩ = some (.int .i64 2) := by rw [hb1'.cell (p := ⟨w.heap.size, 0, none⟩) hlt]; exact q1
    have r2 : (W.alloc (.cells #[.string ⟨#[99, 111, 110, 115, 116]⟩, .bool false, .bool false, .bool true] 164)).cell? ⟨w.heap.size, 1, none⟩ = some (.int .i64 x) := by rw [hb1'.cell (p := ⟨w.heap.size, 1, none⟩) hlt]; exact q2
    have r3 : (W.alloc (.cells #[.string ⟨#[99, 111, 110, 115, 116]⟩, .bool false, .bool false, .bool true] 164)).cell? ⟨w.heap.size, 2, none⟩ = some (.int .i64 y) := by rw [hb1'.cell (p := ⟨w.heap.size, 2, none⟩) hlt]; exact q3
    have r4 : (W.alloc (.cells #[.string ⟨#[99, 111, 110, 115, 116]⟩, .bool false, .bool false, .bool true] 164)).cell? ⟨w.heap.size, 3, none⟩ = some (.int .u64 z) := by rw [hb1'.cell (p := ⟨w.heap.size, 3, none⟩) hlt]; exact q4
    have hlt2 := Nat.lt_trans hlt hlt1
    go_upto_region 4 with fail
    generalize W.alloc (.cells #[.string ⟨#[99, 111, 110, 115, 116]⟩, .bool false, .bool false, .bool true] 164) = V at *
    clear s0 s1 s2 s3 q1 q2 q3 q4 hb1' hb0 hS0
    by_cases hx0 : x = 0
    · subst hx0
      by_cases hy0 : y = 0
      · subst hy0
        have HY : Hid (okg i ⟨2, 0, 0, z⟩) := .inr (.inl ⟨rfl, rfl, rfl⟩)
        go_wp2
        go_ret
        exact Gri.y HY.out hb1
      · have hby : (y == 0) = false := by rw [beq_eq_false_iff_ne]; exact hy0
        have hcy : (y != 0) = true := by rw [bne_iff_ne]; exact hy0
        have HN : Hid (¬ okg i ⟨2, 0, y, z⟩) := by unfold Hid okg; simp only; omega
        go_wp2
        go_ret
        exact Gri.n HN.out hb1
    · have hbx : (x == 0) = false := by rw [beq_eq_false_iff_ne]; exact hx0
      have hcx : (x != 0) = true := by rw [bne_iff_ne]; exact hx0
      have HN : Hid (¬ okg i ⟨2, x, y, z⟩) := by unfold Hid okg; simp only; omega
      go_wp2
      go_ret
      exact Gri.n HN.out hb1
  · obtain ⟨s0, s1, s2, s3⟩ := hS0.at3
    have slt := hS0.lt
    have hb1' : Below W.heap.size W (W.alloc (.cells #[.string ⟨#[97, 100, 100]⟩, .bool true, .bool true, .bool false] 164)) := (Below.refl _ _).alloc (Nat.le_refl _) _
    have hb1 := hb0.trans (hb1'.mono hb0.size)
    obtain ⟨t0, t1, t2, t3⟩ := shape_box W ⟨#[97, 100, 100]⟩ true true false 164
    have hlt1 : W.heap.size < (W.alloc (.cells #[.string ⟨#[97, 100, 100]⟩, .bool true, .bool true, .bool false] 164)).heap.size := by simp
    have r1 : (W.alloc (.cells #[.string ⟨#[97, 100, 100]⟩, .bool true, .bool true, .bool false] 164)).cell? ⟨w.heap.size, 0, none⟩ = some (.int .i64 3) := by rw [hb1'.cell (p := ⟨w.heap.size, 0, none⟩) hlt]; exact q1
    have r2 : (W.alloc (.cells #[.string ⟨#[97, 100, 100]⟩, .bool true, .bool true, .bool false] 164)).cell? ⟨w.heap.size, 1, none⟩ = some (.int .i64 x) := by rw [hb1'.cell (p := ⟨w.heap.size, 1, none⟩) hlt]; exact q2
    have r3 : (W.alloc (.cells #[.string ⟨#[97, 100, 100]⟩, .bool true, .bool true, .bool false] 164)).cell? ⟨w.heap.size, 2, none⟩ = some (.int .i64 y) := by rw [hb1'.cell (p := ⟨w.heap.size, 2, none⟩) hlt]; exact q3
    have r4 : (W.alloc (.cells #[.string ⟨#[97, 100, 100]⟩, .bool true, .bool true, .bool false] 164)).cell? ⟨w.heap.size, 3, none⟩ = some (.int .u64 z) := by rw [hb1'.cell (p := ⟨w.heap.size, 3, none⟩) hlt]; exact q4
    have hlt2 := Nat.lt_trans hlt hlt1
    go_upto_region 4 with fail
    generalize W.alloc (.cells #[.string ⟨#[97, 100, 100]⟩, .bool true, .bool true, .bool false] 164) = V at *
    clear s0 s1 s2 s3 q1 q2 q3 q4 hb1' hb0 hS0
    by_cases hz0 : z = 0
    · subst hz0
      by_cases hxr : x < 0 ∨ (i : Int) ≤ x
      · have Hx : Hid (x < 0 ∨ (i : Int) ≤ x) := hxr
        have HN : Hid (¬ okg i ⟨3, x, y, 0⟩) := by unfold Hid okg; simp only; omega
        go_wp2_with (first | (go_at_call_of 90 (Value.int .i64 x); refine (cAheadN _ _ _ Hx.out).mono ?_; rintro e w' ⟨rfl, hw⟩; have hw := hw.symm; subst hw))
        go_ret
        exact Gri.n HN.out hb1
      · have Hx : Hid (0 ≤ x ∧ x < (i : Int)) := ⟨by omega, by omega⟩
        by_cases hyr : y < 0 ∨ (i : Int) ≤ y
        · have Hy : Hid (y < 0 ∨ (i : Int) ≤ y) := hyr
          have HN : Hid (¬ okg i ⟨3, x, y, 0⟩) := by unfold Hid okg; simp only; omega
          go_wp2_with (first | (go_at_call_of 90 (Value.int .i64 x); refine (cAheadY _ _ _ Hx.out.1 Hx.out.2).mono ?_; rintro e w' ⟨rfl, hw⟩; have hw := hw.symm; subst hw) | (go_at_call_of 90 (Value.int .i64 y); refine (cAheadN _ _ _ Hy.out).mono ?_; rintro e w' ⟨rfl, hw⟩; have hw := hw.symm; subst hw))
          go_ret
          exact Gri.n HN.out hb1
        · have Hy : Hid (0 ≤ y ∧ y < (i : Int)) := ⟨by omega, by omega⟩
          have HY : Hid (okg i ⟨3, x, y, 0⟩) := .inr (.inr (.inr ⟨.inl rfl, Hx.out, Hy.out, rfl⟩))
          go_wp2_with (first | (go_at_call_of 90 (Value.int .i64 x); refine (cAheadY _ _ _ Hx.out.1 Hx.out.2).mono ?_; rintro e w' ⟨rfl, hw⟩; have hw := hw.symm; subst hw) | (go_at_call_of 90 (Value.int .i64 y); refine (cAheadY _ _ _ Hy.out.1 Hy.out.2).mono ?_; rintro e w' ⟨rfl, hw⟩; have hw := hw.symm; subst hw))
          go_ret
          exact Gri.y HY.out hb1
    · have hbz : (z == 0) = false := by rw [beq_eq_false_iff_ne]; exact hz0
      have hcz : (z != 0) = true := by rw [bne_iff_ne]; exact hz0
      have HN : Hid (¬ okg i ⟨3, x, y, z⟩) := by unfold Hid okg; simp only; omega
      go_wp2
      go_ret
      exact Gri.n HN.out hb1
  · obtain ⟨s0, s1, s2, s3⟩ := hS0.at4
    have slt := hS0.lt
    have hb1' : Below W.heap.size W (W.alloc (.cells #[.string ⟨#[115, 117, 98]⟩, .bool true, .bool true, .bool false] 164)) := (Below.refl _ _).alloc (Nat.le_refl _) _
    have hb1 := hb0.trans (hb1'.mono hb0.size)
    obtain ⟨t0, t1, t2, t3⟩ := shape_box W ⟨#[115, 117, 98]⟩ true true false 164
    have hlt1 : W.heap.size < (W.alloc (.cells #[.string ⟨#[115, 117, 98]⟩, .bool true, .bool true, .bool false] 164)).heap.size := by simp
    have r1 : (W.alloc (.cells #[.string ⟨#[115, 117, 98]⟩, .bool true, .bool true, .bool false] 164)).cell? ⟨w.heap.size, 0, none⟩ = some (.int .i64 4) := by rw [hb1'.cell (p := ⟨w.heap.size, 0, none⟩) hlt]; exact q1
    have r2 : (W.alloc (.cells #[.string ⟨#[115, 117, 98]⟩, .bool true, .bool true, .bool false] 164)).cell? ⟨w.heap.size, 1, none⟩ = some (.int .i64 x) := by rw [hb1'.cell (p := ⟨w.heap.size, 1, none⟩) hlt]; exact q2
    have r3 : (W.alloc (.cells #[.string ⟨#[115, 117, 98]⟩, .bool true, .bool true, .bool false] 164)).cell? ⟨w.heap.size, 2, none⟩ = some (.int .i64 y) := by rw [hb1'.cell (p := ⟨w.heap.size, 2, none⟩) hlt]; exact q3
    have r4 : (W.alloc (.cells #[.string ⟨#[115, 117, 98]⟩, .bool true, .bool true, .bool false] 164)).cell? ⟨w.heap.size, 3, none⟩ = some (.int .u64 z) := by rw [hb1'.cell (p := ⟨w.heap.size, 3, none⟩) hlt]; exact q4
    have hlt2 := Nat.lt_trans hlt hlt1
    go_upto_region 4 with fail
    generalize W.alloc (.cells #[.string ⟨#[115, 117, 98]⟩, .bool true, .bool true, .bool false] 164) = V at *
    clear s0 s1 s2 s3 q1 q2 q3 q4 hb1' hb0 hS0
    by_cases hz0 : z = 0
    · subst hz0
      by_cases hxr : x < 0 ∨ (i : Int) ≤ x
      · have Hx : Hid (x < 0 ∨ (i : Int) ≤ x) := hxr
        have HN : Hid (¬ okg i ⟨4, x, y, 0⟩) := by unfold Hid okg; simp only; omega
        go_wp2_with (first | (go_at_call_of 90 (Value.int .i64 x); refine (cAheadN _ _ _ Hx.out).mono ?_; rintro e w' ⟨rfl, hw⟩; have hw := hw.symm; subst hw))
        go_ret
        exact Gri.n HN.out hb1
      · have Hx : Hid (0 ≤ x ∧ x < (i : Int)) := ⟨by omega, by omega⟩
        by_cases hyr : y < 0 ∨ (i : Int) ≤ y
        · have Hy : Hid (y < 0 ∨ (i : Int) ≤ y) := hyr
          have HN : Hid (¬ okg i ⟨4, x, y, 0⟩) := by unfold Hid okg; simp only; omega
          go_wp2_with (first | (go_at_call_of 90 (Value.int .i64 x); refine (cAheadY _ _ _ Hx.out.1 Hx.out.2).mono ?_; rintro e w' ⟨rfl, hw⟩; have hw := hw.symm; subst hw) | (go_at_call_of 90 (Value.int .i64 y); refine (cAheadN _ _ _ Hy.out).mono ?_; rintro e w' ⟨rfl, hw⟩; have hw := hw.symm; subst hw))
          go_ret
          exact Gri.n HN.out hb1
        · have Hy : Hid (0 ≤ y ∧ y < (i : Int)) := ⟨by omega, by omega⟩
          have HY : Hid (okg i ⟨4, x, y, 0⟩) := .inr (.inr (.inr ⟨.inr (.inl rfl), Hx.out, Hy.out, rfl⟩))
          go_wp2_with (first | (go_at_call_of 90 (Value.int .i64 x); refine (cAheadY _ _ _ Hx.out.1 Hx.out.2).mono ?_; rintro e w' ⟨rfl, hw⟩; have hw := hw.symm; subst hw) | (go_at_call_of 90 (Value.int .i64 y); refine (cAheadY _ _ _ Hy.out.1 Hy.out.2).mono ?_; rintro e w' ⟨rfl, hw⟩; have hw := hw.symm; subst hw))
          go_ret
          exact Gri.y HY.out hb1
    · have hbz : (z == 0) = false := by rw [beq_eq_false_iff_ne]; exact hz0
      have hcz : (z != 0) = true := by rw [bne_iff_ne]; exact hz0
      have HN : Hid (¬ okg i ⟨4, x, y, z⟩) := by unfold Hid okg; simp only; omega
      go_wp2
      go_ret
      exact Gri.n HN.out hb1
  · obtain ⟨s0, s1, s2, s3⟩ := hS0.at5
    have slt := hS0.lt
    have hb1' : Below W.heap.size W (W.alloc (.cells #[.string ⟨#[109, 117, 108]⟩, .bool true, .bool true, .bool false] 164)) := (Below.refl _ _).alloc (Nat.le_refl _) _
    have hb1 := hb0.trans (hb1'.mono hb0.size)
    obtain ⟨t0, t1, t2, t3⟩ := shape_box W ⟨#[109, 117, 108]⟩ true true false 164
    have hlt1 : W.heap.size < (W.alloc (.cells #[.string ⟨#[109, 117, 108]⟩, .bool true, .bool true, .bool false] 164)).heap.size := by simp
    have r1 : (W.alloc (.cells #[.string ⟨#[109, 117, 108]⟩, .bool true, .bool true, .bool false] 164)).cell? ⟨w.heap.size, 0, none⟩ = some (.int .i64 5) := by rw [hb1'.cell (p := ⟨w.heap.size, 0, none⟩) hlt]; exact q1
    have r2 : (W.alloc (.cells #[.string ⟨#[109, 117, 108]⟩, .bool true, .bool true, .bool false] 164)).cell? ⟨w.heap.size, 1, none⟩ = some (.int .i64 x) := by rw [hb1'.cell (p := ⟨w.heap.size, 1, none⟩) hlt]; exact q2
    have r3 : (W.alloc (.cells #[.string ⟨#[109, 117, 108]⟩, .bool true, .bool true, .bool false] 164)).cell? ⟨w.heap.size, 2, none⟩ = some (.int .i64 y) := by rw [hb1'.cell (p := ⟨w.heap.size, 2, none⟩) hlt]; exact q3
    have r4 : (W.alloc (.cells #[.string ⟨#[109, 117, 108]⟩, .bool true, .bool true, .bool false] 164)).cell? ⟨w.heap.size, 3, none⟩ = some (.int .u64 z) := by rw [hb1'.cell (p := ⟨w.heap.size, 3, none⟩) hlt]; exact q4
    have hlt2 := Nat.lt_trans hlt hlt1
    go_upto_region 4 with fail
    generalize W.alloc (.cells #[.string ⟨#[109, 117, 108]⟩, .bool true, .bool true, .bool false] 164) = V at *
    clear s0 s1 s2 s3 q1 q2 q3 q4 hb1' hb0 hS0
    by_cases hz0 : z = 0
    · subst hz0
      by_cases hxr : x < 0 ∨ (i : Int) ≤ x
      · have Hx : Hid (x < 0 ∨ (i : Int) ≤ x) := hxr
        have HN : Hid (¬ okg i ⟨5, x, y, 0⟩) := by unfold Hid okg; simp only; omega
        go_wp2_with (first | (go_at_call_of 90 (Value.int .i64 x); refine (cAheadN _ _ _ Hx.out).mono ?_; rintro e w' ⟨rfl, hw⟩; have hw := hw.symm; subst hw))
        go_ret
        exact Gri.n HN.out hb1
      · have Hx : Hid (0 ≤ x ∧ x < (i : Int)) := ⟨by omega, by omega⟩
        by_cases hyr : y < 0 ∨ (i : Int) ≤ y
        · have Hy : Hid (y < 0 ∨ (i : Int) ≤ y) := hyr
          have HN : Hid (¬ okg i ⟨5, x, y, 0⟩) := by unfold Hid okg; simp only; omega
          go_wp2_with (first | (go_at_call_of 90 (Value.int .i64 x); refine (cAheadY _ _ _ Hx.out.1 Hx.out.2).mono ?_; rintro e w' ⟨rfl, hw⟩; have hw := hw.symm; subst hw) | (go_at_call_of 90 (Value.int .i64 y); refine (cAheadN _ _ _ Hy.out).mono ?_; rintro e w' ⟨rfl, hw⟩; have hw := hw.symm; subst hw))
          go_ret
          exact Gri.n HN.out hb1
        · have Hy : Hid (0 ≤ y ∧ y < (i : Int)) := ⟨by omega, by omega⟩
          have HY : Hid (okg i ⟨5, x, y, 0⟩) := .inr (.inr (.inr ⟨.inr (.inr rfl), Hx.out, Hy.out, rfl⟩))
          go_wp2_with (first | (go_at_call_of 90 (Value.int .i64 x); refine (cAheadY _ _ _ Hx.out.1 Hx.out.2).mono ?_; rintro e w' ⟨rfl, hw⟩; have hw := hw.symm; subst hw) | (go_at_call_of 90 (Value.int .i64 y); refine (cAheadY _ _ _ Hy.out.1 Hy.out.2).mono ?_; rintro e w' ⟨rfl, hw⟩; have hw := hw.symm; subst hw))
          go_ret
          exact Gri.y HY.out hb1
    · have hbz : (z == 0) = false := by rw [beq_eq_false_iff_ne]; exact hz0
      have hcz : (z != 0) = true := by rw [bne_iff_ne]; exact hz0
      have HN : Hid (¬ okg i ⟨5, x, y, z⟩) := by unfold Hid okg; simp only; omega
      go_wp2
      go_ret
      exact Gri.n HN.out hb1
  · obtain ⟨s0, s1, s2, s3⟩ := hS0.at6
    have slt := hS0.lt
    have hb1' : Below W.heap.size W (W.alloc (.cells #[.string ⟨#[115, 99, 97, 108, 101]⟩, .bool true, .bool false, .bool true] 164)) := (Below.refl _ _).alloc (Nat.le_refl _) _
    have hb1 := hb0.trans (hb1'.mono hb0.size)
    obtain ⟨t0, t1, t2, t3⟩ := shape_box W ⟨#[115, 99, 97, 108, 101]⟩ true false true 164
    have hlt1 : W.heap.size < (W.alloc (.cells #[.string ⟨#[115, 99, 97, 108, 101]⟩, .bool true, .bool false, .bool true] 164)).heap.size := by simp
    have r1 : (W.alloc (.cells #[.string ⟨#[115, 99, 97, 108, 101]⟩, .bool true, .bool false, .bool true] 164)).cell? ⟨w.heap.size, 0, none⟩ = some (.int .i64 6) := by rw [hb1'.cell (p := ⟨w.heap.size, 0, none⟩) hlt]; exact q1
    have r2 : (W.alloc (.cells #[.string ⟨#[115, 99, 97, 108, 101]⟩, .bool true, .bool false, .bool true] 164)).cell? ⟨w.heap.size, 1, none⟩ = some (.int .i64 x) := by rw [hb1'.cell (p := ⟨w.heap.size, 1, none⟩) hlt]; exact q2
    have r3 : (W.alloc (.cells #[.string ⟨#[115, 99, 97, 108, 101]⟩, .bool true, .bool false, .bool true] 164)).cell? ⟨w.heap.size, 2, none⟩ = some (.int .i64 y) := by rw [hb1'.cell (p := ⟨w.heap.size, 2, none⟩) hlt]; exact q3
    have r4 : (W.alloc (.cells #[.string ⟨#[115, 99, 97, 108, 101]⟩, .bool true, .bool false, .bool true] 164)).cell? ⟨w.heap.size, 3, none⟩ = some (.int .u64 z) := by rw [hb1'.cell (p := ⟨w.heap.size, 3, none⟩) hlt]; exact q4
    have hlt2 := Nat.lt_trans hlt hlt1
    go_upto_region 4 with fail
    generalize W.alloc (.cells #[.string ⟨#[115, 99, 97, 108, 101]⟩, .bool true, .bool false, .bool true] 164) = V at *
    clear s0 s1 s2 s3 q1 q2 q3 q4 hb1' hb0 hS0
    by_cases hy0 : y = 0
    · subst hy0
      by_cases hxr : x < 0 ∨ (i : Int) ≤ x
      · have Hx : Hid (x < 0 ∨ (i : Int) ≤ x) := hxr
        have HN : Hid (¬ okg i ⟨6, x, 0, z⟩) := by unfold Hid okg; simp only; omega
        go_wp2_with (first | (go_at_call_of 90 (Value.int .i64 x); refine (cAheadN _ _ _ Hx.out).mono ?_; rintro e w' ⟨rfl, hw⟩; have hw := hw.symm; subst hw))
        go_ret
        exact Gri.n HN.out hb1
      · have Hx : Hid (0 ≤ x ∧ x < (i : Int)) := ⟨by omega, by omega⟩
        have HY : Hid (okg i ⟨6, x, 0, z⟩) := .inr (.inr (.inl ⟨rfl, Hx.out, rfl⟩))
        go_wp2_with (first | (go_at_call_of 90 (Value.int .i64 x); refine (cAheadY _ _ _ Hx.out.1 Hx.out.2).mono ?_; rintro e w' ⟨rfl, hw⟩; have hw := hw.symm; subst hw))
        go_ret
        exact Gri.y HY.out hb1
    · have hby : (y == 0) = false := by rw [beq_eq_false_iff_ne]; exact hy0
      have hcy : (y != 0) = true := by rw [bne_iff_ne]; exact hy0
      have HN : Hid (¬ okg i ⟨6, x, y, z⟩) := by unfold Hid okg; simp only; omega
      go_wp2
      go_ret
      exact Gri.n HN.out hb1
end Go.Proofs.YtgmelcdgnjcojagDoor
