/- croftref.Played: what its switch over a gate leaves; the switch, taken out of the translation. · croftref.Played: how much is seen; a wire more: plain facts. · The parties of package engine: their block, and what they have gathered. · The parties' draw and see. · The parties' deal. -/
import Derived.Test.YtljlioglpaogdagDoorToTwByM
import Derived.Test.YtljlioglpaogdagDoorToEnDef
import Derived.Test.YtljlioglpaogdagDoorToGaussM
import Derived.Test.YtljlioglpaogdagDoorToBadM
import Derived.Test.YtljlioglpaogdagDoorToTopTinyC
import Derived.Deep.LoopGhost
import Derived.Deep.CutBlock
import Derived.Deep.CutRange
import Derived.Test.YtljlioglpaogdagDoorProg
import Derived.WalkKit
import Derived.WalkSpells
import Derived.WalkLawsBesides
import Derived.Deep.AppendLies
import Derived.Deep.RegionLaw
import Derived.Deep.RegionHeld3
import Derived.Test.YtljlioglpaogdagDoorToSubC
import Derived.Test.YtljlioglpaogdagDoorEnR
import Derived.Test.YtljlioglpaogdagDoorToOpenC
import Derived.Test.YtljlioglpaogdagDoorToCheckC
namespace Go.Proofs.YtljlioglpaogdagDoor
set_option linter.unusedVariables false
set_option maxRecDepth 100000
set_option maxHeartbeats 8000000
section
open Crm Go.RowKit
/-- What each party has seen of the first i gates. -/
def sgl (G : List Gt) (n t : Nat) (ins ds : List Int) (i : Nat) : List (List Int) := (List.range n).map fun j => sng G n t ins ds i j
theorem sgl_len (G : List Gt) (n t : Nat) (ins ds : List Int) (i : Nat) : (sgl G n t ins ds i).length = n := by simp [sgl]
/-- What the switch leaves: the gate's numbers, and what is seen of it. -/
def Psw (G : List Gt) (n t : Nat) (ins ds : List Int) (w : World) (gs i : Nat) (vW : Value) (LW : List Value) (u : Value) (w' : World) : Prop :=
  ∃ (Ls : List Value) (lo hi : Nat), Sen w w' gs n Ls (sgl G n t ins ds (i + 1)) vW LW (ewr G n t ins ds i) lo hi ∧ w'.ownsRow w.heap.size 34 1 u n ((ew G n t ins ds i).map (Value.int .u64)) ∧ Btw lo hi u ∧ ∀ p b, (LW.getD p (.slice none 0 0)).ownBlock = some b → b < lo
/-- What a call has made lies apart. -/
theorem Sen.fresh {w wr w' : World} {gs n : Nat} {Ls : List Value} {S : List (List Int)} {vW : Value} {LW : List Value} {W : List (List Int)} {lo hi : Nat} (h : Sen w wr gs n Ls S vW LW W lo hi) (hn : 0 < n) (hb : Below wr.heap.size wr w') : Sen w w' gs n Ls S vW LW W wr.heap.size w'.heap.size :=
  ⟨h.seen.below hb, h.len, h.wires.below hb, h.apt, h.out, fun p hp gg hgg => .inl ((h.seen.row p (by rw [h.len]; exact hp)).lt gg hgg).2, (h.seen.cell h.len hn).2.2, Nat.le_refl _, h.bel.trans (hb.mono h.bel.size)⟩
theorem sgl_same {G : List Gt} {n t : Nat} {ins ds : List Int} {i : Nat} (h1 : (gt G i).k ≠ 1) (h5 : (gt G i).k ≠ 5) : sgl G n t ins ds (i + 1) = sgl G n t ins ds i := by
  unfold sgl
  refine List.map_congr_left fun j _ => ?_
  rw [sng_succ]
  unfold esn
  rw [if_neg h1, if_neg h5, List.append_nil]
theorem sgl_next (G : List Gt) (n t : Nat) (ins ds : List Int) (i : Nat) : sgx (sng G n t ins ds i) (esn G n t ins ds i) n n = sgl G n t ins ds (i + 1) := by
  rw [sgx_full]
  unfold sgl
  refine List.map_congr_left fun j _ => ?_
  rw [sng_succ]
theorem sgl_first (G : List Gt) (n t : Nat) (ins ds : List Int) (i : Nat) : sgl G n t ins ds i = sgx (sng G n t ins ds i) (esn G n t ins ds i) n 0 := by rw [sgx_zero]; rfl
/-- A gate of which nothing is seen. -/
theorem Psw.quiet {G : List Gt} {n t : Nat} {ins ds : List Int} {w wr w' : World} {gs i lo hi : Nat} {Ls : List Value} {vW u : Value} {LW : List Value} (h : Sen w wr gs n Ls (sgl G n t ins ds i) vW LW (ewr G n t ins ds i) lo hi) (hn : 0 < n) (hb : Below wr.heap.size wr w') (h1 : (gt G i).k ≠ 1) (h5 : (gt G i).k ≠ 5)
    (ho : w'.ownsRow wr.heap.size 34 1 u n ((ew G n t ins ds i).map (Value.int .u64))) : Psw G n t ins ds w gs i vW LW u w' := by
  have hS := h.fresh hn hb
  rw [← sgl_same h1 h5] at hS
  exact ⟨Ls, _, _, hS, own_baseV ho h.bel.size, fun b hb => ho.lt b hb, fun p b hb => (h.wires.blk p b hb).2⟩
/-- A wire's numbers, as they are read. -/
theorem Sen.wire {G : List Gt} {n t : Nat} {ins ds : List Int} {w wr : World} {gs i lo hi p cW : Nat} {aW : Option Addr} {Ls : List Value} {S : List (List Int)} {LW : List Value} (h : Sen w wr gs n Ls S (.slice aW i cW) LW (ewr G n t ins ds i) lo hi) (hp : p < i) :
    ∃ gW a c, aW = some ⟨gW, 0, none⟩ ∧ gW < wr.heap.size ∧ wr.cell? ⟨gW, p, none⟩ = some (.slice a n c) ∧ Rd wr a n c (ew G n t ins ds p) := by
  have ho := h.wires.own
  rw [ewr_len] at ho
  obtain ⟨gW, u, rfl, _, _, _, _⟩ := own_at ho hp
  obtain ⟨e1, _, e3⟩ := h.wires.cell (ewr_len G n t ins ds i) hp
  obtain ⟨a, c, e4, hr⟩ := h.wires.one (ewr_len G n t ins ds i) hp (by rw [ewr_getD G n t ins ds hp]; exact bd_u64 (ew_bd _ _ _ _ _ _))
  rw [ewr_getD G n t ins ds hp, ew_len] at e4 hr
  exact ⟨gW, a, c, rfl, e3, by rw [e1, e4], hr⟩
theorem dwn_mono (G : List Gt) (n t : Nat) {i j : Nat} (h : i ≤ j) : dwn G n t i ≤ dwn G n t j := by
  induction j with
  | zero => obtain rfl : i = 0 := by omega
            exact Nat.le_refl _
  | succ j ih =>
    by_cases e : i = j + 1
    · rw [e]; exact Nat.le_refl _
    · have := ih (by omega)
      rw [dwn]
      omega
theorem esn_le (G : List Gt) (n t : Nat) (ins ds : List Int) (i j : Nat) (hn : n ≤ 9) : (esn G n t ins ds i j).length ≤ 9 := by
  unfold esn
  split
  · simp
  · split
    · rw [tmR_len]; exact hn
    · simp
theorem sng_bound (G : List Gt) (n t : Nat) (ins ds : List Int) (i j : Nat) (hn : n ≤ 9) : (sng G n t ins ds i j).length ≤ 9 * i := by
  induction i with
  | zero => simp [sng]
  | succ i ih =>
    have := esn_le G n t ins ds i j hn
    rw [sng_succ, List.length_append]
    omega

/-- The gate's numbers are laid beside the wires. -/
theorem Psw.next {G : List Gt} {n t : Nat} {ins ds : List Int} {w wc w2 : World} {gs i : Nat} {vW v2 u : Value} {LW : List Value} (h : Psw G n t ins ds w gs i vW LW u wc) (hn : 0 < n) (ho : w2.ownsRow w.heap.size 22 1 v2 (i + 1) (LW ++ [u])) (hg : wc.grownBy w2 vW.ownBlock)
    (hat : v2.ownBlock = vW.ownBlock ∨ ∃ k, v2.ownBlock = some k ∧ wc.heap.size ≤ k) : ∃ Ls, Sen w w2 gs n Ls (sgl G n t ins ds (i + 1)) v2 (LW ++ [u]) (ewr G n t ins ds (i + 1)) (gs + 1) (gs + 1) := by
  obtain ⟨Ls, lo, hi, hS, hu, hb, hlw⟩ := h
  have hE : (22 : TypeId) ≠ 34 := by decide
  have hgs := (hS.seen.cell hS.len hn).2.2
  have hel := ewr_len G n t ins ds i
  have hne : ∀ p, (LW.getD p (.slice none 0 0)).ownBlock = none ∨ (LW.getD p (.slice none 0 0)).ownBlock ≠ u.ownBlock := fun p => by
    cases e : (LW.getD p (.slice none 0 0)).ownBlock with
    | none => exact .inl rfl
    | some b =>
      right
      intro e'
      have h1 := hlw p b e
      have h2 := hb b e'.symm
      omega
  have hnu : ∀ p, u.ownBlock = none ∨ u.ownBlock ≠ (Ls.getD p (.slice none 0 0)).ownBlock := fun p => by
    cases e : u.ownBlock with
    | none => exact .inl rfl
    | some b =>
      right
      intro e'
      have h2 := hb b e
      by_cases hp : p < n
      · have h3 := hS.far p hp b e'.symm
        omega
      · have hl := hS.seen.len
        rw [hS.len] at hl
        rw [List.getD_eq_getElem?_getD, List.getElem?_eq_none (by omega)] at e'
        simp [Value.ownBlock] at e'
  refine ⟨Ls, hS.seen.grown hg (.inr (fun e => hS.out e.symm)) (fun p hp => own_apart hS.wires.own (hS.seen.row p hp) hE), hS.len, ?_, (hS.apt.symm.add hnu).symm, ?_, fun p _ gg _ => by omega, by omega, Nat.le_trans hgs hg.size, hS.bel.grown hg hS.bel.size (fun q hq => (hS.wires.own.lt q hq).1)⟩
  · rw [ewr_succ]
    exact hS.wires.add (by rw [ew_len]; exact hu) (fun p _ => hne p) (by rw [hel]; exact ho) hg
  · rcases hat with e | ⟨k, e, hk⟩
    · rw [e]; exact hS.out
    · rw [e]
      intro e'
      have := Option.some.inj e'
      omega
theorem sno_bound (G : List Gt) (O : List Int) (n t : Nat) (ins ds : List Int) (N q j : Nat) (hn : n ≤ 9) : (sno G O n t ins ds N q j).length ≤ 9 * N + 9 * q := by
  induction q with
  | zero => have := sng_bound G n t ins ds N j hn; simp [sno]; omega
  | succ q ih => rw [sno_succ, List.length_append, ew_len]; omega
theorem snl_next (G : List Gt) (O : List Int) (n t : Nat) (ins ds : List Int) (N q : Nat) : sgx (sno G O n t ins ds N q) (fun _ => ew G n t ins ds (O.getD q 0).toNat) n n = snl G O n t ins ds N (q + 1) := by
  rw [sgx_full]
  unfold snl
  refine List.map_congr_left fun j _ => ?_
  rw [sno_succ]
theorem snl_first (G : List Gt) (O : List Int) (n t : Nat) (ins ds : List Int) (N q : Nat) : snl G O n t ins ds N q = sgx (sno G O n t ins ds N q) (fun _ => ew G n t ins ds (O.getD q 0).toNat) n 0 := by rw [sgx_zero]; rfl
theorem snl_zero (G : List Gt) (O : List Int) (n t : Nat) (ins ds : List Int) (N : Nat) : sgl G n t ins ds N = snl G O n t ins ds N 0 := by
  unfold sgl snl
  refine List.map_congr_left fun j _ => ?_
  simp [sno]
/-- The parties' block. -/
def PBox (w : World) (g n t : Nat) (vi vd vW vS : Value) : Prop := w.heap[g]? = some (.cells #[.int .i64 (n : Int), .int .i64 (t : Int), vi, vd, vW, vS] 113 (0, 0))
theorem PBox.lt {w : World} {g n t : Nat} {vi vd vW vS : Value} (h : PBox w g n t vi vd vW vS) : g < w.heap.size := (Array.getElem?_eq_some_iff.1 h).1
theorem PBox.cells {w : World} {g n t : Nat} {vi vd vW vS : Value} (h : PBox w g n t vi vd vW vS) : w.cell? ⟨g, 0, none⟩ = some (.int .i64 (n : Int)) ∧ w.cell? ⟨g, 1, none⟩ = some (.int .i64 (t : Int)) ∧ w.cell? ⟨g, 2, none⟩ = some vi ∧ w.cell? ⟨g, 3, none⟩ = some vd ∧ w.cell? ⟨g, 4, none⟩ = some vW ∧ w.cell? ⟨g, 5, none⟩ = some vS := by
  unfold PBox at h
  rw [cell_of_row w g 0 _ _ (0, 0) h, cell_of_row w g 1 _ _ (0, 0) h, cell_of_row w g 2 _ _ (0, 0) h, cell_of_row w g 3 _ _ (0, 0) h, cell_of_row w g 4 _ _ (0, 0) h, cell_of_row w g 5 _ _ (0, 0) h]
  exact ⟨rfl, rfl, rfl, rfl, rfl, rfl⟩
theorem PBox.below {w w' : World} {B g n t : Nat} {vi vd vW vS : Value} (h : PBox w g n t vi vd vW vS) (hb : Below B w w') (hg : g < B) : PBox w' g n t vi vd vW vS := by
  unfold PBox; rw [hb.block g hg]; exact h
theorem PBox.grown {w w' : World} {g n t : Nat} {r : Option Nat} {vi vd vW vS : Value} (h : PBox w g n t vi vd vW vS) (hg : w.grownBy w' r) (hr : some g ≠ r) : PBox w' g n t vi vd vW vS := by
  unfold PBox; rw [hg.block g h.lt hr]; exact h
theorem PBox.drew {w : World} {g n t : Nat} {vi vd vW vS : Value} (h : PBox w g n t vi vd vW vS) : PBox w.drew g n t vi vd vW vS := h
theorem PBox.frozen {w : World} {g n t : Nat} {vi vd vW vS : Value} (h : PBox w g n t vi vd vW vS) (i : Nat) : w.frozen? ⟨g, i, none⟩ = false := frozen_of_row w g i _ _ h
theorem PBox.set2 {w : World} {g n t : Nat} {vi vd vW vS : Value} (h : PBox w g n t vi vd vW vS) (v : Value) : PBox (w.setCell ⟨g, 2, none⟩ v) g n t v vd vW vS := by
  have := heap_setCell_same w g 2 _ _ v h
  unfold PBox; rw [this]; rfl
theorem PBox.set3 {w : World} {g n t : Nat} {vi vd vW vS : Value} (h : PBox w g n t vi vd vW vS) (v : Value) : PBox (w.setCell ⟨g, 3, none⟩ v) g n t vi v vW vS := by
  have := heap_setCell_same w g 3 _ _ v h
  unfold PBox; rw [this]; rfl
theorem PBox.set4 {w : World} {g n t : Nat} {vi vd vW vS : Value} (h : PBox w g n t vi vd vW vS) (v : Value) : PBox (w.setCell ⟨g, 4, none⟩ v) g n t vi vd v vS := by
  have := heap_setCell_same w g 4 _ _ v h
  unfold PBox; rw [this]; rfl
/-- A list lies elsewhere. -/
theorem PBox.off {w : World} {g n t : Nat} {vi vd vW vS v : Value} {B z k : Nat} {E : TypeId} {xs : List Value} (h : PBox w g n t vi vd vW vS) (ho : w.ownsRow B E z v k xs) (hE : E ≠ 113) : v.ownBlock = none ∨ v.ownBlock ≠ some g := by
  rcases ho.2 with ⟨rfl, _⟩ | ⟨g', cap, cur, rfl, _, hg, _⟩
  · exact .inl rfl
  · right
    intro e
    simp only [Value.ownBlock, Option.some.injEq] at e
    subst e
    unfold PBox at h
    rw [hg] at h
    simp only [Option.some.injEq, Obj.cells.injEq] at h
    exact hE h.2.1
theorem PBox.off' {w : World} {g n t : Nat} {vi vd vW vS v : Value} {B z k : Nat} {E : TypeId} {xs : List Value} (h : PBox w g n t vi vd vW vS) (ho : w.ownsRow B E z v k xs) (hE : E ≠ 113) : some g ≠ v.ownBlock := by
  rcases h.off ho hE with e | e
  · rw [e]; simp
  · exact fun e' => e e'.symm
theorem eUP : (34 : TypeId) ≠ 113 := by decide
theorem eVP : (22 : TypeId) ≠ 113 := by decide
/-- The parties' state. -/
structure PSt (w wr : World) (gp gs n t : Nat) (vi vd : Value) (Ls : List Value) (S : List (List Int)) (vW : Value) (LW : List Value) (W : List (List Int)) (lo hi : Nat) : Prop where
  sen : Sen w wr gs n Ls S vW LW W lo hi
  box : PBox wr gp n t vi vd vW (.slice (some ⟨gs, 0, none⟩) n n)
  low : w.heap.size ≤ gp
theorem PSt.drew {w wr : World} {gp gs n t : Nat} {vi vd : Value} {Ls : List Value} {S : List (List Int)} {vW : Value} {LW : List Value} {W : List (List Int)} {lo hi : Nat} (h : PSt w wr gp gs n t vi vd Ls S vW LW W lo hi) : PSt w wr.drew gp gs n t vi vd Ls S vW LW W lo hi :=
  ⟨h.sen.drew, h.box, h.low⟩
theorem PSt.below {w wr w' : World} {gp gs n t : Nat} {vi vd : Value} {Ls : List Value} {S : List (List Int)} {vW : Value} {LW : List Value} {W : List (List Int)} {lo hi : Nat} (h : PSt w wr gp gs n t vi vd Ls S vW LW W lo hi) (hb : Below wr.heap.size wr w') : PSt w w' gp gs n t vi vd Ls S vW LW W lo hi :=
  ⟨h.sen.below hb, h.box.below hb h.box.lt, h.low⟩
theorem PSt.fresh {w wr w' : World} {gp gs n t : Nat} {vi vd : Value} {Ls : List Value} {S : List (List Int)} {vW : Value} {LW : List Value} {W : List (List Int)} {lo hi : Nat} (h : PSt w wr gp gs n t vi vd Ls S vW LW W lo hi) (hn : 0 < n) (hb : Below wr.heap.size wr w') : PSt w w' gp gs n t vi vd Ls S vW LW W wr.heap.size w'.heap.size :=
  ⟨h.sen.fresh hn hb, h.box.below hb h.box.lt, h.low⟩
/-- What the parties' block holds has turned. -/
theorem PSt.turn {w wr w' : World} {gp gs n t : Nat} {vi vd vi' vd' : Value} {Ls : List Value} {S : List (List Int)} {vW : Value} {LW : List Value} {W : List (List Int)} {lo hi : Nat} (h : PSt w wr gp gs n t vi vd Ls S vW LW W lo hi) (hg : wr.grownBy w' (some gp)) (hb : PBox w' gp n t vi' vd' vW (.slice (some ⟨gs, 0, none⟩) n n)) : PSt w w' gp gs n t vi' vd' Ls S vW LW W lo hi := by
  have hs := h.sen
  refine ⟨⟨hs.seen.grown hg (h.box.off hs.seen.own eVP) (fun i hi => h.box.off (hs.seen.row i hi) eUP), hs.len, hs.wires.grown hg (h.box.off hs.wires.own eVP) (fun i hi => h.box.off (hs.wires.row i hi) eUP), hs.apt, hs.out, hs.far, hs.gl, Nat.le_trans hs.hi hg.size, hs.bel.grown hg hs.bel.size (fun q hq => ?_)⟩, hb, h.low⟩
  obtain rfl := Option.some.inj hq
  exact h.low
/-- What party j has seen grows. -/
theorem PSt.put {w wr w7 : World} {gp gs n t j : Nat} {vi vd : Value} {Ls : List Value} {S : List (List Int)} {vW v7 : Value} {LW : List Value} {W : List (List Int)} {lo hi : Nat} {row : List Int} (h : PSt w wr gp gs n t vi vd Ls S vW LW W lo hi) (hj : j < n)
    (ho : w7.ownsRow w.heap.size 34 1 v7 row.length (row.map (Value.int .u64))) (hg : wr.grownBy w7 (Ls.getD j (.slice none 0 0)).ownBlock) (hat : v7.ownBlock = (Ls.getD j (.slice none 0 0)).ownBlock ∨ ∃ k, v7.ownBlock = some k ∧ wr.heap.size ≤ k) :
    PSt w (w7.setCell ⟨gs, j, none⟩ v7) gp gs n t vi vd (Ls.set j v7) (S.set j row) vW LW W lo hi := by
  have hrow := h.sen.seen.row j (by rw [h.sen.len]; exact hj)
  have hb7 := h.box.grown hg (h.box.off' hrow eUP)
  exact ⟨h.sen.put hj ho hg hat, hb7.grown (grown_set w7 gs j v7) (h.box.off' h.sen.seen.own eVP), h.low⟩
/-- What see leaves: party j's list has grown by xs. -/
def Seen (w wr : World) (gs j : Nat) (u : Value) (row xs : List Int) (w' : World) : Prop :=
  ∃ w7 v7, w' = w7.setCell ⟨gs, j, none⟩ v7 ∧ w7.ownsRow w.heap.size 34 1 v7 (row ++ xs).length ((row ++ xs).map (Value.int .u64)) ∧ wr.grownBy w7 u.ownBlock ∧ (v7.ownBlock = u.ownBlock ∨ ∃ k, v7.ownBlock = some k ∧ wr.heap.size ≤ k)
theorem PSt.seen {w wr w' : World} {gp gs n t j : Nat} {vi vd : Value} {Ls : List Value} {S X : Nat → List Int} {vW : Value} {LW : List Value} {W : List (List Int)} {lo hi : Nat} (h : PSt w wr gp gs n t vi vd Ls (sgx S X n j) vW LW W lo hi) (hj : j < n) (hs : Seen w wr gs j (Ls.getD j (.slice none 0 0)) (S j) (X j) w') :
    (∃ Ls', PSt w w' gp gs n t vi vd Ls' (sgx S X n (j + 1)) vW LW W lo hi) ∧ ∀ (B2 z k : Nat) (E : TypeId) (v : Value) (xs : List Value), wr.ownsRow B2 E z v k xs → Btw lo hi v → w'.ownsRow B2 E z v k xs := by
  obtain ⟨w7, v7, rfl, ho, hg, hat⟩ := hs
  have hp := h.put hj ho hg hat
  rw [sgx_set] at hp
  exact ⟨⟨_, hp⟩, fun B2 z k E v xs hx hv => h.sen.keep hj hx hv hg⟩
/-- Two spans at once. -/
theorem PSt.seen2 {w wr w' : World} {gp gs n t j : Nat} {vi vd : Value} {Ls : List Value} {S X : Nat → List Int} {vW : Value} {LW : List Value} {W : List (List Int)} {lo hi lo2 hi2 : Nat} (h : PSt w wr gp gs n t vi vd Ls (sgx S X n j) vW LW W lo hi) (h2 : PSt w wr gp gs n t vi vd Ls (sgx S X n j) vW LW W lo2 hi2) (hj : j < n) (hs : Seen w wr gs j (Ls.getD j (.slice none 0 0)) (S j) (X j) w') :
    (∃ Ls', PSt w w' gp gs n t vi vd Ls' (sgx S X n (j + 1)) vW LW W lo hi ∧ PSt w w' gp gs n t vi vd Ls' (sgx S X n (j + 1)) vW LW W lo2 hi2) ∧ (∀ (B2 z k : Nat) (E : TypeId) (v : Value) (xs : List Value), wr.ownsRow B2 E z v k xs → Btw lo hi v → w'.ownsRow B2 E z v k xs) ∧ (∀ (B2 z k : Nat) (E : TypeId) (v : Value) (xs : List Value), wr.ownsRow B2 E z v k xs → Btw lo2 hi2 v → w'.ownsRow B2 E z v k xs) := by
  obtain ⟨w7, v7, rfl, ho, hg, hat⟩ := hs
  have hp := h.put hj ho hg hat
  have hp2 := h2.put hj ho hg hat
  rw [sgx_set] at hp hp2
  exact ⟨⟨_, hp, hp2⟩, fun B2 z k E v xs hx hv => h.sen.keep hj hx hv hg, fun B2 z k E v xs hx hv => h2.sen.keep hj hx hv hg⟩
/-- What is left of the inputs and of the draws. -/
def Lft (w : World) (xs : List Int) (q k : Nat) (v : Value) : Prop := ∃ a c, v = .slice a (q - k) c ∧ Rd w a (q - k) c (xs.drop k)
theorem eDraw (gp n t : Nat) (vi vW vS : Value) (ad : Option Addr) (d cd k : Nat) (w : World) (h : PBox w gp n t vi (.slice ad d cd) vW vS) (hz : ad = none → cd = 0) (hk : k ≤ d) (hc : d ≤ cd) :
    Calls Tryd.prog 108 #[.pointer (some ⟨gp, 0, none⟩), .int .i64 (k : Int)] w fun e w' => e = .returned (.slice ad k cd) ∧ w' = w.setCell ⟨gp, 3, none⟩ (.slice (subA ad cd k) (d - k) (cd - k)) := by
  obtain ⟨_, _, _, d3, _, _⟩ := h.cells
  have hf := h.frozen 3
  have hlt := h.lt
  obtain ⟨X, HX⟩ : ∃ X, Hid (subA ad cd k = X) := ⟨_, rfl⟩
  have e1 : ∀ W, (Instr.sliceAt 22 (.slice ad d cd) none (some (.int .i64 (k : Int))) none).run Tryd.prog W = .ok (.slice ad k cd) W := fun W => run_subh Tryd.underlying22 infoRpt ad d cd k hz (by omega) W
  have e2 : ∀ W, (Instr.sliceAt 22 (.slice ad d cd) (some (.int .i64 (k : Int))) none none).run Tryd.prog W = .ok (.slice X (d - k) (cd - k)) W := fun W => by rw [← HX.out]; exact run_subl Tryd.underlying22 infoRpt ad d cd k rfl hk W
  rw [HX.out]
  clear h
  go_enter Tryd.func108, Tryd.ntmps108
  go_wp2
  go_ret
  exact ⟨rfl, rfl⟩

theorem eSee {w wr : World} {gp gs n t j m c lo hi : Nat} {vi vd vW : Value} {Ls LW : List Value} {S X : Nat → List Int} {W : List (List Int)} {a : Option Addr} (h : PSt w wr gp gs n t vi vd Ls (sgx S X n j) vW LW W lo hi) (hj : j < n) (hr : Rd wr a m c (X j)) (hm : 0 < m) (hm9 : m ≤ 9) (hl : (S j).length ≤ 5000) :
    Calls Tryd.prog 95 #[.pointer (some ⟨gp, 0, none⟩), .int .i64 (j : Int), .slice a m c] wr fun e w' => e = .returned (.tuple #[]) ∧ Seen w wr gs j (Ls.getD j (.slice none 0 0)) (S j) (X j) w' := by
  have hgl := sgx_len S X n j
  obtain ⟨dg, fg, lg⟩ := h.sen.seen.cell hgl hj
  have hrow := h.sen.seen.row j (by rw [hgl]; exact hj)
  rw [sgx_getD _ _ hj] at hrow
  obtain ⟨u, HU⟩ : ∃ u, Hid (Ls.getD j (.slice none 0 0) = u) := ⟨_, rfl⟩
  rw [HU.out] at dg hrow ⊢
  obtain ⟨l, Hl⟩ : ∃ l, Hid ((S j).length = l) := ⟨_, rfl⟩
  rw [Hl.out] at hrow hl
  have hrowD : wr.drew.ownsRow w.heap.size 34 1 u l ((S j).map (Value.int .u64)) := hrow
  obtain ⟨ua, uc, rfl, huc⟩ := own_slice hrow
  have hsw := h.sen.bel.size
  obtain ⟨_, _, _, _, _, d5⟩ := h.box.cells
  have hlp := h.box.lt
  have hxl := hr.len
  obtain ⟨Y, HY⟩ : ∃ Y, Hid (X j = Y) := ⟨_, rfl⟩
  obtain ⟨Z, HZ⟩ : ∃ Z, Hid (S j = Z) := ⟨_, rfl⟩
  rw [HY.out] at hr hxl ⊢
  rw [HZ.out] at hrow hrowD ⊢
  obtain ⟨b3, o3, rfl, _, _⟩ := hr.at (k := 0) hm
  have HST : Hid (∀ w7, wr.drew.grownBy w7 (Value.slice ua l uc).ownBlock → (∃ x, w7.cell? ⟨gs, j, none⟩ = some x) ∧ w7.frozen? ⟨gs, j, none⟩ = false ∧ gp < w7.heap.size ∧ w7.cell? ⟨gp, 5, none⟩ = some (.slice (some ⟨gs, 0, none⟩) n n)) := fun w7 hg => by
    have hsd : wr.drew.ownsRow w.heap.size 22 1 (.slice (some ⟨gs, 0, none⟩) n n) (sgx S X n j).length Ls := h.sen.seen.own
    have ho7 := hsd.kept hg (own_apart hrowD hsd (by decide))
    rw [hgl] at ho7
    obtain ⟨g', x, e1, _, _, _, e5⟩ := own_at ho7 hj
    simp only [Option.some.injEq, Addr.mk.injEq, and_true] at e1
    subst e1
    have hb7 := h.box.drew.grown hg (h.box.drew.off' hrowD eUP)
    exact ⟨⟨x, e5⟩, own_frozen ho7 j, hb7.lt, hb7.cells.2.2.2.2.2⟩
  have HUP : Hid (∀ g7 cap7 w7, w7.ownsRow w.heap.size 34 1 (.slice (some ⟨g7, 0, none⟩) (l + m) cap7) (l + m) ((Z ++ Y).map (Value.int .u64)) → wr.drew.grownBy w7 (Value.slice ua l uc).ownBlock → ((Value.slice (some ⟨g7, 0, none⟩) (l + m) cap7).ownBlock = (Value.slice ua l uc).ownBlock ∨ ∃ k, (Value.slice (some ⟨g7, 0, none⟩) (l + m) cap7).ownBlock = some k ∧ wr.drew.heap.size ≤ k) →
      Seen w wr gs j (.slice ua l uc) Z Y (w7.setCell ⟨gs, j, none⟩ (.slice (some ⟨g7, 0, none⟩) (l + m) cap7))) := fun g7 cap7 w7 ho hg hat => by
    have hlen : (Z ++ Y).length = l + m := by rw [List.length_append, hxl, ← HZ.out, Hl.out]
    exact ⟨w7, _, rfl, by rw [hlen]; exact ho, ⟨hg.os, hg.tape, hg.output, hg.size, hg.block⟩, hat⟩
  have hj0 : (0 : Int) ≤ (j : Int) := by omega
  have hjni : (j : Int) < (n : Int) := by omega
  clear h hrow
  go_enter Tryd.func95, Tryd.ntmps95
  go_region_law (refine step_appM Tryd.underlying22 info34 wr.drew rfl _ _ rfl w.heap.size _ _ _ rfl hrowD b3 o3 m c Y hr.drew rfl hm (by omega) (by exact hsw) ?_; intro g7 cap7 w7 ho7 hgr7 hat7; obtain ⟨⟨xx, dd⟩, ff, lp7, dp7⟩ := HST.out w7 hgr7; have hl7 := World.block_lt_of_cell? w7 _ dd; have HE : Hid (Seen _ _ _ _ _ _ _ _) := HUP.out g7 cap7 w7 ho7 hgr7 hat7; clear ho7 hgr7 hat7)
  all_goals
    clear HST HUP hrowD
    go_wp2
    exact bodyPost_end (v := .tuple #[]) (by simp [results, Tryd.results95, go_sem]) rfl ⟨rfl, HE.out⟩
/-- What a gate leaves: its numbers, what is seen of it, what is left of the inputs and the draws. -/
def Pgt (G : List Gt) (n t : Nat) (ins ds : List Int) (q d : Nat) (w : World) (gp gs i : Nat) (vW : Value) (LW : List Value) (u : Value) (w' : World) : Prop :=
  ∃ (vi vd : Value) (Ls : List Value) (lo hi : Nat), PSt w w' gp gs n t vi vd Ls (sgl G n t ins ds (i + 1)) vW LW (ewr G n t ins ds i) lo hi ∧ Lft w ins q (ci G (i + 1)) vi ∧ Lft w ds d (dwn G n t (i + 1)) vd ∧ w'.ownsRow w.heap.size 34 1 u n ((ew G n t ins ds i).map (Value.int .u64)) ∧ Btw lo hi u ∧ ∀ p b, (LW.getD p (.slice none 0 0)).ownBlock = some b → b < lo
theorem Lft.nil {w : World} {xs : List Int} {q k : Nat} {a : Option Addr} {n c : Nat} (h : Rd w a n c (xs.drop k)) (hv : n = q - k) : Lft w xs q k (.slice a n c) := by
  subst hv
  exact ⟨a, c, rfl, h⟩
theorem rd_lit1 (w : World) {x : Int} (hx : 0 ≤ x ∧ x ≤ 18446744073709551615) : Rd (w.alloc (.cells #[.int .u64 x] 34)) (some ⟨w.heap.size, 0, none⟩) 1 1 [x] := by
  refine ⟨rfl, Nat.le_refl _, by unfold maxLen; omega, fun z hz => by rw [List.mem_singleton.1 hz]; exact hx, by simp, fun y hy i hi => ?_⟩
  obtain rfl := Option.some.inj hy
  obtain rfl : i = 0 := by omega
  rw [Addr.add_lit, cell_of_row _ _ _ _ 34 (0, 0) (heap_alloc_new w _)]
  rfl

theorem eDeal {G : List Gt} {n t : Nat} {ins ds : List Int} {w wr : World} {gp gs i N q d lo hh : Nat} {vi vd vW : Value} {Ls LW : List Value} (h : PSt w wr gp gs n t vi vd Ls (sgl G n t ins ds i) vW LW (ewr G n t ins ds i) lo hh)
    (hvi : Lft w ins q (ci G i) vi) (hvd : Lft w ds d (dwn G n t i) vd) (hg : (gt G i).k = 1) (hi : i < N) (hN : N ≤ 30) (hq : q = ci G N) (hd : d = dwn G n t N) (hn : 2 * t + 1 ≤ n) (hn9 : n ≤ 9) :
    Calls Tryd.prog 91 #[.pointer (some ⟨gp, 0, none⟩)] wr fun e w' => ∃ u, e = .returned u ∧ Pgt G n t ins ds q d w gp gs i vW LW u w' := by
  obtain ⟨a1, c1, rfl, r1⟩ := hvi
  obtain ⟨a2, c2, rfl, r2⟩ := hvd
  have hC : ci G i < q := by rw [hq]; exact ci_lt hi hg
  have hD : dwn G n t i + t ≤ d := by
    have e : dwn G n t (i + 1) = dwn G n t i + t := by rw [dwn, if_pos hg]
    rw [← e, hd]
    exact dwn_mono G n t (by omega)
  have HE : Hid (ew G n t ins ds i = dl (ins.getD (ci G i) 0 :: edr G n t ds i t) n) := ew_in hg
  have HC2 : Hid (ci G (i + 1) = ci G i + 1) := ci_in hg
  have HD2 : Hid (dwn G n t (i + 1) = dwn G n t i + t) := by unfold Hid; rw [dwn, if_pos hg]
  obtain ⟨C, HC⟩ : ∃ C, Hid (ci G i = C) := ⟨_, rfl⟩
  obtain ⟨D, HD⟩ : ∃ D, Hid (dwn G n t i = D) := ⟨_, rfl⟩
  rw [HC.out] at hC r1 HE HC2 h
  rw [HD.out] at hD r2 HD2 h
  have HED : Hid ((ds.drop D).take t = edr G n t ds i t) := by unfold Hid edr; rw [HD.out]
  obtain ⟨M, HM⟩ : ∃ M, Hid (q - C = M) := ⟨_, rfl⟩
  obtain ⟨K, HK⟩ : ∃ K, Hid (d - D = K) := ⟨_, rfl⟩
  have hM : 1 ≤ M := by have := HM.out; omega
  have hK : t ≤ K := by have := HK.out; omega
  rw [HM.out] at r1
  rw [HK.out] at r2
  obtain ⟨b, o, x, rfl, hbb, HX, hx0, hx1, hcx⟩ := (r1.below h.sen.bel).one (k := 0) hM
  rw [Nat.add_zero] at hcx
  have HX0 : Hid (ins.getD C 0 = x) := by unfold Hid; rw [← HX.out]; simp
  rw [HX0.out] at HE
  rw [HM.out, HK.out] at h
  have hcap1 := r1.cap
  have hcap2 := r2.cap
  have r1' := r1.sub (lo := 1) (k := M - 1) (by omega)
  have r2' := r2.sub (lo := t) (k := K - t) (by omega)
  have r3 := r2.take hK
  rw [HED.out] at r3
  obtain ⟨X1, HX1⟩ : ∃ X1, Hid (subA (some ⟨b, o, none⟩) c1 1 = X1) := ⟨_, rfl⟩
  obtain ⟨X2, HX2⟩ : ∃ X2, Hid (subA a2 c2 t = X2) := ⟨_, rfl⟩
  rw [HX1.out] at r1'
  rw [HX2.out] at r2'
  have e1 : ∀ W, (Instr.sliceAt 22 (.slice (some ⟨b, o, none⟩) M c1) (some (.int .i64 1)) none none).run Tryd.prog W = .ok (.slice X1 (M - 1) (c1 - 1)) W := fun W => by rw [← HX1.out]; exact run_subl Tryd.underlying22 infoRpt (some ⟨b, o, none⟩) M c1 1 rfl hM W
  obtain ⟨d0, d1, d2, d3, d4, d5⟩ := h.box.cells
  have hlp := h.box.lt
  have hfz := h.box.frozen 2
  have hP2 := h.turn (w' := wr.setCell ⟨gp, 2, none⟩ (.slice X1 (M - 1) (c1 - 1))) (grown_set _ _ _ _) (h.box.set2 _)
  have hlp2 : gp < (wr.setCell ⟨gp, 2, none⟩ (.slice X1 (M - 1) (c1 - 1))).heap.size := hP2.box.lt
  go_enter Tryd.func91, Tryd.ntmps91
  go_upto_region 3 with fail
  generalize wr.setCell ⟨gp, 2, none⟩ (.slice X1 (M - 1) (c1 - 1)) = W2 at *
  clear d0 d1 d2 d3 d4 d5 hlp hfz h hcx hbb e1
  obtain ⟨f0, f1, _, _, _, _⟩ := hP2.box.cells
  have hP2D := hP2.drew
  have HP3 : Hid (∀ w3, w3 = W2.drew.setCell ⟨gp, 3, none⟩ (.slice X2 (K - t) (c2 - t)) → PSt w w3 gp gs n t (.slice X1 (M - 1) (c1 - 1)) (.slice X2 (K - t) (c2 - t)) Ls (sgx (sng G n t ins ds i) (esn G n t ins ds i) n 0) vW LW (ewr G n t ins ds i) lo hh) := fun w3 e => by
    subst e
    rw [← sgl_first]
    exact hP2D.turn (grown_set _ _ _ _) (hP2D.box.set3 _)
  have HT4 : Hid (t ≤ 4 ∧ t < n) := ⟨by omega, by omega⟩
  go_region_held3 (fun w' => w'.cell? ⟨gp, 0, none⟩ = some (.int .i64 (n : Int)) ∧ w'.cell? ⟨gp, 1, none⟩ = some (.int .i64 (t : Int))) (go_keep) (first | (go_at_call 108; refine (eDraw gp n t _ _ _ a2 K c2 t _ hP2D.box r2.nil hK hcap2).mono ?_; rintro en w3 ⟨rfl, hw3⟩; rw [HX2.out] at hw3; have hP3 := HP3.out w3 hw3; clear hw3; obtain ⟨g0, g1, _, _, _, _⟩ := hP3.box.cells; have hl3 := hP3.box.lt) | (go_at_call 13; refine (cDealB x a2 t c2 _ n _ (r3.below hP3.sen.bel) hx0 hx1 HT4.out.1 HT4.out.2 hn9).mono ?_; rintro en w5 ⟨v, rfl, ho, hb5⟩; have hP5 := hP3.fresh (by omega) hb5; obtain ⟨i0, i1, _, _, _, _⟩ := hP5.box.cells; have hl5 := hP5.box.lt))
  all_goals
    obtain ⟨gv, cv, rfl, _, _, hcv, hcv2⟩ := own_atZ ho (by omega)
    unfold maxLen at hcv2
    rw [← HE.out] at ho
    have HBt : Hid (Btw w3.heap.size w5.heap.size (.slice (some ⟨gv, 0, none⟩) n cv)) := fun b hb => ho.lt b hb
    have ho5 := own_baseV ho hP3.sen.bel.size
    have HLW : Hid (∀ p b, (LW.getD p (.slice none 0 0)).ownBlock = some b → b < w3.heap.size) := fun p b hb => (hP3.sen.wires.blk p b hb).2
    have HV1 : Hid (Lft w ins q (ci G (i + 1)) (.slice X1 (M - 1) (c1 - 1))) := by
      unfold Hid
      rw [HC2.out]
      refine Lft.nil ?_ (by have := HM.out; omega)
      rw [List.drop_drop, List.take_of_length_le (by have := r1.len; simp at this; simp; omega)] at r1'
      exact r1'
    have HV2 : Hid (Lft w ds d (dwn G n t (i + 1)) (.slice X2 (K - t) (c2 - t))) := by
      unfold Hid
      rw [HD2.out]
      refine Lft.nil ?_ (by have := HK.out; omega)
      rw [List.drop_drop, List.take_of_length_le (by have := r2.len; simp at this; simp; omega)] at r2'
      exact r2'
    clear ho hb5 hP3 r1 r2 r3 r1' r2' hP2 hP2D HP3 g0 g1 hl3 i0 i1 hl5 f0 f1
    go_wp2
    go_loopw [39] (fun s wq => ∃ (j : Nat) (Ls : List Value), j ≤ n ∧ s = .int .i64 j ∧ PSt w wq gp gs n t (.slice X1 (M - 1) (c1 - 1)) (.slice X2 (K - t) (c2 - t)) Ls (sgx (sng G n t ins ds i) (esn G n t ins ds i) n j) vW LW (ewr G n t ins ds i) w3.heap.size w5.heap.size ∧ wq.ownsRow w.heap.size 34 1 (.slice (some ⟨gv, 0, none⟩) n cv) n ((ew G n t ins ds i).map (Value.int .u64))) (fun s _ => n - (intOf s).toNat)
    case atStart => exact ⟨0, Ls, Nat.zero_le _, rfl, hP5, ho5⟩
    case round =>
      clear hP5 ho5
      obtain ⟨j, Ls, hj, rfl, hP, ho⟩ := hrel
      by_cases hjn : j < n
      · obtain ⟨a6, c6, e6, hr6, _⟩ := Rd.own ho (bd_u64 (ew_bd _ _ _ _ _ _))
        simp only [Value.slice.injEq, true_and] at e6
        obtain ⟨rfl, rfl⟩ := e6
        obtain ⟨b6, o6, y, eb, hb6, HY, hy0, hy1, hcy⟩ := hr6.one hjn
        simp only [Option.some.injEq, Addr.mk.injEq, and_true] at eb
        obtain ⟨rfl, rfl⟩ := eb
        rw [Nat.zero_add] at hcy
        have HES : Hid (esn G n t ins ds i j = [y]) := by unfold Hid esn; rw [if_pos hg, HY.out]
        have hbA : Below wr.heap.size wr (wr.alloc (.cells #[.int .u64 y] 34)) := (Below.refl _ _).alloc (Nat.le_refl _) _
        have hPA := hP.below hbA
        have hoA := own_below ho hbA
        have rA := rd_lit1 wr ⟨hy0, hy1⟩
        have hsb := sng_bound G n t ins ds i j hn9
        go_wp2_with fail
        generalize wr.alloc (.cells #[.int .u64 y] 34) = wA at *
        refine (eSee hPA hjn (by rw [HES.out]; exact rA) (by omega) (by omega) (by omega)).mono ?_
        rintro e w8 ⟨rfl, hs⟩
        obtain ⟨⟨Ls', hP'⟩, hkeep⟩ := hPA.seen hjn hs
        have ho' := hkeep _ _ _ _ _ _ hoA HBt.out
        clear hP hPA ho hoA hr6 hcy hs hkeep hbA rA
        go_wp2
        go_roundw
        case rel => exact ⟨j + 1, Ls', by omega, by go_num, hP', ho'⟩
        case measure => simp [intOf]; omega
      · have hjn2 : j = n := by omega
        subst hjn2
        rw [sgl_next] at hP
        go_wp2
        go_ret
        exact ⟨_, rfl, _, _, Ls, _, _, hP, HV1.out, HV2.out, ho, HBt.out, HLW.out⟩
end
end Go.Proofs.YtljlioglpaogdagDoor
