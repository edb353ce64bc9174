/- croftref.Played: how much is seen; a wire more: plain facts. · What the calls of package engine answer. · The parties of package engine: their block, and what they have gathered. -/
import Derived.Test.YtgmelcdgnjcojagDoorToPlayP
import Derived.Test.YtgmelcdgnjcojagDoorToKeySt
import Derived.Test.YtgmelcdgnjcojagDoorToCircC
import Derived.Test.YtgmelcdgnjcojagDoorToIntsC
import Derived.Test.YtgmelcdgnjcojagDoorToLsV
import Derived.Test.YtgmelcdgnjcojagDoorToRefPolyC
import Derived.Test.YtgmelcdgnjcojagDoorToPlayM
namespace Go.Proofs.YtgmelcdgnjcojagDoor
open Go.RowKit Crm

theorem dwn_mono (G : List Gt) (n t : Nat) {i j : Nat} (h : i ≤ j) : dwn G n t i ≤ dwn G n t j := by
  induction j with
  | zero => obtain rfl : i = 0 := by omega
            exact Nat.le_refl _
  | succ j ih =>
    by_cases e : i = j + 1
    · rw [e]; exact Nat.le_refl _
    · have := ih (by omega)
      rw [dwn]
      omega
theorem esn_le (G : List Gt) (n t : Nat) (ins ds : List Int) (i j : Nat) (hn : n ≤ 9) : (esn G n t ins ds i j).length ≤ 9 := by
  unfold esn
  split
  · simp
  · split
    · rw [tmR_len]; exact hn
    · simp
theorem sng_bound (G : List Gt) (n t : Nat) (ins ds : List Int) (i j : Nat) (hn : n ≤ 9) : (sng G n t ins ds i j).length ≤ 9 * i := by
  induction i with
  | zero => simp [sng]
  | succ i ih =>
    have := esn_le G n t ins ds i j hn
    rw [sng_succ, List.length_append]
    omega

/-- The gate's numbers are laid beside the wires. -/
theorem Psw.next {G : List Gt} {n t : Nat} {ins ds : List Int} {w wc w2 : World} {gs i : Nat} {vW v2 u : Value} {LW : List Value} (h : Psw G n t ins ds w gs i vW LW u wc) (hn : 0 < n) (ho : w2.ownsRow w.heap.size 22 1 v2 (i + 1) (LW ++ [u])) (hg : wc.grownBy w2 vW.ownBlock)
    (hat : v2.ownBlock = vW.ownBlock ∨ ∃ k, v2.ownBlock = some k ∧ wc.heap.size ≤ k) : ∃ Ls, Sen w w2 gs n Ls (sgl G n t ins ds (i + 1)) v2 (LW ++ [u]) (ewr G n t ins ds (i + 1)) (gs + 1) (gs + 1) := by
  obtain ⟨Ls, lo, hi, hS, hu, hb, hlw⟩ := h
  have hE : (22 : TypeId) ≠ 34 := by decide
  have hgs := (hS.seen.cell hS.len hn).2.2
  have hel := ewr_len G n t ins ds i
  have hne : ∀ p, (LW.getD p (.slice none 0 0)).ownBlock = none ∨ (LW.getD p (.slice none 0 0)).ownBlock ≠ u.ownBlock := fun p => by
    cases e : (LW.getD p (.slice none 0 0)).ownBlock with
    | none => exact .inl rfl
    | some b =>
      right
      intro e'
      have h1 := hlw p b e
      have h2 := hb b e'.symm
      omega
  have hnu : ∀ p, u.ownBlock = none ∨ u.ownBlock ≠ (Ls.getD p (.slice none 0 0)).ownBlock := fun p => by
    cases e : u.ownBlock with
    | none => exact .inl rfl
    | some b =>
      right
      intro e'
      have h2 := hb b e
      by_cases hp : p < n
      · have h3 := hS.far p hp b e'.symm
        omega
      · have hl := hS.seen.len
        rw [hS.len] at hl
        rw [List.getD_eq_getElem?_getD, List.getElem?_eq_none (by omega)] at e'
        simp [Value.ownBlock] at e'
  refine ⟨Ls, hS.seen.grown hg (.inr (fun e => hS.out e.symm)) (fun p hp => own_apart hS.wires.own (hS.seen.row p hp) hE), hS.len, ?_, (hS.apt.symm.add hnu).symm, ?_, fun p _ gg _ => by omega, by omega, Nat.le_trans hgs hg.size, hS.bel.grown hg hS.bel.size (fun q hq => (hS.wires.own.lt q hq).1)⟩
  · rw [ewr_succ]
    exact hS.wires.add (by rw [ew_len]; exact hu) (fun p _ => hne p) (by rw [hel]; exact ho) hg
  · rcases hat with e | ⟨k, e, hk⟩
    · rw [e]; exact hS.out
    · rw [e]
      intro e'
      have := Option.some.inj e'
      omega
theorem sno_bound (G : List Gt) (O : List Int) (n t : Nat) (ins ds : List Int) (N q j : Nat) (hn : n ≤ 9) : (sno G O n t ins ds N q j).length ≤ 9 * N + 9 * q := by
  induction q with
  | zero => have := sng_bound G n t ins ds N j hn; simp [sno]; omega
  | succ q ih => rw [sno_succ, List.length_append, ew_len]; omega
theorem snl_next (G : List Gt) (O : List Int) (n t : Nat) (ins ds : List Int) (N q : Nat) : sgx (sno G O n t ins ds N q) (fun _ => ew G n t ins ds (O.getD q 0).toNat) n n = snl G O n t ins ds N (q + 1) := by
  rw [sgx_full]
  unfold snl
  refine List.map_congr_left fun j _ => ?_
  rw [sno_succ]
theorem snl_first (G : List Gt) (O : List Int) (n t : Nat) (ins ds : List Int) (N q : Nat) : snl G O n t ins ds N q = sgx (sno G O n t ins ds N q) (fun _ => ew G n t ins ds (O.getD q 0).toNat) n 0 := by rw [sgx_zero]; rfl
theorem snl_zero (G : List Gt) (O : List Int) (n t : Nat) (ins ds : List Int) (N : Nat) : sgl G n t ins ds N = snl G O n t ins ds N 0 := by
  unfold sgl snl
  refine List.map_congr_left fun j _ => ?_
  simp [sno]

end Go.Proofs.YtgmelcdgnjcojagDoor

namespace Go.Proofs.YtgmelcdgnjcojagDoor
open Go.RowKit Crm

/-- What Need answers. -/
def Enn (G : List Gt) (O : List Int) (N m : Nat) (n t : Int) (w : World) (e : Ending) (w' : World) : Prop :=
  ((∃ r, r ≠ 0 ∧ Nde G O N m n t r ∧ e = .returned (.tuple #[.int .i64 0, .int .i64 r])) ∨
   (Nde G O N m n t 0 ∧ e = .returned (.tuple #[.int .i64 (dwn G n.toNat t.toNat N : Int), .int .i64 0]))) ∧ Below w.heap.size w w'
/-- What Run answers. -/
def Enr (G : List Gt) (O ins ds : List Int) (N m : Nat) (n t : Int) (q d : Nat) (w : World) (e : Ending) (w' : World) : Prop :=
  ((∃ r, r ≠ 0 ∧ Ere G O N m n t q d r ∧ e = .returned (.tuple #[.slice none 0 0, .slice none 0 0, .int .i64 r])) ∨
   (Ere G O N m n t q d 0 ∧ ∃ a c b k, e = .returned (.tuple #[.slice a m c, .slice b n.toNat k, .int .i64 0]) ∧ Rd w' a m c (otl G O ins m) ∧ RdR w' b n.toNat k (snl G O n.toNat t.toNat ins ds N m))) ∧ Below w.heap.size w w'
theorem nil_rdR (w : World) : RdR w none 0 0 [] := ⟨rfl, Nat.le_refl _, Nat.zero_le _, fun _ => rfl, by simp⟩
theorem Ere.ok {G : List Gt} {O : List Int} {N m : Nat} {n t : Int} {q d : Nat} (h : Ere G O N m n t q d 0) : Nde G O N m n t 0 ∧ q = ci G N ∧ d = dwn G n.toNat t.toNat N := by
  rcases h with ⟨h1, _⟩ | ⟨h1, ⟨_, h2⟩ | ⟨h2, ⟨_, h3⟩ | ⟨h3, _⟩⟩⟩
  · exact absurd rfl h1
  · omega
  · omega
  · exact ⟨h1, h2, h3⟩
/-- What was seen is read. -/
theorem snl_rd {w : World} {B : Nat} {u : Value} {L : List Value} {G : List Gt} {O : List Int} {n t : Nat} {ins ds : List Int} {N m : Nat} (h : LsV w B u L (snl G O n t ins ds N m)) : ∃ a c, u = .slice a n c ∧ RdR w a n c (snl G O n t ins ds N m) :=
  h.rdR (snl_len _ _ _ _ _ _ _ _) fun i hi x hx => by
    rw [snl_getD _ _ _ _ _ _ _ _ hi] at hx
    have := sno_bd _ _ _ _ _ _ _ _ hi x hx
    omega
end Go.Proofs.YtgmelcdgnjcojagDoor

namespace Go.Proofs.YtgmelcdgnjcojagDoor
open Go.RowKit Crm

/-- The parties' block. -/
def PBox (w : World) (g n t : Nat) (vi vd vW vS : Value) : Prop := w.heap[g]? = some (.cells #[.int .i64 (n : Int), .int .i64 (t : Int), vi, vd, vW, vS] 113 (0, 0))
theorem PBox.lt {w : World} {g n t : Nat} {vi vd vW vS : Value} (h : PBox w g n t vi vd vW vS) : g < w.heap.size := (Array.getElem?_eq_some_iff.1 h).1
theorem PBox.cells {w : World} {g n t : Nat} {vi vd vW vS : Value} (h : PBox w g n t vi vd vW vS) : w.cell? ⟨g, 0, none⟩ = some (.int .i64 (n : Int)) ∧ w.cell? ⟨g, 1, none⟩ = some (.int .i64 (t : Int)) ∧ w.cell? ⟨g, 2, none⟩ = some vi ∧ w.cell? ⟨g, 3, none⟩ = some vd ∧ w.cell? ⟨g, 4, none⟩ = some vW ∧ w.cell? ⟨g, 5, none⟩ = some vS := by
  unfold PBox at h
  rw [cell_of_row w g 0 _ _ (0, 0) h, cell_of_row w g 1 _ _ (0, 0) h, cell_of_row w g 2 _ _ (0, 0) h, cell_of_row w g 3 _ _ (0, 0) h, cell_of_row w g 4 _ _ (0, 0) h, cell_of_row w g 5 _ _ (0, 0) h]
  exact ⟨rfl, rfl, rfl, rfl, rfl, rfl⟩
theorem PBox.below {w w' : World} {B g n t : Nat} {vi vd vW vS : Value} (h : PBox w g n t vi vd vW vS) (hb : Below B w w') (hg : g < B) : PBox w' g n t vi vd vW vS := by
  unfold PBox; rw [hb.block g hg]; exact h
theorem PBox.grown {w w' : World} {g n t : Nat} {r : Option Nat} {vi vd vW vS : Value} (h : PBox w g n t vi vd vW vS) (hg : w.grownBy w' r) (hr : some g ≠ r) : PBox w' g n t vi vd vW vS := by
  unfold PBox; rw [hg.block g h.lt hr]; exact h
theorem PBox.drew {w : World} {g n t : Nat} {vi vd vW vS : Value} (h : PBox w g n t vi vd vW vS) : PBox w.drew g n t vi vd vW vS := h
theorem PBox.frozen {w : World} {g n t : Nat} {vi vd vW vS : Value} (h : PBox w g n t vi vd vW vS) (i : Nat) : w.frozen? ⟨g, i, none⟩ = false := frozen_of_row w g i _ _ h
theorem PBox.set2 {w : World} {g n t : Nat} {vi vd vW vS : Value} (h : PBox w g n t vi vd vW vS) (v : Value) : PBox (w.setCell ⟨g, 2, none⟩ v) g n t v vd vW vS := by
  have := heap_setCell_same w g 2 _ _ v h
  unfold PBox; rw [this]; rfl
theorem PBox.set3 {w : World} {g n t : Nat} {vi vd vW vS : Value} (h : PBox w g n t vi vd vW vS) (v : Value) : PBox (w.setCell ⟨g, 3, none⟩ v) g n t vi v vW vS := by
  have := heap_setCell_same w g 3 _ _ v h
  unfold PBox; rw [this]; rfl
theorem PBox.set4 {w : World} {g n t : Nat} {vi vd vW vS : Value} (h : PBox w g n t vi vd vW vS) (v : Value) : PBox (w.setCell ⟨g, 4, none⟩ v) g n t vi vd v vS := by
  have := heap_setCell_same w g 4 _ _ v h
  unfold PBox; rw [this]; rfl
/-- A list lies elsewhere. -/
theorem PBox.off {w : World} {g n t : Nat} {vi vd vW vS v : Value} {B z k : Nat} {E : TypeId} {xs : List Value} (h : PBox w g n t vi vd vW vS) (ho : w.ownsRow B E z v k xs) (hE : E ≠ 113) : v.ownBlock = none ∨ v.ownBlock ≠ some g := by
  rcases ho.2 with ⟨rfl, _⟩ | ⟨g', cap, cur, rfl, _, hg, _⟩
  · exact .inl rfl
  · right
    intro e
    simp only [Value.ownBlock, Option.some.injEq] at e
    subst e
    unfold PBox at h
    rw [hg] at h
    simp only [Option.some.injEq, Obj.cells.injEq] at h
    exact hE h.2.1
theorem PBox.off' {w : World} {g n t : Nat} {vi vd vW vS v : Value} {B z k : Nat} {E : TypeId} {xs : List Value} (h : PBox w g n t vi vd vW vS) (ho : w.ownsRow B E z v k xs) (hE : E ≠ 113) : some g ≠ v.ownBlock := by
  rcases h.off ho hE with e | e
  · rw [e]; simp
  · exact fun e' => e e'.symm
theorem eUP : (34 : TypeId) ≠ 113 := by decide
theorem eVP : (22 : TypeId) ≠ 113 := by decide
/-- The parties' state. -/
structure PSt (w wr : World) (gp gs n t : Nat) (vi vd : Value) (Ls : List Value) (S : List (List Int)) (vW : Value) (LW : List Value) (W : List (List Int)) (lo hi : Nat) : Prop where
  sen : Sen w wr gs n Ls S vW LW W lo hi
  box : PBox wr gp n t vi vd vW (.slice (some ⟨gs, 0, none⟩) n n)
  low : w.heap.size ≤ gp
theorem PSt.drew {w wr : World} {gp gs n t : Nat} {vi vd : Value} {Ls : List Value} {S : List (List Int)} {vW : Value} {LW : List Value} {W : List (List Int)} {lo hi : Nat} (h : PSt w wr gp gs n t vi vd Ls S vW LW W lo hi) : PSt w wr.drew gp gs n t vi vd Ls S vW LW W lo hi :=
  ⟨h.sen.drew, h.box, h.low⟩
theorem PSt.below {w wr w' : World} {gp gs n t : Nat} {vi vd : Value} {Ls : List Value} {S : List (List Int)} {vW : Value} {LW : List Value} {W : List (List Int)} {lo hi : Nat} (h : PSt w wr gp gs n t vi vd Ls S vW LW W lo hi) (hb : Below wr.heap.size wr w') : PSt w w' gp gs n t vi vd Ls S vW LW W lo hi :=
  ⟨h.sen.below hb, h.box.below hb h.box.lt, h.low⟩
theorem PSt.fresh {w wr w' : World} {gp gs n t : Nat} {vi vd : Value} {Ls : List Value} {S : List (List Int)} {vW : Value} {LW : List Value} {W : List (List Int)} {lo hi : Nat} (h : PSt w wr gp gs n t vi vd Ls S vW LW W lo hi) (hn : 0 < n) (hb : Below wr.heap.size wr w') : PSt w w' gp gs n t vi vd Ls S vW LW W wr.heap.size w'.heap.size :=
  ⟨h.sen.fresh hn hb, h.box.below hb h.box.lt, h.low⟩
/-- What the parties' block holds has turned. -/
theorem PSt.turn {w wr w' : World} {gp gs n t : Nat} {vi vd vi' vd' : Value} {Ls : List Value} {S : List (List Int)} {vW : Value} {LW : List Value} {W : List (List Int)} {lo hi : Nat} (h : PSt w wr gp gs n t vi vd Ls S vW LW W lo hi) (hg : wr.grownBy w' (some gp)) (hb : PBox w' gp n t vi' vd' vW (.slice (some ⟨gs, 0, none⟩) n n)) : PSt w w' gp gs n t vi' vd' Ls S vW LW W lo hi := by
  have hs := h.sen
  refine ⟨⟨hs.seen.grown hg (h.box.off hs.seen.own eVP) (fun i hi => h.box.off (hs.seen.row i hi) eUP), hs.len, hs.wires.grown hg (h.box.off hs.wires.own eVP) (fun i hi => h.box.off (hs.wires.row i hi) eUP), hs.apt, hs.out, hs.far, hs.gl, Nat.le_trans hs.hi hg.size, hs.bel.grown hg hs.bel.size (fun q hq => ?_)⟩, hb, h.low⟩
  obtain rfl := Option.some.inj hq
  exact h.low
/-- What party j has seen grows. -/
theorem PSt.put {w wr w7 : World} {gp gs n t j : Nat} {vi vd : Value} {Ls : List Value} {S : List (List Int)} {vW v7 : Value} {LW : List Value} {W : List (List Int)} {lo hi : Nat} {row : List Int} (h : PSt w wr gp gs n t vi vd Ls S vW LW W lo hi) (hj : j < n)
    (ho : w7.ownsRow w.heap.size 34 1 v7 row.length (row.map (Value.int .u64))) (hg : wr.grownBy w7 (Ls.getD j (.slice none 0 0)).ownBlock) (hat : v7.ownBlock = (Ls.getD j (.slice none 0 0)).ownBlock ∨ ∃ k, v7.ownBlock = some k ∧ wr.heap.size ≤ k) :
    PSt w (w7.setCell ⟨gs, j, none⟩ v7) gp gs n t vi vd (Ls.set j v7) (S.set j row) vW LW W lo hi := by
  have hrow := h.sen.seen.row j (by rw [h.sen.len]; exact hj)
  have hb7 := h.box.grown hg (h.box.off' hrow eUP)
  exact ⟨h.sen.put hj ho hg hat, hb7.grown (grown_set w7 gs j v7) (h.box.off' h.sen.seen.own eVP), h.low⟩
/-- What see leaves: party j's list has grown by xs. -/
def Seen (w wr : World) (gs j : Nat) (u : Value) (row xs : List Int) (w' : World) : Prop :=
  ∃ w7 v7, w' = w7.setCell ⟨gs, j, none⟩ v7 ∧ w7.ownsRow w.heap.size 34 1 v7 (row ++ xs).length ((row ++ xs).map (Value.int .u64)) ∧ wr.grownBy w7 u.ownBlock ∧ (v7.ownBlock = u.ownBlock ∨ ∃ k, v7.ownBlock = some k ∧ wr.heap.size ≤ k)
theorem PSt.seen {w wr w' : World} {gp gs n t j : Nat} {vi vd : Value} {Ls : List Value} {S X : Nat → List Int} {vW : Value} {LW : List Value} {W : List (List Int)} {lo hi : Nat} (h : PSt w wr gp gs n t vi vd Ls (sgx S X n j) vW LW W lo hi) (hj : j < n) (hs : Seen w wr gs j (Ls.getD j (.slice none 0 0)) (S j) (X j) w') :
    (∃ Ls', PSt w w' gp gs n t vi vd Ls' (sgx S X n (j + 1)) vW LW W lo hi) ∧ ∀ (B2 z k : Nat) (E : TypeId) (v : Value) (xs : List Value), wr.ownsRow B2 E z v k xs → Btw lo hi v → w'.ownsRow B2 E z v k xs := by
  obtain ⟨w7, v7, rfl, ho, hg, hat⟩ := hs
  have hp := h.put hj ho hg hat
  rw [sgx_set] at hp
  exact ⟨⟨_, hp⟩, fun B2 z k E v xs hx hv => h.sen.keep hj hx hv hg⟩
/-- Two spans at once. -/
theorem PSt.seen2 {w wr w' : World} {gp gs n t j : Nat} {vi vd : Value} {Ls : List Value} {S X : Nat → List Int} {vW : Value} {LW : List Value} {W : List (List Int)} {lo hi lo2 hi2 : Nat} (h : PSt w wr gp gs n t vi vd Ls (sgx S X n j) vW LW W lo hi) (h2 : PSt w wr gp gs n t vi vd Ls (sgx S X n j) vW LW W lo2 hi2) (hj : j < n) (hs : Seen w wr gs j (Ls.getD j (.slice none 0 0)) (S j) (X j) w') :
    (∃ Ls', PSt w w' gp gs n t vi vd Ls' (sgx S X n (j + 1)) vW LW W lo hi ∧ PSt w w' gp gs n t vi vd Ls' (sgx S X n (j + 1)) vW LW W lo2 hi2) ∧ (∀ (B2 z k : Nat) (E : TypeId) (v : Value) (xs : List Value), wr.ownsRow B2 E z v k xs → Btw lo hi v → w'.ownsRow B2 E z v k xs) ∧ (∀ (B2 z k : Nat) (E : TypeId) (v : Value) (xs : List Value), wr.ownsRow B2 E z v k xs → Btw lo2 hi2 v → w'.ownsRow B2 E z v k xs) := by
  obtain ⟨w7, v7, rfl, ho, hg, hat⟩ := hs
  have hp := h.put hj ho hg hat
  have hp2 := h2.put hj ho hg hat
  rw [sgx_set] at hp hp2
  exact ⟨⟨_, hp, hp2⟩, fun B2 z k E v xs hx hv => h.sen.keep hj hx hv hg, fun B2 z k E v xs hx hv => h2.sen.keep hj hx hv hg⟩
/-- What is left of the inputs and of the draws. -/
def Lft (w : World) (xs : List Int) (q k : Nat) (v : Value) : Prop := ∃ a c, v = .slice a (q - k) c ∧ Rd w a (q - k) c (xs.drop k)
end Go.Proofs.YtgmelcdgnjcojagDoor
