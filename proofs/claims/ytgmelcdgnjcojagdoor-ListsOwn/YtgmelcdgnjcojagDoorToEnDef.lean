/- croftref.Played: what its switch over a gate leaves; the switch, taken out of the translation. · croftref.Played: how much is seen; a wire more: plain facts. · What the calls of package engine answer. -/
import Derived.Test.YtgmelcdgnjcojagDoorToPlayM
import Derived.Test.YtgmelcdgnjcojagDoorToGateM
import Derived.Test.YtgmelcdgnjcojagDoorToRefPolyC
import Derived.Test.YtgmelcdgnjcojagDoorToTRows
import Derived.Test.YtgmelcdgnjcojagDoorToOutsC
import Derived.Deep.LoopGhost
import Derived.Deep.CutBlock
import Derived.Deep.CutRange
import Derived.Test.YtgmelcdgnjcojagDoorToEngM
import Derived.Test.YtgmelcdgnjcojagDoorToGatesR
import Derived.Test.YtgmelcdgnjcojagDoorToOpenG
import Derived.Test.YtgmelcdgnjcojagDoorToRestC
import Derived.Test.YtgmelcdgnjcojagDoorToLsV2
namespace Go.Proofs.YtgmelcdgnjcojagDoor
open Go.RowKit Crm

/-- What each party has seen of the first i gates. -/
def sgl (G : List Gt) (n t : Nat) (ins ds : List Int) (i : Nat) : List (List Int) := (List.range n).map fun j => sng G n t ins ds i j
theorem sgl_len (G : List Gt) (n t : Nat) (ins ds : List Int) (i : Nat) : (sgl G n t ins ds i).length = n := by simp [sgl]
/-- What the switch leaves: the gate's numbers, and what is seen of it. -/
def Psw (G : List Gt) (n t : Nat) (ins ds : List Int) (w : World) (gs i : Nat) (vW : Value) (LW : List Value) (u : Value) (w' : World) : Prop :=
  ∃ (Ls : List Value) (lo hi : Nat), Sen w w' gs n Ls (sgl G n t ins ds (i + 1)) vW LW (ewr G n t ins ds i) lo hi ∧ w'.ownsRow w.heap.size 34 1 u n ((ew G n t ins ds i).map (Value.int .u64)) ∧ Btw lo hi u ∧ ∀ p b, (LW.getD p (.slice none 0 0)).ownBlock = some b → b < lo
/-- What a call has made lies apart. -/
theorem Sen.fresh {w wr w' : World} {gs n : Nat} {Ls : List Value} {S : List (List Int)} {vW : Value} {LW : List Value} {W : List (List Int)} {lo hi : Nat} (h : Sen w wr gs n Ls S vW LW W lo hi) (hn : 0 < n) (hb : Below wr.heap.size wr w') : Sen w w' gs n Ls S vW LW W wr.heap.size w'.heap.size :=
  ⟨h.seen.below hb, h.len, h.wires.below hb, h.apt, h.out, fun p hp gg hgg => .inl ((h.seen.row p (by rw [h.len]; exact hp)).lt gg hgg).2, (h.seen.cell h.len hn).2.2, Nat.le_refl _, h.bel.trans (hb.mono h.bel.size)⟩
theorem sgl_same {G : List Gt} {n t : Nat} {ins ds : List Int} {i : Nat} (h1 : (gt G i).k ≠ 1) (h5 : (gt G i).k ≠ 5) : sgl G n t ins ds (i + 1) = sgl G n t ins ds i := by
  unfold sgl
  refine List.map_congr_left fun j _ => ?_
  rw [sng_succ]
  unfold esn
  rw [if_neg h1, if_neg h5, List.append_nil]
theorem sgl_next (G : List Gt) (n t : Nat) (ins ds : List Int) (i : Nat) : sgx (sng G n t ins ds i) (esn G n t ins ds i) n n = sgl G n t ins ds (i + 1) := by
  rw [sgx_full]
  unfold sgl
  refine List.map_congr_left fun j _ => ?_
  rw [sng_succ]
theorem sgl_first (G : List Gt) (n t : Nat) (ins ds : List Int) (i : Nat) : sgl G n t ins ds i = sgx (sng G n t ins ds i) (esn G n t ins ds i) n 0 := by rw [sgx_zero]; rfl
/-- A gate of which nothing is seen. -/
theorem Psw.quiet {G : List Gt} {n t : Nat} {ins ds : List Int} {w wr w' : World} {gs i lo hi : Nat} {Ls : List Value} {vW u : Value} {LW : List Value} (h : Sen w wr gs n Ls (sgl G n t ins ds i) vW LW (ewr G n t ins ds i) lo hi) (hn : 0 < n) (hb : Below wr.heap.size wr w') (h1 : (gt G i).k ≠ 1) (h5 : (gt G i).k ≠ 5)
    (ho : w'.ownsRow wr.heap.size 34 1 u n ((ew G n t ins ds i).map (Value.int .u64))) : Psw G n t ins ds w gs i vW LW u w' := by
  have hS := h.fresh hn hb
  rw [← sgl_same h1 h5] at hS
  exact ⟨Ls, _, _, hS, own_baseV ho h.bel.size, fun b hb => ho.lt b hb, fun p b hb => (h.wires.blk p b hb).2⟩
/-- A wire's numbers, as they are read. -/
theorem Sen.wire {G : List Gt} {n t : Nat} {ins ds : List Int} {w wr : World} {gs i lo hi p cW : Nat} {aW : Option Addr} {Ls : List Value} {S : List (List Int)} {LW : List Value} (h : Sen w wr gs n Ls S (.slice aW i cW) LW (ewr G n t ins ds i) lo hi) (hp : p < i) :
    ∃ gW a c, aW = some ⟨gW, 0, none⟩ ∧ gW < wr.heap.size ∧ wr.cell? ⟨gW, p, none⟩ = some (.slice a n c) ∧ Rd wr a n c (ew G n t ins ds p) := by
  have ho := h.wires.own
  rw [ewr_len] at ho
  obtain ⟨gW, u, rfl, _, _, _, _⟩ := own_at ho hp
  obtain ⟨e1, _, e3⟩ := h.wires.cell (ewr_len G n t ins ds i) hp
  obtain ⟨a, c, e4, hr⟩ := h.wires.one (ewr_len G n t ins ds i) hp (by rw [ewr_getD G n t ins ds hp]; exact bd_u64 (ew_bd _ _ _ _ _ _))
  rw [ewr_getD G n t ins ds hp, ew_len] at e4 hr
  exact ⟨gW, a, c, rfl, e3, by rw [e1, e4], hr⟩
end Go.Proofs.YtgmelcdgnjcojagDoor

namespace Go.Proofs.YtgmelcdgnjcojagDoor
open Go.RowKit Crm

theorem dwn_mono (G : List Gt) (n t : Nat) {i j : Nat} (h : i ≤ j) : dwn G n t i ≤ dwn G n t j := by
  induction j with
  | zero => obtain rfl : i = 0 := by omega
            exact Nat.le_refl _
  | succ j ih =>
    by_cases e : i = j + 1
    · rw [e]; exact Nat.le_refl _
    · have := ih (by omega)
      rw [dwn]
      omega
theorem esn_le (G : List Gt) (n t : Nat) (ins ds : List Int) (i j : Nat) (hn : n ≤ 9) : (esn G n t ins ds i j).length ≤ 9 := by
  unfold esn
  split
  · simp
  · split
    · rw [tmR_len]; exact hn
    · simp
theorem sng_bound (G : List Gt) (n t : Nat) (ins ds : List Int) (i j : Nat) (hn : n ≤ 9) : (sng G n t ins ds i j).length ≤ 9 * i := by
  induction i with
  | zero => simp [sng]
  | succ i ih =>
    have := esn_le G n t ins ds i j hn
    rw [sng_succ, List.length_append]
    omega

/-- The gate's numbers are laid beside the wires. -/
theorem Psw.next {G : List Gt} {n t : Nat} {ins ds : List Int} {w wc w2 : World} {gs i : Nat} {vW v2 u : Value} {LW : List Value} (h : Psw G n t ins ds w gs i vW LW u wc) (hn : 0 < n) (ho : w2.ownsRow w.heap.size 22 1 v2 (i + 1) (LW ++ [u])) (hg : wc.grownBy w2 vW.ownBlock)
    (hat : v2.ownBlock = vW.ownBlock ∨ ∃ k, v2.ownBlock = some k ∧ wc.heap.size ≤ k) : ∃ Ls, Sen w w2 gs n Ls (sgl G n t ins ds (i + 1)) v2 (LW ++ [u]) (ewr G n t ins ds (i + 1)) (gs + 1) (gs + 1) := by
  obtain ⟨Ls, lo, hi, hS, hu, hb, hlw⟩ := h
  have hE : (22 : TypeId) ≠ 34 := by decide
  have hgs := (hS.seen.cell hS.len hn).2.2
  have hel := ewr_len G n t ins ds i
  have hne : ∀ p, (LW.getD p (.slice none 0 0)).ownBlock = none ∨ (LW.getD p (.slice none 0 0)).ownBlock ≠ u.ownBlock := fun p => by
    cases e : (LW.getD p (.slice none 0 0)).ownBlock with
    | none => exact .inl rfl
    | some b =>
      right
      intro e'
      have h1 := hlw p b e
      have h2 := hb b e'.symm
      omega
  have hnu : ∀ p, u.ownBlock = none ∨ u.ownBlock ≠ (Ls.getD p (.slice none 0 0)).ownBlock := fun p => by
    cases e : u.ownBlock with
    | none => exact .inl rfl
    | some b =>
      right
      intro e'
      have h2 := hb b e
      by_cases hp : p < n
      · have h3 := hS.far p hp b e'.symm
        omega
      · have hl := hS.seen.len
        rw [hS.len] at hl
        rw [List.getD_eq_getElem?_getD, List.getElem?_eq_none (by omega)] at e'
        simp [Value.ownBlock] at e'
  refine ⟨Ls, hS.seen.grown hg (.inr (fun e => hS.out e.symm)) (fun p hp => own_apart hS.wires.own (hS.seen.row p hp) hE), hS.len, ?_, (hS.apt.symm.add hnu).symm, ?_, fun p _ gg _ => by omega, by omega, Nat.le_trans hgs hg.size, hS.bel.grown hg hS.bel.size (fun q hq => (hS.wires.own.lt q hq).1)⟩
  · rw [ewr_succ]
    exact hS.wires.add (by rw [ew_len]; exact hu) (fun p _ => hne p) (by rw [hel]; exact ho) hg
  · rcases hat with e | ⟨k, e, hk⟩
    · rw [e]; exact hS.out
    · rw [e]
      intro e'
      have := Option.some.inj e'
      omega
theorem sno_bound (G : List Gt) (O : List Int) (n t : Nat) (ins ds : List Int) (N q j : Nat) (hn : n ≤ 9) : (sno G O n t ins ds N q j).length ≤ 9 * N + 9 * q := by
  induction q with
  | zero => have := sng_bound G n t ins ds N j hn; simp [sno]; omega
  | succ q ih => rw [sno_succ, List.length_append, ew_len]; omega
theorem snl_next (G : List Gt) (O : List Int) (n t : Nat) (ins ds : List Int) (N q : Nat) : sgx (sno G O n t ins ds N q) (fun _ => ew G n t ins ds (O.getD q 0).toNat) n n = snl G O n t ins ds N (q + 1) := by
  rw [sgx_full]
  unfold snl
  refine List.map_congr_left fun j _ => ?_
  rw [sno_succ]
theorem snl_first (G : List Gt) (O : List Int) (n t : Nat) (ins ds : List Int) (N q : Nat) : snl G O n t ins ds N q = sgx (sno G O n t ins ds N q) (fun _ => ew G n t ins ds (O.getD q 0).toNat) n 0 := by rw [sgx_zero]; rfl
theorem snl_zero (G : List Gt) (O : List Int) (n t : Nat) (ins ds : List Int) (N : Nat) : sgl G n t ins ds N = snl G O n t ins ds N 0 := by
  unfold sgl snl
  refine List.map_congr_left fun j _ => ?_
  simp [sno]

end Go.Proofs.YtgmelcdgnjcojagDoor

namespace Go.Proofs.YtgmelcdgnjcojagDoor
open Go.RowKit Crm

/-- What Need answers. -/
def Enn (G : List Gt) (O : List Int) (N m : Nat) (n t : Int) (w : World) (e : Ending) (w' : World) : Prop :=
  ((∃ r, r ≠ 0 ∧ Nde G O N m n t r ∧ e = .returned (.tuple #[.int .i64 0, .int .i64 r])) ∨
   (Nde G O N m n t 0 ∧ e = .returned (.tuple #[.int .i64 (dwn G n.toNat t.toNat N : Int), .int .i64 0]))) ∧ Below w.heap.size w w'
/-- What Run answers. -/
def Enr (G : List Gt) (O ins ds : List Int) (N m : Nat) (n t : Int) (q d : Nat) (w : World) (e : Ending) (w' : World) : Prop :=
  ((∃ r, r ≠ 0 ∧ Ere G O N m n t q d r ∧ e = .returned (.tuple #[.slice none 0 0, .slice none 0 0, .int .i64 r])) ∨
   (Ere G O N m n t q d 0 ∧ ∃ a c b k, e = .returned (.tuple #[.slice a m c, .slice b n.toNat k, .int .i64 0]) ∧ Rd w' a m c (otl G O ins m) ∧ RdR w' b n.toNat k (snl G O n.toNat t.toNat ins ds N m))) ∧ Below w.heap.size w w'
theorem nil_rdR (w : World) : RdR w none 0 0 [] := ⟨rfl, Nat.le_refl _, Nat.zero_le _, fun _ => rfl, by simp⟩
theorem Ere.ok {G : List Gt} {O : List Int} {N m : Nat} {n t : Int} {q d : Nat} (h : Ere G O N m n t q d 0) : Nde G O N m n t 0 ∧ q = ci G N ∧ d = dwn G n.toNat t.toNat N := by
  rcases h with ⟨h1, _⟩ | ⟨h1, ⟨_, h2⟩ | ⟨h2, ⟨_, h3⟩ | ⟨h3, _⟩⟩⟩
  · exact absurd rfl h1
  · omega
  · omega
  · exact ⟨h1, h2, h3⟩
/-- What was seen is read. -/
theorem snl_rd {w : World} {B : Nat} {u : Value} {L : List Value} {G : List Gt} {O : List Int} {n t : Nat} {ins ds : List Int} {N m : Nat} (h : LsV w B u L (snl G O n t ins ds N m)) : ∃ a c, u = .slice a n c ∧ RdR w a n c (snl G O n t ins ds N m) :=
  h.rdR (snl_len _ _ _ _ _ _ _ _) fun i hi x hx => by
    rw [snl_getD _ _ _ _ _ _ _ _ hi] at hx
    have := sno_bd _ _ _ _ _ _ _ _ hi x hx
    omega
end Go.Proofs.YtgmelcdgnjcojagDoor
