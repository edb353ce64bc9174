/- A desk in memory (desk.desk), and what a line leaves of it. (Print of wip/tpl/gen/mkdd.py.) · Package desk: keyCommand; which shape a verb has. (Print of wip/tpl/gen/mkda.py.) · Package desk: withCircuit; what circuit.Parse tells is alike to what the text says. · Package desk: open. · (*desk.desk).answer: a verb of the keys, whichever (its closure's number F is a letter). · What desk.keyCommand's closure of vGen does. (Print of wip/tpl/gen/mkdd.py.) · What desk.keyCommand's closure of vRefr does. (Print of wip/tpl/gen/mkdd.py.) · What desk.keyCommand's closure of vTwk does. (Print of wip/tpl/gen/mkdd.py.) · What desk.keyCommand's closure of vComb does. (Print of wip/tpl/gen/mkdd.py.) -/
import Derived.Test.YtljlioglpaogdafGreatDoorToDskF
import Derived.Test.YtljlioglpaogdafGreatDoorToEnDef
import Derived.Test.YtljlioglpaogdafGreatDoorToKyG
import Derived.Test.YtljlioglpaogdafGreatDoorToKyO
import Derived.Test.YtljlioglpaogdafGreatDoorToDdS
import Derived.Test.YtljlioglpaogdafGreatDoorToDskN
import Derived.Test.YtljlioglpaogdafGreatDoorToShpM
import Derived.Test.YtljlioglpaogdafGreatDoorToPrintC
import Derived.Test.YtljlioglpaogdafGreatDoorTexM
import Derived.Test.YtljlioglpaogdafGreatDoorToDecC
import Derived.Test.YtljlioglpaogdafGreatDoorToTwByM
import Derived.Deep.RegionLaw
namespace Go.Proofs.YtljlioglpaogdafGreatDoor
set_option linter.unusedVariables false
set_option maxRecDepth 100000
set_option maxHeartbeats 8000000
section
open Crm Go.RowKit
structure Dbc (w0 w : World) (p : Nat) (G : Nat → Prop) (T : ByteArray) (S : Option Kt) : Prop where
  row : ∃ q, w.heap[p]? = some (.cells #[.string T, .pointer q] 34 (0, 0)) ∧ ((S = none ∧ q = none) ∨ ∃ s b, S = some s ∧ q = some ⟨b, 0, none⟩ ∧ Stx 118 w b G s)
  lt : ∀ i, G i → i < w.heap.size
  off : ¬ G p
  low : ∀ i, G i → w0.heap.size ≤ i
  lp : w0.heap.size ≤ p
  bel : Below w0.heap.size w0 w
theorem Dbc.plt {w0 w : World} {p : Nat} {G : Nat → Prop} {T : ByteArray} {S : Option Kt} (h : Dbc w0 w p G T S) : p < w.heap.size := by
  obtain ⟨q, h1, _⟩ := h.row
  exact (Array.getElem?_eq_some_iff.1 h1).1
theorem Dbc.text {w0 w : World} {p : Nat} {G : Nat → Prop} {T : ByteArray} {S : Option Kt} (h : Dbc w0 w p G T S) : w.cell? ⟨p, 0, none⟩ = some (.string T) ∧ w.frozen? ⟨p, 0, none⟩ = false := by
  obtain ⟨q, h1, _⟩ := h.row
  exact ⟨by rw [cell_of_row w p _ _ _ (0, 0) h1]; rfl, frozen_of_row w p 0 _ _ h1⟩
theorem Dbc.gnx {w0 w w' : World} {p : Nat} {G : Nat → Prop} {T : ByteArray} {S : Option Kt} (h : Dbc w0 w p G T S) (hb : Below w.heap.size w w') : Dbc w0 w' p (Gnx G w w') T S := by
  have hp := h.plt
  obtain ⟨q, h1, h2⟩ := h.row
  refine ⟨⟨q, by rw [hb.block p hp]; exact h1, or_to h2 fun ⟨s, b, e1, e2, e3⟩ => ⟨s, b, e1, e2, e3.below hb⟩⟩, Gnx.lt h.lt hb.size, fun e => e.elim h.off (fun e => by omega), Gnx.ge h.low h.bel.size, h.lp, h.bel.trans (hb.mono h.bel.size)⟩
theorem Dbc.same {w0 w w' : World} {p : Nat} {G : Nat → Prop} {T : ByteArray} {S : Option Kt} (h : Dbc w0 w p G T S) (hb : Below w.heap.size w w') : Dbc w0 w' p G T S := by
  have hp := h.plt
  obtain ⟨q, h1, h2⟩ := h.row
  exact ⟨⟨q, by rw [hb.block p hp]; exact h1, or_to h2 fun ⟨s, b, e1, e2, e3⟩ => ⟨s, b, e1, e2, e3.same hb⟩⟩, fun i g => Nat.lt_of_lt_of_le (h.lt i g) hb.size, h.off, h.low, h.lp, h.bel.trans (hb.mono h.bel.size)⟩
theorem Dbc.put {w0 w : World} {p : Nat} {G : Nat → Prop} {T : ByteArray} {S : Option Kt} (h : Dbc w0 w p G T S) (U : ByteArray) : Dbc w0 (w.setCell ⟨p, 0, none⟩ (.string U)) p G U S ∧ Tch w (w.setCell ⟨p, 0, none⟩ (.string U)) (fun i => G i ∨ i = p) := by
  have hp := h.plt
  obtain ⟨q, h1, h2⟩ := h.row
  have hs := heap_setCell_same w p 0 _ _ (.string U) h1
  have ho : ∀ i, i ≠ p → (w.setCell ⟨p, 0, none⟩ (.string U)).heap[i]? = w.heap[i]? := fun i hi => heap_setCell_other w ⟨p, 0, none⟩ i _ hi
  have hz : (w.setCell ⟨p, 0, none⟩ (.string U)).heap.size = w.heap.size := by simp
  refine ⟨⟨⟨q, by rw [hs]; rfl, or_to h2 fun ⟨s, b, e1, e2, e3⟩ => ⟨s, b, e1, e2, e3.keep fun i hi => ho i (fun e => h.off (e ▸ hi))⟩⟩, fun i g => by rw [hz]; exact h.lt i g, h.off, h.low, h.lp, h.bel.setCell (p := ⟨p, 0, none⟩) h.lp _⟩, ⟨rfl, rfl, rfl, by rw [hz]; exact Nat.le_refl _, fun i _ hn => ho i (fun e => hn (.inr e))⟩⟩
def Dle (w0 : World) (p : Nat) (G : Nat → Prop) (T : ByteArray) (S : Option Kt) (v : ByteArray) (l : List ByteArray) (w : World) (e : Ending) (w' : World) : Prop :=
  ∃ out T' S', e = .returned (.string out) ∧ Dln T S v l out T' S' ∧ Dbc w0 w' p (Gnx G w w') T' S' ∧ Tch w w' (fun i => G i ∨ i = p)
theorem Dle.quiet {w0 w w' : World} {p : Nat} {G : Nat → Prop} {T : ByteArray} {S : Option Kt} {v : ByteArray} {l : List ByteArray} {out : ByteArray} (h : Dbc w0 w p G T S) (hb : Below w.heap.size w w') (hd : Dln T S v l out T S) : Dle w0 p G T S v l w (.returned (.string out)) w' :=
  ⟨out, T, S, rfl, hd, h.gnx hb, Tch.of_below hb⟩
theorem Dle.text {w0 w w1 : World} {p : Nat} {G : Nat → Prop} {T U : ByteArray} {S : Option Kt} {v : ByteArray} {l : List ByteArray} {out : ByteArray} (h : Dbc w0 w p G T S) (hb : Below w.heap.size w w1) (hd : Dln T S v l out U S) : Dle w0 p G T S v l w (.returned (.string out)) (w1.setCell ⟨p, 0, none⟩ (.string U)) := by
  obtain ⟨h1, _⟩ := (h.gnx hb).put U
  obtain ⟨_, h2⟩ := (h.same hb).put U
  have e : Gnx G w (w1.setCell ⟨p, 0, none⟩ (.string U)) = Gnx G w w1 := by
    funext i
    unfold Gnx
    simp
  exact ⟨out, U, S, rfl, hd, by rw [e]; exact h1, ((Tch.of_below hb).wide (fun i g => g)).same h2⟩
theorem Dle.keys {w0 w w1 w2 w3 : World} {p b n t : Nat} {G H : Nat → Prop} {T : ByteArray} {S : Option Kt} {v : ByteArray} {l : List ByteArray} {out : ByteArray} (h : Dbc w0 w p G T S) (hb : Below w.heap.size w w1) (hb2 : Below w1.heap.size w1 w2) (hs : Stx 118 w2 b H (k0 n t)) (hH : ∀ i, H i → w1.heap.size ≤ i) (e3 : w3 = w2.setCell ⟨p, 1, none⟩ (.pointer (some ⟨b, 0, none⟩))) (hd : Dln T S v l out T (some (k0 n t))) : Dle w0 p G T S v l w (.returned (.string out)) w3 := by
  subst e3
  have hb12 := hb.trans (hb2.mono hb.size)
  have hp := h.plt
  have hp2 := (h.same hb12).plt
  have hz1 := hb.size
  have hz2 := hb2.size
  obtain ⟨q, h1, _⟩ := (h.same hb12).row
  have hs1 := heap_setCell_same w2 p 1 _ _ (.pointer (some ⟨b, 0, none⟩)) h1
  have ho : ∀ i, i ≠ p → (w2.setCell ⟨p, 1, none⟩ (.pointer (some ⟨b, 0, none⟩))).heap[i]? = w2.heap[i]? := fun i hi => heap_setCell_other w2 ⟨p, 1, none⟩ i _ hi
  have hz : (w2.setCell ⟨p, 1, none⟩ (.pointer (some ⟨b, 0, none⟩))).heap.size = w2.heap.size := by simp
  have ht : Tch w (w2.setCell ⟨p, 1, none⟩ (.pointer (some ⟨b, 0, none⟩))) (fun i => G i ∨ i = p) := ⟨hb12.os, hb12.tape, hb12.output, by rw [hz]; exact hb12.size, fun i hi hn => (ho i (fun e => hn (.inr e))).trans (hb12.block i hi)⟩
  refine ⟨out, T, some (k0 n t), rfl, hd, ⟨⟨some ⟨b, 0, none⟩, by rw [hs1]; rfl, .inr ⟨k0 n t, b, rfl, rfl, (hs.keep fun i hi => ho i (fun e => by have := hH i hi; omega)).mono (fun i hi => .inr ⟨by have := hH i hi; omega, by rw [hz]; exact hs.2 i hi⟩) (fun i g => ?_)⟩⟩, fun i g => ?_, fun e => e.elim h.off (fun e => by omega), Gnx.ge h.low h.bel.size, h.lp, ?_⟩, ht⟩
  · exact Gnx.lt h.lt (by rw [hz]; exact hb12.size) i g
  · exact Gnx.lt h.lt (by rw [hz]; exact hb12.size) i g
  · exact (h.bel.trans (hb12.mono h.bel.size)).setCell (p := ⟨p, 1, none⟩) h.lp _
def Kdl (b : Nat) (G : Nat → Prop) (s : Kt) (v : ByteArray) (N : List Int) (w : World) (e : Ending) (w' : World) : Prop :=
  ∃ out s', e = .returned (.string out) ∧ Dky v N s out s' ∧ Kst w' b (Gnx G w w') s' ∧ Tch w w' G
theorem Dle.key {w0 w w1 w' : World} {p b : Nat} {G : Nat → Prop} {T : ByteArray} {s : Kt} {v : ByteArray} {l : List ByteArray} {N : List Int} {e : Ending} (h : Dbc w0 w p G T (some s)) (hrow : w.heap[p]? = some (.cells #[.string T, .pointer (some ⟨b, 0, none⟩)] 34 (0, 0))) (hb : Below w.heap.size w w1) (hk : Kdl b G s v N w1 e w') (hd : ∀ out s', Dky v N s out s' → Dln T (some s) v l out T (some s')) : Dle w0 p G T (some s) v l w e w' := by
  obtain ⟨out, s', rfl, h1, h2, h3⟩ := hk
  have hz := hb.size
  have ht : Tch w w' G := (Tch.of_below hb).same h3
  refine ⟨out, T, some s', rfl, hd out s' h1, ⟨⟨_, (ht.block p h.plt h.off).trans hrow, .inr ⟨s', b, rfl, rfl, Stx.mono h2 (fun i g => g.elim .inl (fun g => .inr ⟨by omega, g.2⟩)) (Gnx.lt h.lt ht.size)⟩⟩, Gnx.lt h.lt ht.size, fun e => e.elim h.off (fun e => by have := h.plt; omega), Gnx.ge h.low h.bel.size, h.lp, ht.below h.bel h.low h.bel.size⟩, ht.wide fun i g => .inl g⟩
theorem Rd.tch0 {w w' : World} {G : Nat → Prop} {a : Option Addr} {n c : Nat} {xs : List Int} (h : Rd w a n c xs) (ht : Tch w w' G) (hG : ∀ x, a = some x → ¬ G x.block) : Rd w' a n c xs := by
  by_cases hn : 0 < n
  · exact ht.rd h hn hG
  · exact ⟨h.len, h.cap, h.max, h.bd, h.nil, fun x hx i hi => by omega⟩
theorem Kke.behind {p : Nat} {G : Nat → Prop} {r : Int × Int × Kt} {w w1 w' : World} {e : Ending} (hb : Below w.heap.size w w1) (h : Kke p G r w1 e w') (hG : ∀ i, G i → i < w.heap.size) : Kke p G r w e w' := Kde.after hb h hG
theorem Kkt.behind {p : Nat} {G : Nat → Prop} {r : Int × Kt} {w w1 w' : World} {e : Ending} (hb : Below w.heap.size w w1) (h : Kkt p G r w1 e w') (hG : ∀ i, G i → i < w.heap.size) : Kkt p G r w e w' := Kte.after hb h hG
theorem shq_vDeal {le : Nat} {mo : Bool} (h : Shq vDeal le mo) : le = 2 ∧ mo = true := Shq.at (j := 0) h (by omega)
theorem shq_vOpen {le : Nat} {mo : Bool} (h : Shq vOpen le mo) : le = 1 ∧ mo = true := Shq.at (j := 1) h (by omega)
theorem shq_vClear {le : Nat} {mo : Bool} (h : Shq vClear le mo) : le = 0 ∧ mo = false := Shq.at (j := 2) h (by omega)
theorem shq_vShow {le : Nat} {mo : Bool} (h : Shq vShow le mo) : le = 0 ∧ mo = false := Shq.at (j := 3) h (by omega)
theorem shq_vRun {le : Nat} {mo : Bool} (h : Shq vRun le mo) : le = 0 ∧ mo = true := Shq.at (j := 4) h (by omega)
theorem shq_vKeys {le : Nat} {mo : Bool} (h : Shq vKeys le mo) : le = 2 ∧ mo = false := Shq.at (j := 5) h (by omega)
theorem shq_vGen {le : Nat} {mo : Bool} (h : Shq vGen le mo) : le = 0 ∧ mo = true := Shq.at (j := 6) h (by omega)
theorem shq_vRefr {le : Nat} {mo : Bool} (h : Shq vRefr le mo) : le = 1 ∧ mo = true := Shq.at (j := 7) h (by omega)
theorem shq_vTwk {le : Nat} {mo : Bool} (h : Shq vTwk le mo) : le = 2 ∧ mo = false := Shq.at (j := 8) h (by omega)
theorem shq_vComb {le : Nat} {mo : Bool} (h : Shq vComb le mo) : le = 4 ∧ mo = false := Shq.at (j := 9) h (by omega)
theorem shq_vMult {le : Nat} {mo : Bool} (h : Shq vMult le mo) : le = 2 ∧ mo = true := Shq.at (j := 10) h (by omega)
theorem shq_vKey {le : Nat} {mo : Bool} (h : Shq vKey le mo) : le = 1 ∧ mo = false := Shq.at (j := 11) h (by omega)
theorem shq_vDrop {le : Nat} {mo : Bool} (h : Shq vDrop le mo) : le = 1 ∧ mo = false := Shq.at (j := 12) h (by omega)
theorem fit_vDeal {l : List ByteArray} {n : Nat} (hl : l.length = n) : Fit3 l n 2 true ↔ Syn vDeal l := by
  rw [syn_vDeal, hl]
  unfold Fit3
  exact ⟨fun h => ⟨h.1, h.2.1⟩, fun h => ⟨h.1, h.2, .inr rfl⟩⟩
theorem fit_vClear {l : List ByteArray} {n : Nat} (hl : l.length = n) : Fit3 l n 0 false ↔ Syn vClear l := by
  rw [syn_vClear, hl]
  unfold Fit3
  exact ⟨fun h => ⟨h.1, by rcases h.2.2 with e | e; · have := h.2.1; omega
                           · cases e⟩, fun h => ⟨h.1, by omega, .inl (by omega)⟩⟩
theorem fit_vShow {l : List ByteArray} {n : Nat} (hl : l.length = n) : Fit3 l n 0 false ↔ Syn vShow l := by
  rw [syn_vShow, hl]
  unfold Fit3
  exact ⟨fun h => ⟨h.1, by rcases h.2.2 with e | e; · have := h.2.1; omega
                           · cases e⟩, fun h => ⟨h.1, by omega, .inl (by omega)⟩⟩
theorem fit_vRun {l : List ByteArray} {n : Nat} (hl : l.length = n) : Fit3 l n 0 true ↔ Syn vRun l := by
  rw [syn_vRun, hl]
  unfold Fit3
  exact ⟨fun h => ⟨h.1, trivial⟩, fun h => ⟨h.1, Nat.zero_le _, .inr rfl⟩⟩
theorem fit_vKeys {l : List ByteArray} {n : Nat} (hl : l.length = n) : Fit3 l n 2 false ↔ Syn vKeys l := by
  rw [syn_vKeys, hl]
  unfold Fit3
  exact ⟨fun h => ⟨h.1, by rcases h.2.2 with e | e; · have := h.2.1; omega
                           · cases e⟩, fun h => ⟨h.1, by omega, .inl (by omega)⟩⟩
theorem fit_vGen {l : List ByteArray} {n : Nat} (hl : l.length = n) : Fit3 l n 0 true ↔ Syn vGen l := by
  rw [syn_vGen, hl]
  unfold Fit3
  exact ⟨fun h => ⟨h.1, trivial⟩, fun h => ⟨h.1, Nat.zero_le _, .inr rfl⟩⟩
theorem fit_vRefr {l : List ByteArray} {n : Nat} (hl : l.length = n) : Fit3 l n 1 true ↔ Syn vRefr l := by
  rw [syn_vRefr, hl]
  unfold Fit3
  exact ⟨fun h => ⟨h.1, h.2.1⟩, fun h => ⟨h.1, h.2, .inr rfl⟩⟩
theorem fit_vTwk {l : List ByteArray} {n : Nat} (hl : l.length = n) : Fit3 l n 2 false ↔ Syn vTwk l := by
  rw [syn_vTwk, hl]
  unfold Fit3
  exact ⟨fun h => ⟨h.1, by rcases h.2.2 with e | e; · have := h.2.1; omega
                           · cases e⟩, fun h => ⟨h.1, by omega, .inl (by omega)⟩⟩
theorem fit_vComb {l : List ByteArray} {n : Nat} (hl : l.length = n) : Fit3 l n 4 false ↔ Syn vComb l := by
  rw [syn_vComb, hl]
  unfold Fit3
  exact ⟨fun h => ⟨h.1, by rcases h.2.2 with e | e; · have := h.2.1; omega
                           · cases e⟩, fun h => ⟨h.1, by omega, .inl (by omega)⟩⟩
theorem fit_vMult {l : List ByteArray} {n : Nat} (hl : l.length = n) : Fit3 l n 2 true ↔ Syn vMult l := by
  rw [syn_vMult, hl]
  unfold Fit3
  exact ⟨fun h => ⟨h.1, h.2.1⟩, fun h => ⟨h.1, h.2, .inr rfl⟩⟩
theorem fit_vKey {l : List ByteArray} {n : Nat} (hl : l.length = n) : Fit3 l n 1 false ↔ Syn vKey l := by
  rw [syn_vKey, hl]
  unfold Fit3
  exact ⟨fun h => ⟨h.1, by rcases h.2.2 with e | e; · have := h.2.1; omega
                           · cases e⟩, fun h => ⟨h.1, by omega, .inl (by omega)⟩⟩
theorem fit_vDrop {l : List ByteArray} {n : Nat} (hl : l.length = n) : Fit3 l n 1 false ↔ Syn vDrop l := by
  rw [syn_vDrop, hl]
  unfold Fit3
  exact ⟨fun h => ⟨h.1, by rcases h.2.2 with e | e; · have := h.2.1; omega
                           · cases e⟩, fun h => ⟨h.1, by omega, .inl (by omega)⟩⟩

theorem dKcGen (v : ByteArray) (a : Option Addr) (n c : Nat) (w : World) (q0 : (v.toList == [103, 101, 110]) = true) :
    Calls Tryz.prog 30 #[.string v, .slice a n c] w fun e w' => e = .returned (.func (.func 44) #[] #[.pointer (some ⟨w.heap.size, 0, none⟩)]) ∧ w' = w.alloc (.cells #[.slice a n c] 53) := by
  go_enter Tryz.func30, Tryz.ntmps30
  go_wp2
  go_ret
  exact ⟨rfl, rfl⟩

theorem dKcRefr (v : ByteArray) (a : Option Addr) (n c : Nat) (w : World) (q0 : (v.toList == [103, 101, 110]) = false) (q1 : (v.toList == [114, 101, 102, 114, 101, 115, 104]) = true) :
    Calls Tryz.prog 30 #[.string v, .slice a n c] w fun e w' => e = .returned (.func (.func 47) #[] #[.pointer (some ⟨w.heap.size, 0, none⟩)]) ∧ w' = w.alloc (.cells #[.slice a n c] 53) := by
  go_enter Tryz.func30, Tryz.ntmps30
  go_wp2
  go_ret
  exact ⟨rfl, rfl⟩

theorem dKcTwk (v : ByteArray) (a : Option Addr) (n c : Nat) (w : World) (q0 : (v.toList == [103, 101, 110]) = false) (q1 : (v.toList == [114, 101, 102, 114, 101, 115, 104]) = false) (q2 : (v.toList == [116, 119, 101, 97, 107]) = true) :
    Calls Tryz.prog 30 #[.string v, .slice a n c] w fun e w' => e = .returned (.func (.func 50) #[] #[.pointer (some ⟨w.heap.size, 0, none⟩)]) ∧ w' = w.alloc (.cells #[.slice a n c] 53) := by
  go_enter Tryz.func30, Tryz.ntmps30
  go_wp2
  go_ret
  exact ⟨rfl, rfl⟩

theorem dKcComb (v : ByteArray) (a : Option Addr) (n c : Nat) (w : World) (q0 : (v.toList == [103, 101, 110]) = false) (q1 : (v.toList == [114, 101, 102, 114, 101, 115, 104]) = false) (q2 : (v.toList == [116, 119, 101, 97, 107]) = false) (q3 : (v.toList == [99, 111, 109, 98, 105, 110, 101]) = true) :
    Calls Tryz.prog 30 #[.string v, .slice a n c] w fun e w' => e = .returned (.func (.func 52) #[] #[.pointer (some ⟨w.heap.size, 0, none⟩)]) ∧ w' = w.alloc (.cells #[.slice a n c] 53) := by
  go_enter Tryz.func30, Tryz.ntmps30
  go_wp2
  go_ret
  exact ⟨rfl, rfl⟩

theorem dKcMult (v : ByteArray) (a : Option Addr) (n c : Nat) (w : World) (q0 : (v.toList == [103, 101, 110]) = false) (q1 : (v.toList == [114, 101, 102, 114, 101, 115, 104]) = false) (q2 : (v.toList == [116, 119, 101, 97, 107]) = false) (q3 : (v.toList == [99, 111, 109, 98, 105, 110, 101]) = false) (q4 : (v.toList == [109, 117, 108, 116, 105, 112, 108, 121]) = true) :
    Calls Tryz.prog 30 #[.string v, .slice a n c] w fun e w' => e = .returned (.func (.func 54) #[] #[.pointer (some ⟨w.heap.size, 0, none⟩)]) ∧ w' = w.alloc (.cells #[.slice a n c] 53) := by
  go_enter Tryz.func30, Tryz.ntmps30
  go_wp2
  go_ret
  exact ⟨rfl, rfl⟩

theorem dKcKey (v : ByteArray) (a : Option Addr) (n c : Nat) (w : World) (q0 : (v.toList == [103, 101, 110]) = false) (q1 : (v.toList == [114, 101, 102, 114, 101, 115, 104]) = false) (q2 : (v.toList == [116, 119, 101, 97, 107]) = false) (q3 : (v.toList == [99, 111, 109, 98, 105, 110, 101]) = false) (q4 : (v.toList == [109, 117, 108, 116, 105, 112, 108, 121]) = false) (q5 : (v.toList == [107, 101, 121]) = true) :
    Calls Tryz.prog 30 #[.string v, .slice a n c] w fun e w' => e = .returned (.func (.func 56) #[] #[.pointer (some ⟨w.heap.size, 0, none⟩)]) ∧ w' = w.alloc (.cells #[.slice a n c] 53) := by
  go_enter Tryz.func30, Tryz.ntmps30
  go_wp2
  go_ret
  exact ⟨rfl, rfl⟩

theorem dKcDrop (v : ByteArray) (a : Option Addr) (n c : Nat) (w : World) (q0 : (v.toList == [103, 101, 110]) = false) (q1 : (v.toList == [114, 101, 102, 114, 101, 115, 104]) = false) (q2 : (v.toList == [116, 119, 101, 97, 107]) = false) (q3 : (v.toList == [99, 111, 109, 98, 105, 110, 101]) = false) (q4 : (v.toList == [109, 117, 108, 116, 105, 112, 108, 121]) = false) (q5 : (v.toList == [107, 101, 121]) = false) (q6 : (v.toList == [100, 114, 111, 112]) = true) :
    Calls Tryz.prog 30 #[.string v, .slice a n c] w fun e w' => e = .returned (.func (.func 59) #[] #[.pointer (some ⟨w.heap.size, 0, none⟩)]) ∧ w' = w.alloc (.cells #[.slice a n c] 53) := by
  go_enter Tryz.func30, Tryz.ntmps30
  go_wp2
  go_ret
  exact ⟨rfl, rfl⟩

theorem dKcNil (v : ByteArray) (a : Option Addr) (n c : Nat) (w : World) (q0 : (v.toList == [103, 101, 110]) = false) (q1 : (v.toList == [114, 101, 102, 114, 101, 115, 104]) = false) (q2 : (v.toList == [116, 119, 101, 97, 107]) = false) (q3 : (v.toList == [99, 111, 109, 98, 105, 110, 101]) = false) (q4 : (v.toList == [109, 117, 108, 116, 105, 112, 108, 121]) = false) (q5 : (v.toList == [107, 101, 121]) = false) (q6 : (v.toList == [100, 114, 111, 112]) = false) :
    Calls Tryz.prog 30 #[.string v, .slice a n c] w fun e w' => e = .returned (.nilFunc) ∧ w' = w.alloc (.cells #[.slice a n c] 53) := by
  go_enter Tryz.func30, Tryz.ntmps30
  go_wp2
  go_ret
  exact ⟨rfl, rfl⟩

theorem Fit3.len {l : List ByteArray} {n le : Nat} (h : Fit3 l n le false) : n = le := by
  have h1 := h.2.1
  rcases h.2.2 with e | e
  · omega
  · cases e
theorem eqIn_func (W : World) (d : Nat) (f : Fn) (x y : Array Value) : (Op.equalIn (d + 1) 59 (.func f x y) .nilFunc).run Tryz.prog W = .ok false W := by
  simp [Op.equalIn, run_underlying Tryz.underlying59]
theorem eqIn_nil (W : World) (d : Nat) : (Op.equalIn (d + 1) 59 .nilFunc .nilFunc).run Tryz.prog W = .ok true W := by
  simp [Op.equalIn, run_underlying Tryz.underlying59]
theorem eq_func (W : World) (f : Fn) (x y : Array Value) : (Op.equal 59 (.func f x y) .nilFunc).run Tryz.prog W = .ok false W := eqIn_func W 9999 f x y
theorem eq_nilF (W : World) : (Op.equal 59 .nilFunc .nilFunc).run Tryz.prog W = .ok true W := eqIn_nil W 9999
theorem neq_func (W : World) (f : Fn) (x y : Array Value) : (binOp .neq 59 (.func f x y) .nilFunc).run Tryz.prog W = .ok (.bool true) W := by
  simp only [binOp]
  simp [eq_func W f x y]
theorem neq_nil (W : World) : (binOp .neq 59 .nilFunc .nilFunc).run Tryz.prog W = .ok (.bool false) W := by
  simp only [binOp]
  simp [eq_nilF W]
theorem box_new (w : World) (x : Value) : Below w.heap.size w (w.alloc (.cells #[x] 53)) ∧ (w.alloc (.cells #[x] 53)).cell? ⟨w.heap.size, 0, none⟩ = some x := by
  refine ⟨(Below.refl _ _).alloc (Nat.le_refl _) _, ?_⟩
  rw [cell_of_row _ w.heap.size _ _ _ (0, 0) (heap_alloc_new w _)]
  rfl
theorem Blk.belowB {w w' : World} {g : Nat} {L : List Int} (h : Blk w g L) (hb : Below w.heap.size w w') : Blk w' g L := by
  unfold Blk
  rw [hb.block g h.lt]
  exact h
theorem par_zn {s : ByteArray} {G : List Gt} {O : List Int} {n : Nat} (h : Par s G O n 0) : ∀ g ∈ G, g.k = 2 ∨ g.k = 6 ∨ g.n = 0 := by
  rcases h with ⟨_, _, _, _, h⟩ | ⟨_, ⟨_, _, _, _, _, _, _, _, _, h⟩ | ⟨G0, O0, hr, ⟨_, _, _, _, h⟩ | ⟨_, _, _, ⟨h1, _⟩ | ⟨_, rfl, rfl⟩⟩⟩⟩
  · omega
  · omega
  · omega
  · exact absurd rfl h1
  · exact hr.zn
theorem alk_map (G : List Gt) (N : Nat) : Alk (G.map nmg) G N := fun i hi => by
  rw [gt_map]
  exact ⟨rfl, rfl, rfl, by show nm (nm _) = _; rw [nm_nm]⟩
theorem cre_nm {G : List Gt} {O : List Int} {n m q : Nat} {r : Int} (h : ∀ g ∈ G, g.k = 2 ∨ g.k = 6 ∨ g.n = 0) : Cre (G.map nmg) O n m q r ↔ Cre G O n m q r := by
  unfold Cre
  rw [cke_nm h, cke_nm h, (alk_map G n).ci (Nat.le_refl n)]
theorem nde_nm {G : List Gt} {O : List Int} {N m : Nat} {n t r : Int} (h : ∀ g ∈ G, g.k = 2 ∨ g.k = 6 ∨ g.n = 0) : Nde (G.map nmg) O N m n t r ↔ Nde G O N m n t r := by
  unfold Nde okc
  rw [cke_nm h, cke_nm h, (alk_map G N).whl N (Nat.le_refl N)]
theorem ere_nm {G : List Gt} {O : List Int} {N m : Nat} {n t : Int} {q d : Nat} {r : Int} (h : ∀ g ∈ G, g.k = 2 ∨ g.k = 6 ∨ g.n = 0) : Ere (G.map nmg) O N m n t q d r ↔ Ere G O N m n t q d r := by
  unfold Ere
  rw [nde_nm h, nde_nm h, (alk_map G N).ci (Nat.le_refl N), (alk_map G N).dwn _ _ N (Nat.le_refl N)]
theorem arg_nm (g : Gt) : arg (nmg g) = arg g := by
  unfold arg nmg
  simp only [nm_nm]
theorem gtx_nm (G : List Gt) : ∀ k, gtx (G.map nmg) k = gtx G k
  | 0 => rfl
  | k + 1 => by
    rw [gtx, gtx, gtx_nm G k, gt_map]
    unfold gln
    rw [arg_nm]
    rfl
def Wcr (Q : List Gt → List Int → ByteArray → Prop) (T out : ByteArray) : Prop := ∃ G O at_ r, Par T G O at_ r ∧ ((r ≠ 0 ∧ out = erB r ++ (spB ++ itb (at_ : Int))) ∨ (r = 0 ∧ Q G O out))
def Wce (Q : List Gt → List Int → ByteArray → Prop) (T : ByteArray) (w : World) (e : Ending) (w' : World) : Prop := ∃ out, e = .returned (.string out) ∧ Wcr Q T out ∧ Below w.heap.size w w'

theorem dWith (F : Nat) (lb : Array Value) (eg : ∀ args w, (callFunc F args).run Tryz.prog w = .ok (.enter F args) w) (Q : List Gt → List Int → ByteArray → Prop) (p : Nat) (T : ByteArray) (w : World) (hcT : w.cell? ⟨p, 0, none⟩ = some (.string T)) (hTz : T.size ≤ 2048) (hT : Tabs w) (hS : Shp w)
    (hF : ∀ (w1 : World) (ag : Option Addr) (n cg : Nat) (ao : Option Addr) (m co : Nat) (G : List Gt) (O : List Int), Below w.heap.size w w1 → Par T G O 0 0 → G.length = n → O.length = m → RdG w1 ag n cg (G.map nmg) → RdI w1 ao m co O → Calls Tryz.prog F (#[.agg #[.slice ag n cg, .slice ao m co]] ++ lb) w1 fun e w' => ∃ out, e = .returned (.string out) ∧ Q G O out ∧ Below w1.heap.size w1 w') :
    Calls Tryz.prog 40 #[.pointer (some ⟨p, 0, none⟩), .func (.func F) #[] lb] w (Wce Q T w) := by
  have hpl : p < w.heap.size := World.block_lt_of_cell? w ⟨p, 0, none⟩ hcT
  have HF : Hid (∀ (w1 : World) (ag : Option Addr) (n cg : Nat) (ao : Option Addr) (m co : Nat) (G : List Gt) (O : List Int), Below w.heap.size w w1 → Par T G O 0 0 → G.length = n → O.length = m → RdG w1 ag n cg (G.map nmg) → RdI w1 ao m co O → Calls Tryz.prog F (#[.agg #[.slice ag n cg, .slice ao m co]] ++ lb) w1 fun e w' => ∃ out, e = .returned (.string out) ∧ Q G O out ∧ Below w1.heap.size w1 w') := hF
  clear hF
  go_enter Tryz.func40, Tryz.ntmps40
  go_wp2_with fail
  refine (cParse T _ (by omega) hS).mono ?_
  rintro e w1 ⟨ag, cg, ao, co, at_, r, G, O, rfl, hP, ho, hi, hb1⟩
  obtain ⟨b1, b2⟩ := hP.gbd
  have hG := RdG.ownA ho (List.length_map ..) (gbd_nm b1)
  have hI := RdI.ownA hi b2
  have hrb := hP.bd
  have hat := par_at hP
  have HP : Hid (Par T G O at_ r) := hP
  obtain ⟨n, HGn⟩ : ∃ n, Hid (G.length = n) := ⟨_, rfl⟩
  obtain ⟨m, HOm⟩ : ∃ m, Hid (O.length = m) := ⟨_, rfl⟩
  rw [HGn.out] at hG ⊢
  rw [HOm.out] at hI ⊢
  have hC := CBox.new w1 ag n cg ao m co
  have hbA : Below w1.heap.size w1 (w1.alloc (.cells #[.slice ag n cg, .slice ao m co] 73)) := (Below.refl _ _).alloc (Nat.le_refl _) _
  have hG := hG.below hbA
  have hI := hI.below hbA
  have hbw := hb1.trans (hbA.mono hb1.size)
  obtain ⟨gc, HGC⟩ : ∃ gc, Hid (w1.heap.size = gc) := ⟨_, rfl⟩
  clear ho hi hP b1 b2 hbA
  go_upto_region 2 with fail
  generalize w1.alloc (.cells #[.slice ag n cg, .slice ao m co] 73) = w2 at *
  rw [HGC.out] at hC ⊢
  obtain ⟨d0, d1⟩ := hC.cells
  have hgl := hC.lt
  have hTb := hT.below hbw
  clear hcT hb1
  by_cases hr : r = 0
  · subst hr
    obtain rfl : at_ = 0 := by
      rcases HP.out with ⟨_, _, _, h, _⟩ | ⟨_, ⟨_, _, _, _, _, _, _, _, _, h⟩ | ⟨_, _, _, ⟨_, _, _, _, h⟩ | ⟨_, h, _⟩⟩⟩
      · exact h
      · omega
      · omega
      · exact h
    have HCL := HF.out w2 ag n cg ao m co G O hbw HP.out HGn.out HOm.out hG hI
    clear hC hG hI hTb hat
    go_wp2_with fail
    refine HCL.mono ?_
    rintro e w3 ⟨out, rfl, hQ, hb3⟩
    have HW : Hid (Wcr Q T out) := ⟨G, O, 0, 0, HP.out, .inr ⟨rfl, hQ⟩⟩
    have hb13 := hbw.trans (hb3.mono hbw.size)
    clear HCL hQ d0 d1 hgl
    go_wp2
    go_ret
    exact ⟨out, rfl, HW.out, hb13⟩
  · have hrn : (r != 0) = true := by rw [bne_iff_ne]; exact hr
    have HW : Hid (Wcr Q T (erB r ++ (spB ++ itb (at_ : Int)))) := ⟨G, O, at_, r, HP.out, .inl ⟨hr, rfl⟩⟩
    have HAS : Hid (erB r ++ (spB ++ itb (at_ : Int)) = (erB r ++ ⟨#[32]⟩) ++ itb (at_ : Int)) := by unfold Hid; rw [ByteArray.append_assoc]; rfl
    rw [HAS.out] at HW
    clear hr hC hG hI HAS
    go_wp2_with fail
    refine (dFail r _ (by omega) (by omega) hTb).mono ?_
    rintro e w3 ⟨rfl, hb3⟩
    have hb13 := hbw.trans (hb3.mono hbw.size)
    have hT3 := hTb.below hb3
    obtain ⟨hz1, hz2⟩ := erj_size (r := r) (n := at_) (by omega) (by omega) (by omega)
    have hez := erB_size r (by omega) (by omega)
    obtain ⟨X, HX⟩ : ∃ X, Hid (erB r = X) := ⟨_, rfl⟩
    rw [HX.out] at HW hez hz1 ⊢
    have a1 := add_big (P := Tryz.prog) X ⟨#[32]⟩ (by have := sp_size; omega)
    obtain ⟨Y, HY⟩ : ∃ Y, Hid (X ++ ⟨#[32]⟩ = Y) := ⟨_, rfl⟩
    rw [HY.out] at a1 HW hz1
    clear hb3 hTb d0 d1 hgl
    go_wp2_with fail
    refine (sItoa (at_ : Int) _ (by omega) (by omega) hT3).mono ?_
    rintro e w4 ⟨rfl, hb4⟩
    have hb14 := hb13.trans (hb4.mono hb13.size)
    obtain ⟨Z, HZ⟩ : ∃ Z, Hid (itb (at_ : Int) = Z) := ⟨_, rfl⟩
    rw [HZ.out] at HW hz2 ⊢
    have a2 := add_big (P := Tryz.prog) Y Z (by omega)
    clear hb4 hT3 hb13
    go_wp2
    go_ret
    exact ⟨_, rfl, HW.out, hb14⟩
def pr2 (M : List Int) (q : Nat) : List (Int × Int) := (List.range q).map fun i => (M.getD (2 * i) 0, M.getD (2 * i + 1) 0)
theorem pr2_len (M : List Int) (q : Nat) : (pr2 M q).length = q := by simp [pr2]
theorem pr2_snoc (M : List Int) (q : Nat) {x y : Int} (hx : M.getD (2 * q) 0 = x) (hy : M.getD (2 * q + 1) 0 = y) : pr2 M q ++ [(x, y)] = pr2 M (q + 1) := by
  rw [pr2, pr2, List.range_succ, List.map_append, ← hx, ← hy]
  rfl
theorem pr2_getD (M : List Int) {q i : Nat} (h : i < q) : (pr2 M q).getD i (0, 0) = (M.getD (2 * i) 0, M.getD (2 * i + 1) 0) := by simp [pr2, h]
theorem pr2_prk (N : List Int) (q : Nat) : pr2 (N.drop 1) q = prk N q := by
  unfold pr2 prk
  refine List.map_congr_left fun i _ => ?_
  have e : ∀ j, (N.drop 1).getD j 0 = N.getD (j + 1) 0 := fun j => by simp
  rw [e, e]
def Dpn (M : List Int) (k : Nat) (t : Int) (out : ByteArray) : Prop := (k % 2 = 1 ∧ out = erB 3) ∨ (k % 2 = 0 ∧ ∃ x B r, Rob (pr2 M (k / 2)) (k / 2) t x B r ∧ out = sad (x :: B) r)
def Dpe (M : List Int) (k : Nat) (t : Int) (w : World) (e : Ending) (w' : World) : Prop := ∃ out, e = .returned (.string out) ∧ Dpn M k t out ∧ Below w.heap.size w w'

theorem dOpen (t : Int) (a : Option Addr) (k c : Nat) (M : List Int) (w : World) (h : Rd w a k c M) (hk : k ≤ 70000) (hMb : ∀ x ∈ M, 0 ≤ x ∧ x ≤ 9999999999) (hT : Tabs w) :
    Calls Tryz.prog 62 #[.int .i64 t, .slice a k c] w (Dpe M k t w) := by
  have hlen := h.len
  have hcap := h.cap
  have hmax := h.max
  unfold maxLen at hmax
  have HMB : Hid (∀ x ∈ M, 0 ≤ x ∧ x ≤ 9999999999) := hMb
  clear hMb
  by_cases hodd : k % 2 = 1
  · have hcb : (k : Int).tmod 2 = 1 := by rw [Int.tmod_eq_emod_of_nonneg (by omega)]; omega
    have HO : Hid (Dpn M k t (erB 3)) := .inl ⟨hodd, rfl⟩
    clear h hodd
    go_enter Tryz.func62, Tryz.ntmps62
    go_wp2_with fail
    refine (dFail 3 _ (by omega) (by omega) hT).mono ?_
    rintro e w1 ⟨rfl, hb⟩
    obtain ⟨X, HX⟩ : ∃ X, Hid (erB 3 = X) := ⟨_, rfl⟩
    rw [HX.out] at HO ⊢
    go_wp2
    go_ret
    exact ⟨X, rfl, HO.out, hb⟩
  have hcb : (k : Int).tmod 2 = 0 := by rw [Int.tmod_eq_emod_of_nonneg (by omega)]; omega
  obtain ⟨Q, HQ⟩ : ∃ Q, Hid (k = 2 * Q) := ⟨k / 2, by unfold Hid; omega⟩
  have hq1 : 2 * Q ≤ k := by rw [HQ.out]; exact Nat.le_refl _
  have hq2 : k ≤ 2 * Q := by rw [HQ.out]; exact Nat.le_refl _
  have HDA : Hid (∀ x B r, Rob (pr2 M Q) Q t x B r → Dpn M k t (sad (x :: B) r)) := fun x B r hR => .inr ⟨by omega, x, B, r, by rw [show k / 2 = Q by omega]; exact hR, rfl⟩
  clear hodd
  go_enter Tryz.func62, Tryz.ntmps62
  go_wp2
  go_loopw [5, 6] (fun vv q wr => ∃ i I : Nat, i ≤ Q ∧ q = .int .i64 (I : Int) ∧ (2 * i ≤ I ∧ I ≤ 2 * i) ∧ wr.ownsRow w.heap.size 127 2 vv i (shc (pr2 M i)) ∧ Below w.heap.size w wr) (fun _ q _ => k - (intOf q).toNat)
  case atStart => exact ⟨0, 0, Nat.zero_le _, rfl, ⟨by omega, by omega⟩, World.ownsRow_nil _ _ _ _, Below.refl _ _⟩
  case round =>
    obtain ⟨i, I, hi, rfl, hI, hown, hbel⟩ := hrel
    have hs2 := hbel.size
    have hrb := h.below hbel
    by_cases hlt : i < Q
    · obtain ⟨bi, oi, xi, ei, hbi, HXi, hxi0, hxi1, cxi⟩ := hrb.one (show I < k by omega)
      subst ei
      obtain ⟨bj, oj, xj, ej, hbj, HXj, hxj0, hxj1, cxj⟩ := hrb.one (show I + 1 < k by omega)
      simp only [Option.some.injEq, Addr.mk.injEq, and_true] at ej
      obtain ⟨rfl, rfl⟩ := ej
      have hxib : 0 ≤ xi ∧ xi ≤ 9999999999 := by
        rw [← HXi.out]
        exact HMB.out _ (by rw [List.getD_eq_getElem?_getD, List.getElem?_eq_getElem (show I < M.length by omega)]; exact List.getElem_mem _)
      have hui : IntKind.i64.wrap xi = xi := by rw [IntKind.wrap_i64]; omega
      have hwI : IntKind.i64.wrap ((I : Int) + 1) = (I : Int) + 1 := by rw [IntKind.wrap_i64]; omega
      have HS : Hid (pr2 M i ++ [(xi, xj)] = pr2 M (i + 1)) := pr2_snoc M i (by rw [show 2 * i = I by omega]; exact HXi.out) (by rw [show 2 * i + 1 = I + 1 by omega]; exact HXj.out)
      have hos2 : wr.drew.ownsRow w.heap.size 127 2 _ i (shc (pr2 M i)) := hown
      have hb3d := hbel.drew
      have hIn : (I : Int) < (k : Int) := by omega
      have hIn1 : (I : Int) + 1 < (k : Int) := by omega
      have hI0 : (0 : Int) ≤ (I : Int) := by omega
      have hI1 : (0 : Int) ≤ (I : Int) + 1 := by omega
      obtain ⟨hIa, hIb⟩ := hI
      clear hrb
      go_wp2
      go_region_law (refine step_appS Tryz.underlying125 infoSh wr.drew rfl _ _ rfl w.heap.size _ _ _ rfl hos2 xi xj rfl rfl (by omega) (by exact hs2) ?_; intro v4 w4 hos4 hb4; rw [HS.out] at hos4; have hb4' := hb3d.trans hb4)
      all_goals
        clear hown hos2 hb3d hb4
        go_wp2
        go_roundw
        case rel => exact ⟨i + 1, I + 2, by omega, by go_num, ⟨by omega, by omega⟩, hos4, hb4'⟩
        case measure => simp [intOf]; omega
    · have hiQ : i = Q := by omega
      have hIn : ¬ ((I : Int) < (k : Int)) := by omega
      obtain ⟨sb, sc, rfl, hsh⟩ := RdS.own hown (pr2_len M i) (fun z hz => by
        rw [pr2_getD M hz]
        have h1 := HMB.out (M.getD (2 * z) 0) (by rw [List.getD_eq_getElem?_getD, List.getElem?_eq_getElem (show 2 * z < M.length by omega)]; exact List.getElem_mem _)
        have h2 := HMB.out (M.getD (2 * z + 1) 0) (by rw [List.getD_eq_getElem?_getD, List.getElem?_eq_getElem (show 2 * z + 1 < M.length by omega)]; exact List.getElem_mem _)
        exact ⟨by simp only; omega, by simp only; omega⟩)
      subst hiQ
      clear hown hrb
      go_wp2_with fail
      refine (cOpenD t _ _ _ _ _ hsh).mono ?_
      rintro e w2 ⟨x, B, r, a2, k2, c2, rfl, hRo, hB, hb2⟩
      obtain ⟨sx, sB, sL⟩ := hRo.small
      have hrr := hRo.rb
      have HDD : Hid (Dpn M k t (sad (x :: B) r)) := HDA.out x B r hRo
      have HSB : Hid (∀ y ∈ B, 0 ≤ y ∧ y ≤ 9999999999) := sB
      have hk2 := hB.len
      have hc2 := hB.cap
      have hm2 := hB.max
      unfold maxLen at hm2
      have hb12 := hbel.trans (hb2.mono hbel.size)
      have hbA : Below w2.heap.size w2 (w2.alloc (.cells #[.int .u64 x] 77)) := (Below.refl _ _).alloc (Nat.le_refl _) _
      have hoA : (w2.alloc (.cells #[.int .u64 x] 77)).ownsRow w2.heap.size 77 1 (.slice (some ⟨w2.heap.size, 0, none⟩) 1 1) 1 ((x :: B.take 0).map (Value.int .u64)) := ⟨rfl, Or.inr ⟨_, 1, #[.int .u64 x], rfl, Nat.le_refl _, heap_alloc_new w2 _, Nat.le_refl _, by unfold maxLen; omega, rfl, rfl⟩⟩
      obtain ⟨v0, HV0⟩ : ∃ v0, Hid (Value.slice (some ⟨w2.heap.size, 0, none⟩) 1 1 = v0) := ⟨_, rfl⟩
      clear hRo hsh hb2 sB
      go_upto_region 10 with fail
      generalize w2.alloc (.cells #[.int .u64 x] 77) = wA at *
      rw [HV0.out] at hoA ⊢
      go_wp2
      go_loopw [10, 49] (fun vv q wr => ∃ i : Nat, i ≤ k2 ∧ q = .int .i64 (i : Int) ∧ wr.ownsRow w2.heap.size 77 1 vv (i + 1) ((x :: B.take i).map (Value.int .u64)) ∧ Below w2.heap.size w2 wr) (fun _ q _ => k2 - (intOf q).toNat)
      case atStart => exact ⟨0, Nat.zero_le _, rfl, hoA, hbA⟩
      case round =>
        clear hoA hbA
        obtain ⟨i2, hi2, rfl, hown2, hbel2⟩ := hrel
        have hs3 := hbel2.size
        by_cases hlt2 : i2 < k2
        · obtain ⟨b5, o5, y, rfl, hbb5, HY5, hy0, hy1, hcy⟩ := (hB.below hbel2).one hlt2
          have hyb : 0 ≤ y ∧ y ≤ 9999999999 := by
            rw [← HY5.out]
            exact HSB.out _ (by rw [List.getD_eq_getElem?_getD, List.getElem?_eq_getElem (show i2 < B.length by omega)]; exact List.getElem_mem _)
          have hl2 : (i2 : Int) < (k2 : Int) := by omega
          have HN5 : Hid ((x :: B.take i2) ++ [y] = x :: B.take (i2 + 1)) := by
            unfold Hid
            rw [List.take_add_one, ← HY5.out, List.getD_eq_getElem?_getD, List.getElem?_eq_getElem (show i2 < B.length by omega)]
            rfl
          obtain ⟨P, HP⟩ : ∃ P, Hid (x :: B.take i2 = P) := ⟨_, rfl⟩
          rw [HP.out] at hown2 HN5
          go_wp2_with (at_builtin; refine wpList_app1 Tryz.underlying53 infoU _ rfl _ _ rfl w2.heap.size _ _ P rfl hown2 y rfl (by omega) (by omega) ?_; intro v7 w7 hown7 hbel7; rw [HN5.out] at hown7; have hbel8 := hbel2.trans hbel7; clear hbel7)
          go_roundw
          case rel => exact ⟨i2 + 1, by omega, by go_num, hown7, hbel8⟩
          case measure => simp [intOf]; omega
        · obtain rfl : i2 = k2 := by omega
          have hnn : ¬ ((i2 : Int) < (i2 : Int)) := by omega
          rw [List.take_of_length_le (by omega)] at hown2
          obtain ⟨a5, c5, rfl, hr5, _⟩ := Rd.own hown2 (fun z hz => by
            rcases List.mem_cons.1 hz with rfl | hz
            · omega
            · have := HSB.out z hz; omega)
          have hc5 := hr5.cap
          have hm5 := hr5.max
          unfold maxLen at hm5
          have hbw := hb12.trans (hbel2.mono hb12.size)
          have hT5 := hT.below hbw
          clear hown2 hB
          go_wp2_with fail
          refine (dTell _ _ _ _ r _ hr5 (by omega) hrr.1 hrr.2 hT5).mono ?_
          rintro e w6 ⟨rfl, hb6⟩
          have hbw6 := hbw.trans (hb6.mono hbw.size)
          obtain ⟨X, HXX⟩ : ∃ X, Hid (sad (x :: B) r = X) := ⟨_, rfl⟩
          rw [HXX.out] at HDD ⊢
          clear hr5 hb6 hT5
          go_wp2
          go_ret
          exact ⟨X, rfl, HDD.out, hbw6⟩
theorem Dac.key {v T : ByteArray} {l : List ByteArray} {S S' : Option Kt} {out : ByteArray} (hv : v ≠ vCirc ∧ v ≠ vDeal ∧ v ≠ vOpen ∧ v ≠ vClear ∧ ¬ (v = vShow ∨ v = vRun ∨ v = vWork) ∧ v ≠ vKeys) (h : (S = none ∧ out = erB 4 ∧ S' = none) ∨ ∃ s s', S = some s ∧ S' = some s' ∧ Dky v (nba l) s out s') : Dac T S v l out T S' := by
  unfold Dac
  rw [if_neg hv.1, if_neg hv.2.1, if_neg hv.2.2.1, if_neg hv.2.2.2.1, if_neg hv.2.2.2.2.1, if_neg hv.2.2.2.2.2]
  exact ⟨rfl, h⟩
theorem dAnsK (v : ByteArray) (F L : Nat) (M : Bool) (C : Nat → Prop) (eg : ∀ args w, (callFunc F args).run Tryz.prog w = .ok (.enter F args) w) (q_c : (v.toList == [99, 105, 114, 99, 117, 105, 116]) = false) (q_w : (v.toList == [119, 111, 114, 107]) = false)
    (HNE : Hid (v ≠ vCirc ∧ v ≠ vDeal ∧ v ≠ vOpen ∧ v ≠ vClear ∧ ¬ (v = vShow ∨ v = vRun ∨ v = vWork) ∧ v ≠ vKeys))
    (HSQ : Hid (∀ le mo, Shq v le mo → le = L ∧ mo = M)) (HF3 : Hid (∀ (l : List ByteArray) n, l.length = n → (Fit3 l n L M ↔ Syn v l))) (HC : Hid (∀ (l : List ByteArray) n, Fit3 l n L M → C n))
    (HKC : Hid (∀ (a : Option Addr) (n c : Nat) (w : World), Calls Tryz.prog 30 #[.string v, .slice a n c] w fun e w' => e = .returned (.func (.func F) #[] #[.pointer (some ⟨w.heap.size, 0, none⟩)]) ∧ w' = w.alloc (.cells #[.slice a n c] 53)))
    (HKY : Hid (∀ (w0 w : World) (b gb g : Nat) (G : Nat → Prop) (s : Kt) (k : Nat) (N : List Int), Kst w b G s → w.cell? ⟨gb, 0, none⟩ = some (.slice (some ⟨g, 0, none⟩) k k) → Blk w g N → N.length = k → (∀ x ∈ N, 0 ≤ x ∧ x ≤ 9999999999) → C k → k ≤ 100000 → ¬ G gb → ¬ G g → (∀ i, G i → w0.heap.size ≤ i) → Below w0.heap.size w0 w → Tabs w0 → s.last ≤ 1000000 →
      Calls Tryz.prog F #[.pointer (some ⟨b, 0, none⟩), .pointer (some ⟨gb, 0, none⟩)] w (Kdl b G s v N w)))
    (w0 w : World) (p : Nat) (G : Nat → Prop) (T : ByteArray) (S : Option Kt) (a : Option Addr) (n c : Nat) (l : List ByteArray) (h : Dbc w0 w p G T S) (r : RdT w a n c l) (hn : n ≤ 70000) (hTz : T.size ≤ 2048) (hlast : ∀ s, S = some s → s.last ≤ 1000000) (hT : Tabs w0) (hS : Shp w0) (hDs : Dsp w0) :
    Calls Tryz.prog 14 #[.pointer (some ⟨p, 0, none⟩), .string v, .slice a n c] w (Dle w0 p G T S v l w) := by
  have hlen := r.len
  have hcap := r.cap
  have hmax := r.max
  unfold maxLen at hmax
  have hpl := h.plt
  have H : Hid (Dbc w0 w p G T S) := h
  have HT : Hid (∀ w', Below w.heap.size w w' → Tabs w' ∧ Shp w' ∧ Dsp w') := fun w' hb => ⟨hT.below (h.bel.trans (hb.mono h.bel.size)), hS.below (h.bel.trans (hb.mono h.bel.size)), hDs.below (h.bel.trans (hb.mono h.bel.size))⟩
  have HFT : Hid (Fit3 l n L M ↔ Syn v l) := HF3.out l n hlen
  clear h
  go_enter Tryz.func14, Tryz.ntmps14
  go_wp2_with fail
  refine (dShape v _ (HT.out _ (Below.refl _ _)).2.2).mono ?_
  rintro e w1 ⟨wd, le, mo, rfl, hq, hb1⟩
  obtain ⟨hle, hmo⟩ := HSQ.out le mo hq
  subst hle hmo
  clear hq
  go_wp2_with fail
  refine (dRead wd le mo _ _ _ l _ (r.below hb1) (by omega)).mono ?_
  rintro e w2 ⟨⟨hno, u, rfl⟩ | ⟨hok, g, rfl, hg, hB⟩, hb2⟩
  · have hb12 := hb1.trans (hb2.mono hb1.size)
    have HD : Hid (Dln T S v l (erB 3) T S) := .inl ⟨fun hs => hno (HFT.out.2 hs), rfl, rfl, rfl⟩
    obtain ⟨hTb, _⟩ := HT.out _ hb12
    clear hno
    go_wp2_with fail
    refine (dFail 3 _ (by omega) (by omega) hTb).mono ?_
    rintro e wz ⟨rfl, hbz⟩
    have hbw := hb12.trans (hbz.mono hb12.size)
    obtain ⟨X, HX⟩ : ∃ X, Hid (erB 3 = X) := ⟨_, rfl⟩
    rw [HX.out] at HD ⊢
    clear hbz hTb
    go_wp2
    go_ret
    exact Dle.quiet H.out hbw HD.out
  · have hb12 := hb1.trans (hb2.mono hb1.size)
    have hs1 := hb1.size
    have HSY : Hid (Syn v l) := HFT.out.1 hok
    have HNB : Hid (∀ x ∈ nba l, 0 ≤ x ∧ x ≤ 9999999999) := nba_bd (by rw [hlen]; exact hok.1)
    obtain ⟨N, HNN⟩ : ∃ N, Hid (nba l = N) := ⟨_, rfl⟩
    have e0 : nbl l n = N := by rw [← HNN.out, ← hlen]; rfl
    have hNl : N.length = n := by rw [← HNN.out, nba_len]; exact hlen
    have HCn : Hid (C n) := HC.out l n hok
    rw [e0] at hB
    rw [HNN.out] at HNB
    clear hok e0
    go_wp2_with fail
    refine (HKC.out _ _ _ _).mono ?_
    rintro e w3 ⟨rfl, hw3⟩
    obtain ⟨hb3, hc3⟩ := box_new w2 (.slice (some ⟨g, 0, none⟩) n n)
    rw [← hw3] at hb3 hc3
    clear hw3
    have hb13 := hb12.trans (hb3.mono hb12.size)
    have hB3 := hB.belowB hb3
    have hgl := hB.lt
    obtain ⟨gb, HGB⟩ : ∃ gb, Hid (w2.heap.size = gb) := ⟨_, rfl⟩
    have hs2 := hb12.size
    rw [HGB.out] at hc3 hgl hs2 ⊢
    have hs3 := hb13.size
    have hnf := fun W => neq_func W (.func F) #[] #[.pointer (some ⟨gb, 0, none⟩)]
    clear hB hb3
    obtain ⟨q, hq1, ⟨hS, rfl⟩ | ⟨s, b, hS, rfl, hst⟩⟩ := (H.out.same hb13).row
    · subst hS
      have hc1 : w3.cell? ⟨p, 1, none⟩ = some (.pointer none) := by rw [cell_of_row w3 p _ _ _ (0, 0) hq1]; rfl
      have hpl1 := (H.out.same hb13).plt
      clear hq1
      have HD : Hid (Dln T none v l (erB 4) T none) := .inr ⟨HSY.out, Dac.key HNE.out (.inl ⟨rfl, rfl, rfl⟩)⟩
      obtain ⟨hTb, _⟩ := HT.out _ hb13
      go_wp2_with fail
      refine (dFail 4 _ (by omega) (by omega) hTb).mono ?_
      rintro e wz ⟨rfl, hbz⟩
      have hbw := hb13.trans (hbz.mono hb13.size)
      obtain ⟨X, HX⟩ : ∃ X, Hid (erB 4 = X) := ⟨_, rfl⟩
      rw [HX.out] at HD ⊢
      clear hbz hTb
      go_wp2
      go_ret
      exact Dle.quiet H.out hbw HD.out
    · subst hS
      have hc1 : w3.cell? ⟨p, 1, none⟩ = some (.pointer (some ⟨b, 0, none⟩)) := by rw [cell_of_row w3 p _ _ _ (0, 0) hq1]; rfl
      have hpl1 := (H.out.same hb13).plt
      have HRW : Hid (w.heap[p]? = some (.cells #[.string T, .pointer (some ⟨b, 0, none⟩)] 34 (0, 0))) := by unfold Hid; rw [← hb13.block p hpl]; exact hq1
      have HGG : Hid (∀ x, w.heap.size ≤ x → ¬ G x) := fun x hx e => by have h2 := H.out.lt _ e; omega
      have hls := hlast s rfl
      have HDK : Hid (∀ out s', Dky v N s out s' → Dln T (some s) v l out T (some s')) := fun out s' hd => .inr ⟨HSY.out, Dac.key HNE.out (.inr ⟨s, s', rfl, rfl, by rw [HNN.out]; exact hd⟩)⟩
      have hbel3 := (H.out.same hb13).bel
      clear hq1 hlast
      have HCL := HKY.out w0 w3 b gb g G s n N hst hc3 hB3 hNl HNB.out HCn.out (by omega) (HGG.out gb hs2) (HGG.out g (by omega)) H.out.low hbel3 hT hls
      go_wp2_with fail
      refine HCL.mono ?_
      intro e w4 hk
      have HL : Hid (Dle w0 p G T (some s) v l w e w4) := Dle.key H.out HRW.out hb13 hk HDK.out
      obtain ⟨out, s', rfl, _⟩ := hk
      clear hc1 hst hB3 hc3 HCL
      go_wp2
      go_ret
      exact HL.out
theorem dKeyGen (w0 w : World) (b gb g : Nat) (G : Nat → Prop) (s : Kt) (k : Nat) (N : List Int) (hst : Kst w b G s) (hc : w.cell? ⟨gb, 0, none⟩ = some (.slice (some ⟨g, 0, none⟩) k k)) (hB : Blk w g N) (hlen : N.length = k) (hN : ∀ x ∈ N, 0 ≤ x ∧ x ≤ 9999999999) (hk : 0 ≤ k) (hk5 : k ≤ 100000) (hgbG : ¬ G gb) (hgG : ¬ G g) (hlow : ∀ i, G i → w0.heap.size ≤ i) (hbel : Below w0.heap.size w0 w) (hT : Tabs w0) (hlast : s.last ≤ 1000000) :
    Calls Tryz.prog 44 #[.pointer (some ⟨b, 0, none⟩), .pointer (some ⟨gb, 0, none⟩)] w (Kdl b G s vGen N w) := by
  have HN : Hid (∀ x ∈ N, 0 ≤ x ∧ x ≤ 9999999999) := hN
  have hR : Rd w (some ⟨g, 0, none⟩) k k N := hB.whole k hlen.symm (by unfold maxLen; omega) (fun x hx => by have := hN x hx; omega)
  have hgbl : gb < w.heap.size := World.block_lt_of_cell? w ⟨gb, 0, none⟩ hc
  have hgl : g < w.heap.size := hB.lt
  have HGL : Hid (∀ i, G i → i < w.heap.size) := hst.lt
  clear hN
  have HAL : Hid (∀ w', Tch w w' G → w'.cell? ⟨gb, 0, none⟩ = some (.slice (some ⟨g, 0, none⟩) k k) ∧ gb < w'.heap.size ∧ g < w'.heap.size ∧ Tabs w' ∧ Rd w' (some ⟨g, 0, none⟩) k k N) := fun w' ht => by
    have hb := ht.below hbel hlow hbel.size
    have e1 : ∀ o, w'.cell? ⟨gb, o, none⟩ = w.cell? ⟨gb, o, none⟩ := fun o => cell_block (ht.block gb hgbl hgbG)
    have e2 : ∀ o, w'.cell? ⟨g, o, none⟩ = w.cell? ⟨g, o, none⟩ := fun o => cell_block (ht.block g hgl hgG)
    exact ⟨by rw [e1]; exact hc, Nat.lt_of_lt_of_le hgbl ht.size, Nat.lt_of_lt_of_le hgl ht.size, hT.below hb, hR.tch0 ht (fun x hx => by obtain rfl := Option.some.inj hx; exact hgG)⟩
  have HDK : Hid (Dky vGen N s (sad [(kgen s N).1] (kgen s N).2.1) (kgen s N).2.2) := by unfold Hid Dky; rw [if_pos rfl]; unfold Dkh; exact ⟨rfl, rfl⟩
  have HRB : Hid (0 ≤ (kgen s N).1 ∧ (kgen s N).1 ≤ 9223372036854775807 ∧ -9223372036854775808 ≤ (kgen s N).2.1 ∧ (kgen s N).2.1 ≤ 9223372036854775807) := kgen_rb _ hlast
  have H : Hid (Kst w b G s) := hst
  have HD : Hid (Tch w w.drew G) := Tch.of_below (Below.refl _ _).drew
  obtain ⟨y0, y1, y2, y3, y4⟩ := HAL.out w (Tch.refl _ _)
  clear hst hB hR
  go_enter Tryz.func44, Tryz.ntmps44
  go_wp2_with fail
  refine (cGenK b G s _ _ _ N _ (H.out.same (Below.refl _ _)) y4 hlast).mono ?_
  intro e w3 hK
  obtain ⟨rfl, hK1, hK2⟩ := Kke.behind (Below.refl _ _) hK HGL.out
  obtain ⟨t0, t1, t2, t3, t4⟩ := HAL.out w3 hK2
  go_wp2_with fail
  refine (dTellH _ _ _ HRB.out.1 HRB.out.2.1 HRB.out.2.2.1 HRB.out.2.2.2 t3).mono ?_
  rintro e w4 ⟨rfl, hb4⟩
  have hT4 := hK2.same (Tch.of_below hb4)
  have HB4 : Hid (Kst w4 b (Gnx G w w4) (kgen s N).2.2) := Stx.mono (Stx.same hK1 hb4) (fun i g => g.elim .inl (fun g => .inr ⟨g.1, Nat.lt_of_lt_of_le g.2 hb4.size⟩)) (Gnx.lt HGL.out hT4.size)
  clear hK1
  go_wp2
  go_ret
  exact ⟨_, _, rfl, HDK.out, HB4.out, hT4⟩
theorem dKeyRefr (w0 w : World) (b gb g : Nat) (G : Nat → Prop) (s : Kt) (k : Nat) (N : List Int) (hst : Kst w b G s) (hc : w.cell? ⟨gb, 0, none⟩ = some (.slice (some ⟨g, 0, none⟩) k k)) (hB : Blk w g N) (hlen : N.length = k) (hN : ∀ x ∈ N, 0 ≤ x ∧ x ≤ 9999999999) (hk : 1 ≤ k) (hk5 : k ≤ 100000) (hgbG : ¬ G gb) (hgG : ¬ G g) (hlow : ∀ i, G i → w0.heap.size ≤ i) (hbel : Below w0.heap.size w0 w) (hT : Tabs w0) (hlast : s.last ≤ 1000000) :
    Calls Tryz.prog 47 #[.pointer (some ⟨b, 0, none⟩), .pointer (some ⟨gb, 0, none⟩)] w (Kdl b G s vRefr N w) := by
  have HN : Hid (∀ x ∈ N, 0 ≤ x ∧ x ≤ 9999999999) := hN
  have hR : Rd w (some ⟨g, 0, none⟩) k k N := hB.whole k hlen.symm (by unfold maxLen; omega) (fun x hx => by have := hN x hx; omega)
  have hgbl : gb < w.heap.size := World.block_lt_of_cell? w ⟨gb, 0, none⟩ hc
  have hgl : g < w.heap.size := hB.lt
  have HGL : Hid (∀ i, G i → i < w.heap.size) := hst.lt
  clear hN
  obtain ⟨x0, HX0⟩ : ∃ x, Hid (N.getD 0 0 = x) := ⟨_, rfl⟩
  have cx0 : w.cell? ⟨g, 0, none⟩ = some (.int .u64 x0) := by rw [← HX0.out]; exact hB.cell (by omega)
  have hx0 : 0 ≤ x0 ∧ x0 ≤ 9999999999 := by
    rw [← HX0.out]
    exact HN.out _ (by rw [List.getD_eq_getElem?_getD, List.getElem?_eq_getElem (show 0 < N.length by omega)]; exact List.getElem_mem _)
  have hu0 : IntKind.i64.wrap x0 = x0 := by rw [IntKind.wrap_i64]; omega
  have hk0 : (0 : Int) < (k : Int) := by omega
  have hkn0 : 0 < k := by omega
  have HAL : Hid (∀ w', Tch w w' G → w'.cell? ⟨gb, 0, none⟩ = some (.slice (some ⟨g, 0, none⟩) k k) ∧ w'.cell? ⟨g, 0, none⟩ = some (.int .u64 x0) ∧ gb < w'.heap.size ∧ g < w'.heap.size ∧ Tabs w' ∧ Rd w' (some ⟨g, 0, none⟩) k k N) := fun w' ht => by
    have hb := ht.below hbel hlow hbel.size
    have e1 : ∀ o, w'.cell? ⟨gb, o, none⟩ = w.cell? ⟨gb, o, none⟩ := fun o => cell_block (ht.block gb hgbl hgbG)
    have e2 : ∀ o, w'.cell? ⟨g, o, none⟩ = w.cell? ⟨g, o, none⟩ := fun o => cell_block (ht.block g hgl hgG)
    exact ⟨by rw [e1]; exact hc, by rw [e2]; exact cx0, Nat.lt_of_lt_of_le hgbl ht.size, Nat.lt_of_lt_of_le hgl ht.size, hT.below hb, hR.tch0 ht (fun x hx => by obtain rfl := Option.some.inj hx; exact hgG)⟩
  obtain ⟨N1, HN1⟩ : ∃ N1, Hid (N.drop 1 = N1) := ⟨_, rfl⟩
  have HDK : Hid (Dky vRefr N s (fne (krfr s x0 N1).1) (krfr s x0 N1).2) := by unfold Hid Dky; rw [if_neg (by decide), if_pos rfl]; unfold Dkt; rw [HX0.out, HN1.out]; exact ⟨rfl, rfl⟩
  have HRB : Hid (-9223372036854775808 ≤ (krfr s x0 N1).1 ∧ (krfr s x0 N1).1 ≤ 9223372036854775807) := krfr_rb _ _ _
  obtain ⟨sa, HSA⟩ : ∃ sa, Hid (subA (some ⟨g, 0, none⟩) k 1 = sa) := ⟨_, rfl⟩
  have hsl : ∀ W, (Instr.sliceAt 53 (.slice (some ⟨g, 0, none⟩) k k) (some (.int .i64 1)) none none).run Tryz.prog W = .ok (.slice sa (k - 1) (k - 1)) W := fun W => by
    rw [← HSA.out]
    exact run_subl Tryz.underlying53 infoU1 _ k k 1 rfl (by omega) W
  have HSR : Hid (∀ w', Rd w' (some ⟨g, 0, none⟩) k k N → Rd w' sa (k - 1) (k - 1) N1) := fun w' hr => by
    have e := hr.sub (lo := 1) (k := k - 1) (by omega)
    rw [HSA.out, HN1.out, List.take_of_length_le (by rw [← HN1.out, List.length_drop, hlen]; exact Nat.le_refl _)] at e
    exact e
  have hlk : (1 : Int) ≤ (k : Int) := by omega
  have H : Hid (Kst w b G s) := hst
  have HD : Hid (Tch w w.drew G) := Tch.of_below (Below.refl _ _).drew
  obtain ⟨y0, y1, y2, y3, y4, y5⟩ := HAL.out w (Tch.refl _ _)
  obtain ⟨z0, z1, z2, z3, z4, z5⟩ := HAL.out w.drew HD.out
  clear hst hB hR
  go_enter Tryz.func47, Tryz.ntmps47
  go_wp2
  go_region_held3 (fun w' => w'.cell? ⟨gb, 0, none⟩ = some (.slice (some ⟨g, 0, none⟩) k k) ∧ w'.cell? ⟨g, 0, none⟩ = some (.int .u64 x0)) (go_keep) (first | (go_at_call 49; refine (cRefreshK b G s x0 _ _ _ N1 _ (H.out.same ((Below.refl _ _).drew)) ⟨by omega, by omega⟩ (HSR.out _ z5)).mono ?_; intro e w3 hK; obtain ⟨rfl, hK1, hK2⟩ := Kkt.behind ((Below.refl _ _).drew) hK HGL.out; obtain ⟨t0, t1, t2, t3, t4, t5⟩ := HAL.out w3 hK2) | (go_at_call 48; refine (dDone _ _ HRB.out.1 HRB.out.2 t4).mono ?_; rintro e w4 ⟨rfl, hb4⟩; have hT4 := hK2.same (Tch.of_below hb4); obtain ⟨o0, o1, o2, o3, o4, o5⟩ := HAL.out w4 hT4))
  all_goals
    have HB4 : Hid (Kst w4 b (Gnx G w w4) (krfr s x0 N1).2) := Stx.mono (Stx.same hK1 hb4) (fun i g => g.elim .inl (fun g => .inr ⟨g.1, Nat.lt_of_lt_of_le g.2 hb4.size⟩)) (Gnx.lt HGL.out hT4.size)
    clear hK1
    go_wp2
    go_ret
    exact ⟨_, _, rfl, HDK.out, HB4.out, hT4⟩
theorem dKeyTwk (w0 w : World) (b gb g : Nat) (G : Nat → Prop) (s : Kt) (k : Nat) (N : List Int) (hst : Kst w b G s) (hc : w.cell? ⟨gb, 0, none⟩ = some (.slice (some ⟨g, 0, none⟩) k k)) (hB : Blk w g N) (hlen : N.length = k) (hN : ∀ x ∈ N, 0 ≤ x ∧ x ≤ 9999999999) (hk : k = 2) (hk5 : k ≤ 100000) (hgbG : ¬ G gb) (hgG : ¬ G g) (hlow : ∀ i, G i → w0.heap.size ≤ i) (hbel : Below w0.heap.size w0 w) (hT : Tabs w0) (hlast : s.last ≤ 1000000) :
    Calls Tryz.prog 50 #[.pointer (some ⟨b, 0, none⟩), .pointer (some ⟨gb, 0, none⟩)] w (Kdl b G s vTwk N w) := by
  have HN : Hid (∀ x ∈ N, 0 ≤ x ∧ x ≤ 9999999999) := hN
  have hR : Rd w (some ⟨g, 0, none⟩) k k N := hB.whole k hlen.symm (by unfold maxLen; omega) (fun x hx => by have := hN x hx; omega)
  have hgbl : gb < w.heap.size := World.block_lt_of_cell? w ⟨gb, 0, none⟩ hc
  have hgl : g < w.heap.size := hB.lt
  have HGL : Hid (∀ i, G i → i < w.heap.size) := hst.lt
  clear hN
  obtain ⟨x0, HX0⟩ : ∃ x, Hid (N.getD 0 0 = x) := ⟨_, rfl⟩
  have cx0 : w.cell? ⟨g, 0, none⟩ = some (.int .u64 x0) := by rw [← HX0.out]; exact hB.cell (by omega)
  have hx0 : 0 ≤ x0 ∧ x0 ≤ 9999999999 := by
    rw [← HX0.out]
    exact HN.out _ (by rw [List.getD_eq_getElem?_getD, List.getElem?_eq_getElem (show 0 < N.length by omega)]; exact List.getElem_mem _)
  have hu0 : IntKind.i64.wrap x0 = x0 := by rw [IntKind.wrap_i64]; omega
  have hk0 : (0 : Int) < (k : Int) := by omega
  have hkn0 : 0 < k := by omega
  obtain ⟨x1, HX1⟩ : ∃ x, Hid (N.getD 1 0 = x) := ⟨_, rfl⟩
  have cx1 : w.cell? ⟨g, 1, none⟩ = some (.int .u64 x1) := by rw [← HX1.out]; exact hB.cell (by omega)
  have hx1 : 0 ≤ x1 ∧ x1 ≤ 9999999999 := by
    rw [← HX1.out]
    exact HN.out _ (by rw [List.getD_eq_getElem?_getD, List.getElem?_eq_getElem (show 1 < N.length by omega)]; exact List.getElem_mem _)
  have hu1 : IntKind.i64.wrap x1 = x1 := by rw [IntKind.wrap_i64]; omega
  have hk1 : (1 : Int) < (k : Int) := by omega
  have hkn1 : 1 < k := by omega
  have HAL : Hid (∀ w', Tch w w' G → w'.cell? ⟨gb, 0, none⟩ = some (.slice (some ⟨g, 0, none⟩) k k) ∧ w'.cell? ⟨g, 0, none⟩ = some (.int .u64 x0) ∧ w'.cell? ⟨g, 1, none⟩ = some (.int .u64 x1) ∧ gb < w'.heap.size ∧ g < w'.heap.size ∧ Tabs w' ∧ Rd w' (some ⟨g, 0, none⟩) k k N) := fun w' ht => by
    have hb := ht.below hbel hlow hbel.size
    have e1 : ∀ o, w'.cell? ⟨gb, o, none⟩ = w.cell? ⟨gb, o, none⟩ := fun o => cell_block (ht.block gb hgbl hgbG)
    have e2 : ∀ o, w'.cell? ⟨g, o, none⟩ = w.cell? ⟨g, o, none⟩ := fun o => cell_block (ht.block g hgl hgG)
    exact ⟨by rw [e1]; exact hc, by rw [e2]; exact cx0, by rw [e2]; exact cx1, Nat.lt_of_lt_of_le hgbl ht.size, Nat.lt_of_lt_of_le hgl ht.size, hT.below hb, hR.tch0 ht (fun x hx => by obtain rfl := Option.some.inj hx; exact hgG)⟩
  have HDK : Hid (Dky vTwk N s (sad [(kmix s x0 x0 1 0 x1).1] (kmix s x0 x0 1 0 x1).2.1) (kmix s x0 x0 1 0 x1).2.2) := by unfold Hid Dky; rw [if_neg (by decide), if_neg (by decide), if_pos rfl]; unfold Dkh; rw [HX0.out, HX1.out]; exact ⟨rfl, rfl⟩
  have HRB : Hid (0 ≤ (kmix s x0 x0 1 0 x1).1 ∧ (kmix s x0 x0 1 0 x1).1 ≤ 9223372036854775807 ∧ -9223372036854775808 ≤ (kmix s x0 x0 1 0 x1).2.1 ∧ (kmix s x0 x0 1 0 x1).2.1 ≤ 9223372036854775807) := kmix_rb _ _ _ _ _ hlast
  have H : Hid (Kst w b G s) := hst
  have HD : Hid (Tch w w.drew G) := Tch.of_below (Below.refl _ _).drew
  obtain ⟨y0, y1, y2, y3, y4, y5, y6⟩ := HAL.out w (Tch.refl _ _)
  obtain ⟨z0, z1, z2, z3, z4, z5, z6⟩ := HAL.out w.drew HD.out
  clear hst hB hR
  go_enter Tryz.func50, Tryz.ntmps50
  go_wp2
  go_region_held3 (fun w' => w'.cell? ⟨gb, 0, none⟩ = some (.slice (some ⟨g, 0, none⟩) k k) ∧ w'.cell? ⟨g, 0, none⟩ = some (.int .u64 x0) ∧ w'.cell? ⟨g, 1, none⟩ = some (.int .u64 x1)) (go_keep) (first | (go_at_call 51; refine (cTweakK b G s x0 x1 _ (H.out.same ((Below.refl _ _).drew)) ⟨by omega, by omega⟩ (by omega) (by omega) hlast).mono ?_; intro e w3 hK; obtain ⟨rfl, hK1, hK2⟩ := Kke.behind ((Below.refl _ _).drew) hK HGL.out; obtain ⟨t0, t1, t2, t3, t4, t5, t6⟩ := HAL.out w3 hK2) | (go_at_call 45; refine (dTellH _ _ _ HRB.out.1 HRB.out.2.1 HRB.out.2.2.1 HRB.out.2.2.2 t5).mono ?_; rintro e w4 ⟨rfl, hb4⟩; have hT4 := hK2.same (Tch.of_below hb4); obtain ⟨o0, o1, o2, o3, o4, o5, o6⟩ := HAL.out w4 hT4))
  all_goals
    have HB4 : Hid (Kst w4 b (Gnx G w w4) (kmix s x0 x0 1 0 x1).2.2) := Stx.mono (Stx.same hK1 hb4) (fun i g => g.elim .inl (fun g => .inr ⟨g.1, Nat.lt_of_lt_of_le g.2 hb4.size⟩)) (Gnx.lt HGL.out hT4.size)
    clear hK1
    go_wp2
    go_ret
    exact ⟨_, _, rfl, HDK.out, HB4.out, hT4⟩
theorem dKeyComb (w0 w : World) (b gb g : Nat) (G : Nat → Prop) (s : Kt) (k : Nat) (N : List Int) (hst : Kst w b G s) (hc : w.cell? ⟨gb, 0, none⟩ = some (.slice (some ⟨g, 0, none⟩) k k)) (hB : Blk w g N) (hlen : N.length = k) (hN : ∀ x ∈ N, 0 ≤ x ∧ x ≤ 9999999999) (hk : k = 4) (hk5 : k ≤ 100000) (hgbG : ¬ G gb) (hgG : ¬ G g) (hlow : ∀ i, G i → w0.heap.size ≤ i) (hbel : Below w0.heap.size w0 w) (hT : Tabs w0) (hlast : s.last ≤ 1000000) :
    Calls Tryz.prog 52 #[.pointer (some ⟨b, 0, none⟩), .pointer (some ⟨gb, 0, none⟩)] w (Kdl b G s vComb N w) := by
  have HN : Hid (∀ x ∈ N, 0 ≤ x ∧ x ≤ 9999999999) := hN
  have hR : Rd w (some ⟨g, 0, none⟩) k k N := hB.whole k hlen.symm (by unfold maxLen; omega) (fun x hx => by have := hN x hx; omega)
  have hgbl : gb < w.heap.size := World.block_lt_of_cell? w ⟨gb, 0, none⟩ hc
  have hgl : g < w.heap.size := hB.lt
  have HGL : Hid (∀ i, G i → i < w.heap.size) := hst.lt
  clear hN
  obtain ⟨x0, HX0⟩ : ∃ x, Hid (N.getD 0 0 = x) := ⟨_, rfl⟩
  have cx0 : w.cell? ⟨g, 0, none⟩ = some (.int .u64 x0) := by rw [← HX0.out]; exact hB.cell (by omega)
  have hx0 : 0 ≤ x0 ∧ x0 ≤ 9999999999 := by
    rw [← HX0.out]
    exact HN.out _ (by rw [List.getD_eq_getElem?_getD, List.getElem?_eq_getElem (show 0 < N.length by omega)]; exact List.getElem_mem _)
  have hu0 : IntKind.i64.wrap x0 = x0 := by rw [IntKind.wrap_i64]; omega
  have hk0 : (0 : Int) < (k : Int) := by omega
  have hkn0 : 0 < k := by omega
  obtain ⟨x1, HX1⟩ : ∃ x, Hid (N.getD 1 0 = x) := ⟨_, rfl⟩
  have cx1 : w.cell? ⟨g, 1, none⟩ = some (.int .u64 x1) := by rw [← HX1.out]; exact hB.cell (by omega)
  have hx1 : 0 ≤ x1 ∧ x1 ≤ 9999999999 := by
    rw [← HX1.out]
    exact HN.out _ (by rw [List.getD_eq_getElem?_getD, List.getElem?_eq_getElem (show 1 < N.length by omega)]; exact List.getElem_mem _)
  have hu1 : IntKind.i64.wrap x1 = x1 := by rw [IntKind.wrap_i64]; omega
  have hk1 : (1 : Int) < (k : Int) := by omega
  have hkn1 : 1 < k := by omega
  obtain ⟨x2, HX2⟩ : ∃ x, Hid (N.getD 2 0 = x) := ⟨_, rfl⟩
  have cx2 : w.cell? ⟨g, 2, none⟩ = some (.int .u64 x2) := by rw [← HX2.out]; exact hB.cell (by omega)
  have hx2 : 0 ≤ x2 ∧ x2 ≤ 9999999999 := by
    rw [← HX2.out]
    exact HN.out _ (by rw [List.getD_eq_getElem?_getD, List.getElem?_eq_getElem (show 2 < N.length by omega)]; exact List.getElem_mem _)
  have hu2 : IntKind.i64.wrap x2 = x2 := by rw [IntKind.wrap_i64]; omega
  have hk2 : (2 : Int) < (k : Int) := by omega
  have hkn2 : 2 < k := by omega
  obtain ⟨x3, HX3⟩ : ∃ x, Hid (N.getD 3 0 = x) := ⟨_, rfl⟩
  have cx3 : w.cell? ⟨g, 3, none⟩ = some (.int .u64 x3) := by rw [← HX3.out]; exact hB.cell (by omega)
  have hx3 : 0 ≤ x3 ∧ x3 ≤ 9999999999 := by
    rw [← HX3.out]
    exact HN.out _ (by rw [List.getD_eq_getElem?_getD, List.getElem?_eq_getElem (show 3 < N.length by omega)]; exact List.getElem_mem _)
  have hu3 : IntKind.i64.wrap x3 = x3 := by rw [IntKind.wrap_i64]; omega
  have hk3 : (3 : Int) < (k : Int) := by omega
  have hkn3 : 3 < k := by omega
  have HAL : Hid (∀ w', Tch w w' G → w'.cell? ⟨gb, 0, none⟩ = some (.slice (some ⟨g, 0, none⟩) k k) ∧ w'.cell? ⟨g, 0, none⟩ = some (.int .u64 x0) ∧ w'.cell? ⟨g, 1, none⟩ = some (.int .u64 x1) ∧ w'.cell? ⟨g, 2, none⟩ = some (.int .u64 x2) ∧ w'.cell? ⟨g, 3, none⟩ = some (.int .u64 x3) ∧ gb < w'.heap.size ∧ g < w'.heap.size ∧ Tabs w' ∧ Rd w' (some ⟨g, 0, none⟩) k k N) := fun w' ht => by
    have hb := ht.below hbel hlow hbel.size
    have e1 : ∀ o, w'.cell? ⟨gb, o, none⟩ = w.cell? ⟨gb, o, none⟩ := fun o => cell_block (ht.block gb hgbl hgbG)
    have e2 : ∀ o, w'.cell? ⟨g, o, none⟩ = w.cell? ⟨g, o, none⟩ := fun o => cell_block (ht.block g hgl hgG)
    exact ⟨by rw [e1]; exact hc, by rw [e2]; exact cx0, by rw [e2]; exact cx1, by rw [e2]; exact cx2, by rw [e2]; exact cx3, Nat.lt_of_lt_of_le hgbl ht.size, Nat.lt_of_lt_of_le hgl ht.size, hT.below hb, hR.tch0 ht (fun x hx => by obtain rfl := Option.some.inj hx; exact hgG)⟩
  have HDK : Hid (Dky vComb N s (sad [(kmix s x0 x1 x2 x3 0).1] (kmix s x0 x1 x2 x3 0).2.1) (kmix s x0 x1 x2 x3 0).2.2) := by unfold Hid Dky; rw [if_neg (by decide), if_neg (by decide), if_neg (by decide), if_pos rfl]; unfold Dkh; rw [HX0.out, HX1.out, HX2.out, HX3.out]; exact ⟨rfl, rfl⟩
  have HRB : Hid (0 ≤ (kmix s x0 x1 x2 x3 0).1 ∧ (kmix s x0 x1 x2 x3 0).1 ≤ 9223372036854775807 ∧ -9223372036854775808 ≤ (kmix s x0 x1 x2 x3 0).2.1 ∧ (kmix s x0 x1 x2 x3 0).2.1 ≤ 9223372036854775807) := kmix_rb _ _ _ _ _ hlast
  have H : Hid (Kst w b G s) := hst
  have HD : Hid (Tch w w.drew G) := Tch.of_below (Below.refl _ _).drew
  obtain ⟨y0, y1, y2, y3, y4, y5, y6, y7, y8⟩ := HAL.out w (Tch.refl _ _)
  obtain ⟨z0, z1, z2, z3, z4, z5, z6, z7, z8⟩ := HAL.out w.drew HD.out
  clear hst hB hR
  go_enter Tryz.func52, Tryz.ntmps52
  go_wp2
  go_region_held3 (fun w' => w'.cell? ⟨gb, 0, none⟩ = some (.slice (some ⟨g, 0, none⟩) k k) ∧ w'.cell? ⟨g, 0, none⟩ = some (.int .u64 x0) ∧ w'.cell? ⟨g, 1, none⟩ = some (.int .u64 x1) ∧ w'.cell? ⟨g, 2, none⟩ = some (.int .u64 x2) ∧ w'.cell? ⟨g, 3, none⟩ = some (.int .u64 x3)) (go_keep) (first | (go_at_call 53; refine (cCombineK b G s x0 x1 x2 x3 _ (H.out.same ((Below.refl _ _).drew)) ⟨by omega, by omega⟩ ⟨by omega, by omega⟩ (by omega) (by omega) (by omega) (by omega) hlast).mono ?_; intro e w3 hK; obtain ⟨rfl, hK1, hK2⟩ := Kke.behind ((Below.refl _ _).drew) hK HGL.out; obtain ⟨t0, t1, t2, t3, t4, t5, t6, t7, t8⟩ := HAL.out w3 hK2) | (go_at_call 45; refine (dTellH _ _ _ HRB.out.1 HRB.out.2.1 HRB.out.2.2.1 HRB.out.2.2.2 t7).mono ?_; rintro e w4 ⟨rfl, hb4⟩; have hT4 := hK2.same (Tch.of_below hb4); obtain ⟨o0, o1, o2, o3, o4, o5, o6, o7, o8⟩ := HAL.out w4 hT4))
  all_goals
    have HB4 : Hid (Kst w4 b (Gnx G w w4) (kmix s x0 x1 x2 x3 0).2.2) := Stx.mono (Stx.same hK1 hb4) (fun i g => g.elim .inl (fun g => .inr ⟨g.1, Nat.lt_of_lt_of_le g.2 hb4.size⟩)) (Gnx.lt HGL.out hT4.size)
    clear hK1
    go_wp2
    go_ret
    exact ⟨_, _, rfl, HDK.out, HB4.out, hT4⟩
end
end Go.Proofs.YtljlioglpaogdafGreatDoor
