/- A circuit that came in reads as gates and wires. -/
import Derived.Test.YtljlioglpaogdabDoorToShpM
import Derived.Test.YtljlioglpaogdabDoorToDigC
import Derived.Deep.SlicePairs
import Derived.ChangeSame
import Derived.WalkKit
import Derived.ProofKit
import Derived.OpenShut
import Derived.ShutString
import Derived.ChangeOld
import Derived.Below
namespace Go.Proofs.YtljlioglpaogdabDoor
set_option linter.unusedVariables false
set_option maxRecDepth 100000
set_option maxHeartbeats 8000000
section
open Crm Go.ChangeAt Go.ChangeShapes Go.RowKit Go.WideShapes
theorem cellsGt : Tryd.prog.cellsOf 43 = 4 := by kernel_rfl
theorem cellsGi : Tryd.prog.cellsOf 3 = 1 := by kernel_rfl
theorem cellsGu : Tryd.prog.cellsOf 40 = 1 := by kernel_rfl
theorem cellsGs : Tryd.prog.cellsOf 22 = 1 := by kernel_rfl
theorem cellsIs : Tryd.prog.cellsOf 23 = 1 := by kernel_rfl
/-- A slice of gates that came in. -/
theorem open_gates {H : Type} {enc : TypeId × Value → H} {W : World} {base : Nat} {held : Bool} {fuel : Nat} {cs : List Value} {x : DataW H × List MemPlace}
    (h : DataW.trod enc Tryd.prog W base (fun _ => true) held fuel 22 cs = some x) : ∃ a len cap G, cs = [.slice a len cap] ∧ RdG W a len cap G := by
  rcases Go.Deep.open_slice Tryd.underlying22 h with ⟨rfl, _⟩ | ⟨a, len, cap, m, n, D, Pl, rfl, _, hl, hm, hmm, _, hx⟩
  · exact ⟨none, 0, 0, [], rfl, rfl, Nat.le_refl _, Nat.zero_le _, fun _ => rfl, fun i hi => by omega, fun x hx => by simp at hx⟩
  · have hmc : m = cap := hmm
    have each : ∀ i, i < len → ∃ g : Gt, (W.cell? (a.add (i * 4)) = some (.int .i64 g.k) ∧ W.cell? (a.add (i * 4 + 1)) = some (.int .i64 g.a) ∧ W.cell? (a.add (i * 4 + 2)) = some (.int .i64 g.b) ∧ W.cell? (a.add (i * 4 + 3)) = some (.int .u64 g.n)) ∧
        (-9223372036854775808 ≤ g.k ∧ g.k ≤ 9223372036854775807) ∧ (-9223372036854775808 ≤ g.a ∧ g.a ≤ 9223372036854775807) ∧ (-9223372036854775808 ≤ g.b ∧ g.b ≤ 9223372036854775807) ∧ 0 ≤ g.n ∧ g.n ≤ 18446744073709551615 := by
      intro i hi
      obtain ⟨cs', h1, h2⟩ := hx i (by omega)
      rw [cellsGt] at h1
      obtain ⟨_, hlen, hcell⟩ := World.cells?_some h1
      obtain ⟨xs, k, hk, hxy, _, hxl, hf⟩ := DataW.trod_struct Tryd.underlying43 h2
      match xs, hxl, cs', hlen with
      | [y0, y1, y2, y3], _, [v0, v1, v2, v3], _ =>
        have g0 : DataW.trod enc Tryd.prog W base (fun _ => true) held k 3 [v0] = some y0 := by simpa [cellsGi] using hf 0 _ rfl
        have g1 : DataW.trod enc Tryd.prog W base (fun _ => true) held k 3 [v1] = some y1 := by simpa [cellsGi] using hf 1 _ rfl
        have g2 : DataW.trod enc Tryd.prog W base (fun _ => true) held k 3 [v2] = some y2 := by simpa [cellsGi] using hf 2 _ rfl
        have g3 : DataW.trod enc Tryd.prog W base (fun _ => true) held k 40 [v3] = some y3 := by simpa [cellsGu] using hf 3 _ rfl
        obtain ⟨p0, e0, _, b0⟩ := DataW.trod_int Tryd.underlying3 g0
        obtain ⟨p1, e1, _, b1⟩ := DataW.trod_int Tryd.underlying3 g1
        obtain ⟨p2, e2, _, b2⟩ := DataW.trod_int Tryd.underlying3 g2
        obtain ⟨p3, e3, _, b3⟩ := DataW.trod_int Tryd.underlying40 g3
        simp at e0 e1 e2 e3
        subst e0 e1 e2 e3
        have q0 := hcell 0 (by omega)
        have q1 := hcell 1 (by omega)
        have q2 := hcell 2 (by omega)
        have q3 := hcell 3 (by omega)
        rw [Go.Deep.add_add] at q0 q1 q2 q3
        exact ⟨⟨p0, p1, p2, p3⟩, ⟨by simpa using q0, by simpa using q1, by simpa using q2, by simpa using q3⟩, bounds_i64 b0, bounds_i64 b1, bounds_i64 b2, bounds_u64 b3⟩
    haveI : Inhabited Gt := ⟨⟨0, 0, 0, 0⟩⟩
    obtain ⟨f, hf⟩ := Go.Deep.choose_lt each
    have hg : ∀ i, i < len → gt ((List.range len).map f) i = f i := fun i hi => by simp [gt, hi]
    refine ⟨some a, len, cap, (List.range len).map f, rfl, by simp, hl, hm, by simp, fun i hi => ?_, fun y hy i hi => ?_⟩
    · rw [hg i hi]
      exact (hf i hi).2
    · obtain rfl := Option.some.inj hy
      rw [hg i hi]
      exact (hf i hi).1
/-- A slice of ints that came in. -/
theorem open_outs {H : Type} {enc : TypeId × Value → H} {W : World} {base : Nat} {held : Bool} {fuel : Nat} {cs : List Value} {x : DataW H × List MemPlace}
    (h : DataW.trod enc Tryd.prog W base (fun _ => true) held fuel 23 cs = some x) : ∃ a len cap l, cs = [.slice a len cap] ∧ RdI W a len cap l := by
  rcases open_ints Tryd.underlying23 Tryd.underlying3 (by kernel_rfl) h with ⟨hcs, _⟩ | ⟨x, l, c, zs, hcs, _, hl, hm, hz, _, hcell, hwz⟩
  · exact ⟨none, 0, 0, [], hcs, ⟨rfl, Nat.le_refl _, Nat.zero_le _, by simp, fun _ => rfl, by simp⟩⟩
  · have hzl : zs.length = c := by simpa using hz
    refine ⟨some x, l, c, zs.take l, hcs, by simp; omega, hl, hm, fun y hy => ?_, by simp, fun y hy i hi => ?_⟩
    · exact bounds_i64 (hwz y (List.mem_of_mem_take hy))
    · obtain rfl := Option.some.inj hy
      rw [hcell i (by omega)]
      congr 2
      simp [hi]
/-- A circuit that came in. -/
theorem open_circ {H : Type} {enc : TypeId × Value → H} {W : World} {base : Nat} {held : Bool} {fuel : Nat} {cs : List Value} {x : DataW H × List MemPlace}
    (h : DataW.trod enc Tryd.prog W base (fun _ => true) held fuel 25 cs = some x) : ∃ a n c G b m d O, cs = [.slice a n c, .slice b m d] ∧ RdG W a n c G ∧ RdI W b m d O := by
  obtain ⟨y0, y1, k, _, hl, h0, h1⟩ := trod_struct2 Tryd.underlying25 h
  have hl2 : cs.length = 2 := hl.trans (by kernel_rfl)
  match cs, hl2 with
  | [v0, v1], _ =>
    simp only [cellsGs, cellsIs] at h0 h1
    obtain ⟨a, n, c, G, e0, hG⟩ := open_gates h0
    obtain ⟨b, m, d, O, e1, hO⟩ := open_outs h1
    simp at e0 e1
    subst e0 e1
    exact ⟨a, n, c, G, b, m, d, O, rfl, hG, hO⟩
end
end Go.Proofs.YtljlioglpaogdabDoor
