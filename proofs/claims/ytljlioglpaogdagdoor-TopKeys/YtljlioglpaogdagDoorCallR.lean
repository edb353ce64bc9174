/- Slices of calls (croftlaw.Call) that are read; one that came in. -/
import Derived.Test.YtljlioglpaogdagDoorToBadM
import Derived.Test.YtljlioglpaogdagDoorToLsW
import Derived.Deep.SlicePairs
import Derived.ChangeSame
import Derived.WalkKit
import Derived.ProofKit
import Derived.OpenShut
import Derived.ShutString
import Derived.ChangeOld
import Derived.Below
namespace Go.Proofs.YtljlioglpaogdagDoor
set_option linter.unusedVariables false
set_option maxRecDepth 100000
set_option maxHeartbeats 8000000
section
open Crm Go.ChangeAt Go.ChangeShapes Go.RowKit Go.WideShapes
/-- A call: its kind, two handles, two numbers, draws. -/
structure Cl where
  k : Int
  g : Int
  h : Int
  a : Int
  b : Int
  ds : List Int
/-- What is known of one call, its cells at x. -/
def ClAt (w : World) (x : Addr) (c : Cl) : Prop :=
  (w.cell? x = some (.int .i64 c.k) ∧ w.cell? (x.add 1) = some (.int .i64 c.g) ∧ w.cell? (x.add 2) = some (.int .i64 c.h) ∧ w.cell? (x.add 3) = some (.int .u64 c.a) ∧ w.cell? (x.add 4) = some (.int .u64 c.b) ∧ ∃ ad q cd, w.cell? (x.add 5) = some (.slice ad q cd) ∧ Rd w ad q cd c.ds) ∧
  (-9223372036854775808 ≤ c.k ∧ c.k ≤ 9223372036854775807) ∧ (-9223372036854775808 ≤ c.g ∧ c.g ≤ 9223372036854775807) ∧ (-9223372036854775808 ≤ c.h ∧ c.h ≤ 9223372036854775807) ∧ (0 ≤ c.a ∧ c.a ≤ 18446744073709551615) ∧ (0 ≤ c.b ∧ c.b ≤ 18446744073709551615)
/-- The slice reads as the calls L. -/
structure RdC (w : World) (a : Option Addr) (n c : Nat) (L : List Cl) : Prop where
  len : L.length = n
  cap : n ≤ c
  max : c ≤ maxLen
  nil : a = none → c = 0
  cell : ∀ x, a = some x → ∀ i, (hi : i < L.length) → ClAt w (x.add (i * 6)) L[i]
theorem RdC.one {w : World} {a : Option Addr} {n c : Nat} {L : List Cl} (h : RdC w a n c L) {i : Nat} (hi : i < n) :
    ∃ b o k g x u v ad q cd ds, a = some ⟨b, o, none⟩ ∧ b < w.heap.size ∧ Hid (L[i]? = some ⟨k, g, x, u, v, ds⟩) ∧ (-9223372036854775808 ≤ k ∧ k ≤ 9223372036854775807) ∧ (-9223372036854775808 ≤ g ∧ g ≤ 9223372036854775807) ∧ (-9223372036854775808 ≤ x ∧ x ≤ 9223372036854775807) ∧ (0 ≤ u ∧ u ≤ 18446744073709551615) ∧ (0 ≤ v ∧ v ≤ 18446744073709551615) ∧ Rd w ad q cd ds ∧
      w.cell? ⟨b, o + i * 6, none⟩ = some (.int .i64 k) ∧ w.cell? ⟨b, o + i * 6 + 1, none⟩ = some (.int .i64 g) ∧ w.cell? ⟨b, o + i * 6 + 2, none⟩ = some (.int .i64 x) ∧ w.cell? ⟨b, o + i * 6 + 3, none⟩ = some (.int .u64 u) ∧ w.cell? ⟨b, o + i * 6 + 4, none⟩ = some (.int .u64 v) ∧ w.cell? ⟨b, o + i * 6 + 5, none⟩ = some (.slice ad q cd) := by
  have hl := h.len
  cases ha : a with
  | none => have := h.nil ha; have := h.cap; omega
  | some y =>
    have hc := h.cell y ha i (by omega)
    obtain ⟨⟨c0, c1, c2, c3, c4, ad, q, cd, c5, hr⟩, b0, b1, b2, b3, b4⟩ := hc
    have z0 := (h.cell y ha 0 (by omega)).1.1
    rw [Nat.zero_mul] at z0
    have hs : y.spot = none := by
      have := spot_none z0
      unfold Addr.add at this
      split at this <;> simp_all
    obtain ⟨b, o, s⟩ := y
    simp only at hs
    subst hs
    rw [Addr.add_lit] at c0 c1 c2 c3 c4 c5
    rw [Addr.add_lit] at c1 c2 c3 c4 c5
    have hb := World.block_lt_of_cell? w _ c0
    refine ⟨b, o, _, _, _, _, _, ad, q, cd, _, rfl, hb, ?_, b0, b1, b2, b3, b4, hr, c0, c1, c2, c3, c4, c5⟩
    unfold Hid
    rw [List.getElem?_eq_getElem (by omega)]
theorem RdC.below {w w' : World} {a : Option Addr} {n c : Nat} {L : List Cl} (h : RdC w a n c L) (hb : Below w.heap.size w w') : RdC w' a n c L := by
  refine ⟨h.len, h.cap, h.max, h.nil, fun x hx i hi => ?_⟩
  obtain ⟨⟨c0, c1, c2, c3, c4, ad, q, cd, c5, hr⟩, b⟩ := h.cell x hx i hi
  have e : ∀ {p : Addr} {v : Value}, w.cell? p = some v → w'.cell? p = some v := fun {p v} hc => by rw [hb.cell (World.block_lt_of_cell? w _ hc)]; exact hc
  exact ⟨⟨e c0, e c1, e c2, e c3, e c4, ad, q, cd, e c5, hr.below hb⟩, b⟩

theorem cellsCl : Tryd.prog.cellsOf 88 = 6 := by kernel_rfl
theorem cellsCi : Tryd.prog.cellsOf 3 = 1 := by kernel_rfl
theorem cellsCu : Tryd.prog.cellsOf 34 = 1 := by kernel_rfl
theorem cellsCs : Tryd.prog.cellsOf 22 = 1 := by kernel_rfl
/-- A slice of calls that came in. -/
theorem open_calls {H : Type} {enc : TypeId × Value → H} {W : World} {base : Nat} {held : Bool} {fuel : Nat} {cs : List Value} {x : DataW H × List MemPlace}
    (h : DataW.trod enc Tryd.prog W base (fun _ => true) held fuel 85 cs = some x) : ∃ a len cap L, cs = [.slice a len cap] ∧ RdC W a len cap L := by
  rcases Go.Deep.open_slice Tryd.underlying85 h with ⟨rfl, _⟩ | ⟨a, len, cap, m, n, D, Pl, rfl, _, hl, hm, hmm, _, hx⟩
  · exact ⟨none, 0, 0, [], rfl, rfl, Nat.le_refl _, Nat.zero_le _, fun _ => rfl, fun x hx => by simp at hx⟩
  · have hmc : m = cap := hmm
    have each : ∀ i, i < len → ∃ g : Cl, ClAt W (a.add (i * 6)) g := by
      intro i hi
      obtain ⟨cs', h1, h2⟩ := hx i (by omega)
      rw [cellsCl] at h1
      obtain ⟨_, hlen, hcell⟩ := World.cells?_some h1
      obtain ⟨xs, k, hk, hxy, _, hxl, hf⟩ := DataW.trod_struct Tryd.underlying88 h2
      match xs, hxl, cs', hlen with
      | [y0, y1, y2, y3, y4, y5], _, [v0, v1, v2, v3, v4, v5], _ =>
        have g0 : DataW.trod enc Tryd.prog W base (fun _ => true) held k 3 [v0] = some y0 := by simpa [cellsCi] using hf 0 _ rfl
        have g1 : DataW.trod enc Tryd.prog W base (fun _ => true) held k 3 [v1] = some y1 := by simpa [cellsCi] using hf 1 _ rfl
        have g2 : DataW.trod enc Tryd.prog W base (fun _ => true) held k 3 [v2] = some y2 := by simpa [cellsCi] using hf 2 _ rfl
        have g3 : DataW.trod enc Tryd.prog W base (fun _ => true) held k 34 [v3] = some y3 := by simpa [cellsCi, cellsCu] using hf 3 _ rfl
        have g4 : DataW.trod enc Tryd.prog W base (fun _ => true) held k 34 [v4] = some y4 := by simpa [cellsCi, cellsCu] using hf 4 _ rfl
        have g5 : DataW.trod enc Tryd.prog W base (fun _ => true) held k 22 [v5] = some y5 := by simpa [cellsCi, cellsCu, cellsCs] using hf 5 _ rfl
        obtain ⟨p0, e0, _, b0⟩ := DataW.trod_int Tryd.underlying3 g0
        obtain ⟨p1, e1, _, b1⟩ := DataW.trod_int Tryd.underlying3 g1
        obtain ⟨p2, e2, _, b2⟩ := DataW.trod_int Tryd.underlying3 g2
        obtain ⟨p3, e3, _, b3⟩ := DataW.trod_int Tryd.underlying34 g3
        obtain ⟨p4, e4, _, b4⟩ := DataW.trod_int Tryd.underlying34 g4
        obtain ⟨ad, q, cd, ds, e5, hr⟩ : ∃ ad q cd ds, v5 = .slice ad q cd ∧ Rd W ad q cd ds := by
          rcases open_ints Tryd.underlying22 Tryd.underlying34 (by kernel_rfl) g5 with ⟨hcs, _⟩ | ⟨x', l', c', zs, hcs, _, hl', hm', hz, _, hcel, hwz⟩
          · exact ⟨none, 0, 0, [], by simpa using hcs, ⟨rfl, Nat.le_refl _, Nat.zero_le _, by simp, fun _ => rfl, by simp⟩⟩
          · have hzl : zs.length = c' := by simpa using hz
            refine ⟨some x', l', c', zs.take l', by simpa using hcs, by simp; omega, hl', hm', fun y hy => bounds_u64 (hwz y (List.mem_of_mem_take hy)), by simp, fun y hy j hj => ?_⟩
            obtain rfl := Option.some.inj hy
            rw [hcel j (by omega)]
            congr 2
            simp [hj]
        simp at e0 e1 e2 e3 e4
        subst e0 e1 e2 e3 e4 e5
        have q0 := hcell 0 (by omega)
        have q1 := hcell 1 (by omega)
        have q2 := hcell 2 (by omega)
        have q3 := hcell 3 (by omega)
        have q4 := hcell 4 (by omega)
        have q5 := hcell 5 (by omega)
        refine ⟨⟨p0, p1, p2, p3, p4, ds⟩, ⟨?_, ?_, ?_, ?_, ?_, ad, q, cd, ?_, hr⟩, bounds_i64 b0, bounds_i64 b1, bounds_i64 b2, bounds_u64 b3, bounds_u64 b4⟩
        · rw [Go.Deep.add_add] at q0; simpa using q0
        · simpa using q1
        · simpa using q2
        · simpa using q3
        · simpa using q4
        · simpa using q5
    haveI : Inhabited Cl := ⟨⟨0, 0, 0, 0, 0, []⟩⟩
    obtain ⟨f, hf⟩ := Go.Deep.choose_lt each
    refine ⟨some a, len, cap, (List.range len).map f, rfl, by simp, hl, hm, by simp, fun y hy i hi => ?_⟩
    obtain rfl := Option.some.inj hy
    have hi' : i < len := by simpa using hi
    simp only [List.getElem_map, List.getElem_range]
    exact hf i hi'
end
end Go.Proofs.YtljlioglpaogdagDoor
