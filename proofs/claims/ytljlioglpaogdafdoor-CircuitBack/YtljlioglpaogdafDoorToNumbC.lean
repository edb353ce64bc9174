/- Slices of shares that are read. · poly.placed. · Lists that the call gathers: of columns, of rows; one more. · Slices of ints that are read; shares that a call gathers. · A circuit that came in reads as gates and wires. · circuit.shapes: a variable that start-up lays. · croftref.digits. · What each call of package field answers: the rest of the sum, the difference, the product, the power, the inverse; no world is changed. · poly.value, slices.Equal. · croftref.Circuit. · croftref.Norm, Add, Mul: the same rests, by other roads. · croftref.Outs: gates that are copied and written; wires as a map: plain facts and lists of gates. · croftref.Pieces. · Slices of texts that are read; croftref.Numbers. -/
import Derived.Test.YtljlioglpaogdafDoorSlice
import Derived.Test.YtljlioglpaogdafDoorPolyM3
import Derived.Test.YtljlioglpaogdafDoorProg
import Derived.Maps.AppendAt
import Derived.Test.YtljlioglpaogdafDoorPolyM2
import Derived.Test.YtljlioglpaogdafDoorToGatesR
import Derived.Deep.SlicePairs
import Derived.ChangeSame
import Derived.WalkKit
import Derived.ProofKit
import Derived.OpenShut
import Derived.ShutString
import Derived.ChangeOld
import Derived.Below
import Derived.Laws.Strings
import Derived.Test.YtljlioglpaogdafDoorMath
import Derived.WalkSpells
import Derived.WalkLawsBesides
import Derived.Test.YtljlioglpaogdafDoorPolyM
import Derived.Deep.QuietTactic
import Derived.BigQuiet
import Derived.Deep.RegionWith
import Derived.Deep.DeepCutAuto
import Derived.Maps.OwnOps
import Derived.Maps.OwnSet
import Derived.Deep.RegionHeld3
import Derived.Deep.RegionLaw
import Derived.Laws.DeepStrings4
namespace Go.Proofs.YtljlioglpaogdafDoor
set_option linter.unusedVariables false
set_option maxRecDepth 100000
set_option maxHeartbeats 8000000
section
open Crm Go.RowKit
/-- The slice reads as the shares l: of each its At and its Y. -/
structure RdS (w : World) (a : Option Addr) (n c : Nat) (l : List (Int × Int)) : Prop where
  len : l.length = n
  cap : n ≤ c
  max : c ≤ maxLen
  bd : ∀ i, i < n → (-9223372036854775808 ≤ (l.getD i (0, 0)).1 ∧ (l.getD i (0, 0)).1 ≤ 9223372036854775807) ∧ 0 ≤ (l.getD i (0, 0)).2 ∧ (l.getD i (0, 0)).2 ≤ 18446744073709551615
  nil : a = none → c = 0
  cell : ∀ x, a = some x → ∀ i, i < n → w.cell? (x.add (i * 2)) = some (.int .i64 (l.getD i (0, 0)).1) ∧ w.cell? (x.add (i * 2 + 1)) = some (.int .u64 (l.getD i (0, 0)).2)

theorem RdS.at {w : World} {a : Option Addr} {n c : Nat} {l : List (Int × Int)} (h : RdS w a n c l) {k : Nat} (hk : k < n) :
    ∃ b o, a = some ⟨b, o, none⟩ ∧ b < w.heap.size ∧ ∀ i, i < n → w.cell? ⟨b, o + i * 2, none⟩ = some (.int .i64 (l.getD i (0, 0)).1) ∧ w.cell? ⟨b, o + i * 2 + 1, none⟩ = some (.int .u64 (l.getD i (0, 0)).2) := by
  cases ha : a with
  | none => have := h.nil ha; have := h.cap; omega
  | some x =>
    have h0 := (h.cell x ha 0 (by omega)).1
    have hs : x.spot = none := by
      have := spot_none h0
      unfold Addr.add at this
      split at this <;> simp_all
    obtain ⟨b, o, s⟩ := x
    simp only at hs
    subst hs
    refine ⟨b, o, rfl, ?_, fun i hi => by have := h.cell _ ha i hi; rwa [Addr.add_lit, Addr.add_lit, ← Nat.add_assoc] at this⟩
    have := World.block_lt_of_cell? w _ h0
    rwa [Addr.add_lit] at this

/-- One share of it, by names of its own. -/
theorem RdS.one {w : World} {a : Option Addr} {n c : Nat} {l : List (Int × Int)} (h : RdS w a n c l) {k : Nat} (hk : k < n) :
    ∃ b o x y, a = some ⟨b, o, none⟩ ∧ b < w.heap.size ∧ Hid ((l.getD k (0, 0)).1 = x) ∧ Hid ((l.getD k (0, 0)).2 = y) ∧ -9223372036854775808 ≤ x ∧ x ≤ 9223372036854775807 ∧ 0 ≤ y ∧ y ≤ 18446744073709551615 ∧ w.cell? ⟨b, o + k * 2, none⟩ = some (.int .i64 x) ∧ w.cell? ⟨b, o + k * 2 + 1, none⟩ = some (.int .u64 y) := by
  obtain ⟨b, o, ha, hb, hc⟩ := h.at hk
  have := h.bd k hk
  exact ⟨b, o, _, _, ha, hb, rfl, rfl, this.1.1, this.1.2, this.2.1, this.2.2, (hc k hk).1, (hc k hk).2⟩

theorem RdS.below {w w' : World} {a : Option Addr} {n c : Nat} {l : List (Int × Int)} (h : RdS w a n c l) (hb : Below w.heap.size w w') : RdS w' a n c l := by
  refine ⟨h.len, h.cap, h.max, h.bd, h.nil, fun x hx i hi => ?_⟩
  have := h.cell x hx i hi
  rw [hb.cell (World.block_lt_of_cell? w _ this.1), hb.cell (World.block_lt_of_cell? w _ this.2)]
  exact this

/-- The first k shares stand at places, no two at one. -/
def okk (l : List (Int × Int)) (k : Nat) : Prop := ∀ i, i < k → (1 ≤ (l.getD i (0, 0)).1 ∧ (l.getD i (0, 0)).1 ≤ 2147483646) ∧ ∀ j, j < i → (l.getD j (0, 0)).1 ≠ (l.getD i (0, 0)).1
/-- A call that tells whether p holds, and turns nothing that was there. -/
def Tells (p : Prop) (w : World) (e : Ending) (w' : World) : Prop := ∃ r : Bool, e = .returned (.bool r) ∧ (r = true ↔ p) ∧ Below w.heap.size w w'
theorem Tells.no {p : Prop} {w w' : World} (h : ¬ p) (hb : Below w.heap.size w w') : Tells p w (.returned (.bool false)) w' := ⟨false, rfl, by simp [h], hb⟩
end
section
open Go.RowKit
/-- One element of it. -/
theorem own_at {w : World} {base n c : Nat} {E : TypeId} {a : Option Addr} {xs : List Value} (h : w.ownsRow base E 1 (.slice a n c) n xs) {k : Nat} (hk : k < n) :
    ∃ g u, a = some ⟨g, 0, none⟩ ∧ base ≤ g ∧ g < w.heap.size ∧ xs[k]? = some u ∧ w.cell? ⟨g, k, none⟩ = some u := by
  have hl : xs.length = n := by simpa using h.1
  rcases h.2 with ⟨e, rfl⟩ | ⟨g, cap, cur, e, hb, hg, h1, h2, hs, ht⟩
  · omega
  · simp only [Value.slice.injEq] at e
    obtain ⟨rfl, _, rfl⟩ := e
    have := h.cells (g := g) rfl k (xs[k]'(by omega)) (by simp [List.getElem?_eq_getElem (show k < xs.length by omega)])
    rw [Addr.add_lit] at this
    exact ⟨g, _, rfl, hb, (Array.getElem?_eq_some_iff.1 hg).1, List.getElem?_eq_getElem (by omega), by simpa using this⟩

/-- Columns as cells. -/
def ins (L : List Nat) : List Value := L.map fun (n : Nat) => Value.int .i64 (n : Int)
/-- Ints as cells. -/
def zns (L : List Int) : List Value := L.map (Value.int .i64)
theorem zns_snoc (L : List Int) (x : Int) : zns L ++ [.int .i64 x] = zns (L ++ [x]) := by simp [zns]
theorem zns_len (L : List Int) : (zns L).length = L.length := by simp [zns]
theorem zns_at {w : World} {base n c g : Nat} {E : TypeId} {L : List Int} (h : w.ownsRow base E 1 (.slice (some ⟨g, 0, none⟩) n c) n (zns L)) {k : Nat} (hk : k < n) :
    w.cell? ⟨g, k, none⟩ = some (.int .i64 (L.getD k 0)) := by
  have hl : L.length = n := by have := h.1; rw [zns_len] at this; omega
  obtain ⟨g', u, h1, h2, h3, h4, h5⟩ := own_at h hk
  simp only [Option.some.injEq, Addr.mk.injEq, and_true] at h1
  subst h1
  rw [h5, ← h4]
  simp [zns, List.getElem?_eq_getElem (show k < L.length by omega)]
end
section
open Crm Go.RowKit
/-- A slice of ints that is read. -/
structure RdI (w : World) (a : Option Addr) (n c : Nat) (xs : List Int) : Prop where
  len : xs.length = n
  cap : n ≤ c
  max : c ≤ maxLen
  bd : ∀ x ∈ xs, -9223372036854775808 ≤ x ∧ x ≤ 9223372036854775807
  nil : a = none → c = 0
  cell : ∀ x, a = some x → ∀ i, i < n → w.cell? (x.add i) = some (.int .i64 (xs.getD i 0))
theorem RdI.one {w : World} {a : Option Addr} {n c : Nat} {xs : List Int} (h : RdI w a n c xs) {k : Nat} (hk : k < n) :
    ∃ b o x, a = some ⟨b, o, none⟩ ∧ b < w.heap.size ∧ Hid (xs.getD k 0 = x) ∧ -9223372036854775808 ≤ x ∧ x ≤ 9223372036854775807 ∧ w.cell? ⟨b, o + k, none⟩ = some (.int .i64 x) := by
  cases ha : a with
  | none => have := h.nil ha; have := h.cap; omega
  | some x =>
    have h0 := h.cell x ha k hk
    have hs : x.spot = none := by
      have := spot_none (h.cell x ha 0 (by omega))
      unfold Addr.add at this
      split at this <;> simp_all
    obtain ⟨b, o, s⟩ := x
    simp only at hs
    subst hs
    rw [Addr.add_lit] at h0
    have hb := h.bd (xs.getD k 0) (getD_mem (by rw [h.len]; exact hk))
    exact ⟨b, o, _, rfl, World.block_lt_of_cell? w _ h0, rfl, hb.1, hb.2, h0⟩
theorem RdI.below {w w' : World} {a : Option Addr} {n c : Nat} {xs : List Int} (h : RdI w a n c xs) (hb : Below w.heap.size w w') : RdI w' a n c xs := by
  refine ⟨h.len, h.cap, h.max, h.bd, h.nil, fun x hx i hi => ?_⟩
  have := h.cell x hx i hi
  rw [hb.cell (World.block_lt_of_cell? w _ this)]
  exact this
theorem RdI.drewN {w : World} {a : Option Addr} {n c : Nat} {xs : List Int} (h : RdI w a n c xs) (q : Nat) : RdI (w.drewN q) a n c xs := ⟨h.len, h.cap, h.max, h.bd, h.nil, h.cell⟩
theorem RdI.take {w : World} {a : Option Addr} {n c : Nat} {xs : List Int} (h : RdI w a n c xs) {k : Nat} (hk : k ≤ n) : RdI w a k c (xs.take k) := by
  refine ⟨by have := h.len; simp; omega, by have := h.cap; omega, h.max, fun x hx => h.bd x (List.mem_of_mem_take hx), h.nil, fun x hx i hi => ?_⟩
  rw [h.cell x hx i (by omega)]
  congr 2
  simp [hi]

/-- The cells of shares. -/
def shc (l : List (Int × Int)) : List Value := l.flatMap fun p => [.int .i64 p.1, .int .u64 p.2]
theorem shc_get : ∀ (l : List (Int × Int)) (i : Nat), i < l.length → (shc l)[i * 2]? = some (.int .i64 (l.getD i (0, 0)).1) ∧ (shc l)[i * 2 + 1]? = some (.int .u64 (l.getD i (0, 0)).2)
  | [], i, h => by simp at h
  | p :: l, 0, _ => ⟨rfl, rfl⟩
  | p :: l, i + 1, h => by
    have := shc_get l i (by simpa using h)
    have e1 : (i + 1) * 2 = i * 2 + 1 + 1 := by omega
    rw [e1]
    exact this

theorem RdS.own {w : World} {base n : Nat} {E : TypeId} {v : Value} {l : List (Int × Int)} (h : w.ownsRow base E 2 v n (shc l)) (hl : l.length = n)
    (hb : ∀ i, i < n → (-9223372036854775808 ≤ (l.getD i (0, 0)).1 ∧ (l.getD i (0, 0)).1 ≤ 9223372036854775807) ∧ 0 ≤ (l.getD i (0, 0)).2 ∧ (l.getD i (0, 0)).2 ≤ 18446744073709551615) : ∃ a c, v = .slice a n c ∧ RdS w a n c l := by
  rcases h.2 with ⟨rfl, rfl⟩ | ⟨g, cap, cur, rfl, hb', hg, h1, h2, hs, ht⟩
  · exact ⟨none, 0, rfl, ⟨hl, Nat.le_refl _, Nat.zero_le _, hb, fun _ => rfl, by simp⟩⟩
  · refine ⟨_, _, rfl, ⟨hl, h1, h2, hb, by simp, fun x hx i hi => ?_⟩⟩
    obtain rfl := Option.some.inj hx
    have := shc_get l i (by omega)
    exact ⟨h.cells (g := g) rfl _ _ this.1, h.cells (g := g) rfl _ _ this.2⟩

theorem own_below2 {w w' : World} {base n : Nat} {E : TypeId} {v : Value} {xs : List Value} (h : w.ownsRow base E 2 v n xs) (hb : Below w.heap.size w w') : w'.ownsRow base E 2 v n xs :=
  h.kept (grown_below hb none) (by cases hv : v.ownBlock <;> simp)

/-- What append has gathered reads as the ints that it gathered. -/
theorem RdI.own {w : World} {base n : Nat} {E : TypeId} {v : Value} {L : List Int} (h : w.ownsRow base E 1 v n (zns L)) (hb : ∀ x ∈ L, -9223372036854775808 ≤ x ∧ x ≤ 9223372036854775807) : ∃ a c, v = .slice a n c ∧ RdI w a n c L := by
  have hl : L.length = n := by have := h.1; rw [zns_len] at this; omega
  rcases h.2 with ⟨rfl, rfl⟩ | ⟨g, cap, cur, rfl, hb', hg, h1, h2, hs, ht⟩
  · exact ⟨none, 0, rfl, ⟨hl, Nat.le_refl _, Nat.zero_le _, hb, fun _ => rfl, by simp⟩⟩
  · refine ⟨_, _, rfl, ⟨hl, h1, h2, hb, by simp, fun x hx i hi => ?_⟩⟩
    obtain rfl := Option.some.inj hx
    rw [Addr.add_lit, Nat.zero_add]
    exact zns_at h hi
end
section
open Crm Go.ChangeAt Go.ChangeShapes Go.RowKit Go.WideShapes
theorem cellsGt : Tryd.prog.cellsOf 43 = 4 := by kernel_rfl
theorem cellsGi : Tryd.prog.cellsOf 3 = 1 := by kernel_rfl
theorem cellsGu : Tryd.prog.cellsOf 37 = 1 := by kernel_rfl
theorem cellsGs : Tryd.prog.cellsOf 22 = 1 := by kernel_rfl
theorem cellsIs : Tryd.prog.cellsOf 23 = 1 := by kernel_rfl
/-- A slice of gates that came in. -/
theorem open_gates {H : Type} {enc : TypeId × Value → H} {W : World} {base : Nat} {held : Bool} {fuel : Nat} {cs : List Value} {x : DataW H × List MemPlace}
    (h : DataW.trod enc Tryd.prog W base (fun _ => true) held fuel 22 cs = some x) : ∃ a len cap G, cs = [.slice a len cap] ∧ RdG W a len cap G := by
  rcases Go.Deep.open_slice Tryd.underlying22 h with ⟨rfl, _⟩ | ⟨a, len, cap, m, n, D, Pl, rfl, _, hl, hm, hmm, _, hx⟩
  · exact ⟨none, 0, 0, [], rfl, rfl, Nat.le_refl _, Nat.zero_le _, fun _ => rfl, fun i hi => by omega, fun x hx => by simp at hx⟩
  · have hmc : m = cap := hmm
    have each : ∀ i, i < len → ∃ g : Gt, (W.cell? (a.add (i * 4)) = some (.int .i64 g.k) ∧ W.cell? (a.add (i * 4 + 1)) = some (.int .i64 g.a) ∧ W.cell? (a.add (i * 4 + 2)) = some (.int .i64 g.b) ∧ W.cell? (a.add (i * 4 + 3)) = some (.int .u64 g.n)) ∧
        (-9223372036854775808 ≤ g.k ∧ g.k ≤ 9223372036854775807) ∧ (-9223372036854775808 ≤ g.a ∧ g.a ≤ 9223372036854775807) ∧ (-9223372036854775808 ≤ g.b ∧ g.b ≤ 9223372036854775807) ∧ 0 ≤ g.n ∧ g.n ≤ 18446744073709551615 := by
      intro i hi
      obtain ⟨cs', h1, h2⟩ := hx i (by omega)
      rw [cellsGt] at h1
      obtain ⟨_, hlen, hcell⟩ := World.cells?_some h1
      obtain ⟨xs, k, hk, hxy, _, hxl, hf⟩ := DataW.trod_struct Tryd.underlying43 h2
      match xs, hxl, cs', hlen with
      | [y0, y1, y2, y3], _, [v0, v1, v2, v3], _ =>
        have g0 : DataW.trod enc Tryd.prog W base (fun _ => true) held k 3 [v0] = some y0 := by simpa [cellsGi] using hf 0 _ rfl
        have g1 : DataW.trod enc Tryd.prog W base (fun _ => true) held k 3 [v1] = some y1 := by simpa [cellsGi] using hf 1 _ rfl
        have g2 : DataW.trod enc Tryd.prog W base (fun _ => true) held k 3 [v2] = some y2 := by simpa [cellsGi] using hf 2 _ rfl
        have g3 : DataW.trod enc Tryd.prog W base (fun _ => true) held k 37 [v3] = some y3 := by simpa [cellsGu] using hf 3 _ rfl
        obtain ⟨p0, e0, _, b0⟩ := DataW.trod_int Tryd.underlying3 g0
        obtain ⟨p1, e1, _, b1⟩ := DataW.trod_int Tryd.underlying3 g1
        obtain ⟨p2, e2, _, b2⟩ := DataW.trod_int Tryd.underlying3 g2
        obtain ⟨p3, e3, _, b3⟩ := DataW.trod_int Tryd.underlying37 g3
        simp at e0 e1 e2 e3
        subst e0 e1 e2 e3
        have q0 := hcell 0 (by omega)
        have q1 := hcell 1 (by omega)
        have q2 := hcell 2 (by omega)
        have q3 := hcell 3 (by omega)
        rw [Go.Deep.add_add] at q0 q1 q2 q3
        exact ⟨⟨p0, p1, p2, p3⟩, ⟨by simpa using q0, by simpa using q1, by simpa using q2, by simpa using q3⟩, bounds_i64 b0, bounds_i64 b1, bounds_i64 b2, bounds_u64 b3⟩
    haveI : Inhabited Gt := ⟨⟨0, 0, 0, 0⟩⟩
    obtain ⟨f, hf⟩ := Go.Deep.choose_lt each
    have hg : ∀ i, i < len → gt ((List.range len).map f) i = f i := fun i hi => by simp [gt, hi]
    refine ⟨some a, len, cap, (List.range len).map f, rfl, by simp, hl, hm, by simp, fun i hi => ?_, fun y hy i hi => ?_⟩
    · rw [hg i hi]
      exact (hf i hi).2
    · obtain rfl := Option.some.inj hy
      rw [hg i hi]
      exact (hf i hi).1
/-- A slice of ints that came in. -/
theorem open_outs {H : Type} {enc : TypeId × Value → H} {W : World} {base : Nat} {held : Bool} {fuel : Nat} {cs : List Value} {x : DataW H × List MemPlace}
    (h : DataW.trod enc Tryd.prog W base (fun _ => true) held fuel 23 cs = some x) : ∃ a len cap l, cs = [.slice a len cap] ∧ RdI W a len cap l := by
  rcases open_ints Tryd.underlying23 Tryd.underlying3 (by kernel_rfl) h with ⟨hcs, _⟩ | ⟨x, l, c, zs, hcs, _, hl, hm, hz, _, hcell, hwz⟩
  · exact ⟨none, 0, 0, [], hcs, ⟨rfl, Nat.le_refl _, Nat.zero_le _, by simp, fun _ => rfl, by simp⟩⟩
  · have hzl : zs.length = c := by simpa using hz
    refine ⟨some x, l, c, zs.take l, hcs, by simp; omega, hl, hm, fun y hy => ?_, by simp, fun y hy i hi => ?_⟩
    · exact bounds_i64 (hwz y (List.mem_of_mem_take hy))
    · obtain rfl := Option.some.inj hy
      rw [hcell i (by omega)]
      congr 2
      simp [hi]
/-- A circuit that came in. -/
theorem open_circ {H : Type} {enc : TypeId × Value → H} {W : World} {base : Nat} {held : Bool} {fuel : Nat} {cs : List Value} {x : DataW H × List MemPlace}
    (h : DataW.trod enc Tryd.prog W base (fun _ => true) held fuel 25 cs = some x) : ∃ a n c G b m d O, cs = [.slice a n c, .slice b m d] ∧ RdG W a n c G ∧ RdI W b m d O := by
  obtain ⟨y0, y1, k, _, hl, h0, h1⟩ := trod_struct2 Tryd.underlying25 h
  have hl2 : cs.length = 2 := hl.trans (by kernel_rfl)
  match cs, hl2 with
  | [v0, v1], _ =>
    simp only [cellsGs, cellsIs] at h0 h1
    obtain ⟨a, n, c, G, e0, hG⟩ := open_gates h0
    obtain ⟨b, m, d, O, e1, hO⟩ := open_outs h1
    simp at e0 e1
    subst e0 e1
    exact ⟨a, n, c, G, b, m, d, O, rfl, hG, hO⟩
end
section
open Crm Go.RowKit
def shw (k : Nat) : ByteArray := ([⟨#[]⟩, ⟨#[105, 110, 112, 117, 116]⟩, ⟨#[99, 111, 110, 115, 116]⟩, ⟨#[97, 100, 100]⟩, ⟨#[115, 117, 98]⟩, ⟨#[109, 117, 108]⟩, ⟨#[115, 99, 97, 108, 101]⟩] : List ByteArray).getD k ⟨#[]⟩
def shA (k : Nat) : Bool := [false, true, false, true, true, true, true].getD k false
def shB (k : Nat) : Bool := [false, false, false, true, true, true, false].getD k false
def shN (k : Nat) : Bool := [false, false, true, false, false, false, true].getD k false
/-- The shapes lie as the text lays them. -/
def Shp (w : World) : Prop := ∀ i, i < 7 → w.cell? ⟨0, i * 4, none⟩ = some (.string (shw i)) ∧ w.cell? ⟨0, i * 4 + 1, none⟩ = some (.bool (shA i)) ∧ w.cell? ⟨0, i * 4 + 2, none⟩ = some (.bool (shB i)) ∧ w.cell? ⟨0, i * 4 + 3, none⟩ = some (.bool (shN i))
theorem Shp.below {w w' : World} (h : Shp w) (hb : Below w.heap.size w w') : Shp w' := fun i hi => by
  obtain ⟨h0, h1, h2, h3⟩ := h i hi
  exact ⟨by rw [hb.cell (World.block_lt_of_cell? w _ h0)]; exact h0, by rw [hb.cell (World.block_lt_of_cell? w _ h1)]; exact h1, by rw [hb.cell (World.block_lt_of_cell? w _ h2)]; exact h2, by rw [hb.cell (World.block_lt_of_cell? w _ h3)]; exact h3⟩
theorem Shp.drewN {w : World} (h : Shp w) (q : Nat) : Shp (w.drewN q) := h
theorem Shp.lt {w : World} (h : Shp w) : 0 < w.heap.size := World.block_lt_of_cell? w _ (h 0 (by omega)).1
theorem Shp.at0 {w : World} (h : Shp w) : w.cell? ⟨0, 0, none⟩ = some (.string ⟨#[]⟩) ∧ w.cell? ⟨0, 1, none⟩ = some (.bool false) ∧ w.cell? ⟨0, 2, none⟩ = some (.bool false) ∧ w.cell? ⟨0, 3, none⟩ = some (.bool false) := h 0 (by omega)
theorem Shp.at1 {w : World} (h : Shp w) : w.cell? ⟨0, 4, none⟩ = some (.string ⟨#[105, 110, 112, 117, 116]⟩) ∧ w.cell? ⟨0, 5, none⟩ = some (.bool true) ∧ w.cell? ⟨0, 6, none⟩ = some (.bool false) ∧ w.cell? ⟨0, 7, none⟩ = some (.bool false) := h 1 (by omega)
theorem Shp.at2 {w : World} (h : Shp w) : w.cell? ⟨0, 8, none⟩ = some (.string ⟨#[99, 111, 110, 115, 116]⟩) ∧ w.cell? ⟨0, 9, none⟩ = some (.bool false) ∧ w.cell? ⟨0, 10, none⟩ = some (.bool false) ∧ w.cell? ⟨0, 11, none⟩ = some (.bool true) := h 2 (by omega)
theorem Shp.at3 {w : World} (h : Shp w) : w.cell? ⟨0, 12, none⟩ = some (.string ⟨#[97, 100, 100]⟩) ∧ w.cell? ⟨0, 13, none⟩ = some (.bool true) ∧ w.cell? ⟨0, 14, none⟩ = some (.bool true) ∧ w.cell? ⟨0, 15, none⟩ = some (.bool false) := h 3 (by omega)
theorem Shp.at4 {w : World} (h : Shp w) : w.cell? ⟨0, 16, none⟩ = some (.string ⟨#[115, 117, 98]⟩) ∧ w.cell? ⟨0, 17, none⟩ = some (.bool true) ∧ w.cell? ⟨0, 18, none⟩ = some (.bool true) ∧ w.cell? ⟨0, 19, none⟩ = some (.bool false) := h 4 (by omega)
theorem Shp.at5 {w : World} (h : Shp w) : w.cell? ⟨0, 20, none⟩ = some (.string ⟨#[109, 117, 108]⟩) ∧ w.cell? ⟨0, 21, none⟩ = some (.bool true) ∧ w.cell? ⟨0, 22, none⟩ = some (.bool true) ∧ w.cell? ⟨0, 23, none⟩ = some (.bool false) := h 5 (by omega)
theorem Shp.at6 {w : World} (h : Shp w) : w.cell? ⟨0, 24, none⟩ = some (.string ⟨#[115, 99, 97, 108, 101]⟩) ∧ w.cell? ⟨0, 25, none⟩ = some (.bool true) ∧ w.cell? ⟨0, 26, none⟩ = some (.bool false) ∧ w.cell? ⟨0, 27, none⟩ = some (.bool true) := h 6 (by omega)
/-- Byte i of a text. -/
def bt (s : ByteArray) (i : Nat) : Int := ((s.get! i).toNat : Int)
theorem bt_bd (s : ByteArray) (i : Nat) : 0 ≤ bt s i ∧ bt s i ≤ 255 := by
  have := (s.get! i).toNat_lt
  unfold bt
  omega
theorem bt_get (s : ByteArray) {i : Nat} (h : i < s.size) : ((s[i]'h).toNat : Int) = bt s i := by
  unfold bt
  have : s.get! i = s[i]'h := getElem!_pos s.data i h
  rw [this]
theorem bt_run {P : Program} {t : TypeId} (ht : P.underlying t = some .string) (s : ByteArray) {i : Nat} (h : i < s.size) (w : World) : (Instr.index t (.string s) (.int .i64 (i : Int))).run P w = .ok (.int .u8 (bt s i)) w := by
  rw [run_index_string w t s .i64 (i : Int) ht, dif_pos ⟨by omega, by omega⟩]
  simp only [Int.toNat_natCast]
  rw [bt_get s h]
/-- The number of the first k digits. -/
def dgn (s : ByteArray) : Nat → Int
  | 0 => 0
  | k + 1 => dgn s k * 10 + bt s k - 48
/-- The first k bytes are digits. -/
def dgs (s : ByteArray) (k : Nat) : Prop := ∀ i, i < k → 48 ≤ bt s i ∧ bt s i ≤ 57
theorem dgs_zero (s : ByteArray) : dgs s 0 := fun i hi => by omega
theorem dgs_succ {s : ByteArray} {k : Nat} (h : dgs s k) (h0 : 48 ≤ bt s k) (h1 : bt s k ≤ 57) : dgs s (k + 1) := fun i hi => by
  by_cases e : i = k
  · rw [e]; exact ⟨h0, h1⟩
  · exact h i (by omega)
theorem dgs_not {s : ByteArray} {k m : Nat} (hk : k < m) (h : bt s k < 48 ∨ 57 < bt s k) : ¬ dgs s m := fun e => by
  have := e k hk
  omega
theorem dgn_bd {s : ByteArray} : ∀ {k : Nat}, dgs s k → 0 ≤ dgn s k ∧ dgn s k < 10 ^ k
  | 0, _ => by simp [dgn]
  | k + 1, h => by
    have h1 := dgn_bd (k := k) fun i hi => h i (by omega)
    have h2 := h k (by omega)
    rw [dgn, Int.pow_succ]
    omega
theorem ten_le {k : Nat} (h : k ≤ 10) : (10 : Int) ^ k ≤ 10000000000 := by
  have : k = 0 ∨ k = 1 ∨ k = 2 ∨ k = 3 ∨ k = 4 ∨ k = 5 ∨ k = 6 ∨ k = 7 ∨ k = 8 ∨ k = 9 ∨ k = 10 := by omega
  rcases this with rfl | rfl | rfl | rfl | rfl | rfl | rfl | rfl | rfl | rfl | rfl <;> decide
/-- A number: one to ten digits, without noughts ahead. -/
def okd (s : ByteArray) : Prop := (1 ≤ s.size ∧ s.size ≤ 10) ∧ dgs s s.size ∧ ¬ (1 < s.size ∧ bt s 0 = 48)
def Dgt (s : ByteArray) (r : Int) : Prop := (okd s ∧ r = dgn s s.size) ∨ (¬ okd s ∧ r = -1)
theorem Dgt.one {s : ByteArray} {r q : Int} (h : Dgt s r) (k : Dgt s q) : r = q := by
  rcases h with ⟨h1, rfl⟩ | ⟨h1, rfl⟩ <;> rcases k with ⟨k1, rfl⟩ | ⟨k1, rfl⟩
  · rfl
  · exact absurd h1 k1
  · exact absurd k1 h1
  · rfl
theorem Dgt.bd {s : ByteArray} {r : Int} (h : Dgt s r) : -1 ≤ r ∧ r ≤ 9999999999 := by
  rcases h with ⟨h1, rfl⟩ | ⟨h1, rfl⟩
  · have := dgn_bd h1.2.1
    have := ten_le h1.1.2
    omega
  · omega
theorem fNorm (a : Int) (w : World) (h0 : 0 ≤ a) (h1 : a ≤ 18446744073709551615) :
    Calls Tryd.prog 33 #[.int .u64 a] w fun e w' => e = .returned (.int .u64 (nm a)) ∧ w' = w := by
  go_enter Tryd.func33, Tryd.ntmps33
  go_wp2
  go_ret
  exact ⟨rfl, rfl⟩
theorem drewN_below {B : Nat} {a w : World} (h : Below B a w) (n : Nat) : Below B a (w.drewN n) := by
  induction n with
  | zero => exact h
  | succ n ih => exact ih.drew

theorem take_eq {xs ys : List Int} {k : Nat} (h1 : k < xs.length) (h2 : k < ys.length) (h : xs.take k = ys.take k) (e : xs.getD k 0 = ys.getD k 0) : xs.take (k + 1) = ys.take (k + 1) := by
  rw [List.take_succ_eq_append_getElem h1, List.take_succ_eq_append_getElem h2, h]
  congr 2
  simpa [List.getElem?_eq_getElem h1, List.getElem?_eq_getElem h2] using e
/-- The cells of a gate that is boxed. -/
theorem gate_box (w : World) (k x y z : Int) (E : TypeId) : (w.alloc (.cells #[.int .i64 k, .int .i64 x, .int .i64 y, .int .u64 z] E)).cell? ⟨w.heap.size, 0, none⟩ = some (.int .i64 k) ∧ (w.alloc (.cells #[.int .i64 k, .int .i64 x, .int .i64 y, .int .u64 z] E)).cell? ⟨w.heap.size, 1, none⟩ = some (.int .i64 x) ∧ (w.alloc (.cells #[.int .i64 k, .int .i64 x, .int .i64 y, .int .u64 z] E)).cell? ⟨w.heap.size, 2, none⟩ = some (.int .i64 y) ∧ (w.alloc (.cells #[.int .i64 k, .int .i64 x, .int .i64 y, .int .u64 z] E)).cell? ⟨w.heap.size, 3, none⟩ = some (.int .u64 z) := by
  have h := heap_alloc_new w (.cells #[.int .i64 k, .int .i64 x, .int .i64 y, .int .u64 z] E)
  refine ⟨?_, ?_, ?_, ?_⟩ <;> (rw [cell_of_row _ _ _ _ E (0, 0) h]; rfl)
/-- A circuit that is boxed. -/
def CBox (w : World) (g : Nat) (ag : Option Addr) (n cg : Nat) (ao : Option Addr) (m co : Nat) : Prop := w.heap[g]? = some (.cells #[.slice ag n cg, .slice ao m co] 25 (0, 0))
theorem CBox.lt {w : World} {g : Nat} {ag : Option Addr} {n cg : Nat} {ao : Option Addr} {m co : Nat} (h : CBox w g ag n cg ao m co) : g < w.heap.size := (Array.getElem?_eq_some_iff.1 h).1
theorem CBox.cells {w : World} {g : Nat} {ag : Option Addr} {n cg : Nat} {ao : Option Addr} {m co : Nat} (h : CBox w g ag n cg ao m co) : w.cell? ⟨g, 0, none⟩ = some (.slice ag n cg) ∧ w.cell? ⟨g, 1, none⟩ = some (.slice ao m co) := by
  unfold CBox at h
  rw [cell_of_row w g 0 _ _ (0, 0) h, cell_of_row w g 1 _ _ (0, 0) h]
  exact ⟨rfl, rfl⟩
theorem CBox.below {w w' : World} {B g : Nat} {ag : Option Addr} {n cg : Nat} {ao : Option Addr} {m co : Nat} (h : CBox w g ag n cg ao m co) (hb : Below B w w') (hg : g < B) : CBox w' g ag n cg ao m co := by
  unfold CBox; rw [hb.block g hg]; exact h
theorem CBox.new (w : World) (ag : Option Addr) (n cg : Nat) (ao : Option Addr) (m co : Nat) : CBox (w.alloc (.cells #[.slice ag n cg, .slice ao m co] 25)) w.heap.size ag n cg ao m co := heap_alloc_new w _
theorem rNorm (a : Int) (w : World) (h0 : 0 ≤ a) (h1 : a ≤ 18446744073709551615) :
    Calls Tryd.prog 30 #[.int .u64 a] w fun e w' => e = .returned (.int .u64 (nm a)) ∧ w' = w := by
  have HN : Hid (nm a = a - a / 2147483647 * 2147483647) := by unfold nm Hid; omega
  go_enter Tryd.func30, Tryd.ntmps30
  go_wp2
  go_ret
  rw [HN.out]
  exact ⟨rfl, rfl⟩
end
section
open Crm Go.Maps Go.RowKit
/-- The cells of gates. -/
def gcs (G : List Gt) : List Value := G.flatMap fun g => [.int .i64 g.k, .int .i64 g.a, .int .i64 g.b, .int .u64 g.n]
theorem gcs_get : ∀ (G : List Gt) (i : Nat), i < G.length → (gcs G)[i * 4]? = some (.int .i64 (gt G i).k) ∧ (gcs G)[i * 4 + 1]? = some (.int .i64 (gt G i).a) ∧ (gcs G)[i * 4 + 2]? = some (.int .i64 (gt G i).b) ∧ (gcs G)[i * 4 + 3]? = some (.int .u64 (gt G i).n)
  | [], i, h => by simp at h
  | p :: l, 0, _ => ⟨rfl, rfl, rfl, rfl⟩
  | p :: l, i + 1, h => by
    have := gcs_get l i (by simpa using h)
    have e1 : (i + 1) * 4 = i * 4 + 1 + 1 + 1 + 1 := by omega
    rw [e1]
    exact this
/-- Gates that a call has made its own. -/
theorem RdG.own {w : World} {base n c g : Nat} {E : TypeId} {G : List Gt} (h : w.ownsRow base E 4 (.slice (some ⟨g, 0, none⟩) n c) n (gcs G)) (hl : G.length = n)
    (hb : ∀ i, i < n → (-9223372036854775808 ≤ (gt G i).k ∧ (gt G i).k ≤ 9223372036854775807) ∧ (-9223372036854775808 ≤ (gt G i).a ∧ (gt G i).a ≤ 9223372036854775807) ∧ (-9223372036854775808 ≤ (gt G i).b ∧ (gt G i).b ≤ 9223372036854775807) ∧ 0 ≤ (gt G i).n ∧ (gt G i).n ≤ 18446744073709551615) : RdG w (some ⟨g, 0, none⟩) n c G := by
  rcases h.2 with ⟨e, _⟩ | ⟨g', cap, cur, e, hbb, hg, h1, h2, hs, ht⟩
  · simp at e
  · simp only [Value.slice.injEq, Option.some.injEq, Addr.mk.injEq, and_true, true_and] at e
    obtain ⟨rfl, rfl⟩ := e
    refine ⟨hl, h1, h2, by simp, hb, fun x hx i hi => ?_⟩
    obtain rfl := Option.some.inj hx
    obtain ⟨e1, e2, e3, e4⟩ := gcs_get G i (by omega)
    exact ⟨h.cells (g := g) rfl _ _ e1, h.cells (g := g) rfl _ _ e2, h.cells (g := g) rfl _ _ e3, h.cells (g := g) rfl _ _ e4⟩
theorem own_atZ {w : World} {base n z : Nat} {E : TypeId} {v : Value} {xs : List Value} (h : w.ownsRow base E z v n xs) (hn : 0 < n) : ∃ g c, v = .slice (some ⟨g, 0, none⟩) n c ∧ base ≤ g ∧ g < w.heap.size ∧ n ≤ c ∧ c ≤ maxLen := by
  rcases h.2 with ⟨_, rfl⟩ | ⟨g, cap, cur, rfl, hb, hg, h1, h2, _⟩
  · omega
  · exact ⟨g, cap, rfl, hb, (Array.getElem?_eq_some_iff.1 hg).1, h1, h2⟩
theorem CBox.grown {w w' : World} {g : Nat} {r : Option Nat} {ag : Option Addr} {n cg : Nat} {ao : Option Addr} {m co : Nat} (h : CBox w g ag n cg ao m co) (hg : w.grownBy w' r) (hr : some g ≠ r) : CBox w' g ag n cg ao m co := by
  unfold CBox; rw [hg.block g h.lt hr]; exact h
end
section
open Crm Go.RowKit
def mt : ByteArray := ⟨#[]⟩
def strs (L : List ByteArray) : List Value := L.map Value.string
theorem strs_len (L : List ByteArray) : (strs L).length = L.length := by simp [strs]
/-- Pieces of the first k bytes. -/
def pcs (s : ByteArray) (b : Int) : Nat → List ByteArray
  | 0 => [mt]
  | k + 1 => if bt s k = b then pcs s b k ++ [mt] else (pcs s b k).set ((pcs s b k).length - 1) ((pcs s b k).getD ((pcs s b k).length - 1) mt ++ s.extract k (k + 1))
theorem pcs_len (s : ByteArray) (b : Int) : ∀ k, 1 ≤ (pcs s b k).length ∧ (pcs s b k).length ≤ k + 1
  | 0 => by simp [pcs]
  | k + 1 => by
    have := pcs_len s b k
    rw [pcs]
    split
    · simp; omega
    · simp; omega
theorem pcs_size (s : ByteArray) (b : Int) : ∀ k, ∀ x ∈ pcs s b k, x.size ≤ k
  | 0, x, hx => by simp [pcs] at hx; subst hx; exact Nat.le_refl 0
  | k + 1, x, hx => by
    have ih := pcs_size s b k
    rw [pcs] at hx
    split at hx
    · rcases List.mem_append.1 hx with h | h
      · have := ih x h; omega
      · simp at h; subst h; exact Nat.zero_le _
    · rcases List.mem_or_eq_of_mem_set hx with h | rfl
      · have := ih x h; omega
      · have hl := pcs_len s b k
        have h1 : (pcs s b k).getD ((pcs s b k).length - 1) mt ∈ pcs s b k := by
          rw [List.getD_eq_getElem?_getD, List.getElem?_eq_getElem (by omega)]
          exact List.getElem_mem _
        have h2 := ih _ h1
        rw [ByteArray.size_append, ByteArray.size_extract]
        omega
theorem own_cellZ {w : World} {B n c g z : Nat} {E : TypeId} {xs : List Value} (h : w.ownsRow B E z (.slice (some ⟨g, 0, none⟩) n c) n xs) {i : Nat} {u : Value} (hi : xs[i]? = some u) : w.cell? ⟨g, i, none⟩ = some u := by
  have := h.cells (g := g) rfl _ _ hi
  rwa [Addr.add_lit, Nat.zero_add] at this
def tx (L : List ByteArray) (i : Nat) : ByteArray := L.getD i mt
/-- The slice reads as the texts L, none too great. -/
structure RdT (w : World) (a : Option Addr) (n c : Nat) (L : List ByteArray) : Prop where
  len : L.length = n
  cap : n ≤ c
  max : c ≤ maxLen
  nil : a = none → c = 0
  bd : ∀ i, i < n → (tx L i).size ≤ 9223372036854775807
  cell : ∀ x, a = some x → ∀ i, i < n → w.cell? (x.add i) = some (.string (tx L i))
theorem RdT.one {w : World} {a : Option Addr} {n c : Nat} {L : List ByteArray} (h : RdT w a n c L) {k : Nat} (hk : k < n) :
    ∃ b o x, a = some ⟨b, o, none⟩ ∧ b < w.heap.size ∧ Hid (tx L k = x) ∧ x.size ≤ 9223372036854775807 ∧ w.cell? ⟨b, o + k, none⟩ = some (.string x) := by
  cases ha : a with
  | none => have := h.nil ha; have := h.cap; omega
  | some x =>
    have h0 := h.cell x ha k hk
    have hs : x.spot = none := by
      have := spot_none (h.cell x ha 0 (by omega))
      unfold Addr.add at this
      split at this <;> simp_all
    obtain ⟨b, o, s⟩ := x
    simp only at hs
    subst hs
    rw [Addr.add_lit] at h0
    exact ⟨b, o, _, rfl, World.block_lt_of_cell? w _ h0, rfl, h.bd k hk, h0⟩
theorem RdT.below {w w' : World} {a : Option Addr} {n c : Nat} {L : List ByteArray} (h : RdT w a n c L) (hb : Below w.heap.size w w') : RdT w' a n c L := by
  refine ⟨h.len, h.cap, h.max, h.nil, h.bd, fun x hx i hi => ?_⟩
  have := h.cell x hx i hi
  rw [hb.cell (World.block_lt_of_cell? w _ this)]
  exact this
theorem strs_at {L : List ByteArray} {i : Nat} (h : i < L.length) : (strs L)[i]? = some (.string (tx L i)) := by
  simp [strs, tx, h]
/-- Texts that a call has made its own. -/
theorem RdT.own {w : World} {base n : Nat} {E : TypeId} {v : Value} {L : List ByteArray} (h : w.ownsRow base E 1 v n (strs L)) (hn : 0 < n) (hb : ∀ x ∈ L, x.size ≤ 9223372036854775807) : ∃ g c, v = .slice (some ⟨g, 0, none⟩) n c ∧ base ≤ g ∧ RdT w (some ⟨g, 0, none⟩) n c L := by
  obtain ⟨g, c, rfl, hg, _, h1, h2⟩ := own_atZ h hn
  have hl : L.length = n := by have := h.1; rw [strs_len] at this; omega
  refine ⟨g, c, rfl, hg, hl, h1, h2, by simp, fun i hi => ?_, fun x hx i hi => ?_⟩
  · refine hb _ ?_
    unfold tx
    rw [List.getD_eq_getElem?_getD, List.getElem?_eq_getElem (by omega)]
    exact List.getElem_mem _
  · obtain rfl := Option.some.inj hx
    rw [Addr.add_lit, Nat.zero_add]
    exact own_cellZ h (strs_at (by omega))
/-- All but the first. -/
theorem RdT.tail {w : World} {g o n c : Nat} {L : List ByteArray} (h : RdT w (some ⟨g, o, none⟩) (n + 1) (c + 1) L) : RdT w (some ⟨g, o + 1, none⟩) n c (L.drop 1) := by
  have ht : ∀ i, tx (L.drop 1) i = tx L (i + 1) := fun i => by simp [tx]
  refine ⟨by rw [List.length_drop, h.len]; rfl, by have := h.cap; omega, by have := h.max; omega, by simp, fun i hi => ?_, fun x hx i hi => ?_⟩
  · rw [ht]; exact h.bd _ (by omega)
  · obtain rfl := Option.some.inj hx
    have := h.cell _ rfl (i + 1) (by omega)
    rw [Addr.add_lit] at this ⊢
    rw [ht, ← this]
    congr 2
    omega
/-- The numbers of words. -/
def nbl (L : List ByteArray) (k : Nat) : List Int := (List.range k).map fun i => dgn (tx L i) (tx L i).size
theorem nbl_len (L : List ByteArray) (k : Nat) : (nbl L k).length = k := by simp [nbl]
def okn (L : List ByteArray) (k : Nat) : Prop := ∀ i, i < k → okd (tx L i)
theorem okn_succ {L : List ByteArray} {k : Nat} (h : okn L k) (hk : okd (tx L k)) : okn L (k + 1) := fun i hi => by
  by_cases e : i = k
  · rw [e]; exact hk
  · exact h i (by omega)
theorem okd_bd {s : ByteArray} (h : okd s) : 0 ≤ dgn s s.size ∧ dgn s s.size ≤ 9999999999 := by
  have := dgn_bd h.2.1
  have := ten_le h.1.2
  omega
end
end Go.Proofs.YtljlioglpaogdafDoor
