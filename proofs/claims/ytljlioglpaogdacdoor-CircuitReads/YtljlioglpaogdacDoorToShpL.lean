/- croftref.SameCircuit: two circuits that are the same, numbers by P. · The walk of croftlaw.CircuitReads. · Package-level variables that start-up lays: any part of their list. · Package-level variables that start-up lays: what the walks ask of them. · circuit.shapes lie as the text lays them. -/
import Derived.Test.YtljlioglpaogdacDoorToEqIC
import Derived.Test.YtljlioglpaogdacDoorToNumbC
import Derived.BigQuiet
import Derived.Test.YtljlioglpaogdacDoorToKindC
import Derived.Test.YtljlioglpaogdacDoorRows
import Derived.ProofKit
import Derived.LaidMore
import Derived.OpenShut
import Derived.Stop.LaidErr
import Derived.Test.YtljlioglpaogdacDoorToSwO
import Derived.Lib.LaidTab
namespace Go.Proofs.YtljlioglpaogdacDoor
set_option linter.unusedVariables false
set_option maxRecDepth 100000
set_option maxHeartbeats 8000000
section
open Crm Go.RowKit
/-- Gates that are the same, numbers by P. -/
def smg (g q : Gt) : Prop := g.k = q.k ∧ g.a = q.a ∧ g.b = q.b ∧ nm g.n = nm q.n
def SmG (G Q : List Gt) (n : Nat) : Prop := ∀ i, i < n → smg (gt G i) (gt Q i)

theorem sSameGate (k x y z u : Int) (w : World) (hz0 : 0 ≤ z) (hz1 : z ≤ 18446744073709551615) (hu0 : 0 ≤ u) (hu1 : u ≤ 18446744073709551615) (he : nm z = nm u) :
    Calls Tryd.prog 25 #[.agg #[.int .i64 k, .int .i64 x, .int .i64 y, .int .u64 z], .agg #[.int .i64 k, .int .i64 x, .int .i64 y, .int .u64 u]] w fun e w' => e = .returned (.bool true) ∧ Below w.heap.size w w' := by
  have hbA : Below w.heap.size w (w.alloc (.cells #[.int .i64 k, .int .i64 x, .int .i64 y, .int .u64 z] 58)) := (Below.refl _ _).alloc (Nat.le_refl _) _
  have hbB : Below w.heap.size w ((w.alloc (.cells #[.int .i64 k, .int .i64 x, .int .i64 y, .int .u64 z] 58)).alloc (.cells #[.int .i64 k, .int .i64 x, .int .i64 y, .int .u64 u] 58)) := hbA.alloc hbA.size _
  go_enter Tryd.func25, Tryd.ntmps25
  go_wp2
  go_big_quiet ((go_at_call 26; exact Calls.quiet_of_same (rNorm _ _ (by omega) (by omega))))
  all_goals
    go_wp2
    go_ret
    exact ⟨rfl, drewN_below hbB _⟩

theorem sEqualGates (a : Option Addr) (n c : Nat) (b : Option Addr) (d : Nat) (G Q : List Gt) (w : World) (h : RdG w a n c G) (g : RdG w b n d Q) (hs : SmG G Q n) :
    Calls Tryd.prog 24 #[.slice a n c, .slice b n d, .func (.func 25) #[] #[]] w fun e w' => e = .returned (.bool true) ∧ Below w.heap.size w w' := by
  have hcap := h.cap
  have hmax := h.max
  unfold maxLen at hmax
  have HS : Hid (SmG G Q n) := hs
  clear hs
  go_enter Tryd.func24, Tryd.ntmps24
  go_wp2
  go_loopw [17] (fun i wr => ∃ k : Nat, k ≤ n ∧ i = .int .i64 k ∧ Below w.heap.size w wr) (fun i _ => n - (intOf i).toNat)
  case atStart => exact ⟨0, Nat.zero_le _, rfl, Below.refl _ _⟩
  case round =>
    obtain ⟨i, hin, rfl, hbel⟩ := hrel
    have hs1 := hbel.size
    by_cases hlt : i < n
    · obtain ⟨b1, o1, k, x, y, z, rfl, hbb, HG1, hk, hx, hy, hz, c1, c2, c3, c4⟩ := (h.below hbel).one hlt
      obtain ⟨b2, o2, k2, x2, y2, u, rfl, hbb2, HG2, _, _, _, hu, e1, e2, e3, e4⟩ := (g.below hbel).one hlt
      obtain ⟨q1, q2, q3, q4⟩ := HS.out i hlt
      rw [HG1.out, HG2.out] at q1 q2 q3 q4
      simp only at q1 q2 q3 q4
      subst q1 q2 q3
      have hbA : Below wr.heap.size wr (wr.alloc (.cells #[.int .i64 k, .int .i64 x, .int .i64 y, .int .u64 z] 58)) := (Below.refl _ _).alloc (Nat.le_refl _) _
      have e1A : (wr.alloc (.cells #[.int .i64 k, .int .i64 x, .int .i64 y, .int .u64 z] 58)).cell? ⟨b2, o2 + i * 4, none⟩ = some (.int .i64 k) := by rw [hbA.cell hbb2]; exact e1
      have e2A : (wr.alloc (.cells #[.int .i64 k, .int .i64 x, .int .i64 y, .int .u64 z] 58)).cell? ⟨b2, o2 + i * 4 + 1, none⟩ = some (.int .i64 x) := by rw [hbA.cell hbb2]; exact e2
      have e3A : (wr.alloc (.cells #[.int .i64 k, .int .i64 x, .int .i64 y, .int .u64 z] 58)).cell? ⟨b2, o2 + i * 4 + 2, none⟩ = some (.int .i64 y) := by rw [hbA.cell hbb2]; exact e3
      have e4A : (wr.alloc (.cells #[.int .i64 k, .int .i64 x, .int .i64 y, .int .u64 z] 58)).cell? ⟨b2, o2 + i * 4 + 3, none⟩ = some (.int .u64 u) := by rw [hbA.cell hbb2]; exact e4
      have hbB : Below wr.heap.size wr ((wr.alloc (.cells #[.int .i64 k, .int .i64 x, .int .i64 y, .int .u64 z] 58)).alloc (.cells #[.int .i64 k, .int .i64 x, .int .i64 y, .int .u64 u] 58)) := hbA.alloc hbA.size _
      have hbw := hbel.trans (hbB.mono hs1)
      have HQ : Hid (nm z = nm u) := q4
      clear hbA hbB HG1 HG2 q4
      go_wp2_with fail
      refine (sSameGate _ _ _ _ _ _ hz.1 hz.2 hu.1 hu.2 HQ.out).mono ?_
      rintro e w3 ⟨rfl, hb3⟩
      have hw3 := hbw.trans (hb3.mono hbw.size)
      clear hbw hb3 c1 c2 c3 c4 e1 e2 e3 e4 e1A e2A e3A e4A
      go_wp2
      go_roundw
      case rel => exact ⟨i + 1, by omega, by go_num, hw3⟩
      case measure => simp [intOf]; omega
    · have hkn : i = n := by omega
      subst hkn
      go_wp2
      go_ret
      exact ⟨rfl, hbel⟩

theorem sSameCircuit (a : Option Addr) (n c : Nat) (G : List Gt) (ao : Option Addr) (m co : Nat) (O : List Int) (b : Option Addr) (d : Nat) (Q : List Gt) (bo : Option Addr) (m2 dof : Nat) (w : World)
    (h : RdG w a n c G) (ho : RdI w ao m co O) (g : RdG w b n d Q) (go : RdI w bo m2 dof O) (hs : SmG G Q n) :
    Calls Tryd.prog 7 #[.agg #[.slice a n c, .slice ao m co], .agg #[.slice b n d, .slice bo m2 dof]] w fun e w' => e = .returned (.bool true) ∧ Below w.heap.size w w' := by
  have HS : Hid (SmG G Q n) := hs
  have hA := CBox.new w a n c ao m co
  have hbA : Below w.heap.size w (w.alloc (.cells #[.slice a n c, .slice ao m co] 25)) := (Below.refl _ _).alloc (Nat.le_refl _) _
  have hB := CBox.new (w.alloc (.cells #[.slice a n c, .slice ao m co] 25)) b n d bo m2 dof
  have hbB := (Below.refl (w.alloc (.cells #[.slice a n c, .slice ao m co] 25)).heap.size (w.alloc (.cells #[.slice a n c, .slice ao m co] 25))).alloc (Nat.le_refl _) (.cells #[.slice b n d, .slice bo m2 dof] 25)
  have hA2 := hA.below hbB hA.lt
  have hb2 := hbA.trans (hbB.mono hbA.size)
  have s1 : (w.alloc (.cells #[.slice a n c, .slice ao m co] 25)).heap.size = w.heap.size + 1 := by simp
  rw [s1] at hB
  clear hs hA hbA hbB s1
  go_enter Tryd.func7, Tryd.ntmps7
  go_wp2_with fail
  generalize (w.alloc (.cells #[.slice a n c, .slice ao m co] 25)).alloc (.cells #[.slice b n d, .slice bo m2 dof] 25) = w2 at *
  refine (zSame _ _ _ _ _ _ _ _ (ho.below hb2) (go.below hb2)).mono ?_
  rintro e w' ⟨rfl, hw⟩
  have hA3 := hA2.below hw hA2.lt
  have hB3 := hB.below hw hB.lt
  obtain ⟨d0, d1⟩ := hA3.cells
  obtain ⟨f0, f1⟩ := hB3.cells
  have hb3 := hb2.trans (hw.mono hb2.size)
  clear hA2 hB hb2 hw hA3 hB3
  go_wp2_with fail
  refine (sEqualGates _ _ _ _ _ _ _ _ (h.below hb3) (g.below hb3) HS.out).mono ?_
  rintro e w4 ⟨rfl, hb4⟩
  have hb5 := hb3.trans (hb4.mono hb3.size)
  clear hb3 hb4 d0 d1 f0 f1
  go_wp2
  go_ret
  exact ⟨rfl, hb5⟩
theorem smg_map (G : List Gt) (n : Nat) : SmG (G.map nmg) G n := fun i _ => by
  rw [gt_map]
  exact ⟨rfl, rfl, rfl, nm_nm _⟩

theorem circuitReadsW (s : ByteArray) (w : World) (hs : s.size ≤ maxLen) (hV : Vb w) (hS : Shp w) :
    Calls Tryd.prog 3 #[.string s] w fun e w' => e = .returned (.bool true) ∧ Below w.heap.size w w' := by
  unfold maxLen at hs
  go_enter Tryd.func3, Tryd.ntmps3
  go_wp2_with fail
  refine (cParse s w (by omega) hS).mono ?_
  rintro e w1 ⟨ag, cg, ao, co, at_, r, G, O, rfl, hP, ho, hi, hb1⟩
  have HP : Hid (Par s G O at_ r) := hP
  obtain ⟨b1, b2⟩ := hP.gbd
  have hG1 := RdG.ownA ho (gcs_len4 _) (gbd_nm b1)
  have hI1 := RdI.ownA hi b2
  have hbA : Below w1.heap.size w1 (w1.alloc (.cells #[.slice ag G.length cg, .slice ao O.length co] 25)) := (Below.refl _ _).alloc (Nat.le_refl _) _
  have hcA := CBox.new w1 ag G.length cg ao O.length co
  clear hP ho hi b1 b2
  go_upto_region 2 with fail
  generalize w1.alloc (.cells #[.slice ag G.length cg, .slice ao O.length co] 25) = wA at *
  have hbwA := hb1.trans (hbA.mono hb1.size)
  have hG2 := hG1.below hbA
  have hI2 := hI1.below hbA
  clear hG1 hI1 hbA hb1
  go_wp2_with fail
  refine (rRead s wA (by omega) (hV.below hbwA)).mono ?_
  rintro e w2 ⟨ag', cg', ao', co', at', r', G', O', rfl, hP', ho', hi', hb2⟩
  obtain ⟨rfl, rfl, rfl, rfl⟩ := hP'.one HP.out
  obtain ⟨b1, b2⟩ := hP'.gbd
  have hrb := hP'.bd
  have hG3 := RdG.ownA ho' rfl b1
  have hI3 := RdI.ownA hi' b2
  have hG2' := hG2.below hb2
  have hI2' := hI2.below hb2
  have hcA2 := hcA.below hb2 hcA.lt
  have hbw2 := hbwA.trans (hb2.mono hbwA.size)
  have hbB : Below w2.heap.size w2 (w2.alloc (.cells #[.slice ag' G'.length cg', .slice ao' O'.length co'] 25)) := (Below.refl _ _).alloc (Nat.le_refl _) _
  have hcB := CBox.new w2 ag' G'.length cg' ao' O'.length co'
  clear hP' ho' hi' b1 b2 hG2 hI2 hcA hbwA hb2 HP
  go_upto_region 3 with fail
  generalize w2.alloc (.cells #[.slice ag' G'.length cg', .slice ao' O'.length co'] 25) = wB at *
  have hG4 := hG3.below hbB
  have hI4 := hI3.below hbB
  have hG5 := hG2'.below hbB
  have hI5 := hI2'.below hbB
  have hcA3 := hcA2.below hbB hcA2.lt
  have hbwB := hbw2.trans (hbB.mono hbw2.size)
  obtain ⟨d0, d1⟩ := hcA3.cells
  obtain ⟨k0, k1⟩ := hcB.cells
  have l0 := hcA3.lt
  have l1 := hcB.lt
  clear hG3 hI3 hG2' hI2' hcA2 hbw2 hbB hcA3 hcB
  go_wp2_with fail
  refine (sSameCircuit _ _ _ _ _ _ _ _ _ _ _ _ _ _ _ hG5 hI5 hG4 hI4 (smg_map _ _)).mono ?_
  rintro e w3 ⟨rfl, hb3⟩
  have hbw3 := hbwB.trans (hb3.mono hbwB.size)
  clear hG4 hI4 hG5 hI5 hbwB hb3
  go_wp2
  go_ret
  exact ⟨rfl, hbw3⟩
end
section
open Go.ChangeAt Go.ChangeShapes Go.RowKit Go.WideShapes
/-- A list that is met is met from any place on. -/
theorem laid_drop {P : Program} {W : World} : ∀ {l : List (String × DataW Unit)} (k : Nat), laidMet P l W → laidMet P (l.drop k) W
  | l, 0, h => by simpa using h
  | [], k + 1, h => by simpa using h
  | x :: l, k + 1, h => by rw [List.drop_succ_cons]; exact laid_drop k h.tail
end
section
open Crm Go.ChangeAt Go.ChangeShapes Go.RowKit Go.WideShapes
/-- An array of texts that reads as the texts holds them, cell for cell. -/
theorem cells_of_strs {H : Type} {enc : TypeId × Value → H} {P : Program} {w : World} {base : Nat} {sp : Nat → Bool} {held : Bool} {fuel : Nat} {t e : TypeId} {n : Nat} {cs : List Value} {L : List ByteArray} {p : List MemPlace}
    (ht : P.underlying t = some (.array n e)) (he : P.underlying e = some .string) (hce : P.cellsOf e = 1) (hn : L.length = n)
    (h : DataW.trod enc P w base sp held fuel t cs = some (.agg (L.map fun s => .lit (.string s.data.toList)), p)) : ∀ i, i < n → cs[i]? = some (.string (L.getD i mt)) := by
  obtain ⟨xs, m, _, hx, _, hl, hel⟩ := DataW.trod_array ht h
  have hx1 : L.map (fun s => (DataW.lit (.string s.data.toList) : DataW H)) = xs.map (·.1) := by
    have := congrArg Prod.fst hx
    simpa using this
  intro i hi
  have h1 := hel i hi
  rw [hce, Nat.mul_one, List.getElem?_eq_getElem (show i < xs.length by omega)] at h1
  obtain ⟨s, e1, e2, _⟩ := DataW.trod_string he h1
  have h2 := congrArg (·[i]?) hx1
  simp only [List.getElem?_map] at h2
  rw [List.getElem?_eq_getElem (show i < L.length by omega), List.getElem?_eq_getElem (show i < xs.length by omega), e2] at h2
  simp only [Option.map_some, Option.some.injEq, DataW.lit.injEq, Lit.string.injEq] at h2
  have hs : L[i]'(by omega) = s := by
    apply ByteArray.ext
    exact Array.ext' h2
  have e3 := congrArg (·[0]?) e1
  simp only [List.getElem?_cons_zero] at e3
  rw [List.getD_eq_getElem?_getD, List.getElem?_eq_getElem (show i < L.length by omega), Option.getD_some, hs, ← e3]
  simp [List.getElem?_drop]
theorem gVerbs : Tryd.prog.globalNamed "sharecroft/croftref.verbs" = some 0 := by kernel_rfl
theorem tVerbs : (Tryd.prog.globals[0]?).map (·.type) = some 56 := by kernel_rfl
theorem cellsStr : Tryd.prog.cellsOf 9 = 1 := by kernel_rfl
/-- The verbs lie as the text lays them. -/
theorem vb_of_head {rest : List (String × DataW Unit)} {W : World} (h : laidMet Tryd.prog (("sharecroft/croftref.verbs", Rows.laid_sharecroft_croftref_verbs) :: rest) W) : Vb W := by
  obtain ⟨ps, ⟨g0, t0, cs0, f0, p0, q0, hg0, ht0, hv0, hd0, _, _⟩, _, _⟩ := h
  obtain rfl := Option.some.inj (gVerbs.symm.trans hg0)
  obtain rfl := Option.some.inj (tVerbs.symm.trans ht0)
  have hcs := cells_of_strs (L := vbs) Tryd.underlying56 Tryd.underlying9 cellsStr rfl hd0
  intro i hi
  have := World.var?_cell hg0 hv0 i
  rw [this, ← Array.getElem?_toList, hcs i hi]
  rfl
theorem gShp : Tryd.prog.globalNamed "sharecroft/circuit.shapes" = some 1 := by kernel_rfl
theorem tShp : (Tryd.prog.globals[1]?).map (·.type) = some 108 := by kernel_rfl
theorem cellsShp : Tryd.prog.cellsOf 107 = 4 := by kernel_rfl
theorem cellsShs : Tryd.prog.cellsOf 9 = 1 := by kernel_rfl
theorem cellsShb : Tryd.prog.cellsOf 4 = 1 := by kernel_rfl
def shD {H : Type} (i : Nat) : DataW H := .agg [.lit (.string (shw i).data.toList), .lit (.bool (shA i)), .lit (.bool (shB i)), .lit (.bool (shN i))]
theorem shD_all {H : Type} : (Rows.laid_sharecroft_circuit_shapes : DataW H) = .agg ((List.range 7).map shD) := rfl
/-- A shape that reads as the datum. -/
theorem cells_of_shape {H : Type} {enc : TypeId × Value → H} {w : World} {base : Nat} {sp : Nat → Bool} {held : Bool} {fuel : Nat} {cs : List Value} {p : List MemPlace} {i : Nat}
    (h : DataW.trod enc Tryd.prog w base sp held fuel 107 cs = some (shD i, p)) : cs = [.string (shw i), .bool (shA i), .bool (shB i), .bool (shN i)] := by
  obtain ⟨xs, k, _, hx, hl, hxl, hf⟩ := DataW.trod_struct Tryd.underlying107 h
  rw [cellsShp] at hl
  match xs, hxl, cs, hl with
  | [y0, y1, y2, y3], _, [v0, v1, v2, v3], _ =>
    have g0 : DataW.trod enc Tryd.prog w base sp held k 9 [v0] = some y0 := by simpa [cellsShs] using hf 0 _ rfl
    have g1 : DataW.trod enc Tryd.prog w base sp held k 4 [v1] = some y1 := by simpa [cellsShb] using hf 1 _ rfl
    have g2 : DataW.trod enc Tryd.prog w base sp held k 4 [v2] = some y2 := by simpa [cellsShb] using hf 2 _ rfl
    have g3 : DataW.trod enc Tryd.prog w base sp held k 4 [v3] = some y3 := by simpa [cellsShb] using hf 3 _ rfl
    obtain ⟨s, e0, f0, _⟩ := DataW.trod_string Tryd.underlying9 g0
    obtain ⟨b1, e1, f1⟩ := DataW.trod_bool Tryd.underlying4 g1
    obtain ⟨b2, e2, f2⟩ := DataW.trod_bool Tryd.underlying4 g2
    obtain ⟨b3, e3, f3⟩ := DataW.trod_bool Tryd.underlying4 g3
    subst f0 f1 f2 f3
    have hx1 := congrArg Prod.fst hx
    simp only [shD, List.map_cons, List.map_nil, DataW.agg.injEq, List.cons.injEq, DataW.lit.injEq, Lit.string.injEq, Lit.bool.injEq, and_true] at hx1
    obtain ⟨q0, q1, q2, q3⟩ := hx1
    have hs : shw i = s := by
      apply ByteArray.ext
      exact Array.ext' q0
    simp only [List.cons.injEq, and_true] at e0 e1 e2 e3
    rw [e0, e1, e2, e3, hs, q1, q2, q3]
theorem shp_of_head {rest : List (String × DataW Unit)} {W : World} (h : laidMet Tryd.prog (("sharecroft/circuit.shapes", Rows.laid_sharecroft_circuit_shapes) :: rest) W) : Shp W := by
  obtain ⟨ps, ⟨g0, t0, cs0, f0, p0, q0, hg0, ht0, hv0, hd0, _, _⟩, _, _⟩ := h
  obtain rfl := Option.some.inj (gShp.symm.trans hg0)
  obtain rfl := Option.some.inj (tShp.symm.trans ht0)
  obtain ⟨xs, m, _, hx, hl, hxl, hel⟩ := DataW.trod_array Tryd.underlying108 hd0
  have hx1 := congrArg Prod.fst hx
  rw [shD_all] at hx1
  simp only [DataW.agg.injEq] at hx1
  intro i hi
  have h1 := hel i hi
  have hxi : xs[i]? = some (shD i, (xs[i]'(by omega)).2) := by
    rw [List.getElem?_eq_getElem (show i < xs.length by omega)]
    have h2 := congrArg (·[i]?) hx1
    simp only [List.getElem?_map] at h2
    rw [List.getElem?_eq_getElem (show i < xs.length by omega), List.getElem?_range hi] at h2
    simp only [Option.map_some, Option.some.injEq] at h2
    rw [h2]
  rw [hxi, cellsShp] at h1
  have hc := cells_of_shape h1
  have hcell : ∀ j, j < 4 → W.cell? ⟨1, i * 4 + j, none⟩ = ([.string (shw i), .bool (shA i), .bool (shB i), .bool (shN i)] : List Value)[j]? := fun j hj => by
    rw [World.var?_cell hg0 hv0 (i * 4 + j), ← Array.getElem?_toList, ← hc, List.getElem?_take_of_lt hj, List.getElem?_drop]
  exact ⟨hcell 0 (by omega), hcell 1 (by omega), hcell 2 (by omega), hcell 3 (by omega)⟩
end
end Go.Proofs.YtljlioglpaogdacDoor
