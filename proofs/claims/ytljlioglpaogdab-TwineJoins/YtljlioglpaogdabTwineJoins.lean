/- croftlaw.TwineJoins answers true whatever is handed in. No condition. The frame round the walk is the guide's shell (proof-skeleton), written by program (wip/tpl/frame.py). -/
import Derived.Test.YtljlioglpaogdabTwineJoinsW
import Derived.Test.YtljlioglpaogdabRows
import Derived.WalkKit
import Derived.ProofKit
import Derived.OpenShut
import Derived.ShutString
import Derived.ChangeOld
import Derived.Below
import Derived.Deep.SlicePairs
namespace Go.Proofs.Ytljlioglpaogdab.twineJoins
open Go.ChangeShapes Go.WideShapes Go.ChangeAt Go.RowKit Crm
open Go.ChangeMaps (open_string shut_string)
set_option linter.unusedVariables false

theorem own : ownKnob Try.prog.godebug = none := by kernel_rfl
theorem laidOut : laidOutB Try.prog = true := by kernel_rfl

theorem cellsI : Try.prog.cellsOf 3 = 1 := by kernel_rfl
theorem cellsU : Try.prog.cellsOf 28 = 1 := by kernel_rfl
theorem cellsV2 : Try.prog.cellsOf 23 = 1 := by kernel_rfl
theorem cellsW : Try.prog.cellsOf 83 = 2 := by kernel_rfl
/-- A slice of rows (api.Row) that came in reads as rows. -/
theorem open_trows {H : Type} {enc : TypeId × Value → H} {W : World} {base : Nat} {held : Bool} {fuel : Nat} {cs : List Value} {x : DataW H × List MemPlace}
    (h : DataW.trod enc Try.prog W base (fun _ => true) held fuel 36 cs = some x) : ∃ a len cap l, cs = [.slice a len cap] ∧ RdW W a len cap l := by
  rcases Go.Deep.open_slice_pairs Try.underlying36 Try.underlying83 cellsW rfl rfl cellsI cellsV2 h with ⟨rfl, _⟩ | ⟨a, len, cap, m, n, V0, V1, D0, D1, P0, P1, rfl, _, hl, hm, hmm, _, hx⟩
  · exact ⟨none, 0, 0, [], rfl, RdW.nilW _⟩
  · have hmc : m = cap := hmm
    have each : ∀ i, i < len → ∃ p : Int × List Int × Option Addr × Nat, V0 i = .int .i64 p.1 ∧ V1 i = .slice p.2.2.1 p.2.1.length p.2.2.2 ∧ (-9223372036854775808 ≤ p.1 ∧ p.1 ≤ 9223372036854775807) ∧ Rd W p.2.2.1 p.2.1.length p.2.2.2 p.2.1 := by
      intro i hi
      obtain ⟨_, _, h0, h1⟩ := hx i (by omega)
      obtain ⟨p, e0, _, w0⟩ := DataW.trod_int Try.underlying3 h0
      have b0 := bounds_i64 w0
      rcases open_ints Try.underlying23 Try.underlying28 (by kernel_rfl) h1 with ⟨hcs, _⟩ | ⟨x', l', c', zs, hcs, _, hl', hm', hz, _, hcell, hwz⟩
      · exact ⟨(p, [], none, 0), by simpa using e0, by simpa using hcs, b0, ⟨rfl, Nat.le_refl _, Nat.zero_le _, by simp, fun _ => rfl, by simp⟩⟩
      · have hzl : zs.length = c' := by simpa using hz
        have hlt : (zs.take l').length = l' := by simp; omega
        refine ⟨(p, zs.take l', some x', c'), by simpa using e0, by simp only [hlt]; simpa using hcs, b0, ?_⟩
        simp only [hlt]
        refine ⟨hlt, hl', hm', fun y hy => ?_, by simp, fun y hy j hj => ?_⟩
        · exact bounds_u64 (hwz y (List.mem_of_mem_take hy))
        · obtain rfl := Option.some.inj hy
          rw [hcell j (by omega)]
          congr 2
          simp [hj]
    obtain ⟨f, hf⟩ := Go.Deep.choose_lt each
    have hg : ∀ i, i < len → ((List.range len).map fun i => ((f i).1, (f i).2.1)).getD i (0, []) = ((f i).1, (f i).2.1) := fun i hi => by simp [hi]
    refine ⟨some a, len, cap, (List.range len).map fun i => ((f i).1, (f i).2.1), rfl, by simp, hl, hm, by simp, fun i hi => ?_, fun y hy i hi => ?_⟩
    · unfold ta
      rw [hg i hi]
      exact (hf i hi).2.2.1
    · obtain rfl := Option.some.inj hy
      obtain ⟨c0, c1, _, _⟩ := hx i (by omega)
      obtain ⟨e0, e1, _, e3⟩ := hf i hi
      unfold ta tc
      rw [hg i hi]
      rw [e0] at c0
      rw [e1] at c1
      exact ⟨c0, _, _, c1, e3⟩

/-! ### THE ROW's STEP: WRITTEN OUT: LEAVE IT -/
set_option maxRecDepth 100000 in
set_option maxHeartbeats 1000000 in
theorem lifted (os : Os) (started : os.Started) (H : Type) (enc : TypeId × Value → H) :
    ReturnsInHanded {} Try.checked os 5 .any (Rows.twineJoinsSpec.pre6 enc Try.prog Try.f5 Rows.twineJoinsRow.domain false) (Rows.twineJoinsSpec.post enc Try.prog Try.f5 false true false false) := by
  refine returnsInHanded_of_change (C := Try.checked) own started (by kernel_rfl) Try.func5
    (ChangeSpec.witness6 (enc := enc) (C := Try.checked) false ⟨#[], #[.int .i64 0, .slice none 0 0], []⟩ 8 (by kernel_rfl) (by kernel_rfl) (by kernel_rfl) (by kernel_rfl)) ?_
  intro W base args ds gs before hval0 hW hcnd _
  have hval : ∀ (j : Nat) t v, Try.f5.params[j]? = some t → args[j]? = some v → Value.okWide Try.prog W .any base t v := hval0
  have hW' := hW
  obtain ⟨p, q, hA0, hV, rfl, hfz, hnd⟩ := hW
  have hA : DataW.TrodAll enc Try.prog W 0 (fun _ => true) true Try.f5.params.toList args.toList ds p := hA0
  rw [Try.params5] at hA hval
  obtain ⟨v0, vs0, d0, ds0, p0, q0, hargs, rfl, rfl, h0, r0⟩ := trodAll_cons hA
  obtain ⟨v1, vs1, d1, ds1, p1, q1, rfl, rfl, rfl, h1, r1⟩ := trodAll_cons r0
  obtain ⟨rfl, rfl, rfl⟩ := trodAll_nil r1
  obtain rfl : args = #[v0, v1] := by cases args; simp_all
  obtain ⟨rfl, rfl⟩ := trodVars_none hV
  have k0 := h0
  have lt0 : ∀ x ∈ p0, x.block < W.heap.size := by obtain ⟨m, hm⟩ := k0; exact DataW.trod_lt m _ _ _ hm
  obtain ⟨a1, len1, cap1, rfl⟩ := okWide_slice Try.underlying36 (hval 1 36 v1 rfl rfl)
  have k1 := h1
  have lt1 : ∀ x ∈ p1, x.block < W.heap.size := by obtain ⟨m, hm⟩ := k1; exact DataW.trod_lt m _ _ _ hm
  obtain ⟨z1, w1⟩ : ∃ l, RdW W a1 len1 cap1 l := by
    obtain ⟨fuel, hf⟩ := h1
    obtain ⟨x, ln, cp, l, hcs, hr⟩ := open_trows hf
    simp [Value.cells] at hcs
    obtain ⟨rfl, rfl, rfl⟩ := hcs
    exact ⟨l, hr⟩
  obtain ⟨z0, rfl, rfl, rfl, w0⟩ := open_int Try.underlying3 (hval 0 3 v0 rfl rfl) h0
  clear hA0 hval0
  refine (twineJoinsW z0 a1 len1 cap1 z1 W w1).mono fun e W' ⟨he, bel⟩ => ?_
  subst he
  exact ⟨_, rfl, _, _, _, [], _, [], hW', trodAll_mk1 (shut_bool Try.underlying4 _), (trodAll_cons_mk (Below.trod laidOut (by kernel_rfl) (of_decide_eq_true (by kernel_rfl)) k0 bel lt0) (trodAll_cons_mk (Below.trod laidOut (by kernel_rfl) (of_decide_eq_true (by kernel_rfl)) k1 bel lt1) trodAll_mk0)), rfl, bel.frame _, fun h => by cases h⟩

theorem over : Rows.twineJoinsRow.holds Try.pinned (OpenSpec.ofChange Rows.twineJoinsSpec) :=
  OpenClaim.holds_of_wide 5 Try.f5 rfl rfl rfl rfl rfl rfl rfl ⟨rfl, rfl, rfl, rfl, rfl⟩ rfl rfl rfl rfl rfl (by kernel_rfl) Try.func5 (by kernel_rfl)
    (of_decide_eq_true (by kernel_rfl)) (by unfold Func.isWrapper; first | (rw [if_pos (by decide +kernel)]; kernel_rfl) | (rw [if_neg (by decide +kernel)]; exact ⟨rfl, rfl⟩))
    (fun os started H enc _ => lifted os started H enc)

/-- ████ THE STATEMENT ████ -/
theorem proved : Rows.TwineJoinsSaid := over
#print axioms proved
end Go.Proofs.Ytljlioglpaogdab.twineJoins
