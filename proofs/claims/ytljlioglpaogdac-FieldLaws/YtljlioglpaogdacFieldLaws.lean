/- croftkeep.FieldLaws answers true whatever a, b and c are: sums and products by P are those of a field, FERMAT's law among them. No condition. The frame below the walk is the guide's shell (proof-skeleton), written by program. -/
import Derived.Test.YtljlioglpaogdacFieldC
import Derived.Test.YtljlioglpaogdacRows
import Derived.WalkKit
import Derived.ProofKit
import Derived.OpenShut
import Derived.ShutString
namespace Go.Proofs.Ytljlioglpaogdac.fieldLaws
open Go.ChangeShapes Go.WideShapes Go.ChangeAt Go.RowKit Crm
open Go.ChangeMaps (open_string shut_string)
set_option linter.unusedVariables false      -- a walk need not use every 'w<i>' (that an integer argument fits its kind)

theorem own : ownKnob Try.prog.godebug = none := by kernel_rfl

theorem ne_no {a b : Int} (h : a = b) : (a != b) = false := by rw [h]; simp
theorem law1 (a b : Int) : (nm (a + b) != nm (b + a)) = false := ne_no (by rw [Int.add_comm])
theorem law2 (a b : Int) : (nm (a * b) != nm (b * a)) = false := ne_no (by rw [Int.mul_comm])
theorem law3 (a b : Int) : (nm (nm (a - b) + b) != nm a) = false := ne_no (by rw [nm_addl, Int.sub_add_cancel])
theorem law5 (a b c : Int) : (nm (a * nm (b * c)) != nm (nm (a * b) * c)) = false := ne_no (by rw [nm_mulr, nm_mull, Int.mul_assoc])
theorem law6 (a b c : Int) : (nm (a * nm (b + c)) != nm (nm (a * b) + nm (a * c))) = false := ne_no (by rw [nm_mulr, nm_addl, nm_addr, Int.mul_add])
theorem law7 (a : Int) : (pw a 2147483647 != nm a) = false := ne_no (fermat_pw a)
theorem law8 {a : Int} (h : nm a ≠ 0) : (nm (a * iv a) == 1) = true := by rw [mul_iv h]; rfl

/-! ### STEP 1: THE WALK: the Go text returns true. 'Grown w w'': the world has at most new blocks (Derived/RowKit3.lean). Part the cases AHEAD of 'go_enter' where a test parts the walk; take each callee by a contract of your own. -/
set_option maxRecDepth 100000 in
theorem walk (a0 : Int) (a1 : Int) (a2 : Int) (w0 : (Lit.int .u64 a0).wf = true) (w1 : (Lit.int .u64 a1).wf = true) (w2 : (Lit.int .u64 a2).wf = true) (w : World) :
    Calls Try.prog 5 #[.int .u64 a0, .int .u64 a1, .int .u64 a2] w fun e w' => e = .returned (.bool true) ∧ Grown w w' := by
  have b0 := bounds_u64 w0
  have b1 := bounds_u64 w1
  have b2 := bounds_u64 w2
  have c0 := nm_bd a0
  have c1 := nm_bd (a0 - a1)
  have c2 := nm_bd (a1 * a2)
  have c3 := nm_bd (a0 * a1)
  have c4 := nm_bd (a1 + a2)
  have c5 := nm_bd (a0 * a2)
  have c6 := iv_bd a0
  have k1 : nm 2147483648 = 1 := rfl
  have k2 : nm (-1) = 2147483646 := rfl
  have l1 : (nm (a0 + a1) != nm (a1 + a0)) = false := law1 _ _
  have l2 : (nm (a0 * a1) != nm (a1 * a0)) = false := law2 _ _
  have l3 : (nm (nm (a0 - a1) + a1) != nm a0) = false := law3 _ _
  have l5 : (nm (a0 * nm (a1 * a2)) != nm (nm (a0 * a1) * a2)) = false := law5 _ _ _
  have l6 : (nm (a0 * nm (a1 + a2)) != nm (nm (a0 * a1) + nm (a0 * a2))) = false := law6 _ _ _
  have l7 : (pw a0 2147483647 != nm a0) = false := law7 _
  by_cases hz : nm a0 = 0
  · have hz2 : (nm a0 == 0) = true := by rw [hz]; rfl
    have HZ : Hid (nm a0 = 0) := hz
    clear hz
    go_enter Try.func5, Try.ntmps5
    go_wp2_with (first | (go_at_call 37; refine (fInv0 _ _ (by omega) (by omega) HZ.out).mono ?_; rintro e w' ⟨rfl, rfl⟩) | (go_at_call 35; refine (fNorm _ _ (by omega) (by omega)).mono ?_; rintro e w' ⟨rfl, rfl⟩) | (go_at_call 34; refine (fAdd _ _ _ (by omega) (by omega) (by omega) (by omega)).mono ?_; rintro e w' ⟨rfl, rfl⟩) | (go_at_call 33; refine (fSub _ _ _ (by omega) (by omega) (by omega) (by omega)).mono ?_; rintro e w' ⟨rfl, rfl⟩) | (go_at_call 32; refine (fMul _ _ _ (by omega) (by omega) (by omega) (by omega)).mono ?_; rintro e w' ⟨rfl, rfl⟩) | (go_at_call 36; refine (fPow _ _ _ (by omega) (by omega) (by omega) (by omega)).mono ?_; rintro e w' ⟨rfl, rfl⟩))
    go_ret
    exact ⟨rfl, Grown.refl _⟩
  · have hz2 : (nm a0 == 0) = false := by rw [beq_eq_false_iff_ne]; exact hz
    have l8 : (nm (a0 * iv a0) == 1) = true := law8 hz
    have HZ : Hid (nm a0 ≠ 0) := hz
    clear hz
    go_enter Try.func5, Try.ntmps5
    go_wp2_with (first | (go_at_call 37; refine (fInv1 _ _ (by omega) (by omega) HZ.out).mono ?_; rintro e w' ⟨rfl, rfl⟩) | (go_at_call 35; refine (fNorm _ _ (by omega) (by omega)).mono ?_; rintro e w' ⟨rfl, rfl⟩) | (go_at_call 34; refine (fAdd _ _ _ (by omega) (by omega) (by omega) (by omega)).mono ?_; rintro e w' ⟨rfl, rfl⟩) | (go_at_call 33; refine (fSub _ _ _ (by omega) (by omega) (by omega) (by omega)).mono ?_; rintro e w' ⟨rfl, rfl⟩) | (go_at_call 32; refine (fMul _ _ _ (by omega) (by omega) (by omega) (by omega)).mono ?_; rintro e w' ⟨rfl, rfl⟩) | (go_at_call 36; refine (fPow _ _ _ (by omega) (by omega) (by omega) (by omega)).mono ?_; rintro e w' ⟨rfl, rfl⟩))
    go_ret
    exact ⟨rfl, Grown.refl _⟩

/-! ### THE ROW's STEP: WRITTEN OUT: LEAVE IT -/
set_option maxRecDepth 100000 in
theorem lifted (os : Os) (started : os.Started) (H : Type) (enc : TypeId × Value → H) :
    ReturnsInHanded {} Try.checked os 5 .any (Rows.fieldLawsSpec.pre6 enc Try.prog Try.f5 Rows.fieldLawsRow.domain false) (Rows.fieldLawsSpec.post enc Try.prog Try.f5 false true false false) := by
  refine returnsInHanded_of_change (C := Try.checked) own started (by kernel_rfl) Try.func5
    (ChangeSpec.witness6 (enc := enc) (C := Try.checked) false ⟨#[], #[.int .u64 0, .int .u64 0, .int .u64 0], []⟩ 8 (by kernel_rfl) (by kernel_rfl) (by kernel_rfl) (by kernel_rfl)) ?_
  intro W base args ds gs before hval0 hW hcnd _
  have hval : ∀ (j : Nat) t v, Try.f5.params[j]? = some t → args[j]? = some v → Value.okWide Try.prog W .any base t v := hval0
  have hW' := hW
  obtain ⟨p, q, hA0, hV, rfl, hfz, hnd⟩ := hW
  have hA : DataW.TrodAll enc Try.prog W 0 (fun _ => true) true Try.f5.params.toList args.toList ds p := hA0
  rw [Try.params5] at hA hval
  obtain ⟨v0, vs0, d0, ds0, p0, q0, hargs, rfl, rfl, h0, r0⟩ := trodAll_cons hA
  obtain ⟨v1, vs1, d1, ds1, p1, q1, rfl, rfl, rfl, h1, r1⟩ := trodAll_cons r0
  obtain ⟨v2, vs2, d2, ds2, p2, q2, rfl, rfl, rfl, h2, r2⟩ := trodAll_cons r1
  obtain ⟨rfl, rfl, rfl⟩ := trodAll_nil r2
  obtain rfl : args = #[v0, v1, v2] := by cases args; simp_all
  obtain ⟨rfl, rfl⟩ := trodVars_none hV
  obtain ⟨a0, rfl, rfl, rfl, w0⟩ := open_int Try.underlying23 (hval 0 23 v0 rfl rfl) h0
  obtain ⟨a1, rfl, rfl, rfl, w1⟩ := open_int Try.underlying23 (hval 1 23 v1 rfl rfl) h1
  obtain ⟨a2, rfl, rfl, rfl, w2⟩ := open_int Try.underlying23 (hval 2 23 v2 rfl rfl) h2
  clear hA0 hval0
  simp only [List.append_nil] at hW'
  refine (walk a0 a1 a2 w0 w1 w2 W).mono fun e W' ⟨he, hg⟩ => ?_
  subst he
  exact ⟨_, rfl, post_of_same (pa := []) (pv := []) hW' (fun _ _ _ => (trodAll_cons_mk (shut_bool Try.underlying4 _) trodAll_mk0)) (fun sp _ => (trodAll_cons_mk (shut_int Try.underlying23 w0) (trodAll_cons_mk (shut_int Try.underlying23 w1) (trodAll_cons_mk (shut_int Try.underlying23 w2) trodAll_mk0)))) (fun _ _ => rfl) rfl
    (hg.frame _) hg.2.1 (ok_one (by kernel_rfl) rfl (okWide_bool_mk Try.underlying4 _))⟩

theorem over : Rows.fieldLawsRow.holds Try.pinned (OpenSpec.ofChange Rows.fieldLawsSpec) :=
  OpenClaim.holds_of_wide 5 Try.f5 rfl rfl rfl rfl rfl rfl rfl ⟨rfl, rfl, rfl, rfl, rfl⟩ rfl rfl rfl rfl rfl (by kernel_rfl) Try.func5 (by kernel_rfl)
    (of_decide_eq_true (by kernel_rfl)) (by unfold Func.isWrapper; first | (rw [if_pos (by decide +kernel)]; kernel_rfl) | (rw [if_neg (by decide +kernel)]; exact ⟨rfl, rfl⟩))
    (fun os started H enc _ => lifted os started H enc)

/-- ████ THE STATEMENT ████ -/
theorem proved : Rows.FieldLawsSaid :=
  over
#print axioms proved
end Go.Proofs.Ytljlioglpaogdac.fieldLaws
