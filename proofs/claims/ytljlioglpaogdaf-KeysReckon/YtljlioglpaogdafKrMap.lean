/- croftkeep.KeysReckon: the map literal: its five entries may be laid in any order. (Print of wip/tpl/gen/mkkr.py.) -/
import Derived.Test.YtljlioglpaogdafRegC
import Derived.Test.YtljlioglpaogdafMapU
import Derived.Test.YtljlioglpaogdafToCheckC
import Derived.Deep.RegionHeld3
import Derived.Below
namespace Go.Proofs.Ytljlioglpaogdaf
set_option linter.unusedVariables false
set_option maxRecDepth 100000
set_option maxHeartbeats 8000000
section
open Crm Go.Maps Go.RowKit
/-! Slots. -/
theorem put_size (a : Act) (d : Option Tmp) (v : Value) : (a.put d v).tmps.size = a.tmps.size := by
  cases d with
  | none => rfl
  | some d => simp [Act.put]
theorem put_same {a : Act} {d : Nat} (v : Value) (h : d < a.tmps.size) : (a.put (some d) v).eval (.tmp d) = v := by simp [Act.put, Act.eval, h]
theorem put_other {a : Act} {d t : Nat} (v : Value) (h : d ≠ t) : (a.put (some d) v).eval (.tmp t) = a.eval (.tmp t) := Act.eval_put fun e he => by
  obtain rfl := Option.some.inj he
  intro hx
  injection hx with hx
  exact h hx.symm
/-- A move, or an assignment, taken ahead of its turn. -/
theorem any_move {P : Program} {ops : Array Oper} {Q : Exit → Act → World → Prop} {o : Oper} {i fuel d : Nat} {listed : Array Bool} {a : Act} {w : World} {x : Operand} (v : Value) (hi : ops[i]? = some o) (ho : o.op = .move x ∨ o.op = .assign x) (hd : o.dst = some d) (hg : o.guard = none)
    (hs : Region.noSelect ops = true) (hf : Region.free .any ops listed i = true) (hr : (Region.ready .any ops listed).contains i = true) (hv : a.eval x = v) (g : wpAny P .any ops (NoPanic Q) fuel (listed.setIfInBounds i true) (a.put (some d) v) w) : wpAny P .any ops (NoPanic Q) (fuel + 1) listed a w := by
  rw [← hd] at g
  refine wpAny_take hi hs hf hr (fun _ _ _ h => h) (.inl ⟨by simp [Region.wanted, hg], fun w => ?_⟩) g
  rcases ho with ho | ho <;> (unfold execOp; simp only [ho, hv]; rfl)
/-- A call that only reads. -/
theorem any_call {P : Program} {ops : Array Oper} {Q : Exit → Act → World → Prop} {o : Oper} {i fuel d n x y : Nat} {ts : Array TypeId} {listed : Array Bool} {a : Act} {w : World} {u z : Value} (v : Value) (hi : ops[i]? = some o) (ho : o.op = .call { callee := .value (.func n), args := #[.tmp x, .tmp y], argTypes := ts }) (hd : o.dst = some d) (hg : o.guard = none)
    (hs : Region.noSelect ops = true) (hf : Region.free .any ops listed i = true) (hr : (Region.ready .any ops listed).contains i = true) (hu : a.eval (.tmp x) = u) (hz : a.eval (.tmp y) = z) (hcf : ∀ w, (callFunc n #[u, z]).run P w = .ok (.enter n #[u, z]) w) (hc : ∀ w, Calls P n #[u, z] w fun e w' => e = .returned v ∧ w' = w)
    (g : wpAny P .any ops (NoPanic Q) fuel (listed.setIfInBounds i true) (a.put (some d) v) w) : wpAny P .any ops (NoPanic Q) (fuel + 1) listed a w := by
  rw [← hd] at g
  refine wpAny_early hi hs hf hr (fun _ _ _ h => h) ⟨by simp [Region.wanted, hg], n, #[u, z], fun w => ⟨?_, hc w⟩⟩ g
  have e : execOp a.eval o = callFunc n (#[] ++ #[Operand.tmp x, Operand.tmp y].map a.eval ++ #[]) := by
    obtain ⟨dst, op, ty, pos, after, guard⟩ := o
    simp only at ho
    subst ho
    rfl
  have e2 : (#[] ++ #[Operand.tmp x, Operand.tmp y].map a.eval ++ #[] : Array Value) = #[u, z] := by simp [hu, hz]
  rw [e, e2]
  exact hcf w

/-! The region. -/
def pickR : Code → Option (Array Oper)
  | .region n ops _ => if n = 25 then some ops else none
  | .block _ c => pickR c
  | .loop c => pickR c
  | .scope c => pickR c
  | .seq a b => match pickR a with
    | some x => some x
    | none => pickR b
  | .cond _ a b => match pickR a with
    | some x => some x
    | none => pickR b
  | _ => none
theorem krSel : Region.noSelect ((Try.f3.body.bind pickR).getD #[]) = true := by kernel_rfl

/-- The map's entries as far as they are laid. -/
def krG (v1 v2 v3 v4 v5 : Int) (b1 b2 b3 b4 b5 : Bool) : Int → Option Int := fun k => if k = 1 then (if b1 then some v1 else none) else if k = 2 then (if b2 then some v2 else none) else if k = 3 then (if b3 then some v3 else none) else if k = 4 then (if b4 then some v4 else none) else if k = 5 then (if b5 then some v5 else none) else none
theorem krG1 (v1 v2 v3 v4 v5 : Int) (b2 b3 b4 b5 : Bool) : uset (krG v1 v2 v3 v4 v5 false b2 b3 b4 b5) 1 (some v1) = krG v1 v2 v3 v4 v5 true b2 b3 b4 b5 ∧ krG v1 v2 v3 v4 v5 false b2 b3 b4 b5 1 = none := by
  refine ⟨funext fun k => ?_, by simp [krG]⟩
  unfold uset krG
  by_cases h : k = 1
  · subst h; simp
  · simp only [if_neg h]
theorem krG2 (v1 v2 v3 v4 v5 : Int) (b1 b3 b4 b5 : Bool) : uset (krG v1 v2 v3 v4 v5 b1 false b3 b4 b5) 2 (some v2) = krG v1 v2 v3 v4 v5 b1 true b3 b4 b5 ∧ krG v1 v2 v3 v4 v5 b1 false b3 b4 b5 2 = none := by
  refine ⟨funext fun k => ?_, by simp [krG]⟩
  unfold uset krG
  by_cases h : k = 2
  · subst h; simp
  · simp only [if_neg h]
theorem krG3 (v1 v2 v3 v4 v5 : Int) (b1 b2 b4 b5 : Bool) : uset (krG v1 v2 v3 v4 v5 b1 b2 false b4 b5) 3 (some v3) = krG v1 v2 v3 v4 v5 b1 b2 true b4 b5 ∧ krG v1 v2 v3 v4 v5 b1 b2 false b4 b5 3 = none := by
  refine ⟨funext fun k => ?_, by simp [krG]⟩
  unfold uset krG
  by_cases h : k = 3
  · subst h; simp
  · simp only [if_neg h]
theorem krG4 (v1 v2 v3 v4 v5 : Int) (b1 b2 b3 b5 : Bool) : uset (krG v1 v2 v3 v4 v5 b1 b2 b3 false b5) 4 (some v4) = krG v1 v2 v3 v4 v5 b1 b2 b3 true b5 ∧ krG v1 v2 v3 v4 v5 b1 b2 b3 false b5 4 = none := by
  refine ⟨funext fun k => ?_, by simp [krG]⟩
  unfold uset krG
  by_cases h : k = 4
  · subst h; simp
  · simp only [if_neg h]
theorem krG5 (v1 v2 v3 v4 v5 : Int) (b1 b2 b3 b4 : Bool) : uset (krG v1 v2 v3 v4 v5 b1 b2 b3 b4 false) 5 (some v5) = krG v1 v2 v3 v4 v5 b1 b2 b3 b4 true ∧ krG v1 v2 v3 v4 v5 b1 b2 b3 b4 false 5 = none := by
  refine ⟨funext fun k => ?_, by simp [krG]⟩
  unfold uset krG
  by_cases h : k = 5
  · subst h; simp
  · simp only [if_neg h]
def krL (b1 b2 b3 b4 b5 : Bool) : Array Bool := #[true, true, true, b1, true, true, b2, true, true, true, true, b3, true, true, true, true, true, true, true, true, b4, true, true, true, true, b5, false, false]
def krN (b : Bool) : Nat := if b then 0 else 1
def krC (b : Bool) : Nat := if b then 1 else 0
theorem krReady (b1 b2 b3 b4 b5 : Bool) : ∀ i ∈ Region.ready .any ((Try.f3.body.bind pickR).getD #[]) (krL b1 b2 b3 b4 b5), (i = 3 ∧ b1 = false) ∨ (i = 6 ∧ b2 = false) ∨ (i = 11 ∧ b3 = false) ∨ (i = 20 ∧ b4 = false) ∨ (i = 25 ∧ b5 = false) ∨ (i = 26 ∧ b1 = true ∧ b2 = true ∧ b3 = true ∧ b4 = true ∧ b5 = true) := by
  have e : ∀ b1 b2 b3 b4 b5 : Bool, Region.ready .any ((Try.f3.body.bind pickR).getD #[]) (krL b1 b2 b3 b4 b5) = (if b1 && b2 && b3 && b4 && b5 then [26] else (if b1 then [] else [3]) ++ (if b2 then [] else [6]) ++ (if b3 then [] else [11]) ++ (if b4 then [] else [20]) ++ (if b5 then [] else [25])) := by
    intro b1 b2 b3 b4 b5
    cases b1 <;> cases b2 <;> cases b3 <;> cases b4 <;> cases b5 <;> kernel_rfl
  rw [e]
  cases b1 <;> cases b2 <;> cases b3 <;> cases b4 <;> cases b5 <;> simp
theorem krNotDone (b1 b2 b3 b4 b5 : Bool) : Region.ready .any ((Try.f3.body.bind pickR).getD #[]) (krL b1 b2 b3 b4 b5) ≠ [] := by
  have e : ∀ b1 b2 b3 b4 b5 : Bool, (Region.ready .any ((Try.f3.body.bind pickR).getD #[]) (krL b1 b2 b3 b4 b5)).isEmpty = false := by
    intro b1 b2 b3 b4 b5
    cases b1 <;> cases b2 <;> cases b3 <;> cases b4 <;> cases b5 <;> kernel_rfl
  intro h
  have := e b1 b2 b3 b4 b5
  rw [h] at this
  cases this
theorem krO1 : ∃ o, ((Try.f3.body.bind pickR).getD #[])[3]? = some o ∧ o.dst = none ∧ o.guard = none ∧ o.op = .insert 40 (.tmp 183) (.tmp 184) (.tmp 185) := ⟨(((Try.f3.body.bind pickR).getD #[])[3]?).getD ⟨none, .move (.tmp 0), 0, "", #[], none⟩, by kernel_rfl, by kernel_rfl, by kernel_rfl, by kernel_rfl⟩
theorem krO2 : ∃ o, ((Try.f3.body.bind pickR).getD #[])[6]? = some o ∧ o.dst = none ∧ o.guard = none ∧ o.op = .insert 40 (.tmp 183) (.tmp 186) (.tmp 187) := ⟨(((Try.f3.body.bind pickR).getD #[])[6]?).getD ⟨none, .move (.tmp 0), 0, "", #[], none⟩, by kernel_rfl, by kernel_rfl, by kernel_rfl, by kernel_rfl⟩
theorem krO3 : ∃ o, ((Try.f3.body.bind pickR).getD #[])[11]? = some o ∧ o.dst = none ∧ o.guard = none ∧ o.op = .insert 40 (.tmp 183) (.tmp 188) (.tmp 191) := ⟨(((Try.f3.body.bind pickR).getD #[])[11]?).getD ⟨none, .move (.tmp 0), 0, "", #[], none⟩, by kernel_rfl, by kernel_rfl, by kernel_rfl, by kernel_rfl⟩
theorem krO4 : ∃ o, ((Try.f3.body.bind pickR).getD #[])[20]? = some o ∧ o.dst = none ∧ o.guard = none ∧ o.op = .insert 40 (.tmp 183) (.tmp 192) (.tmp 199) := ⟨(((Try.f3.body.bind pickR).getD #[])[20]?).getD ⟨none, .move (.tmp 0), 0, "", #[], none⟩, by kernel_rfl, by kernel_rfl, by kernel_rfl, by kernel_rfl⟩
theorem krO5 : ∃ o, ((Try.f3.body.bind pickR).getD #[])[25]? = some o ∧ o.dst = none ∧ o.guard = none ∧ o.op = .insert 40 (.tmp 183) (.tmp 200) (.tmp 203) := ⟨(((Try.f3.body.bind pickR).getD #[])[25]?).getD ⟨none, .move (.tmp 0), 0, "", #[], none⟩, by kernel_rfl, by kernel_rfl, by kernel_rfl, by kernel_rfl⟩
/-- One entry is laid. -/
theorem krOne {Q : Exit → Act → World → Prop} {o : Oper} {i x y bm q : Nat} {a : Act} {w : World} {k v : Int} {g : Int → Option Int} {K : Act → World → Prop} (hi : ((Try.f3.body.bind pickR).getD #[])[i]? = some o) (hd : o.dst = none) (hg : o.guard = none) (ho : o.op = .insert 40 (.tmp 183) (.tmp x) (.tmp y)) (e0 : a.eval (.tmp 183) = .map (some bm)) (e1 : a.eval (.tmp x) = .int .i64 k) (e2 : a.eval (.tmp y) = .int .u64 v)
    (hM : MapU w bm q g) (hq : q ≤ 1000) (hk : i64r k) (hv : 0 ≤ v ∧ v ≤ 18446744073709551615) (hn : g k = none) (hK : ∀ w', MapU w' bm (q + 1) (uset g k (some v)) → w.grownBy w' (some bm) → K a w') : wpOp Try.prog ((Try.f3.body.bind pickR).getD #[]) (NoPanic Q) i K a w := by
  obtain ⟨w', hrun, hM', hgr⟩ := hM.store (t := 40) Try.underlying40 hq hk hv
  rw [hn, if_neg (by simp)] at hM'
  unfold wpOp
  simp only [hi]
  rw [if_pos (by simp [Region.wanted, hg])]
  left
  unfold Oper.wp execOp
  simp only [ho, e0, e1, e2]
  have e : Sem.run Try.prog (do Instr.mapUpdate 40 (.map (some bm)) (.int .i64 k) (.int .u64 v); pure Next.skip) w = .ok Next.skip w' := by
    simp [hrun, Result.andThen]
  rw [e, Oper.upon_skip, hd]
  exact hK w' hM' hgr

/-- The five entries, whatever their order. -/
theorem krIns {Q : Exit → Act → World → Prop} {a : Act} {w0 : World} {bm : Nat} {v1 v2 v3 v4 v5 : Int} (hbm : w0.heap.size ≤ bm) (e0 : a.eval (.tmp 183) = .map (some bm)) (k1 : a.eval (.tmp 184) = .int .i64 1) (x1 : a.eval (.tmp 185) = .int .u64 v1) (b1 : 0 ≤ v1 ∧ v1 ≤ 18446744073709551615) (k2 : a.eval (.tmp 186) = .int .i64 2) (x2 : a.eval (.tmp 187) = .int .u64 v2) (b2 : 0 ≤ v2 ∧ v2 ≤ 18446744073709551615) (k3 : a.eval (.tmp 188) = .int .i64 3) (x3 : a.eval (.tmp 191) = .int .u64 v3) (b3 : 0 ≤ v3 ∧ v3 ≤ 18446744073709551615) (k4 : a.eval (.tmp 192) = .int .i64 4) (x4 : a.eval (.tmp 199) = .int .u64 v4) (b4 : 0 ≤ v4 ∧ v4 ≤ 18446744073709551615) (k5 : a.eval (.tmp 200) = .int .i64 5) (x5 : a.eval (.tmp 203) = .int .u64 v5) (b5 : 0 ≤ v5 ∧ v5 ≤ 18446744073709551615)
    (H : ∀ w', MapU w' bm 5 (krG v1 v2 v3 v4 v5 true true true true true) → Below w0.heap.size w0 w' → wpAny Try.prog .any ((Try.f3.body.bind pickR).getD #[]) (NoPanic Q) 2 (krL true true true true true) a w') :
    ∀ (n : Nat) (c1 c2 c3 c4 c5 : Bool) (w : World), krN c1 + krN c2 + krN c3 + krN c4 + krN c5 = n → MapU w bm (krC c1 + krC c2 + krC c3 + krC c4 + krC c5) (krG v1 v2 v3 v4 v5 c1 c2 c3 c4 c5) → Below w0.heap.size w0 w → wpAny Try.prog .any ((Try.f3.body.bind pickR).getD #[]) (NoPanic Q) (2 + n) (krL c1 c2 c3 c4 c5) a w := by
  intro n
  induction n with
  | zero =>
    intro c1 c2 c3 c4 c5 w hn hM hb
    obtain ⟨rfl, rfl, rfl, rfl, rfl⟩ : c1 = true ∧ c2 = true ∧ c3 = true ∧ c4 = true ∧ c5 = true := by
      unfold krN at hn
      refine ⟨?_, ?_, ?_, ?_, ?_⟩ <;> (cases c1 <;> cases c2 <;> cases c3 <;> cases c4 <;> cases c5 <;> simp at hn ⊢)
    exact H w hM hb
  | succ n ih =>
    intro c1 c2 c3 c4 c5 w hn hM hb
    refine ⟨fun h => absurd h (krNotDone _ _ _ _ _), fun i hi => ?_⟩
    rcases krReady _ _ _ _ _ i hi with ⟨rfl, rfl⟩ | ⟨rfl, rfl⟩ | ⟨rfl, rfl⟩ | ⟨rfl, rfl⟩ | ⟨rfl, rfl⟩ | ⟨_, rfl, rfl, rfl, rfl, rfl⟩
    · obtain ⟨o, p1, p2, p3, p4⟩ := krO1
      obtain ⟨g1, g2⟩ := krG1 v1 v2 v3 v4 v5 c2 c3 c4 c5
      refine krOne p1 p2 p3 p4 e0 k1 x1 hM (by unfold krC; cases c2 <;> cases c3 <;> cases c4 <;> cases c5 <;> simp) ⟨by omega, by omega⟩ b1 g2 fun w' hM' hg => ?_
      rw [g1] at hM'
      refine ih true c2 c3 c4 c5 w' ?_ ?_ (hb.grown hg hb.size (fun k hk => by simp at hk; omega))
      · simp only [krN, Bool.false_eq_true, if_false, if_true] at hn ⊢; omega
      · have e : krC true + krC c2 + krC c3 + krC c4 + krC c5 = krC false + krC c2 + krC c3 + krC c4 + krC c5 + 1 := by simp only [krC, Bool.false_eq_true, if_false, if_true]; try omega
        rw [e]; exact hM'
    · obtain ⟨o, p1, p2, p3, p4⟩ := krO2
      obtain ⟨g1, g2⟩ := krG2 v1 v2 v3 v4 v5 c1 c3 c4 c5
      refine krOne p1 p2 p3 p4 e0 k2 x2 hM (by unfold krC; cases c1 <;> cases c3 <;> cases c4 <;> cases c5 <;> simp) ⟨by omega, by omega⟩ b2 g2 fun w' hM' hg => ?_
      rw [g1] at hM'
      refine ih c1 true c3 c4 c5 w' ?_ ?_ (hb.grown hg hb.size (fun k hk => by simp at hk; omega))
      · simp only [krN, Bool.false_eq_true, if_false, if_true] at hn ⊢; omega
      · have e : krC c1 + krC true + krC c3 + krC c4 + krC c5 = krC c1 + krC false + krC c3 + krC c4 + krC c5 + 1 := by simp only [krC, Bool.false_eq_true, if_false, if_true]; try omega
        rw [e]; exact hM'
    · obtain ⟨o, p1, p2, p3, p4⟩ := krO3
      obtain ⟨g1, g2⟩ := krG3 v1 v2 v3 v4 v5 c1 c2 c4 c5
      refine krOne p1 p2 p3 p4 e0 k3 x3 hM (by unfold krC; cases c1 <;> cases c2 <;> cases c4 <;> cases c5 <;> simp) ⟨by omega, by omega⟩ b3 g2 fun w' hM' hg => ?_
      rw [g1] at hM'
      refine ih c1 c2 true c4 c5 w' ?_ ?_ (hb.grown hg hb.size (fun k hk => by simp at hk; omega))
      · simp only [krN, Bool.false_eq_true, if_false, if_true] at hn ⊢; omega
      · have e : krC c1 + krC c2 + krC true + krC c4 + krC c5 = krC c1 + krC c2 + krC false + krC c4 + krC c5 + 1 := by simp only [krC, Bool.false_eq_true, if_false, if_true]; try omega
        rw [e]; exact hM'
    · obtain ⟨o, p1, p2, p3, p4⟩ := krO4
      obtain ⟨g1, g2⟩ := krG4 v1 v2 v3 v4 v5 c1 c2 c3 c5
      refine krOne p1 p2 p3 p4 e0 k4 x4 hM (by unfold krC; cases c1 <;> cases c2 <;> cases c3 <;> cases c5 <;> simp) ⟨by omega, by omega⟩ b4 g2 fun w' hM' hg => ?_
      rw [g1] at hM'
      refine ih c1 c2 c3 true c5 w' ?_ ?_ (hb.grown hg hb.size (fun k hk => by simp at hk; omega))
      · simp only [krN, Bool.false_eq_true, if_false, if_true] at hn ⊢; omega
      · have e : krC c1 + krC c2 + krC c3 + krC true + krC c5 = krC c1 + krC c2 + krC c3 + krC false + krC c5 + 1 := by simp only [krC, Bool.false_eq_true, if_false, if_true]; try omega
        rw [e]; exact hM'
    · obtain ⟨o, p1, p2, p3, p4⟩ := krO5
      obtain ⟨g1, g2⟩ := krG5 v1 v2 v3 v4 v5 c1 c2 c3 c4
      refine krOne p1 p2 p3 p4 e0 k5 x5 hM (by unfold krC; cases c1 <;> cases c2 <;> cases c3 <;> cases c4 <;> simp) ⟨by omega, by omega⟩ b5 g2 fun w' hM' hg => ?_
      rw [g1] at hM'
      refine ih c1 c2 c3 c4 true w' ?_ ?_ (hb.grown hg hb.size (fun k hk => by simp at hk; omega))
      · simp only [krN, Bool.false_eq_true, if_false, if_true] at hn ⊢; omega
      · have e : krC c1 + krC c2 + krC c3 + krC c4 + krC true = krC c1 + krC c2 + krC c3 + krC c4 + krC false + 1 := by simp only [krC, Bool.false_eq_true, if_false, if_true]; try omega
        rw [e]; exact hM'
    · simp [krN] at hn

theorem krReg {Q : Exit → Act → World → Prop} {a : Act} {w : World} {v1 v2 va vb : Int} (hsz : 205 ≤ a.tmps.size) (e4 : a.eval (.tmp 4) = .int .u64 va) (e5 : a.eval (.tmp 5) = .int .u64 vb) (e19 : a.eval (.tmp 19) = .int .i64 1) (e20 : a.eval (.tmp 20) = .int .i64 2) (e22 : a.eval (.tmp 22) = .int .u64 v1) (e24 : a.eval (.tmp 24) = .int .u64 v2) (e26 : a.eval (.tmp 26) = .int .i64 3) (e27 : a.eval (.tmp 27) = .int .i64 4) (e28 : a.eval (.tmp 28) = .int .i64 5)
    (h1 : 0 ≤ v1 ∧ v1 ≤ 2147483646) (h2 : 0 ≤ v2 ∧ v2 ≤ 2147483646) (ha : 0 ≤ va ∧ va ≤ 18446744073709551615) (hb : 0 ≤ vb ∧ vb ≤ 18446744073709551615)
    (hK : Hid (∀ w', MapU w' w.heap.size 5 (krG v1 v2 (nm (v1 + va)) (nm (nm (va * v1) + nm (vb * v2))) (nm (v1 * v2)) true true true true true) → Below w.heap.size w w' → Q .normal ((((((((((((((((((((((((a).put (some 184) (.int .i64 1)).put (some 185) (.int .u64 v1)).put (some 186) (.int .i64 2)).put (some 187) (.int .u64 v2)).put (some 188) (.int .i64 3)).put (some 189) (.int .u64 v1)).put (some 190) (.int .u64 va)).put (some 192) (.int .i64 4)).put (some 193) (.int .u64 va)).put (some 194) (.int .u64 v1)).put (some 196) (.int .u64 vb)).put (some 197) (.int .u64 v2)).put (some 200) (.int .i64 5)).put (some 201) (.int .u64 v1)).put (some 202) (.int .u64 v2)).put (some 191) (.int .u64 (nm (v1 + va)))).put (some 195) (.int .u64 (nm (va * v1)))).put (some 198) (.int .u64 (nm (vb * v2)))).put (some 199) (.int .u64 (nm (nm (va * v1) + nm (vb * v2))))).put (some 203) (.int .u64 (nm (v1 * v2)))).put (some 183) (.map (some w.heap.size))).put (some 204) (.map (some w.heap.size))).put (some 29) (.map (some w.heap.size))) w')) :
    Code.wp Try.prog (Code.region 25 ((Try.f3.body.bind pickR).getD #[]) true) Q a w := by
  have n1 := nm_bd (va * v1)
  have n2 := nm_bd (vb * v2)
  have n3 := nm_bd (v1 + va)
  have n4 := nm_bd (nm (va * v1) + nm (vb * v2))
  have n5 := nm_bd (v1 * v2)
  refine wp_region_noPanic (wp_region_any (by kernel_rfl) ?_)
  have z : ((Try.f3.body.bind pickR).getD #[]).size = 28 := by kernel_rfl
  rw [z]
  refine any_move (o := (((Try.f3.body.bind pickR).getD #[])[1]?).getD ⟨none, .move (.tmp 0), 0, "", #[], none⟩) (i := 1) (d := 184) (x := .tmp 19) (.int .i64 1) (by kernel_rfl) (.inl (by kernel_rfl)) (by kernel_rfl) (by kernel_rfl) krSel (by kernel_rfl) (by kernel_rfl) e19 ?_
  obtain ⟨a1, A1⟩ : ∃ x, x = a.put (some 184) (.int .i64 1) := ⟨_, rfl⟩
  rw [← A1]
  have s1 : 205 ≤ a1.tmps.size := by rw [A1, put_size]; exact hsz
  have f1_20 : a1.eval (.tmp 20) = .int .i64 2 := by rw [A1, put_other _ (by decide)]; exact e20
  have f1_26 : a1.eval (.tmp 26) = .int .i64 3 := by rw [A1, put_other _ (by decide)]; exact e26
  have f1_27 : a1.eval (.tmp 27) = .int .i64 4 := by rw [A1, put_other _ (by decide)]; exact e27
  have f1_28 : a1.eval (.tmp 28) = .int .i64 5 := by rw [A1, put_other _ (by decide)]; exact e28
  have f1_22 : a1.eval (.tmp 22) = .int .u64 v1 := by rw [A1, put_other _ (by decide)]; exact e22
  have f1_24 : a1.eval (.tmp 24) = .int .u64 v2 := by rw [A1, put_other _ (by decide)]; exact e24
  have f1_4 : a1.eval (.tmp 4) = .int .u64 va := by rw [A1, put_other _ (by decide)]; exact e4
  have f1_5 : a1.eval (.tmp 5) = .int .u64 vb := by rw [A1, put_other _ (by decide)]; exact e5
  have f1_184 : a1.eval (.tmp 184) = .int .i64 1 := by rw [A1]; exact put_same _ (by omega)
  refine any_move (o := (((Try.f3.body.bind pickR).getD #[])[2]?).getD ⟨none, .move (.tmp 0), 0, "", #[], none⟩) (i := 2) (d := 185) (x := .tmp 22) (.int .u64 v1) (by kernel_rfl) (.inl (by kernel_rfl)) (by kernel_rfl) (by kernel_rfl) krSel (by kernel_rfl) (by kernel_rfl) f1_22 ?_
  obtain ⟨a2, A2⟩ : ∃ x, x = a1.put (some 185) (.int .u64 v1) := ⟨_, rfl⟩
  rw [← A2]
  have s2 : 205 ≤ a2.tmps.size := by rw [A2, put_size]; exact s1
  have f2_20 : a2.eval (.tmp 20) = .int .i64 2 := by rw [A2, put_other _ (by decide)]; exact f1_20
  have f2_26 : a2.eval (.tmp 26) = .int .i64 3 := by rw [A2, put_other _ (by decide)]; exact f1_26
  have f2_27 : a2.eval (.tmp 27) = .int .i64 4 := by rw [A2, put_other _ (by decide)]; exact f1_27
  have f2_28 : a2.eval (.tmp 28) = .int .i64 5 := by rw [A2, put_other _ (by decide)]; exact f1_28
  have f2_22 : a2.eval (.tmp 22) = .int .u64 v1 := by rw [A2, put_other _ (by decide)]; exact f1_22
  have f2_24 : a2.eval (.tmp 24) = .int .u64 v2 := by rw [A2, put_other _ (by decide)]; exact f1_24
  have f2_4 : a2.eval (.tmp 4) = .int .u64 va := by rw [A2, put_other _ (by decide)]; exact f1_4
  have f2_5 : a2.eval (.tmp 5) = .int .u64 vb := by rw [A2, put_other _ (by decide)]; exact f1_5
  have f2_184 : a2.eval (.tmp 184) = .int .i64 1 := by rw [A2, put_other _ (by decide)]; exact f1_184
  have f2_185 : a2.eval (.tmp 185) = .int .u64 v1 := by rw [A2]; exact put_same _ (by omega)
  refine any_move (o := (((Try.f3.body.bind pickR).getD #[])[4]?).getD ⟨none, .move (.tmp 0), 0, "", #[], none⟩) (i := 4) (d := 186) (x := .tmp 20) (.int .i64 2) (by kernel_rfl) (.inl (by kernel_rfl)) (by kernel_rfl) (by kernel_rfl) krSel (by kernel_rfl) (by kernel_rfl) f2_20 ?_
  obtain ⟨a3, A3⟩ : ∃ x, x = a2.put (some 186) (.int .i64 2) := ⟨_, rfl⟩
  rw [← A3]
  have s3 : 205 ≤ a3.tmps.size := by rw [A3, put_size]; exact s2
  have f3_26 : a3.eval (.tmp 26) = .int .i64 3 := by rw [A3, put_other _ (by decide)]; exact f2_26
  have f3_27 : a3.eval (.tmp 27) = .int .i64 4 := by rw [A3, put_other _ (by decide)]; exact f2_27
  have f3_28 : a3.eval (.tmp 28) = .int .i64 5 := by rw [A3, put_other _ (by decide)]; exact f2_28
  have f3_22 : a3.eval (.tmp 22) = .int .u64 v1 := by rw [A3, put_other _ (by decide)]; exact f2_22
  have f3_24 : a3.eval (.tmp 24) = .int .u64 v2 := by rw [A3, put_other _ (by decide)]; exact f2_24
  have f3_4 : a3.eval (.tmp 4) = .int .u64 va := by rw [A3, put_other _ (by decide)]; exact f2_4
  have f3_5 : a3.eval (.tmp 5) = .int .u64 vb := by rw [A3, put_other _ (by decide)]; exact f2_5
  have f3_184 : a3.eval (.tmp 184) = .int .i64 1 := by rw [A3, put_other _ (by decide)]; exact f2_184
  have f3_185 : a3.eval (.tmp 185) = .int .u64 v1 := by rw [A3, put_other _ (by decide)]; exact f2_185
  have f3_186 : a3.eval (.tmp 186) = .int .i64 2 := by rw [A3]; exact put_same _ (by omega)
  refine any_move (o := (((Try.f3.body.bind pickR).getD #[])[5]?).getD ⟨none, .move (.tmp 0), 0, "", #[], none⟩) (i := 5) (d := 187) (x := .tmp 24) (.int .u64 v2) (by kernel_rfl) (.inl (by kernel_rfl)) (by kernel_rfl) (by kernel_rfl) krSel (by kernel_rfl) (by kernel_rfl) f3_24 ?_
  obtain ⟨a4, A4⟩ : ∃ x, x = a3.put (some 187) (.int .u64 v2) := ⟨_, rfl⟩
  rw [← A4]
  have s4 : 205 ≤ a4.tmps.size := by rw [A4, put_size]; exact s3
  have f4_26 : a4.eval (.tmp 26) = .int .i64 3 := by rw [A4, put_other _ (by decide)]; exact f3_26
  have f4_27 : a4.eval (.tmp 27) = .int .i64 4 := by rw [A4, put_other _ (by decide)]; exact f3_27
  have f4_28 : a4.eval (.tmp 28) = .int .i64 5 := by rw [A4, put_other _ (by decide)]; exact f3_28
  have f4_22 : a4.eval (.tmp 22) = .int .u64 v1 := by rw [A4, put_other _ (by decide)]; exact f3_22
  have f4_24 : a4.eval (.tmp 24) = .int .u64 v2 := by rw [A4, put_other _ (by decide)]; exact f3_24
  have f4_4 : a4.eval (.tmp 4) = .int .u64 va := by rw [A4, put_other _ (by decide)]; exact f3_4
  have f4_5 : a4.eval (.tmp 5) = .int .u64 vb := by rw [A4, put_other _ (by decide)]; exact f3_5
  have f4_184 : a4.eval (.tmp 184) = .int .i64 1 := by rw [A4, put_other _ (by decide)]; exact f3_184
  have f4_185 : a4.eval (.tmp 185) = .int .u64 v1 := by rw [A4, put_other _ (by decide)]; exact f3_185
  have f4_186 : a4.eval (.tmp 186) = .int .i64 2 := by rw [A4, put_other _ (by decide)]; exact f3_186
  have f4_187 : a4.eval (.tmp 187) = .int .u64 v2 := by rw [A4]; exact put_same _ (by omega)
  refine any_move (o := (((Try.f3.body.bind pickR).getD #[])[7]?).getD ⟨none, .move (.tmp 0), 0, "", #[], none⟩) (i := 7) (d := 188) (x := .tmp 26) (.int .i64 3) (by kernel_rfl) (.inl (by kernel_rfl)) (by kernel_rfl) (by kernel_rfl) krSel (by kernel_rfl) (by kernel_rfl) f4_26 ?_
  obtain ⟨a5, A5⟩ : ∃ x, x = a4.put (some 188) (.int .i64 3) := ⟨_, rfl⟩
  rw [← A5]
  have s5 : 205 ≤ a5.tmps.size := by rw [A5, put_size]; exact s4
  have f5_27 : a5.eval (.tmp 27) = .int .i64 4 := by rw [A5, put_other _ (by decide)]; exact f4_27
  have f5_28 : a5.eval (.tmp 28) = .int .i64 5 := by rw [A5, put_other _ (by decide)]; exact f4_28
  have f5_22 : a5.eval (.tmp 22) = .int .u64 v1 := by rw [A5, put_other _ (by decide)]; exact f4_22
  have f5_24 : a5.eval (.tmp 24) = .int .u64 v2 := by rw [A5, put_other _ (by decide)]; exact f4_24
  have f5_4 : a5.eval (.tmp 4) = .int .u64 va := by rw [A5, put_other _ (by decide)]; exact f4_4
  have f5_5 : a5.eval (.tmp 5) = .int .u64 vb := by rw [A5, put_other _ (by decide)]; exact f4_5
  have f5_184 : a5.eval (.tmp 184) = .int .i64 1 := by rw [A5, put_other _ (by decide)]; exact f4_184
  have f5_185 : a5.eval (.tmp 185) = .int .u64 v1 := by rw [A5, put_other _ (by decide)]; exact f4_185
  have f5_186 : a5.eval (.tmp 186) = .int .i64 2 := by rw [A5, put_other _ (by decide)]; exact f4_186
  have f5_187 : a5.eval (.tmp 187) = .int .u64 v2 := by rw [A5, put_other _ (by decide)]; exact f4_187
  have f5_188 : a5.eval (.tmp 188) = .int .i64 3 := by rw [A5]; exact put_same _ (by omega)
  refine any_move (o := (((Try.f3.body.bind pickR).getD #[])[8]?).getD ⟨none, .move (.tmp 0), 0, "", #[], none⟩) (i := 8) (d := 189) (x := .tmp 22) (.int .u64 v1) (by kernel_rfl) (.inl (by kernel_rfl)) (by kernel_rfl) (by kernel_rfl) krSel (by kernel_rfl) (by kernel_rfl) f5_22 ?_
  obtain ⟨a6, A6⟩ : ∃ x, x = a5.put (some 189) (.int .u64 v1) := ⟨_, rfl⟩
  rw [← A6]
  have s6 : 205 ≤ a6.tmps.size := by rw [A6, put_size]; exact s5
  have f6_27 : a6.eval (.tmp 27) = .int .i64 4 := by rw [A6, put_other _ (by decide)]; exact f5_27
  have f6_28 : a6.eval (.tmp 28) = .int .i64 5 := by rw [A6, put_other _ (by decide)]; exact f5_28
  have f6_22 : a6.eval (.tmp 22) = .int .u64 v1 := by rw [A6, put_other _ (by decide)]; exact f5_22
  have f6_24 : a6.eval (.tmp 24) = .int .u64 v2 := by rw [A6, put_other _ (by decide)]; exact f5_24
  have f6_4 : a6.eval (.tmp 4) = .int .u64 va := by rw [A6, put_other _ (by decide)]; exact f5_4
  have f6_5 : a6.eval (.tmp 5) = .int .u64 vb := by rw [A6, put_other _ (by decide)]; exact f5_5
  have f6_184 : a6.eval (.tmp 184) = .int .i64 1 := by rw [A6, put_other _ (by decide)]; exact f5_184
  have f6_185 : a6.eval (.tmp 185) = .int .u64 v1 := by rw [A6, put_other _ (by decide)]; exact f5_185
  have f6_186 : a6.eval (.tmp 186) = .int .i64 2 := by rw [A6, put_other _ (by decide)]; exact f5_186
  have f6_187 : a6.eval (.tmp 187) = .int .u64 v2 := by rw [A6, put_other _ (by decide)]; exact f5_187
  have f6_188 : a6.eval (.tmp 188) = .int .i64 3 := by rw [A6, put_other _ (by decide)]; exact f5_188
  have f6_189 : a6.eval (.tmp 189) = .int .u64 v1 := by rw [A6]; exact put_same _ (by omega)
  refine any_move (o := (((Try.f3.body.bind pickR).getD #[])[9]?).getD ⟨none, .move (.tmp 0), 0, "", #[], none⟩) (i := 9) (d := 190) (x := .tmp 4) (.int .u64 va) (by kernel_rfl) (.inl (by kernel_rfl)) (by kernel_rfl) (by kernel_rfl) krSel (by kernel_rfl) (by kernel_rfl) f6_4 ?_
  obtain ⟨a7, A7⟩ : ∃ x, x = a6.put (some 190) (.int .u64 va) := ⟨_, rfl⟩
  rw [← A7]
  have s7 : 205 ≤ a7.tmps.size := by rw [A7, put_size]; exact s6
  have f7_27 : a7.eval (.tmp 27) = .int .i64 4 := by rw [A7, put_other _ (by decide)]; exact f6_27
  have f7_28 : a7.eval (.tmp 28) = .int .i64 5 := by rw [A7, put_other _ (by decide)]; exact f6_28
  have f7_22 : a7.eval (.tmp 22) = .int .u64 v1 := by rw [A7, put_other _ (by decide)]; exact f6_22
  have f7_24 : a7.eval (.tmp 24) = .int .u64 v2 := by rw [A7, put_other _ (by decide)]; exact f6_24
  have f7_4 : a7.eval (.tmp 4) = .int .u64 va := by rw [A7, put_other _ (by decide)]; exact f6_4
  have f7_5 : a7.eval (.tmp 5) = .int .u64 vb := by rw [A7, put_other _ (by decide)]; exact f6_5
  have f7_184 : a7.eval (.tmp 184) = .int .i64 1 := by rw [A7, put_other _ (by decide)]; exact f6_184
  have f7_185 : a7.eval (.tmp 185) = .int .u64 v1 := by rw [A7, put_other _ (by decide)]; exact f6_185
  have f7_186 : a7.eval (.tmp 186) = .int .i64 2 := by rw [A7, put_other _ (by decide)]; exact f6_186
  have f7_187 : a7.eval (.tmp 187) = .int .u64 v2 := by rw [A7, put_other _ (by decide)]; exact f6_187
  have f7_188 : a7.eval (.tmp 188) = .int .i64 3 := by rw [A7, put_other _ (by decide)]; exact f6_188
  have f7_189 : a7.eval (.tmp 189) = .int .u64 v1 := by rw [A7, put_other _ (by decide)]; exact f6_189
  have f7_190 : a7.eval (.tmp 190) = .int .u64 va := by rw [A7]; exact put_same _ (by omega)
  refine any_move (o := (((Try.f3.body.bind pickR).getD #[])[12]?).getD ⟨none, .move (.tmp 0), 0, "", #[], none⟩) (i := 12) (d := 192) (x := .tmp 27) (.int .i64 4) (by kernel_rfl) (.inl (by kernel_rfl)) (by kernel_rfl) (by kernel_rfl) krSel (by kernel_rfl) (by kernel_rfl) f7_27 ?_
  obtain ⟨a8, A8⟩ : ∃ x, x = a7.put (some 192) (.int .i64 4) := ⟨_, rfl⟩
  rw [← A8]
  have s8 : 205 ≤ a8.tmps.size := by rw [A8, put_size]; exact s7
  have f8_28 : a8.eval (.tmp 28) = .int .i64 5 := by rw [A8, put_other _ (by decide)]; exact f7_28
  have f8_22 : a8.eval (.tmp 22) = .int .u64 v1 := by rw [A8, put_other _ (by decide)]; exact f7_22
  have f8_24 : a8.eval (.tmp 24) = .int .u64 v2 := by rw [A8, put_other _ (by decide)]; exact f7_24
  have f8_4 : a8.eval (.tmp 4) = .int .u64 va := by rw [A8, put_other _ (by decide)]; exact f7_4
  have f8_5 : a8.eval (.tmp 5) = .int .u64 vb := by rw [A8, put_other _ (by decide)]; exact f7_5
  have f8_184 : a8.eval (.tmp 184) = .int .i64 1 := by rw [A8, put_other _ (by decide)]; exact f7_184
  have f8_185 : a8.eval (.tmp 185) = .int .u64 v1 := by rw [A8, put_other _ (by decide)]; exact f7_185
  have f8_186 : a8.eval (.tmp 186) = .int .i64 2 := by rw [A8, put_other _ (by decide)]; exact f7_186
  have f8_187 : a8.eval (.tmp 187) = .int .u64 v2 := by rw [A8, put_other _ (by decide)]; exact f7_187
  have f8_188 : a8.eval (.tmp 188) = .int .i64 3 := by rw [A8, put_other _ (by decide)]; exact f7_188
  have f8_189 : a8.eval (.tmp 189) = .int .u64 v1 := by rw [A8, put_other _ (by decide)]; exact f7_189
  have f8_190 : a8.eval (.tmp 190) = .int .u64 va := by rw [A8, put_other _ (by decide)]; exact f7_190
  have f8_192 : a8.eval (.tmp 192) = .int .i64 4 := by rw [A8]; exact put_same _ (by omega)
  refine any_move (o := (((Try.f3.body.bind pickR).getD #[])[13]?).getD ⟨none, .move (.tmp 0), 0, "", #[], none⟩) (i := 13) (d := 193) (x := .tmp 4) (.int .u64 va) (by kernel_rfl) (.inl (by kernel_rfl)) (by kernel_rfl) (by kernel_rfl) krSel (by kernel_rfl) (by kernel_rfl) f8_4 ?_
  obtain ⟨a9, A9⟩ : ∃ x, x = a8.put (some 193) (.int .u64 va) := ⟨_, rfl⟩
  rw [← A9]
  have s9 : 205 ≤ a9.tmps.size := by rw [A9, put_size]; exact s8
  have f9_28 : a9.eval (.tmp 28) = .int .i64 5 := by rw [A9, put_other _ (by decide)]; exact f8_28
  have f9_22 : a9.eval (.tmp 22) = .int .u64 v1 := by rw [A9, put_other _ (by decide)]; exact f8_22
  have f9_24 : a9.eval (.tmp 24) = .int .u64 v2 := by rw [A9, put_other _ (by decide)]; exact f8_24
  have f9_5 : a9.eval (.tmp 5) = .int .u64 vb := by rw [A9, put_other _ (by decide)]; exact f8_5
  have f9_184 : a9.eval (.tmp 184) = .int .i64 1 := by rw [A9, put_other _ (by decide)]; exact f8_184
  have f9_185 : a9.eval (.tmp 185) = .int .u64 v1 := by rw [A9, put_other _ (by decide)]; exact f8_185
  have f9_186 : a9.eval (.tmp 186) = .int .i64 2 := by rw [A9, put_other _ (by decide)]; exact f8_186
  have f9_187 : a9.eval (.tmp 187) = .int .u64 v2 := by rw [A9, put_other _ (by decide)]; exact f8_187
  have f9_188 : a9.eval (.tmp 188) = .int .i64 3 := by rw [A9, put_other _ (by decide)]; exact f8_188
  have f9_189 : a9.eval (.tmp 189) = .int .u64 v1 := by rw [A9, put_other _ (by decide)]; exact f8_189
  have f9_190 : a9.eval (.tmp 190) = .int .u64 va := by rw [A9, put_other _ (by decide)]; exact f8_190
  have f9_192 : a9.eval (.tmp 192) = .int .i64 4 := by rw [A9, put_other _ (by decide)]; exact f8_192
  have f9_193 : a9.eval (.tmp 193) = .int .u64 va := by rw [A9]; exact put_same _ (by omega)
  refine any_move (o := (((Try.f3.body.bind pickR).getD #[])[14]?).getD ⟨none, .move (.tmp 0), 0, "", #[], none⟩) (i := 14) (d := 194) (x := .tmp 22) (.int .u64 v1) (by kernel_rfl) (.inl (by kernel_rfl)) (by kernel_rfl) (by kernel_rfl) krSel (by kernel_rfl) (by kernel_rfl) f9_22 ?_
  obtain ⟨a10, A10⟩ : ∃ x, x = a9.put (some 194) (.int .u64 v1) := ⟨_, rfl⟩
  rw [← A10]
  have s10 : 205 ≤ a10.tmps.size := by rw [A10, put_size]; exact s9
  have f10_28 : a10.eval (.tmp 28) = .int .i64 5 := by rw [A10, put_other _ (by decide)]; exact f9_28
  have f10_22 : a10.eval (.tmp 22) = .int .u64 v1 := by rw [A10, put_other _ (by decide)]; exact f9_22
  have f10_24 : a10.eval (.tmp 24) = .int .u64 v2 := by rw [A10, put_other _ (by decide)]; exact f9_24
  have f10_5 : a10.eval (.tmp 5) = .int .u64 vb := by rw [A10, put_other _ (by decide)]; exact f9_5
  have f10_184 : a10.eval (.tmp 184) = .int .i64 1 := by rw [A10, put_other _ (by decide)]; exact f9_184
  have f10_185 : a10.eval (.tmp 185) = .int .u64 v1 := by rw [A10, put_other _ (by decide)]; exact f9_185
  have f10_186 : a10.eval (.tmp 186) = .int .i64 2 := by rw [A10, put_other _ (by decide)]; exact f9_186
  have f10_187 : a10.eval (.tmp 187) = .int .u64 v2 := by rw [A10, put_other _ (by decide)]; exact f9_187
  have f10_188 : a10.eval (.tmp 188) = .int .i64 3 := by rw [A10, put_other _ (by decide)]; exact f9_188
  have f10_189 : a10.eval (.tmp 189) = .int .u64 v1 := by rw [A10, put_other _ (by decide)]; exact f9_189
  have f10_190 : a10.eval (.tmp 190) = .int .u64 va := by rw [A10, put_other _ (by decide)]; exact f9_190
  have f10_192 : a10.eval (.tmp 192) = .int .i64 4 := by rw [A10, put_other _ (by decide)]; exact f9_192
  have f10_193 : a10.eval (.tmp 193) = .int .u64 va := by rw [A10, put_other _ (by decide)]; exact f9_193
  have f10_194 : a10.eval (.tmp 194) = .int .u64 v1 := by rw [A10]; exact put_same _ (by omega)
  refine any_move (o := (((Try.f3.body.bind pickR).getD #[])[16]?).getD ⟨none, .move (.tmp 0), 0, "", #[], none⟩) (i := 16) (d := 196) (x := .tmp 5) (.int .u64 vb) (by kernel_rfl) (.inl (by kernel_rfl)) (by kernel_rfl) (by kernel_rfl) krSel (by kernel_rfl) (by kernel_rfl) f10_5 ?_
  obtain ⟨a11, A11⟩ : ∃ x, x = a10.put (some 196) (.int .u64 vb) := ⟨_, rfl⟩
  rw [← A11]
  have s11 : 205 ≤ a11.tmps.size := by rw [A11, put_size]; exact s10
  have f11_28 : a11.eval (.tmp 28) = .int .i64 5 := by rw [A11, put_other _ (by decide)]; exact f10_28
  have f11_22 : a11.eval (.tmp 22) = .int .u64 v1 := by rw [A11, put_other _ (by decide)]; exact f10_22
  have f11_24 : a11.eval (.tmp 24) = .int .u64 v2 := by rw [A11, put_other _ (by decide)]; exact f10_24
  have f11_184 : a11.eval (.tmp 184) = .int .i64 1 := by rw [A11, put_other _ (by decide)]; exact f10_184
  have f11_185 : a11.eval (.tmp 185) = .int .u64 v1 := by rw [A11, put_other _ (by decide)]; exact f10_185
  have f11_186 : a11.eval (.tmp 186) = .int .i64 2 := by rw [A11, put_other _ (by decide)]; exact f10_186
  have f11_187 : a11.eval (.tmp 187) = .int .u64 v2 := by rw [A11, put_other _ (by decide)]; exact f10_187
  have f11_188 : a11.eval (.tmp 188) = .int .i64 3 := by rw [A11, put_other _ (by decide)]; exact f10_188
  have f11_189 : a11.eval (.tmp 189) = .int .u64 v1 := by rw [A11, put_other _ (by decide)]; exact f10_189
  have f11_190 : a11.eval (.tmp 190) = .int .u64 va := by rw [A11, put_other _ (by decide)]; exact f10_190
  have f11_192 : a11.eval (.tmp 192) = .int .i64 4 := by rw [A11, put_other _ (by decide)]; exact f10_192
  have f11_193 : a11.eval (.tmp 193) = .int .u64 va := by rw [A11, put_other _ (by decide)]; exact f10_193
  have f11_194 : a11.eval (.tmp 194) = .int .u64 v1 := by rw [A11, put_other _ (by decide)]; exact f10_194
  have f11_196 : a11.eval (.tmp 196) = .int .u64 vb := by rw [A11]; exact put_same _ (by omega)
  refine any_move (o := (((Try.f3.body.bind pickR).getD #[])[17]?).getD ⟨none, .move (.tmp 0), 0, "", #[], none⟩) (i := 17) (d := 197) (x := .tmp 24) (.int .u64 v2) (by kernel_rfl) (.inl (by kernel_rfl)) (by kernel_rfl) (by kernel_rfl) krSel (by kernel_rfl) (by kernel_rfl) f11_24 ?_
  obtain ⟨a12, A12⟩ : ∃ x, x = a11.put (some 197) (.int .u64 v2) := ⟨_, rfl⟩
  rw [← A12]
  have s12 : 205 ≤ a12.tmps.size := by rw [A12, put_size]; exact s11
  have f12_28 : a12.eval (.tmp 28) = .int .i64 5 := by rw [A12, put_other _ (by decide)]; exact f11_28
  have f12_22 : a12.eval (.tmp 22) = .int .u64 v1 := by rw [A12, put_other _ (by decide)]; exact f11_22
  have f12_24 : a12.eval (.tmp 24) = .int .u64 v2 := by rw [A12, put_other _ (by decide)]; exact f11_24
  have f12_184 : a12.eval (.tmp 184) = .int .i64 1 := by rw [A12, put_other _ (by decide)]; exact f11_184
  have f12_185 : a12.eval (.tmp 185) = .int .u64 v1 := by rw [A12, put_other _ (by decide)]; exact f11_185
  have f12_186 : a12.eval (.tmp 186) = .int .i64 2 := by rw [A12, put_other _ (by decide)]; exact f11_186
  have f12_187 : a12.eval (.tmp 187) = .int .u64 v2 := by rw [A12, put_other _ (by decide)]; exact f11_187
  have f12_188 : a12.eval (.tmp 188) = .int .i64 3 := by rw [A12, put_other _ (by decide)]; exact f11_188
  have f12_189 : a12.eval (.tmp 189) = .int .u64 v1 := by rw [A12, put_other _ (by decide)]; exact f11_189
  have f12_190 : a12.eval (.tmp 190) = .int .u64 va := by rw [A12, put_other _ (by decide)]; exact f11_190
  have f12_192 : a12.eval (.tmp 192) = .int .i64 4 := by rw [A12, put_other _ (by decide)]; exact f11_192
  have f12_193 : a12.eval (.tmp 193) = .int .u64 va := by rw [A12, put_other _ (by decide)]; exact f11_193
  have f12_194 : a12.eval (.tmp 194) = .int .u64 v1 := by rw [A12, put_other _ (by decide)]; exact f11_194
  have f12_196 : a12.eval (.tmp 196) = .int .u64 vb := by rw [A12, put_other _ (by decide)]; exact f11_196
  have f12_197 : a12.eval (.tmp 197) = .int .u64 v2 := by rw [A12]; exact put_same _ (by omega)
  refine any_move (o := (((Try.f3.body.bind pickR).getD #[])[21]?).getD ⟨none, .move (.tmp 0), 0, "", #[], none⟩) (i := 21) (d := 200) (x := .tmp 28) (.int .i64 5) (by kernel_rfl) (.inl (by kernel_rfl)) (by kernel_rfl) (by kernel_rfl) krSel (by kernel_rfl) (by kernel_rfl) f12_28 ?_
  obtain ⟨a13, A13⟩ : ∃ x, x = a12.put (some 200) (.int .i64 5) := ⟨_, rfl⟩
  rw [← A13]
  have s13 : 205 ≤ a13.tmps.size := by rw [A13, put_size]; exact s12
  have f13_22 : a13.eval (.tmp 22) = .int .u64 v1 := by rw [A13, put_other _ (by decide)]; exact f12_22
  have f13_24 : a13.eval (.tmp 24) = .int .u64 v2 := by rw [A13, put_other _ (by decide)]; exact f12_24
  have f13_184 : a13.eval (.tmp 184) = .int .i64 1 := by rw [A13, put_other _ (by decide)]; exact f12_184
  have f13_185 : a13.eval (.tmp 185) = .int .u64 v1 := by rw [A13, put_other _ (by decide)]; exact f12_185
  have f13_186 : a13.eval (.tmp 186) = .int .i64 2 := by rw [A13, put_other _ (by decide)]; exact f12_186
  have f13_187 : a13.eval (.tmp 187) = .int .u64 v2 := by rw [A13, put_other _ (by decide)]; exact f12_187
  have f13_188 : a13.eval (.tmp 188) = .int .i64 3 := by rw [A13, put_other _ (by decide)]; exact f12_188
  have f13_189 : a13.eval (.tmp 189) = .int .u64 v1 := by rw [A13, put_other _ (by decide)]; exact f12_189
  have f13_190 : a13.eval (.tmp 190) = .int .u64 va := by rw [A13, put_other _ (by decide)]; exact f12_190
  have f13_192 : a13.eval (.tmp 192) = .int .i64 4 := by rw [A13, put_other _ (by decide)]; exact f12_192
  have f13_193 : a13.eval (.tmp 193) = .int .u64 va := by rw [A13, put_other _ (by decide)]; exact f12_193
  have f13_194 : a13.eval (.tmp 194) = .int .u64 v1 := by rw [A13, put_other _ (by decide)]; exact f12_194
  have f13_196 : a13.eval (.tmp 196) = .int .u64 vb := by rw [A13, put_other _ (by decide)]; exact f12_196
  have f13_197 : a13.eval (.tmp 197) = .int .u64 v2 := by rw [A13, put_other _ (by decide)]; exact f12_197
  have f13_200 : a13.eval (.tmp 200) = .int .i64 5 := by rw [A13]; exact put_same _ (by omega)
  refine any_move (o := (((Try.f3.body.bind pickR).getD #[])[22]?).getD ⟨none, .move (.tmp 0), 0, "", #[], none⟩) (i := 22) (d := 201) (x := .tmp 22) (.int .u64 v1) (by kernel_rfl) (.inl (by kernel_rfl)) (by kernel_rfl) (by kernel_rfl) krSel (by kernel_rfl) (by kernel_rfl) f13_22 ?_
  obtain ⟨a14, A14⟩ : ∃ x, x = a13.put (some 201) (.int .u64 v1) := ⟨_, rfl⟩
  rw [← A14]
  have s14 : 205 ≤ a14.tmps.size := by rw [A14, put_size]; exact s13
  have f14_24 : a14.eval (.tmp 24) = .int .u64 v2 := by rw [A14, put_other _ (by decide)]; exact f13_24
  have f14_184 : a14.eval (.tmp 184) = .int .i64 1 := by rw [A14, put_other _ (by decide)]; exact f13_184
  have f14_185 : a14.eval (.tmp 185) = .int .u64 v1 := by rw [A14, put_other _ (by decide)]; exact f13_185
  have f14_186 : a14.eval (.tmp 186) = .int .i64 2 := by rw [A14, put_other _ (by decide)]; exact f13_186
  have f14_187 : a14.eval (.tmp 187) = .int .u64 v2 := by rw [A14, put_other _ (by decide)]; exact f13_187
  have f14_188 : a14.eval (.tmp 188) = .int .i64 3 := by rw [A14, put_other _ (by decide)]; exact f13_188
  have f14_189 : a14.eval (.tmp 189) = .int .u64 v1 := by rw [A14, put_other _ (by decide)]; exact f13_189
  have f14_190 : a14.eval (.tmp 190) = .int .u64 va := by rw [A14, put_other _ (by decide)]; exact f13_190
  have f14_192 : a14.eval (.tmp 192) = .int .i64 4 := by rw [A14, put_other _ (by decide)]; exact f13_192
  have f14_193 : a14.eval (.tmp 193) = .int .u64 va := by rw [A14, put_other _ (by decide)]; exact f13_193
  have f14_194 : a14.eval (.tmp 194) = .int .u64 v1 := by rw [A14, put_other _ (by decide)]; exact f13_194
  have f14_196 : a14.eval (.tmp 196) = .int .u64 vb := by rw [A14, put_other _ (by decide)]; exact f13_196
  have f14_197 : a14.eval (.tmp 197) = .int .u64 v2 := by rw [A14, put_other _ (by decide)]; exact f13_197
  have f14_200 : a14.eval (.tmp 200) = .int .i64 5 := by rw [A14, put_other _ (by decide)]; exact f13_200
  have f14_201 : a14.eval (.tmp 201) = .int .u64 v1 := by rw [A14]; exact put_same _ (by omega)
  refine any_move (o := (((Try.f3.body.bind pickR).getD #[])[23]?).getD ⟨none, .move (.tmp 0), 0, "", #[], none⟩) (i := 23) (d := 202) (x := .tmp 24) (.int .u64 v2) (by kernel_rfl) (.inl (by kernel_rfl)) (by kernel_rfl) (by kernel_rfl) krSel (by kernel_rfl) (by kernel_rfl) f14_24 ?_
  obtain ⟨a15, A15⟩ : ∃ x, x = a14.put (some 202) (.int .u64 v2) := ⟨_, rfl⟩
  rw [← A15]
  have s15 : 205 ≤ a15.tmps.size := by rw [A15, put_size]; exact s14
  have f15_184 : a15.eval (.tmp 184) = .int .i64 1 := by rw [A15, put_other _ (by decide)]; exact f14_184
  have f15_185 : a15.eval (.tmp 185) = .int .u64 v1 := by rw [A15, put_other _ (by decide)]; exact f14_185
  have f15_186 : a15.eval (.tmp 186) = .int .i64 2 := by rw [A15, put_other _ (by decide)]; exact f14_186
  have f15_187 : a15.eval (.tmp 187) = .int .u64 v2 := by rw [A15, put_other _ (by decide)]; exact f14_187
  have f15_188 : a15.eval (.tmp 188) = .int .i64 3 := by rw [A15, put_other _ (by decide)]; exact f14_188
  have f15_189 : a15.eval (.tmp 189) = .int .u64 v1 := by rw [A15, put_other _ (by decide)]; exact f14_189
  have f15_190 : a15.eval (.tmp 190) = .int .u64 va := by rw [A15, put_other _ (by decide)]; exact f14_190
  have f15_192 : a15.eval (.tmp 192) = .int .i64 4 := by rw [A15, put_other _ (by decide)]; exact f14_192
  have f15_193 : a15.eval (.tmp 193) = .int .u64 va := by rw [A15, put_other _ (by decide)]; exact f14_193
  have f15_194 : a15.eval (.tmp 194) = .int .u64 v1 := by rw [A15, put_other _ (by decide)]; exact f14_194
  have f15_196 : a15.eval (.tmp 196) = .int .u64 vb := by rw [A15, put_other _ (by decide)]; exact f14_196
  have f15_197 : a15.eval (.tmp 197) = .int .u64 v2 := by rw [A15, put_other _ (by decide)]; exact f14_197
  have f15_200 : a15.eval (.tmp 200) = .int .i64 5 := by rw [A15, put_other _ (by decide)]; exact f14_200
  have f15_201 : a15.eval (.tmp 201) = .int .u64 v1 := by rw [A15, put_other _ (by decide)]; exact f14_201
  have f15_202 : a15.eval (.tmp 202) = .int .u64 v2 := by rw [A15]; exact put_same _ (by omega)
  refine any_call (o := (((Try.f3.body.bind pickR).getD #[])[10]?).getD ⟨none, .move (.tmp 0), 0, "", #[], none⟩) (i := 10) (d := 191) (n := 13) (x := 189) (y := 190) (ts := #[23, 23]) (.int .u64 (nm (v1 + va))) (by kernel_rfl) (by kernel_rfl) (by kernel_rfl) (by kernel_rfl) krSel (by kernel_rfl) (by kernel_rfl) f15_189 f15_190 (fun w => by kernel_rfl) (fun w => fAdd v1 va w (by omega) (by omega) ha.1 ha.2) ?_
  obtain ⟨a16, A16⟩ : ∃ x, x = a15.put (some 191) (.int .u64 (nm (v1 + va))) := ⟨_, rfl⟩
  rw [← A16]
  have s16 : 205 ≤ a16.tmps.size := by rw [A16, put_size]; exact s15
  have f16_184 : a16.eval (.tmp 184) = .int .i64 1 := by rw [A16, put_other _ (by decide)]; exact f15_184
  have f16_185 : a16.eval (.tmp 185) = .int .u64 v1 := by rw [A16, put_other _ (by decide)]; exact f15_185
  have f16_186 : a16.eval (.tmp 186) = .int .i64 2 := by rw [A16, put_other _ (by decide)]; exact f15_186
  have f16_187 : a16.eval (.tmp 187) = .int .u64 v2 := by rw [A16, put_other _ (by decide)]; exact f15_187
  have f16_188 : a16.eval (.tmp 188) = .int .i64 3 := by rw [A16, put_other _ (by decide)]; exact f15_188
  have f16_192 : a16.eval (.tmp 192) = .int .i64 4 := by rw [A16, put_other _ (by decide)]; exact f15_192
  have f16_193 : a16.eval (.tmp 193) = .int .u64 va := by rw [A16, put_other _ (by decide)]; exact f15_193
  have f16_194 : a16.eval (.tmp 194) = .int .u64 v1 := by rw [A16, put_other _ (by decide)]; exact f15_194
  have f16_196 : a16.eval (.tmp 196) = .int .u64 vb := by rw [A16, put_other _ (by decide)]; exact f15_196
  have f16_197 : a16.eval (.tmp 197) = .int .u64 v2 := by rw [A16, put_other _ (by decide)]; exact f15_197
  have f16_200 : a16.eval (.tmp 200) = .int .i64 5 := by rw [A16, put_other _ (by decide)]; exact f15_200
  have f16_201 : a16.eval (.tmp 201) = .int .u64 v1 := by rw [A16, put_other _ (by decide)]; exact f15_201
  have f16_202 : a16.eval (.tmp 202) = .int .u64 v2 := by rw [A16, put_other _ (by decide)]; exact f15_202
  have f16_191 : a16.eval (.tmp 191) = .int .u64 (nm (v1 + va)) := by rw [A16]; exact put_same _ (by omega)
  refine any_call (o := (((Try.f3.body.bind pickR).getD #[])[15]?).getD ⟨none, .move (.tmp 0), 0, "", #[], none⟩) (i := 15) (d := 195) (n := 14) (x := 193) (y := 194) (ts := #[23, 23]) (.int .u64 (nm (va * v1))) (by kernel_rfl) (by kernel_rfl) (by kernel_rfl) (by kernel_rfl) krSel (by kernel_rfl) (by kernel_rfl) f16_193 f16_194 (fun w => by kernel_rfl) (fun w => fMul va v1 w ha.1 ha.2 (by omega) (by omega)) ?_
  obtain ⟨a17, A17⟩ : ∃ x, x = a16.put (some 195) (.int .u64 (nm (va * v1))) := ⟨_, rfl⟩
  rw [← A17]
  have s17 : 205 ≤ a17.tmps.size := by rw [A17, put_size]; exact s16
  have f17_184 : a17.eval (.tmp 184) = .int .i64 1 := by rw [A17, put_other _ (by decide)]; exact f16_184
  have f17_185 : a17.eval (.tmp 185) = .int .u64 v1 := by rw [A17, put_other _ (by decide)]; exact f16_185
  have f17_186 : a17.eval (.tmp 186) = .int .i64 2 := by rw [A17, put_other _ (by decide)]; exact f16_186
  have f17_187 : a17.eval (.tmp 187) = .int .u64 v2 := by rw [A17, put_other _ (by decide)]; exact f16_187
  have f17_188 : a17.eval (.tmp 188) = .int .i64 3 := by rw [A17, put_other _ (by decide)]; exact f16_188
  have f17_192 : a17.eval (.tmp 192) = .int .i64 4 := by rw [A17, put_other _ (by decide)]; exact f16_192
  have f17_196 : a17.eval (.tmp 196) = .int .u64 vb := by rw [A17, put_other _ (by decide)]; exact f16_196
  have f17_197 : a17.eval (.tmp 197) = .int .u64 v2 := by rw [A17, put_other _ (by decide)]; exact f16_197
  have f17_200 : a17.eval (.tmp 200) = .int .i64 5 := by rw [A17, put_other _ (by decide)]; exact f16_200
  have f17_201 : a17.eval (.tmp 201) = .int .u64 v1 := by rw [A17, put_other _ (by decide)]; exact f16_201
  have f17_202 : a17.eval (.tmp 202) = .int .u64 v2 := by rw [A17, put_other _ (by decide)]; exact f16_202
  have f17_191 : a17.eval (.tmp 191) = .int .u64 (nm (v1 + va)) := by rw [A17, put_other _ (by decide)]; exact f16_191
  have f17_195 : a17.eval (.tmp 195) = .int .u64 (nm (va * v1)) := by rw [A17]; exact put_same _ (by omega)
  refine any_call (o := (((Try.f3.body.bind pickR).getD #[])[18]?).getD ⟨none, .move (.tmp 0), 0, "", #[], none⟩) (i := 18) (d := 198) (n := 14) (x := 196) (y := 197) (ts := #[23, 23]) (.int .u64 (nm (vb * v2))) (by kernel_rfl) (by kernel_rfl) (by kernel_rfl) (by kernel_rfl) krSel (by kernel_rfl) (by kernel_rfl) f17_196 f17_197 (fun w => by kernel_rfl) (fun w => fMul vb v2 w hb.1 hb.2 (by omega) (by omega)) ?_
  obtain ⟨a18, A18⟩ : ∃ x, x = a17.put (some 198) (.int .u64 (nm (vb * v2))) := ⟨_, rfl⟩
  rw [← A18]
  have s18 : 205 ≤ a18.tmps.size := by rw [A18, put_size]; exact s17
  have f18_184 : a18.eval (.tmp 184) = .int .i64 1 := by rw [A18, put_other _ (by decide)]; exact f17_184
  have f18_185 : a18.eval (.tmp 185) = .int .u64 v1 := by rw [A18, put_other _ (by decide)]; exact f17_185
  have f18_186 : a18.eval (.tmp 186) = .int .i64 2 := by rw [A18, put_other _ (by decide)]; exact f17_186
  have f18_187 : a18.eval (.tmp 187) = .int .u64 v2 := by rw [A18, put_other _ (by decide)]; exact f17_187
  have f18_188 : a18.eval (.tmp 188) = .int .i64 3 := by rw [A18, put_other _ (by decide)]; exact f17_188
  have f18_192 : a18.eval (.tmp 192) = .int .i64 4 := by rw [A18, put_other _ (by decide)]; exact f17_192
  have f18_200 : a18.eval (.tmp 200) = .int .i64 5 := by rw [A18, put_other _ (by decide)]; exact f17_200
  have f18_201 : a18.eval (.tmp 201) = .int .u64 v1 := by rw [A18, put_other _ (by decide)]; exact f17_201
  have f18_202 : a18.eval (.tmp 202) = .int .u64 v2 := by rw [A18, put_other _ (by decide)]; exact f17_202
  have f18_191 : a18.eval (.tmp 191) = .int .u64 (nm (v1 + va)) := by rw [A18, put_other _ (by decide)]; exact f17_191
  have f18_195 : a18.eval (.tmp 195) = .int .u64 (nm (va * v1)) := by rw [A18, put_other _ (by decide)]; exact f17_195
  have f18_198 : a18.eval (.tmp 198) = .int .u64 (nm (vb * v2)) := by rw [A18]; exact put_same _ (by omega)
  refine any_call (o := (((Try.f3.body.bind pickR).getD #[])[19]?).getD ⟨none, .move (.tmp 0), 0, "", #[], none⟩) (i := 19) (d := 199) (n := 13) (x := 195) (y := 198) (ts := #[23, 23]) (.int .u64 (nm (nm (va * v1) + nm (vb * v2)))) (by kernel_rfl) (by kernel_rfl) (by kernel_rfl) (by kernel_rfl) krSel (by kernel_rfl) (by kernel_rfl) f18_195 f18_198 (fun w => by kernel_rfl) (fun w => fAdd (nm (va * v1)) (nm (vb * v2)) w (by omega) (by omega) (by omega) (by omega)) ?_
  obtain ⟨a19, A19⟩ : ∃ x, x = a18.put (some 199) (.int .u64 (nm (nm (va * v1) + nm (vb * v2)))) := ⟨_, rfl⟩
  rw [← A19]
  have s19 : 205 ≤ a19.tmps.size := by rw [A19, put_size]; exact s18
  have f19_184 : a19.eval (.tmp 184) = .int .i64 1 := by rw [A19, put_other _ (by decide)]; exact f18_184
  have f19_185 : a19.eval (.tmp 185) = .int .u64 v1 := by rw [A19, put_other _ (by decide)]; exact f18_185
  have f19_186 : a19.eval (.tmp 186) = .int .i64 2 := by rw [A19, put_other _ (by decide)]; exact f18_186
  have f19_187 : a19.eval (.tmp 187) = .int .u64 v2 := by rw [A19, put_other _ (by decide)]; exact f18_187
  have f19_188 : a19.eval (.tmp 188) = .int .i64 3 := by rw [A19, put_other _ (by decide)]; exact f18_188
  have f19_192 : a19.eval (.tmp 192) = .int .i64 4 := by rw [A19, put_other _ (by decide)]; exact f18_192
  have f19_200 : a19.eval (.tmp 200) = .int .i64 5 := by rw [A19, put_other _ (by decide)]; exact f18_200
  have f19_201 : a19.eval (.tmp 201) = .int .u64 v1 := by rw [A19, put_other _ (by decide)]; exact f18_201
  have f19_202 : a19.eval (.tmp 202) = .int .u64 v2 := by rw [A19, put_other _ (by decide)]; exact f18_202
  have f19_191 : a19.eval (.tmp 191) = .int .u64 (nm (v1 + va)) := by rw [A19, put_other _ (by decide)]; exact f18_191
  have f19_199 : a19.eval (.tmp 199) = .int .u64 (nm (nm (va * v1) + nm (vb * v2))) := by rw [A19]; exact put_same _ (by omega)
  refine any_call (o := (((Try.f3.body.bind pickR).getD #[])[24]?).getD ⟨none, .move (.tmp 0), 0, "", #[], none⟩) (i := 24) (d := 203) (n := 14) (x := 201) (y := 202) (ts := #[23, 23]) (.int .u64 (nm (v1 * v2))) (by kernel_rfl) (by kernel_rfl) (by kernel_rfl) (by kernel_rfl) krSel (by kernel_rfl) (by kernel_rfl) f19_201 f19_202 (fun w => by kernel_rfl) (fun w => fMul v1 v2 w (by omega) (by omega) (by omega) (by omega)) ?_
  obtain ⟨a20, A20⟩ : ∃ x, x = a19.put (some 203) (.int .u64 (nm (v1 * v2))) := ⟨_, rfl⟩
  rw [← A20]
  have s20 : 205 ≤ a20.tmps.size := by rw [A20, put_size]; exact s19
  have f20_184 : a20.eval (.tmp 184) = .int .i64 1 := by rw [A20, put_other _ (by decide)]; exact f19_184
  have f20_185 : a20.eval (.tmp 185) = .int .u64 v1 := by rw [A20, put_other _ (by decide)]; exact f19_185
  have f20_186 : a20.eval (.tmp 186) = .int .i64 2 := by rw [A20, put_other _ (by decide)]; exact f19_186
  have f20_187 : a20.eval (.tmp 187) = .int .u64 v2 := by rw [A20, put_other _ (by decide)]; exact f19_187
  have f20_188 : a20.eval (.tmp 188) = .int .i64 3 := by rw [A20, put_other _ (by decide)]; exact f19_188
  have f20_192 : a20.eval (.tmp 192) = .int .i64 4 := by rw [A20, put_other _ (by decide)]; exact f19_192
  have f20_200 : a20.eval (.tmp 200) = .int .i64 5 := by rw [A20, put_other _ (by decide)]; exact f19_200
  have f20_191 : a20.eval (.tmp 191) = .int .u64 (nm (v1 + va)) := by rw [A20, put_other _ (by decide)]; exact f19_191
  have f20_199 : a20.eval (.tmp 199) = .int .u64 (nm (nm (va * v1) + nm (vb * v2))) := by rw [A20, put_other _ (by decide)]; exact f19_199
  have f20_203 : a20.eval (.tmp 203) = .int .u64 (nm (v1 * v2)) := by rw [A20]; exact put_same _ (by omega)
  have rd : Region.ready .any ((Try.f3.body.bind pickR).getD #[]) #[false, true, true, false, true, true, false, true, true, true, true, false, true, true, true, true, true, true, true, true, false, true, true, true, true, false, false, false] = [0] := by kernel_rfl
  have l0 : (((((((((((((((((((((Array.replicate 28 false).setIfInBounds 1 true).setIfInBounds 2 true).setIfInBounds 4 true).setIfInBounds 5 true).setIfInBounds 7 true).setIfInBounds 8 true).setIfInBounds 9 true).setIfInBounds 12 true).setIfInBounds 13 true).setIfInBounds 14 true).setIfInBounds 16 true).setIfInBounds 17 true).setIfInBounds 21 true).setIfInBounds 22 true).setIfInBounds 23 true).setIfInBounds 10 true).setIfInBounds 15 true).setIfInBounds 18 true).setIfInBounds 19 true).setIfInBounds 24 true) = #[false, true, true, false, true, true, false, true, true, true, true, false, true, true, true, true, true, true, true, true, false, true, true, true, true, false, false, false] := by kernel_rfl
  rw [l0]
  refine wpAny_all rd (by simp) fun i hi => ?_
  obtain rfl : i = 0 := by simpa using hi
  have o0 : ∃ o, ((Try.f3.body.bind pickR).getD #[])[0]? = some o ∧ o.dst = some 183 ∧ o.guard = none ∧ o.op = .makeMap 40 none := ⟨(((Try.f3.body.bind pickR).getD #[])[0]?).getD ⟨none, .move (.tmp 0), 0, "", #[], none⟩, by kernel_rfl, by kernel_rfl, by kernel_rfl, by kernel_rfl⟩
  obtain ⟨o, p1, p2, p3, p4⟩ := o0
  unfold wpOp
  simp only [p1]
  rw [if_pos (by simp [Region.wanted, p3])]
  left
  unfold Oper.wp execOp
  simp only [p4]
  have e : ∀ W : World, Sem.run Try.prog (do pure (Next.value (← Instr.makeMap 40 (Option.map a20.eval none)))) W = .ok (.value (.map (some W.heap.size))) (W.alloc (.map #[] 0)) := fun W => rfl
  rw [e, Oper.upon_value, p2]
  have l1 : (#[false, true, true, false, true, true, false, true, true, true, true, false, true, true, true, true, true, true, true, true, false, true, true, true, true, false, false, false]).setIfInBounds 0 true = krL false false false false false := by kernel_rfl
  rw [l1]
  have hM := MapU.made { w with drawn := w.drawn + 1 }
  have hbA : Below w.heap.size w (World.alloc { w with drawn := w.drawn + 1 } (.map #[] 0)) := ((Below.refl _ _).drew).alloc (Nat.le_refl _) _
  have hbm : w.heap.size = (World.heap { w with drawn := w.drawn + 1 }).size := rfl
  rw [← hbm] at hM ⊢
  generalize World.alloc { w with drawn := w.drawn + 1 } (.map #[] 0) = wA at hM hbA ⊢
  obtain ⟨a21, A21⟩ : ∃ x, x = a20.put (some 183) (.map (some w.heap.size)) := ⟨_, rfl⟩
  rw [← A21]
  have s21 : 205 ≤ a21.tmps.size := by rw [A21, put_size]; exact s20
  have f21_184 : a21.eval (.tmp 184) = .int .i64 1 := by rw [A21, put_other _ (by decide)]; exact f20_184
  have f21_185 : a21.eval (.tmp 185) = .int .u64 v1 := by rw [A21, put_other _ (by decide)]; exact f20_185
  have f21_186 : a21.eval (.tmp 186) = .int .i64 2 := by rw [A21, put_other _ (by decide)]; exact f20_186
  have f21_187 : a21.eval (.tmp 187) = .int .u64 v2 := by rw [A21, put_other _ (by decide)]; exact f20_187
  have f21_188 : a21.eval (.tmp 188) = .int .i64 3 := by rw [A21, put_other _ (by decide)]; exact f20_188
  have f21_192 : a21.eval (.tmp 192) = .int .i64 4 := by rw [A21, put_other _ (by decide)]; exact f20_192
  have f21_200 : a21.eval (.tmp 200) = .int .i64 5 := by rw [A21, put_other _ (by decide)]; exact f20_200
  have f21_191 : a21.eval (.tmp 191) = .int .u64 (nm (v1 + va)) := by rw [A21, put_other _ (by decide)]; exact f20_191
  have f21_199 : a21.eval (.tmp 199) = .int .u64 (nm (nm (va * v1) + nm (vb * v2))) := by rw [A21, put_other _ (by decide)]; exact f20_199
  have f21_203 : a21.eval (.tmp 203) = .int .u64 (nm (v1 * v2)) := by rw [A21, put_other _ (by decide)]; exact f20_203
  have f21_183 : a21.eval (.tmp 183) = .map (some w.heap.size) := by rw [A21]; exact put_same _ (by omega)
  have hM0 : MapU wA w.heap.size (krC false + krC false + krC false + krC false + krC false) (krG v1 v2 (nm (v1 + va)) (nm (nm (va * v1) + nm (vb * v2))) (nm (v1 * v2)) false false false false false) := by
    have e : krG v1 v2 (nm (v1 + va)) (nm (nm (va * v1) + nm (vb * v2))) (nm (v1 * v2)) false false false false false = fun _ => none := by funext k; simp [krG]
    rw [e]; exact hM
  refine krIns (Nat.le_refl _) f21_183 f21_184 f21_185 (by omega) f21_186 f21_187 (by omega) f21_188 f21_191 (by omega) f21_192 f21_199 (by omega) f21_200 f21_203 (by omega) ?_ 5 false false false false false wA rfl hM0 hbA
  intro w' hM' hb'
  refine any_move (o := (((Try.f3.body.bind pickR).getD #[])[26]?).getD ⟨none, .move (.tmp 0), 0, "", #[], none⟩) (i := 26) (d := 204) (x := .tmp 183) (.map (some w.heap.size)) (by kernel_rfl) (.inl (by kernel_rfl)) (by kernel_rfl) (by kernel_rfl) krSel (by kernel_rfl) (by kernel_rfl) f21_183 ?_
  obtain ⟨a22, A22⟩ : ∃ x, x = a21.put (some 204) (.map (some w.heap.size)) := ⟨_, rfl⟩
  rw [← A22]
  have s22 : 205 ≤ a22.tmps.size := by rw [A22, put_size]; exact s21
  have f22_183 : a22.eval (.tmp 183) = .map (some w.heap.size) := by rw [A22, put_other _ (by decide)]; exact f21_183
  have f22_204 : a22.eval (.tmp 204) = .map (some w.heap.size) := by rw [A22]; exact put_same _ (by omega)
  refine any_move (o := (((Try.f3.body.bind pickR).getD #[])[27]?).getD ⟨none, .move (.tmp 0), 0, "", #[], none⟩) (i := 27) (d := 29) (x := .tmp 204) (.map (some w.heap.size)) (by kernel_rfl) (.inr (by kernel_rfl)) (by kernel_rfl) (by kernel_rfl) krSel (by kernel_rfl) (by kernel_rfl) f22_204 ?_
  refine wpAny_done (by kernel_rfl) ?_ _
  have h := hK.out w' hM' hb'
  rw [A22, A21, A20, A19, A18, A17, A16, A15, A14, A13, A12, A11, A10, A9, A8, A7, A6, A5, A4, A3, A2, A1]
  exact h
end
end Go.Proofs.Ytljlioglpaogdaf
