/- A region that draws its order: a call that only reads may be made ahead of its turn, whatever else the region holds. -/
import Derived.Orders
namespace Go.Proofs.Ytljlioglpaogdaf
set_option linter.unusedVariables false
set_option maxRecDepth 100000
set_option maxHeartbeats 8000000
section
open Go
/-- In state a operation o is a call that answers v, whatever the world, and leaves that world alone. -/
def Only (P : Program) (ops : Array Oper) (o : Oper) (v : Value) (a : Act) : Prop :=
  Region.wanted o (yielded ops a.tmps) = true ∧ ∃ f args, ∀ w, (execOp a.eval o).run P w = .ok (.enter f args) w ∧ Calls P f args w fun e w' => e = .returned v ∧ w' = w
section
variable {P : Program} {ops : Array Oper} {Q : Exit → Act → World → Prop} {md : Region.Mode} {o oj : Oper} {v : Value}

theorem Only.like {a b : Act} (h : Only P ops o v a) (e1 : execOp b.eval o = execOp a.eval o) (e2 : Region.wanted o (yielded ops b.tmps) = Region.wanted o (yielded ops a.tmps)) : Only P ops o v b := by
  unfold Only
  rw [e1, e2]
  exact h
theorem Only.made {a : Act} {i : Nat} (h : Only P ops o v a) (hi : ops[i]? = some o) {K : Act → World → Prop} {w : World} (k : K (a.put o.dst v) w) : wpOp P ops Q i K a w := by
  obtain ⟨h1, f, args, h2⟩ := h
  unfold wpOp
  simp only [hi, h1, if_true]
  left
  unfold Oper.wp
  rw [(h2 w).1, Oper.upon_enter]
  refine (h2 w).2.mono ?_
  rintro e w' ⟨rfl, rfl⟩
  exact k
/-- What another operation does from the state with the answer in its place, it does ahead of the call too. -/
theorem Only.past {a : Act} {j : Nat} (h : Only P ops o v a) (hj : ops[j]? = some oj) (hap : o.apart ops oj = true) (so : ∀ cs b, o.op ≠ .select cs b) (sj : ∀ cs b, oj.op ≠ .select cs b)
    (hQ : ∀ c b w, Q (.panic c) (b.put o.dst v) w → Q (.panic c) b w) {K : Act → World → Prop} {w : World} (g : wpOp P ops Q j K (a.put o.dst v) w) : wpOp P ops Q j (fun b w' => Only P ops o v b ∧ K (b.put o.dst v) w') a w := by
  obtain ⟨q1, q2, q3⟩ := Oper.apart_spec hap
  have step : ∀ (b : Act) (u : Value), Only P ops o v b → ∀ w', K ((b.put o.dst v).put oj.dst u) w' → Only P ops o v (b.put oj.dst u) ∧ K ((b.put oj.dst u).put o.dst v) w' := fun b u hb w' k =>
    ⟨hb.like (execOp_put o so b _ u q3) (wanted_put o b _ u q3), by rw [← Act.put_comm b v u q2]; exact k⟩
  have ex := execOp_put oj sj a o.dst v q1
  have wa := wanted_put oj a o.dst v q1
  simp only [wpOp, hj, wa] at g ⊢
  by_cases hw : Region.wanted oj (yielded ops a.tmps) = true
  · rw [if_pos hw] at g ⊢
    refine g.elim (fun g => .inl ?_) (fun g => .inr ⟨?_, g.2⟩)
    · simp only [Oper.wp, ex] at g ⊢
      cases hr : (execOp a.eval oj).run P w with
      | halt x w1 =>
        rw [hr] at g
        cases x with
        | panic u => exact hQ _ _ _ g
        | _ => exact g
      | ok n w1 =>
        rw [hr] at g
        cases n with
        | value u => exact step a u h w1 g
        | skip => exact step a undef h w1 g
        | defer d => exact step { a with defers := d :: a.defers } undef (Only.like (a := a) h rfl rfl) w1 (by rw [← Act.put_defers]; exact g)
        | enter f args =>
          refine Calls.mono g fun e w2 k => ?_
          cases e with
          | returned u => exact step a u h w2 k
          | panicked c => exact hQ _ _ _ k
          | outgrown => exact k
        | row r args => exact Rows.mono g fun u w2 k => step a u h w2 k
        | _ => exact g
    · have g1 := g.1
      simp only [Oper.asks, ex] at g1 ⊢
      exact g1
  · rw [if_neg hw] at g ⊢
    exact step a undef h w g

/-- **The call may be made now.** -/
theorem early_aux {i : Nat} (hi : ops[i]? = some o) (hs : ∀ (j : Nat) (x : Oper) cs b, ops[j]? = some x → x.op ≠ .select cs b) (hQ : ∀ c b w, Q (.panic c) (b.put o.dst v) w → Q (.panic c) b w) (fuel : Nat) :
    ∀ (listed : Array Bool) (a : Act) (w : World), (∀ j x, ops[j]? = some x → j ≠ i → listed.getD j true = false → (∀ e ∈ x.after, Region.binds md e = true → e.on ≠ i) → o.apart ops x = true) → i ∈ Region.ready md ops listed → Only P ops o v a →
      wpAny P md ops Q fuel (listed.setIfInBounds i true) (a.put o.dst v) w → wpAny P md ops Q (fuel + 1) listed a w := by
  induction fuel with
  | zero =>
    intro listed a w _ hr hy g
    refine ⟨fun e => absurd hr (by rw [e]; simp), fun j hj => ?_⟩
    by_cases e : j = i
    · rw [e]; exact hy.made hi g
    · exact absurd (ready_mono hj e) (by rw [g.1]; simp)
  | succ fuel ih =>
    intro listed a w hf hr hy g
    refine ⟨fun e => absurd hr (by rw [e]; simp), fun j hj => ?_⟩
    by_cases e : j = i
    · rw [e]; exact hy.made hi g
    · obtain ⟨h0, x, hx, hall⟩ := mem_ready.1 hj
      have hn : ∀ y ∈ x.after, Region.binds md y = true → y.on ≠ i := fun y hy1 hb eq => by
        have t1 := hall y hy1 hb
        have t2 := (mem_ready.1 hr).1
        rw [eq] at t1
        by_cases hl : i < listed.size
        · simp only [Array.getD_eq_getD_getElem?, Array.getElem?_eq_getElem hl, Option.getD_some] at t1 t2
          rw [t1] at t2
          cases t2
        · simp only [Array.getD_eq_getD_getElem?, Array.getElem?_eq_none (Nat.le_of_not_lt hl), Option.getD_none] at t1
          cases t1
      refine wpOp_mono (fun b w' k => ih _ b w' (fun j2 x2 hx2 hne hun hno => hf j2 x2 hx2 hne ?_ hno) (ready_mono hr (Ne.symm e)) k.1 ?_) (hy.past hx (hf j x hx e h0 hn) (fun cs b => hs i o cs b hi) (fun cs b => hs j x cs b hx) hQ (g.2 j (ready_mono hj e)))
      · by_cases e2 : j = j2
        · rw [← e2]; exact h0
        · rw [getD_set_ne true e2] at hun; exact hun
      · rw [Array.setIfInBounds_comm _ _ e]
        exact k.2
theorem wpAny_early {i : Nat} {fuel : Nat} {listed : Array Bool} {a : Act} {w : World} (hi : ops[i]? = some o) (hs : Region.noSelect ops = true) (hf : Region.free md ops listed i = true) (hr : (Region.ready md ops listed).contains i = true)
    (hQ : ∀ c b w, Q (.panic c) (b.put o.dst v) w → Q (.panic c) b w) (hy : Only P ops o v a) (g : wpAny P md ops Q fuel (listed.setIfInBounds i true) (a.put o.dst v) w) : wpAny P md ops Q (fuel + 1) listed a w :=
  early_aux hi (Region.noSelect_spec hs) hQ fuel listed a w (Region.free_spec hi hf) (by simpa using hr) hy g
end
end
end Go.Proofs.Ytljlioglpaogdaf
