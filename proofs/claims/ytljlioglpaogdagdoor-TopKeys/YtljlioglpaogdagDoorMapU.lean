/- Maps from ints to numbers; ranging over them. -/
import Derived.Test.YtljlioglpaogdagDoorToLsW
import Derived.Maps.RangeWalk
import Derived.OpenShut
namespace Go.Proofs.YtljlioglpaogdagDoor
set_option linter.unusedVariables false
set_option maxRecDepth 100000
set_option maxHeartbeats 8000000
section
open Go.Maps Go.RowKit
theorem zeroUm (w : World) : (zeroValue 34).run Tryd.prog w = .ok (.int .u64 0) w := by kernel_rfl
theorem own_tightU {w : World} {P : Program} {k : TypeId} {R : Value → Option (DataW Unit × List MemPlace)} {b n : Nat} {D : DataW Unit} (h : w.ownsMap P k R b n D) : w.ownsMap P k R b (Maps.size D) D := by
  obtain ⟨es, clock, hb, F, _, hD⟩ := h
  refine ⟨es, clock, hb, F, ?_, hD⟩
  rw [hD]
  simp [Maps.size, length_sorted]
/-- D has the entries g. -/
def EntU (D : DataW Unit) (g : Int → Option Int) : Prop := ∀ k : Int, i64r k → Maps.has D (.int .i64 k) = (g k).isSome ∧ ∀ v, g k = some v → ∀ z, D.atKey (.int .i64 k) z = .lit (.int .u64 v)
/-- Block b is a map of q entries: g. -/
def MapU (w : World) (b q : Nat) (g : Int → Option Int) : Prop := ∃ D : DataW Unit, w.ownsMap Tryd.prog 3 (plainElem Tryd.prog 34) b q D ∧ Maps.size D = q ∧ EntU D g
theorem MapU.lt {w : World} {b q : Nat} {g : Int → Option Int} (h : MapU w b q g) : b < w.heap.size := let ⟨_, h1, _⟩ := h; h1.lt
theorem MapU.block {w w' : World} {b q : Nat} {g : Int → Option Int} (h : MapU w b q g) (e : w'.heap[b]? = w.heap[b]?) : MapU w' b q g := by
  obtain ⟨D, ⟨es, clock, hb, h1, h2, h3⟩, h4, h5⟩ := h
  exact ⟨D, ⟨es, clock, e.trans hb, h1, h2, h3⟩, h4, h5⟩
theorem MapU.map {w : World} {b q : Nat} {g : Int → Option Int} (h : MapU w b q g) : ∃ es clock, w.heap[b]? = some (.map es clock) := by
  obtain ⟨D, ⟨es, clock, hb, _⟩, _⟩ := h
  exact ⟨es, clock, hb⟩
theorem MapU.made (w : World) : MapU (w.alloc (.map #[] 0)) w.heap.size 0 (fun _ => none) :=
  ⟨.map [], World.ownsMap_made _ _ _ _, rfl, fun k _ => ⟨rfl, by simp⟩⟩
/-- One entry is laid. -/
def uset (g : Int → Option Int) (k : Int) (v : Option Int) : Int → Option Int := fun i => if i = k then v else g i
theorem MapU.store {w : World} {b q : Nat} {g : Int → Option Int} {t : TypeId} (h : MapU w b q g) (ht : Tryd.prog.underlying t = some (.map 3 34)) (hq : q ≤ 1000) {k v : Int} (hk : i64r k) (hv : 0 ≤ v ∧ v ≤ 18446744073709551615) :
    ∃ w', (Instr.mapUpdate t (.map (some b)) (.int .i64 k) (.int .u64 v)).run Tryd.prog w = .ok () w' ∧ MapU w' b (if (g k).isSome then q else q + 1) (uset g k (some v)) ∧ w.grownBy w' (some b) := by
  obtain ⟨D, ho, hs, hF⟩ := h
  obtain ⟨w', hr, ho', ht'⟩ := ho.store lawK ht (by unfold maxLen; omega) (keyK hk) (plainElem_int Tryd.underlying34 (WalkArith.wf_u64 hv))
  have hsz : Maps.size (D.put (.int .i64 k) (.lit (.int .u64 v))) = if (g k).isSome then q else q + 1 := by rw [size_put (ho.tidy lawK), (hF k hk).1, hs]
  refine ⟨w', hr, ⟨_, hsz ▸ own_tightU ho', hsz, fun i hi => ?_⟩, ht'.grown⟩
  unfold uset
  by_cases e : i = k
  · subst e
    rw [if_pos rfl, has_put_same ho.isMap (show WideAt.IsKeyLit (.int .i64 i) from trivial)]
    refine ⟨rfl, fun u hu z => ?_⟩
    obtain rfl := Option.some.inj hu
    exact atKey_put_same ho.isMap (show WideAt.IsKeyLit (.int .i64 i) from trivial) _ _
  · rw [if_neg e, has_put_other (lit_ne e)]
    refine ⟨(hF i hi).1, fun u hu z => ?_⟩
    rw [atKey_put_other (lit_ne e)]
    exact (hF i hi).2 u hu z
theorem MapU.drop {w : World} {b q : Nat} {g : Int → Option Int} {t e : TypeId} (h : MapU w b q g) (ht : Tryd.prog.underlying t = some (.map 3 e)) {k : Int} (hk : i64r k) (ty : TypeId) :
    ∃ w', (Builtin.delete_ #[t, 3] ty #[.map (some b), .int .i64 k]).run Tryd.prog w = .ok (.tuple #[]) w' ∧ MapU w' b (if (g k).isSome then q - 1 else q) (uset g k none) ∧ w.grownBy w' (some b) := by
  obtain ⟨D, ho, hs, hF⟩ := h
  obtain ⟨w', hr, ho', ht'⟩ := ho.drop lawK ht (keyK hk) ty
  have hsz : Maps.size (D.del (.int .i64 k)) = if (g k).isSome then q - 1 else q := by
    have := size_del (k := .int .i64 k) (ho.tidy lawK)
    rw [(hF k hk).1, hs] at this
    split at this <;> simp_all <;> omega
  refine ⟨w', hr, ⟨_, hsz ▸ own_tightU ho', hsz, fun i hi => ?_⟩, ht'.grown⟩
  unfold uset
  by_cases e : i = k
  · subst e
    rw [if_pos rfl, has_del_same]
    exact ⟨rfl, fun u hu => by cases hu⟩
  · rw [if_neg e, has_del_other (lit_ne e)]
    refine ⟨(hF i hi).1, fun u hu z => ?_⟩
    rw [atKey_del_other (lit_ne e)]
    exact (hF i hi).2 u hu z
theorem MapU.look {w : World} {b q : Nat} {g : Int → Option Int} {t : TypeId} (h : MapU w b q g) (ht : Tryd.prog.underlying t = some (.map 3 34)) {k : Int} (hk : i64r k) :
    (Instr.lookup t (.map (some b)) (.int .i64 k) false).run Tryd.prog w = .ok (.int .u64 ((g k).getD 0)) w := by
  obtain ⟨D, ho, hs, hF⟩ := h
  obtain ⟨c, hr, hat, _⟩ := ho.lookup_int lawK ht Tryd.underlying34 (zeroUm w) (keyK hk)
  rw [hr]
  cases hg : g k with
  | none =>
    rw [atKey_of_not_has (by rw [(hF k hk).1, hg]; rfl)] at hat
    have : (0 : Int) = c := by simpa using hat
    rw [← this]
    rfl
  | some v =>
    rw [(hF k hk).2 v hg] at hat
    have : v = c := by simpa using hat
    rw [← this]
    rfl
theorem MapU.len {w : World} {b q : Nat} {g : Int → Option Int} {t e : TypeId} (h : MapU w b q g) (ht : Tryd.prog.underlying t = some (.map 3 e)) (ty : TypeId) : (Builtin.len_ #[t] ty #[.map (some b)]).run Tryd.prog w = .ok (.int .i64 (q : Int)) w := by
  obtain ⟨D, ho, hs, _⟩ := h
  rw [ho.len ht ty, hs]
/-- Block r ranges over it; cnt entries are still to come. -/
def RngU (w : World) (b r q : Nat) (g : Int → Option Int) (cnt : Nat) : Prop := ∃ (D : DataW Unit) (left : Lit → Bool), w.ranges Tryd.prog 3 (plainElem Tryd.prog 34) b r q D left cnt ∧ Maps.size D = q ∧ EntU D g
theorem RngU.map {w : World} {b r q cnt : Nat} {g : Int → Option Int} (h : RngU w b r q g cnt) : MapU w b q g := by
  obtain ⟨D, left, h1, h2, h3⟩ := h
  exact ⟨D, h1.owns, h2, h3⟩
theorem RngU.kept {w w' : World} {b r q cnt : Nat} {g : Int → Option Int} (h : RngU w b r q g cnt) (eb : w'.heap[b]? = w.heap[b]?) (er : w'.heap[r]? = w.heap[r]?) : RngU w' b r q g cnt := by
  obtain ⟨D, left, ⟨es, clock, since, seen, c0, hb, F, hs, hD, hr, rest⟩, h2, h3⟩ := h
  exact ⟨D, left, ⟨es, clock, since, seen, c0, eb.trans hb, F, hs, hD, er.trans hr, rest⟩, h2, h3⟩
theorem RngU.lt {w : World} {b r q cnt : Nat} {g : Int → Option Int} (h : RngU w b r q g cnt) : r < w.heap.size := let ⟨_, _, h1, _⟩ := h; h1.lt

/-! At the operation. -/
theorem wpList_lookU (w : World) {ops : Array Oper} {rest : List Oper} {o : Oper} {a : Act} {Q : Exit → Act → World → Prop} (hg : o.guard = none) (m x : Operand) (t : TypeId) (hop : o.op = Op.lookup t m x false)
    (ht : Tryd.prog.underlying t = some (.map 3 34)) (b q : Nat) (g : Int → Option Int) (hm : a.eval m = .map (some b)) (h : MapU w b q g) (k : Int) (hx : a.eval x = .int .i64 k) (hk : i64r k)
    (hK : wpList Tryd.prog ops Q rest (a.put o.dst (.int .u64 ((g k).getD 0))) w) : wpList Tryd.prog ops Q (o :: rest) a w := by
  refine wpList_plain hg fun K' hK' => ?_
  unfold Oper.wp
  simp [execOp, hop, hm, hx, h.look ht hk, Result.andThen]
  exact hK' _ _ hK
theorem wpList_putU (w : World) {ops : Array Oper} {rest : List Oper} {o : Oper} {a : Act} {Q : Exit → Act → World → Prop} (hg : o.guard = none) (m x y : Operand) (t : TypeId) (hop : o.op = Op.mapUpdate t m x y)
    (ht : Tryd.prog.underlying t = some (.map 3 34)) (b q : Nat) (g : Int → Option Int) (hm : a.eval m = .map (some b)) (h : MapU w b q g) (hq : q ≤ 1000) (k v : Int) (hx : a.eval x = .int .i64 k) (hy : a.eval y = .int .u64 v) (hk : i64r k) (hv : 0 ≤ v ∧ v ≤ 18446744073709551615)
    (hK : ∀ w', MapU w' b (if (g k).isSome then q else q + 1) (uset g k (some v)) → w.grownBy w' (some b) → wpList Tryd.prog ops Q rest (a.put o.dst undef) w') : wpList Tryd.prog ops Q (o :: rest) a w := by
  refine wpList_plain hg fun K' hK' => ?_
  obtain ⟨w', hrun, r1, r2⟩ := h.store ht hq hk hv
  unfold Oper.wp
  simp [execOp, hop, hm, hx, hy, hrun, Result.andThen]
  exact hK' _ _ (hK w' r1 r2)
theorem wpList_delU (w : World) {ops : Array Oper} {rest : List Oper} {o : Oper} {a : Act} {Q : Exit → Act → World → Prop} (hg : o.guard = none) (m x : Operand) (t : TypeId) (hop : o.op = Op.call { callee := Callee.builtin Builtin.delete, args := #[m, x], argTypes := #[t, 3] })
    (e : TypeId) (ht : Tryd.prog.underlying t = some (.map 3 e)) (b q : Nat) (g : Int → Option Int) (hm : a.eval m = .map (some b)) (h : MapU w b q g) (k : Int) (hx : a.eval x = .int .i64 k) (hk : i64r k)
    (hK : ∀ w', MapU w' b (if (g k).isSome then q - 1 else q) (uset g k none) → w.grownBy w' (some b) → wpList Tryd.prog ops Q rest (a.put o.dst (.tuple #[])) w') : wpList Tryd.prog ops Q (o :: rest) a w := by
  refine wpList_plain hg fun K' hK' => ?_
  obtain ⟨w', hrun, r1, r2⟩ := h.drop ht hk o.type
  unfold Oper.wp
  simp [execOp, hop, resolve, invoke, builtin, hm, hx, hrun, Result.andThen]
  exact hK' _ _ (hK w' r1 r2)
theorem wpList_lenU (w : World) {ops : Array Oper} {rest : List Oper} {o : Oper} {a : Act} {Q : Exit → Act → World → Prop} (hg : o.guard = none) (m : Operand) (t : TypeId) (hop : o.op = Op.call { callee := Callee.builtin Builtin.len, args := #[m], argTypes := #[t] })
    (e : TypeId) (ht : Tryd.prog.underlying t = some (.map 3 e)) (b q : Nat) (g : Int → Option Int) (hm : a.eval m = .map (some b)) (h : MapU w b q g)
    (hK : wpList Tryd.prog ops Q rest (a.put o.dst (.int .i64 (q : Int))) w) : wpList Tryd.prog ops Q (o :: rest) a w := by
  refine wpList_plain hg fun K' hK' => ?_
  unfold Oper.wp
  simp [execOp, hop, resolve, invoke, builtin, hm, h.len ht o.type, Result.andThen]
  exact hK' _ _ hK
theorem wpList_rangeU (w : World) {ops : Array Oper} {rest : List Oper} {o : Oper} {a : Act} {Q : Exit → Act → World → Prop} (hg : o.guard = none) (m : Operand) (t : TypeId) (hop : o.op = Op.range t m) (e : TypeId) (ht : Tryd.prog.underlying t = some (.map 3 e)) (b q : Nat) (g : Int → Option Int)
    (hm : a.eval m = .map (some b)) (h : MapU w b q g)
    (hK : ∀ w', RngU w' b w.heap.size q g q → w.grownBy w' none → w'.heap.size = w.heap.size + 1 → wpList Tryd.prog ops Q rest (a.put o.dst (.pointer (some ⟨w.heap.size, 0, none⟩))) w') : wpList Tryd.prog ops Q (o :: rest) a w := by
  obtain ⟨D, ho, hs, hF⟩ := h
  refine wpList_range_own w hg m t hop 3 e lawK ht _ b q D hm ho fun w' h1 h2 h3 => hK w' ⟨D, Maps.has D, ?_, hs, hF⟩ h2 h3
  rw [hs] at h1
  exact h1
theorem wpList_nextU (w : World) {ops : Array Oper} {rest : List Oper} {o : Oper} {a : Act} {Q : Exit → Act → World → Prop} (hg : o.guard = none) (it : Operand) (hop : o.op = Op.next it false) (b r q cnt : Nat) (g : Int → Option Int) (hit : a.eval it = .pointer (some ⟨r, 0, none⟩)) (h : RngU w b r q g cnt)
    (hDone : wpList Tryd.prog ops Q rest (a.put o.dst (.tuple #[.bool false])) w)
    (hMore : ∀ (x c : Int) (w' : World) (cnt' : Nat), i64r x → g x = some c → RngU w' b r q g cnt' → cnt' < cnt → w.grownBy w' (some r) → w'.heap.size = w.heap.size → (Instr.entry (.pointer (some ⟨r, 0, none⟩))).run Tryd.prog w' = .ok (.tuple #[.int .i64 x, .int .u64 c]) w' → wpList Tryd.prog ops Q rest (a.put o.dst (.tuple #[.bool true, .int .i64 x, .int .u64 c])) w') :
    wpList Tryd.prog ops Q (o :: rest) a w := by
  obtain ⟨D, left, h1, h2, h3⟩ := h
  refine wpList_next_ranges_ii w hg it hop 3 34 .i64 .u64 lawK Tryd.underlying3 Tryd.underlying34 b r q D left cnt hit h1 (fun _ _ => hDone) fun x c w' cnt' hwx _ _ hat hrg hlt hgr hsz hen => ?_
  have hx : i64r x := bounds_i64 hwx
  refine hMore x c w' cnt' hx ?_ ⟨D, _, hrg, h2, h3⟩ hlt hgr hsz hen
  have hh := (h3 x hx).1
  rw [has_true_of_atKey hat] at hh
  cases hg : g x with
  | none => rw [hg] at hh; cases hh
  | some v =>
    have e := (h3 x hx).2 v hg .nil
    rw [hat] at e
    have : c = v := by simpa using e
    rw [this]
end
end Go.Proofs.YtljlioglpaogdagDoor
