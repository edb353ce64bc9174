/- croftref.Weights. · croftref.Times. · (*croftref.Store).Combine, Multiply. -/
import Derived.Test.YtgmelcdgnjcojagDoorToTrimC
import Derived.Test.YtgmelcdgnjcojagDoorToFitC
import Derived.Test.YtgmelcdgnjcojagDoorToContC
import Derived.Test.YtgmelcdgnjcojagDoorToLsV2
import Derived.Test.YtgmelcdgnjcojagDoorToGateM
import Derived.Test.YtgmelcdgnjcojagDoorToWireC
import Derived.Test.YtgmelcdgnjcojagDoorToEnR
import Derived.Test.YtgmelcdgnjcojagDoorToTRows
import Derived.Test.YtgmelcdgnjcojagDoorToRefPolyC
import Derived.Test.YtgmelcdgnjcojagDoorToPlacedC
import Derived.Test.YtgmelcdgnjcojagDoorToNewtonM
import Derived.BigQuiet
namespace Go.Proofs.YtgmelcdgnjcojagDoor
open Go.RowKit Crm

/-- The shares of which party i's number is 1, the others' 0. -/
def swl (ts : List Int) (i m : Nat) : List (Int × Int) := (List.range m).map fun j => (ts.getD j 0, if j = i then 1 else 0)
theorem swl_len (ts : List Int) (i m : Nat) : (swl ts i m).length = m := by simp [swl]
theorem swl_snoc (ts : List Int) (i m : Nat) {x y : Int} (hx : ts.getD m 0 = x) (hy : y = if m = i then 1 else 0) : swl ts i m ++ [(x, y)] = swl ts i (m + 1) := by
  unfold swl
  rw [List.range_succ, List.map_append, hy, ← hx]
  rfl
theorem swl_getD (ts : List Int) (i : Nat) {m j : Nat} (h : j < m) : (swl ts i m).getD j (0, 0) = (ts.getD j 0, if j = i then 1 else 0) := by simp [swl, h]
theorem swl_ok {ts : List Int} {n : Nat} (i : Nat) (hd : dis (fi ts) n) : okk (swl ts i n) n := by
  intro j hj
  rw [swl_getD ts i hj]
  have h1 := (hd j hj).1
  unfold fi at h1
  refine ⟨⟨h1.1, by simp only; omega⟩, fun q hq => ?_⟩
  rw [swl_getD ts i (show q < n by omega)]
  exact (hd j hj).2 q hq
theorem swl_wt {ts : List Int} {n i : Nat} {p : List Int} (hd : dis (fi ts) n) (hi : i < n) (h : LoI (swl ts i n) n n p) : nm (ev p 0) = wt ts n i := by
  refine Wgt.one hd ⟨p, h.le, fun j hj => ?_, rfl⟩ (wt_wgt hd hi)
  have := h.val j hj
  rw [if_pos hj, swl_getD ts i hj] at this
  rw [this]
  split <;> rfl
def wtl (ts : List Int) (n k : Nat) : List Int := (List.range k).map (wt ts n)
theorem wtl_snoc (ts : List Int) (n k : Nat) : wtl ts n k ++ [wt ts n k] = wtl ts n (k + 1) := by simp [wtl, List.range_succ]
theorem wtl_bd (ts : List Int) (n k : Nat) : ∀ x ∈ wtl ts n k, 0 ≤ x ∧ x ≤ 2147483646 := by
  intro x hx
  obtain ⟨i, _, rfl⟩ := List.mem_map.1 hx
  exact wt_bd ts n i

end Go.Proofs.YtgmelcdgnjcojagDoor

namespace Go.Proofs.YtgmelcdgnjcojagDoor
open Go.RowKit Crm

theorem infoVs : (Tryd.prog.info? 22).map (fun i => (i.zero, i.size, i.bytes)) = some (some (.slice none 0 0), 1, 24) := by kernel_rfl

theorem wrap_i64 {x : Int} (h0 : -1000000 ≤ x) (h1 : x ≤ 1000000) : IntKind.i64.wrap x = x := by
  unfold IntKind.wrap
  simp [IntKind.signed, IntKind.bits]
  omega
/-- Rows that lie elsewhere. -/
def Far (L : List Value) (n lo hi : Nat) : Prop := ∀ p, p < n → ∀ gg, (L.getD p (.slice none 0 0)).ownBlock = some gg → gg < lo ∨ hi ≤ gg
theorem map_getDN {f : Nat → Int} {m i : Nat} (h : i < m) : ((List.range m).map f).getD i 0 = f i := by simp [h]
theorem infoS1 : (Tryd.prog.info? 34).map (·.size) = some 1 := by kernel_rfl
/-- What all were dealt by the first i. -/
def gti (t : Nat) (xs ys ds : List Int) (n i : Nat) : List (List Int) := (List.range n).map fun j => tmR t xs ys ds i j
theorem gti_len (t : Nat) (xs ys ds : List Int) (n i : Nat) : (gti t xs ys ds n i).length = n := by simp [gti]
theorem gti_zero (t : Nat) (xs ys ds : List Int) (n : Nat) : List.replicate n [] = gti t xs ys ds n 0 := by
  apply List.ext_getElem?
  intro i
  by_cases hi : i < n
  · simp [gti, tmR, hi]
  · simp [gti, hi]
/-- .. and the first j of them by one more. -/
def gtj (t : Nat) (xs ys ds : List Int) (n i j : Nat) : List (List Int) := (List.range n).map fun p => if p < j then tmR t xs ys ds (i + 1) p else tmR t xs ys ds i p
theorem gtj_len (t : Nat) (xs ys ds : List Int) (n i j : Nat) : (gtj t xs ys ds n i j).length = n := by simp [gtj]
theorem gtj_zero (t : Nat) (xs ys ds : List Int) (n i : Nat) : gtj t xs ys ds n i 0 = gti t xs ys ds n i := by simp [gtj, gti]
theorem gtj_full (t : Nat) (xs ys ds : List Int) (n i : Nat) : gtj t xs ys ds n i n = gti t xs ys ds n (i + 1) := by
  unfold gtj gti
  refine List.map_congr_left fun p hp => ?_
  rw [if_pos (List.mem_range.1 hp)]
theorem gtj_getD (t : Nat) (xs ys ds : List Int) {n i j : Nat} (h : j < n) : (gtj t xs ys ds n i j).getD j [] = tmR t xs ys ds i j := by simp [gtj, h]
theorem gti_getD (t : Nat) (xs ys ds : List Int) {n i j : Nat} (h : j < n) : (gti t xs ys ds n i).getD j [] = tmR t xs ys ds i j := by simp [gti, h]
theorem gtj_set (t : Nat) (xs ys ds : List Int) (n i j : Nat) : (gtj t xs ys ds n i j).set j (tmR t xs ys ds (i + 1) j) = gtj t xs ys ds n i (j + 1) := by
  apply List.ext_getElem?
  intro q
  rw [List.getElem?_set]
  by_cases hq : q < n
  · by_cases e : j = q
    · subst e; simp [gtj, hq]
    · have : (q < j + 1) = (q < j) := by apply propext; omega
      simp [gtj, hq, e, this]
  · by_cases e : j = q
    · subst e; simp [gtj, hq]
    · simp [gtj, hq, e]

end Go.Proofs.YtgmelcdgnjcojagDoor

namespace Go.Proofs.YtgmelcdgnjcojagDoor
open Go.RowKit Crm

/-- What a handle's look-up tells. -/
theorem Sto.slice {TY : TypeId} {w : World} {p b : Nat} {V : Int → Option Value} {s : Kt} (h : Sto TY w p b V s) {x : Int} {l : List Int} (hf : s.f x = some l) : ∃ a c, V x = some (Value.slice a s.n c) ∧ Rd w a s.n c l := by
  rcases h.val x with e | ⟨l', a, c, e1, e2, e3⟩
  · rw [e.1] at hf; cases hf
  · rw [e1] at hf
    obtain rfl := Option.some.inj hf
    exact ⟨a, c, e2, e3⟩
theorem look_at {w : World} {b q : Nat} {V : Int → Option Value} {x : Int} {v : Value} (h : MapI w b q V) (hv : V x = some v) (hx : i64r x) : (Instr.lookup 105 (.map (some b)) (.int .i64 x) false).run Tryd.prog w = .ok v w := by
  have := (h.look Tryd.underlying105 (zeroL _) hx).2
  rw [hv] at this
  exact this

end Go.Proofs.YtgmelcdgnjcojagDoor
