/- What the calls of package circuit answer. · croftkeep.CircuitSums' closure, and slices.ContainsFunc with it: is there a product? -/
import Derived.Test.YtljlioglpaogdafDoorCircM
import Derived.Test.YtljlioglpaogdafDoorToShpM
import Derived.Test.YtljlioglpaogdafDoorToShortC
namespace Go.Proofs.YtljlioglpaogdafDoor
set_option linter.unusedVariables false
set_option maxRecDepth 100000
set_option maxHeartbeats 8000000
section
open Crm Go.RowKit
/-- What Inputs answers. -/
def Cin (G : List Gt) (O : List Int) (n m : Nat) (w : World) (e : Ending) (w' : World) : Prop :=
  ((∃ r, r ≠ 0 ∧ Cke G O n m r ∧ e = .returned (.tuple #[.slice none 0 0, .int .i64 r])) ∨
   (Cke G O n m 0 ∧ ∃ v, e = .returned (.tuple #[v, .int .i64 0]) ∧ w'.ownsRow w.heap.size 3 1 v (ci G n) (zns (whl G n)))) ∧ Below w.heap.size w w'
/-- What is wrong with a circuit and its inputs. -/
def Cre (G : List Gt) (O : List Int) (n m q : Nat) (r : Int) : Prop :=
  (r ≠ 0 ∧ Cke G O n m r) ∨ (Cke G O n m 0 ∧ ((q ≠ ci G n ∧ r = 5) ∨ (q = ci G n ∧ r = 0)))
theorem Cre.one {G : List Gt} {O : List Int} {n m q : Nat} {r s : Int} (h : Cre G O n m q r) (k : Cre G O n m q s) : r = s := by
  rcases h with ⟨h1, h2⟩ | ⟨h1, ⟨h2, rfl⟩ | ⟨h2, rfl⟩⟩ <;> rcases k with ⟨k1, k2⟩ | ⟨k1, ⟨k2, rfl⟩ | ⟨k2, rfl⟩⟩
  all_goals first
    | rfl
    | exact h2.one k2
    | exact absurd (h2.one k1) h1
    | exact absurd (k2.one h1) k1
    | exact absurd k2 h2
    | exact absurd h2 k2
theorem Cre.ok {G : List Gt} {O : List Int} {n m q : Nat} (h : Cre G O n m q 0) : Cke G O n m 0 ∧ q = ci G n := by
  rcases h with ⟨h1, _⟩ | ⟨h1, ⟨_, h2⟩ | ⟨h2, _⟩⟩
  · exact absurd rfl h1
  · omega
  · exact ⟨h1, h2⟩
/-- What Run answers. -/
def Crn (G : List Gt) (O ins : List Int) (n m q : Nat) (w : World) (e : Ending) (w' : World) : Prop :=
  ((∃ r, r ≠ 0 ∧ Cre G O n m q r ∧ e = .returned (.tuple #[.slice none 0 0, .int .i64 r])) ∨
   (Cre G O n m q 0 ∧ ∃ v, e = .returned (.tuple #[v, .int .i64 0]) ∧ w'.ownsRow w.heap.size 37 1 v m ((otl G O ins m).map (Value.int .u64)))) ∧ Below w.heap.size w w'
theorem kIsMul (k x y z : Int) (w : World) :
    Calls Tryd.prog 14 #[.agg #[.int .i64 k, .int .i64 x, .int .i64 y, .int .u64 z]] w fun e w' => e = .returned (.bool (decide (k = 5))) ∧ Below w.heap.size w w' := by
  have hbA : Below w.heap.size w (w.alloc (.cells #[.int .i64 k, .int .i64 x, .int .i64 y, .int .u64 z] 43)) := (Below.refl _ _).alloc (Nat.le_refl _) _
  go_enter Tryd.func14, Tryd.ntmps14
  go_wp2
  go_ret
  exact ⟨rfl, hbA⟩

theorem kIndexMul (ag : Option Addr) (n cg : Nat) (G : List Gt) (w : World) (h : RdG w ag n cg G) :
    Calls Tryd.prog 32 #[.slice ag n cg, .func (.func 14) #[] #[]] w fun e w' => ((e = .returned (.int .i64 (-1)) ∧ ∀ i, i < n → (gt G i).k ≠ 5) ∨ ∃ p : Nat, p < n ∧ e = .returned (.int .i64 p)) ∧ Below w.heap.size w w' := by
  have hcap := h.cap
  have hmax := h.max
  unfold maxLen at hmax
  go_enter Tryd.func32, Tryd.ntmps32
  go_wp2
  go_loopw [8] (fun i wr => ∃ k : Nat, k ≤ n ∧ i = .int .i64 k ∧ Hid (∀ j, j < k → (gt G j).k ≠ 5) ∧ Below w.heap.size w wr) (fun i _ => n - (intOf i).toNat)
  case atStart => exact ⟨0, Nat.zero_le _, rfl, fun j hj => by omega, Below.refl _ _⟩
  case round =>
    obtain ⟨p, hp, rfl, HN, hbel⟩ := hrel
    have hs1 := hbel.size
    by_cases hlt : p < n
    · obtain ⟨b, o, k, x, y, z, rfl, hbb, HGi, hk, hx, hy, hz, c1, c2, c3, c4⟩ := (h.below hbel).one hlt
      go_wp2_with fail
      refine (kIsMul _ _ _ _ _).mono ?_
      rintro e w3 ⟨rfl, hb3⟩
      have hw3 := hbel.trans (hb3.mono hs1)
      clear hb3 hbel c1 c2 c3 c4 hx hy hz
      by_cases hk5 : k = 5
      · subst hk5
        go_wp2
        go_ret
        exact ⟨.inr ⟨p, hlt, rfl⟩, hw3⟩
      · have hkb : decide (k = 5) = false := by simpa using hk5
        have HN2 : Hid (∀ j, j < p + 1 → (gt G j).k ≠ 5) := fun j hj => by
          by_cases e : j = p
          · rw [e, HGi.out]; exact hk5
          · exact HN.out j (by omega)
        clear hk5
        go_wp2
        go_roundw
        case rel => exact ⟨p + 1, by omega, by go_num, HN2, hw3⟩
        case measure => simp [intOf]; omega
    · have hkn : p = n := by omega
      subst hkn
      go_wp2
      go_ret
      exact ⟨.inl ⟨rfl, HN.out⟩, hbel⟩

theorem kContMul (ag : Option Addr) (n cg : Nat) (G : List Gt) (w : World) (h : RdG w ag n cg G) :
    Calls Tryd.prog 13 #[.slice ag n cg, .func (.func 14) #[] #[]] w fun e w' => ((e = .returned (.bool false) ∧ ∀ i, i < n → (gt G i).k ≠ 5) ∨ e = .returned (.bool true)) ∧ Below w.heap.size w w' := by
  have hcap := h.cap
  have hmax := h.max
  unfold maxLen at hmax
  go_enter Tryd.func13, Tryd.ntmps13
  go_wp2_with fail
  refine (kIndexMul _ _ _ _ _ h).mono ?_
  rintro e w1 ⟨⟨rfl, hN⟩ | ⟨p, hp, rfl⟩, hb1⟩
  · have HN : Hid (∀ i, i < n → (gt G i).k ≠ 5) := hN
    clear hN
    go_wp2
    go_ret
    exact ⟨.inl ⟨rfl, HN.out⟩, hb1⟩
  · go_wp2
    go_ret
    exact ⟨.inr rfl, hb1⟩
end
end Go.Proofs.YtljlioglpaogdafDoor
