/- croftref.Rest. -/
import Derived.Test.YtenbmdibbnlljadProg
import Derived.Test.YtenbmdibbnlljadSlice
namespace Go.Proofs.Ytenbmdibbnlljad
open Go.RowKit

/-- A place of m. -/
def Placed (m : Nat) (e : Ending) : Prop := ∃ q : Nat, q < m ∧ e = .returned (.int .i64 q)
theorem rRest (i : Int) (m : Nat) (w : World) (hm : 0 < m) (hm2 : m ≤ 1000) :
    Calls Try.prog 24 #[.int .i64 i, .int .i64 m] w fun e w' => Placed m e ∧ w' = w := by
  have hm3 : ¬ (m : Int) = 0 := by omega
  have h1 : -(m : Int) < Int.tmod i m := by have := Int.lt_tmod_of_pos i (show (0 : Int) < m by omega); omega
  have h2 : Int.tmod i m < m := Int.tmod_lt_of_pos i (show (0 : Int) < m by omega)
  obtain ⟨r, hr⟩ : ∃ r, Int.tmod i m = r := ⟨_, rfl⟩
  rw [hr] at h1 h2
  by_cases h3 : r < 0
  · go_enter Try.func24, Try.ntmps24
    go_wp2
    go_ret
    exact ⟨⟨(r + m).toNat, by omega, by show Ending.returned (Value.int .i64 (r + m)) = _; rw [Int.toNat_of_nonneg (by omega)]⟩, rfl⟩
  · go_enter Try.func24, Try.ntmps24
    go_wp2
    go_ret
    exact ⟨⟨r.toNat, by omega, by show Ending.returned (Value.int .i64 r) = _; rw [Int.toNat_of_nonneg (by omega)]⟩, rfl⟩
end Go.Proofs.Ytenbmdibbnlljad
