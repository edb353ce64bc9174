/- Lists of numbers as polynomials: noughts at the end, values, products number by number. Plain: nothing of the program. -/
import Derived.Test.YtljlioglpaogdafDoorMath
namespace Crm

def nz (xs : List Int) : List Int := xs.map nm
/-- How many of the first n numbers stay when the noughts at the end go. -/
def tl (xs : List Int) : Nat → Nat
  | 0 => 0
  | n + 1 => if xs.getD n 0 = 0 then tl xs n else n + 1
def trm (xs : List Int) : List Int := xs.take (tl xs xs.length)
def nrm (xs : List Int) : List Int := trm (nz xs)
def ev : List Int → Int → Int
  | [], _ => 0
  | a :: l, x => a + x * ev l x
theorem tl_le (xs : List Int) : ∀ n, tl xs n ≤ n
  | 0 => Nat.le_refl _
  | n + 1 => by rw [tl]; split; have := tl_le xs n; omega; omega
theorem nz_getD (xs : List Int) (i : Nat) : (nz xs).getD i 0 = nm (xs.getD i 0) := by
  unfold nz
  by_cases h : i < xs.length
  · simp [List.getElem?_eq_getElem h]
  · simp [List.getElem?_eq_none (show xs.length ≤ i by omega)]; rfl
theorem trm_len (xs : List Int) : (trm xs).length = tl xs xs.length := by
  have := tl_le xs xs.length
  unfold trm
  simp; omega
theorem getD_set (L : List Int) (i j : Nat) (v : Int) : (L.set i v).getD j 0 = if i = j ∧ j < L.length then v else L.getD j 0 := by
  simp only [List.getD_eq_getElem?_getD, List.getElem?_set]
  by_cases h : i = j
  · subst h
    by_cases hl : i < L.length
    · simp [hl]
    · simp [hl]
  · simp [h]
end Crm
