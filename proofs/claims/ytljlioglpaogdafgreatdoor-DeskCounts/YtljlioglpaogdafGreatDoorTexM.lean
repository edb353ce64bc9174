/- Circuits that are told alike reckon alike: plain facts. -/
import Derived.Test.YtljlioglpaogdafGreatDoorToTwByM
import Derived.Test.YtljlioglpaogdafGreatDoorToParN
namespace Go.Proofs.YtljlioglpaogdafGreatDoor
set_option linter.unusedVariables false
set_option maxRecDepth 100000
set_option maxHeartbeats 8000000
section
open Crm
def Alk (A B : List Gt) (N : Nat) : Prop := ∀ i, i < N → (gt A i).k = (gt B i).k ∧ (gt A i).a = (gt B i).a ∧ (gt A i).b = (gt B i).b ∧ nm (gt A i).n = nm (gt B i).n
theorem Alk.whl {A B : List Gt} {N : Nat} (h : Alk A B N) : ∀ i, i ≤ N → whl A i = whl B i
  | 0, _ => rfl
  | i + 1, hi => by
    obtain ⟨h1, h2, _, _⟩ := h i (by omega)
    show (if (gt A i).k = 1 then Go.Proofs.YtljlioglpaogdafGreatDoor.whl A i ++ [(gt A i).a] else Go.Proofs.YtljlioglpaogdafGreatDoor.whl A i) = (if (gt B i).k = 1 then Go.Proofs.YtljlioglpaogdafGreatDoor.whl B i ++ [(gt B i).a] else Go.Proofs.YtljlioglpaogdafGreatDoor.whl B i)
    rw [h1, h2, Alk.whl h i (by omega)]
theorem Alk.ci {A B : List Gt} {N : Nat} (h : Alk A B N) {i : Nat} (hi : i ≤ N) : ci A i = ci B i := by unfold Go.Proofs.YtljlioglpaogdafGreatDoor.ci; rw [h.whl i hi]
theorem Alk.dwn {A B : List Gt} {N : Nat} (h : Alk A B N) (n t : Nat) : ∀ i, i ≤ N → dwn A n t i = dwn B n t i
  | 0, _ => rfl
  | i + 1, hi => by
    obtain ⟨h1, _, _, _⟩ := h i (by omega)
    rw [Go.Proofs.YtljlioglpaogdafGreatDoor.dwn, Go.Proofs.YtljlioglpaogdafGreatDoor.dwn, h1, Alk.dwn h n t i (by omega)]
theorem Alk.gv {A B : List Gt} {N : Nat} (h : Alk A B N) (W : List Int) (q : Int) {i : Nat} (hi : i < N) : gv W q (gt A i) = gv W q (gt B i) := by
  obtain ⟨h1, h2, h3, h4⟩ := h i hi
  unfold Go.Proofs.YtljlioglpaogdafGreatDoor.gv
  rw [h1, h2, h3, h4]
  have e : nm (W.getD (gt B i).a.toNat 0 * (gt A i).n) = nm (W.getD (gt B i).a.toNat 0 * (gt B i).n) := by rw [← nm_mulr, h4, nm_mulr]
  rw [e]
theorem Alk.wv {A B : List Gt} {N : Nat} (h : Alk A B N) (ins : List Int) : ∀ i, i ≤ N → wv A ins i = wv B ins i
  | 0, _ => rfl
  | i + 1, hi => by
    rw [Go.Proofs.YtljlioglpaogdafGreatDoor.wv, Go.Proofs.YtljlioglpaogdafGreatDoor.wv, Alk.wv h ins i (by omega), h.ci (show i ≤ N by omega), h.gv _ _ (show i < N by omega)]
theorem Alk.wi {A B : List Gt} {N : Nat} (h : Alk A B N) (ins : List Int) {i : Nat} (hi : i < N) : wi A ins i = wi B ins i := by
  unfold Go.Proofs.YtljlioglpaogdafGreatDoor.wi
  rw [h.wv ins i (by omega), h.ci (show i ≤ N by omega), h.gv _ _ hi]
theorem Alk.otl {A B : List Gt} {N m : Nat} {O : List Int} (h : Alk A B N) (ins : List Int) (hO : okO O N m) : otl A O ins m = otl B O ins m := by
  unfold Go.Proofs.YtljlioglpaogdafGreatDoor.otl
  refine List.map_congr_left fun j hj => h.wi ins ?_
  have := hO j (List.mem_range.1 hj)
  omega
end
end Go.Proofs.YtljlioglpaogdafGreatDoor
