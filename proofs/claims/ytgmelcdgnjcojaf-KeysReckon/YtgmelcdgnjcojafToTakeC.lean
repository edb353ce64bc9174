/- slices.Sort of a few ints: INSERTION. · croftref.Fit, croftref.Open. · solve.takeTimes. -/
import Derived.Test.YtgmelcdgnjcojafProg
import Derived.Test.YtgmelcdgnjcojafToOwnC
import Derived.Test.YtgmelcdgnjcojafToRDecM
import Derived.Deep.QuietTactic
import Derived.BigQuiet
import Derived.BigRegion
import Derived.Test.YtgmelcdgnjcojafToShamirM
import Derived.Test.YtgmelcdgnjcojafToLagC
import Derived.Test.YtgmelcdgnjcojafToGaussM
import Derived.Test.YtgmelcdgnjcojafToBadM
import Derived.Test.YtgmelcdgnjcojafToTrimC
import Derived.Test.YtgmelcdgnjcojafToPolyM2
import Derived.Test.YtgmelcdgnjcojafToPolyM3
import Derived.Deep.RegionWith
namespace Go.Proofs.Ytgmelcdgnjcojaf
open Go.RowKit Crm

theorem grown_drewN {a b : World} {r : Option Nat} (h : a.grownBy b r) (q : Nat) : a.grownBy (b.drewN q) r := ⟨h.os, h.tape, h.output, h.size, h.block⟩
/-- What Sort leaves: the same ints, in order. -/
def Sorted_ (base n : Nat) (v : Value) (L : List Int) (w : World) (e : Ending) (w' : World) : Prop :=
  e = .returned (.tuple #[]) ∧ ∃ L', OuI L L' n ∧ w'.ownsRow base 3 1 v n (zns L') ∧ w.grownBy w' v.ownBlock

end Go.Proofs.Ytgmelcdgnjcojaf

namespace Go.Proofs.Ytgmelcdgnjcojaf
open Go.RowKit Crm

theorem RdS.take {w : World} {a : Option Addr} {n c : Nat} {l : List (Int × Int)} (h : RdS w a n c l) {k : Nat} (hk : k ≤ n) : RdS w a k c (l.take k) := by
  have e : ∀ i, i < k → (l.take k).getD i (0, 0) = l.getD i (0, 0) := fun i hi => by simp [hi]
  refine ⟨by have := h.len; simp; omega, by have := h.cap; omega, h.max, fun i hi => ?_, h.nil, fun x hx i hi => ?_⟩
  · rw [e i hi]; exact h.bd i (by omega)
  · rw [e i hi]; exact h.cell x hx i (by omega)

/-- What Fit gives. -/
def FitsO (l : List (Int × Int)) (n m : Nat) (w : World) (e : Ending) (w' : World) : Prop :=
  ∃ (p : List Int) (ap : Option Addr) (cp : Nat) (B : List Int) (ab : Option Addr) (cb : Nat), e = .returned (.tuple #[.slice ap p.length cp, .slice ab (bdl l p n).length cb]) ∧ w'.ownsRow w.heap.size 23 1 (.slice ap p.length cp) p.length (p.map (Value.int .u64)) ∧ p.length ≤ m ∧ Hs l m p ∧ Nml p ∧
    w'.ownsRow w.heap.size 3 1 (.slice ab (bdl l p n).length cb) (bdl l p n).length (zns B) ∧ OuI (bdl l p n) B (bdl l p n).length ∧ Below w.heap.size w w'

/-- What Fit gives, to be read. -/
def Fits (l : List (Int × Int)) (n m : Nat) (w : World) (e : Ending) (w' : World) : Prop :=
  ∃ (p : List Int) (ap : Option Addr) (cp : Nat) (B : List Int) (ab : Option Addr) (cb : Nat), e = .returned (.tuple #[.slice ap p.length cp, .slice ab (bdl l p n).length cb]) ∧ Rd w' ap p.length cp p ∧ p.length ≤ m ∧ Hs l m p ∧ Nml p ∧
    w'.ownsRow w.heap.size 3 1 (.slice ab (bdl l p n).length cb) (bdl l p n).length (zns B) ∧ OuI (bdl l p n) B (bdl l p n).length ∧ Below w.heap.size w w'
end Go.Proofs.Ytgmelcdgnjcojaf

namespace Go.Proofs.Ytgmelcdgnjcojaf
open Go.RowKit Crm

/-- L, from which t times D has been taken at the first k places. -/
structure Tk (L D : List Int) (t : Int) (k : Nat) (A : List Int) : Prop where
  len : A.length = L.length
  bd : ∀ x ∈ A, 0 ≤ x ∧ x ≤ 2147483646
  at_ : ∀ j, j < L.length → A.getD j 0 = if j < k then nm (L.getD j 0 - t * D.getD j 0) else L.getD j 0

theorem set_bd {A : List Int} {k : Nat} {v : Int} (h : ∀ x ∈ A, 0 ≤ x ∧ x ≤ 2147483646) (hv : 0 ≤ v ∧ v ≤ 2147483646) : ∀ x ∈ A.set k v, 0 ≤ x ∧ x ≤ 2147483646 := fun x hx => by
  rcases List.mem_or_eq_of_mem_set hx with h1 | h1
  · exact h x h1
  · rw [h1]; exact hv
theorem tk_start (L D : List Int) (t : Int) (h : ∀ x ∈ L, 0 ≤ x ∧ x ≤ 2147483646) : Tk L D t 0 L := ⟨rfl, h, fun j _ => by rw [if_neg (by omega)]⟩
theorem tk_step {L D A : List Int} {t : Int} {k : Nat} (h : Tk L D t k A) (hk : k < L.length) {v : Int} (hv : v = nm (L.getD k 0 - t * D.getD k 0)) : Tk L D t (k + 1) (A.set k v) := by
  refine ⟨by rw [List.length_set]; exact h.len, set_bd h.bd (by rw [hv]; exact nm_bd _), fun j hj => ?_⟩
  rw [getD_set]
  by_cases e : j = k
  · subst e
    rw [if_pos ⟨rfl, by rw [h.len]; exact hk⟩, if_pos (by omega), hv]
  · rw [if_neg (by omega), h.at_ j hj]
    by_cases e2 : j < k
    · rw [if_pos e2, if_pos (by omega)]
    · rw [if_neg e2, if_neg (by omega)]

end Go.Proofs.Ytgmelcdgnjcojaf
