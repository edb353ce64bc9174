/- (*twine.square).row. · Keys: what is told of them: plain. -/
import Derived.Test.YtljlioglpaogdacToRows2
import Derived.Test.YtljlioglpaogdacToShortC
import Derived.Test.YtljlioglpaogdacToCheckC
import Derived.Test.YtljlioglpaogdacToBadM
import Derived.Test.YtljlioglpaogdacDecodeM
import Derived.Test.YtljlioglpaogdacToFitC
import Derived.Test.YtljlioglpaogdacToLsV2
import Derived.Test.YtljlioglpaogdacToTEqC
import Derived.Test.YtljlioglpaogdacToWireC
import Derived.Test.YtljlioglpaogdacToGaussM
import Derived.Test.YtljlioglpaogdacToEnD
import Derived.Laws.Rows
import Derived.Laws.Tables
import Derived.Deep.AppendLies
import Derived.Deep.RegionLaw
import Derived.Test.YtljlioglpaogdacToKyM
namespace Go.Proofs.Ytljlioglpaogdac
set_option linter.unusedVariables false
set_option maxRecDepth 100000
set_option maxHeartbeats 8000000
section
open Crm Go.RowKit
/-- A row of the call's own, all of it. -/
theorem Blk.own {w : World} {g n B : Nat} {L : List Int} (h : Blk w g L) (hl : L.length = n) (hB : B ≤ g) (hn : n ≤ 1000) : w.ownsRow B 23 1 (.slice (some ⟨g, 0, none⟩) n n) n (L.map (Value.int .u64)) :=
  ⟨by simp [hl], .inr ⟨g, n, _, rfl, hB, h, Nat.le_refl _, by unfold maxLen; omega, by simp [hl], by rw [List.take_of_length_le (by simp [hl])]⟩⟩
end
section
open Crm
/-- Of each key the parties' numbers are shares, of t at the most, of g. -/
def Kvl (s : Kt) (g : Int → Option Int) : Prop := ∀ h, (s.f h = none ∧ g h = none) ∨ ∃ l v, s.f h = some l ∧ g h = some v ∧ Ksh s.n s.t l v
def gset (g : Int → Option Int) (h : Int) (v : Option Int) : Int → Option Int := fun i => if i = h then v else g i
theorem k0_vl (n t : Nat) : Kvl (k0 n t) (fun _ => none) := fun _ => .inl ⟨rfl, rfl⟩
theorem kput_vl {s : Kt} {g : Int → Option Int} {l : List Int} {v : Int} (h : Kvl s g) (hl : Ksh s.n s.t l v) : Kvl (kput s l) (gset g ((s.last : Int) + 1) (some v)) := fun i => by
  show (kset s.f ((s.last : Int) + 1) (some l) i = none ∧ gset g ((s.last : Int) + 1) (some v) i = none) ∨ ∃ l' v', kset s.f ((s.last : Int) + 1) (some l) i = some l' ∧ gset g ((s.last : Int) + 1) (some v) i = some v' ∧ Ksh s.n s.t l' v'
  unfold kset gset
  split
  · exact .inr ⟨l, v, rfl, rfl, hl⟩
  · exact h i
theorem ktrn_vl {s : Kt} {g : Int → Option Int} {l m : List Int} {v k : Int} (h : Kvl s g) (hm : s.f k = some m) (hv : Ksh s.n s.t m v → Ksh s.n s.t l v) (hg : g k = some v) : Kvl (ktrn s k l) g := fun i => by
  show (kset s.f k (some l) i = none ∧ g i = none) ∨ ∃ l' v', kset s.f k (some l) i = some l' ∧ g i = some v' ∧ Ksh s.n s.t l' v'
  unfold kset
  split
  · rename_i e
    rcases h k with ⟨e1, _⟩ | ⟨l', v', e1, e2, e3⟩
    · rw [hm] at e1; cases e1
    · rw [hm] at e1
      obtain rfl := Option.some.inj e1
      rw [hg] at e2
      obtain rfl := Option.some.inj e2
      rw [e]
      exact .inr ⟨l, v, rfl, hg, hv e3⟩
  · exact h i
theorem kout_vl {s : Kt} {g : Int → Option Int} (h : Kvl s g) (k : Int) : Kvl (kout s k) (gset g k none) := fun i => by
  show (kset s.f k none i = none ∧ gset g k none i = none) ∨ ∃ l' v', kset s.f k none i = some l' ∧ gset g k none i = some v' ∧ Ksh s.n s.t l' v'
  unfold kset gset
  split
  · exact .inl ⟨rfl, rfl⟩
  · exact h i
theorem Kvl.some {s : Kt} {g : Int → Option Int} (h : Kvl s g) {i : Int} {l : List Int} (hf : s.f i = Option.some l) : ∃ v, g i = Option.some v ∧ Ksh s.n s.t l v := by
  rcases h i with ⟨e, _⟩ | ⟨l', v, e1, e2, e3⟩
  · rw [e] at hf; cases hf
  · rw [e1] at hf
    obtain rfl := Option.some.inj hf
    exact ⟨v, e2, e3⟩
/-- What is told of a key is its value. -/
theorem Kvl.told {s : Kt} {g : Int → Option Int} (h : Kvl s g) (w : Kwf s) {i x r : Int} {l : List Int} (hf : s.f i = Option.some l) (hO : Kop s i x r) : g i = Option.some x ∧ r = 0 := by
  obtain ⟨v, e1, e2⟩ := h.some hf
  rcases hO with ⟨e, _⟩ | ⟨l', e, hO⟩
  · rw [e] at hf; cases hf
  · rw [e] at hf
    obtain rfl := Option.some.inj hf
    obtain ⟨rfl, rfl⟩ := e2.opened w.nt w.n9 hO
    exact ⟨e1, rfl⟩
theorem Kop.none {s : Kt} {i x r : Int} (hO : Kop s i x r) (hf : s.f i = Option.none) : x = 0 ∧ r = 4 := by
  rcases hO with ⟨_, e⟩ | ⟨l, e, _⟩
  · exact e
  · rw [e] at hf; cases hf
/-- There are values. -/
def Kvd (s : Kt) : Prop := ∃ g, Kvl s g
theorem k0_vd (n t : Nat) : Kvd (k0 n t) := ⟨_, k0_vl n t⟩
theorem kadd_vd {s : Kt} {l : List Int} {v : Int} (h : Kvd s) (hl : Ksh s.n s.t l v) : Kvd (kadd s l).2.2 := by
  obtain ⟨g, h⟩ := h
  rcases kadd_cases s l with ⟨_, e⟩ | ⟨_, e⟩
  · rw [e]; exact ⟨g, h⟩
  · rw [e]; exact ⟨_, kput_vl h hl⟩
theorem kgen_vd {s : Kt} (h : Kvd s) (ds : List Int) : Kvd (kgen s ds).2.2 := by
  unfold kgen
  split
  · exact kadd_vd h (ksm_ksh _ _ _ _ _)
  · exact h
theorem kmix_vd {s : Kt} (h : Kvd s) (g i a b c : Int) : Kvd (kmix s g i a b c).2.2 := by
  obtain ⟨q, hq⟩ := h
  unfold kmix
  split
  · rename_i l m e1 e2
    obtain ⟨v, _, hv⟩ := hq.some e1
    obtain ⟨u, _, hu⟩ := hq.some e2
    exact kadd_vd ⟨q, hq⟩ (hv.mix a b c hu)
  · exact ⟨q, hq⟩
theorem kmul_vd {s : Kt} (h : Kvd s) (w : Kwf s) (g i : Int) (ds : List Int) : Kvd (kmul s g i ds).2.2 := by
  obtain ⟨q, hq⟩ := h
  unfold kmul
  split
  · rename_i l m e1 e2
    split
    · obtain ⟨v, _, hv⟩ := hq.some e1
      obtain ⟨u, _, hu⟩ := hq.some e2
      exact kadd_vd ⟨q, hq⟩ (hv.times hu w.nt w.n9)
    · exact ⟨q, hq⟩
  · exact ⟨q, hq⟩
theorem krfr_vd {s : Kt} (h : Kvd s) (i : Int) (ds : List Int) : Kvd (krfr s i ds).2 := by
  obtain ⟨q, hq⟩ := h
  unfold krfr
  split
  · rename_i l e1
    split
    · obtain ⟨v, e2, _⟩ := hq.some e1
      exact ⟨q, ktrn_vl hq e1 (fun hv => hv.fresh) e2⟩
    · exact ⟨q, hq⟩
  · exact ⟨q, hq⟩
theorem kdrp_vd {s : Kt} (h : Kvd s) (i : Int) : Kvd (kdrp s i).2 := by
  obtain ⟨q, hq⟩ := h
  unfold kdrp
  split
  · exact ⟨_, kout_vl hq i⟩
  · exact ⟨q, hq⟩
end
end Go.Proofs.Ytljlioglpaogdac
