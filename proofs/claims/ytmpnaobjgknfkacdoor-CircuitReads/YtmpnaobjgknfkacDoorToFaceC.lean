/- poly.product. · poly.Norm, poly.Mul, poly.Eval. -/
import Derived.Test.YtmpnaobjgknfkacDoorToFieldC
import Derived.Test.YtmpnaobjgknfkacDoorToPolyM2
import Derived.Test.YtmpnaobjgknfkacDoorToMath
import Derived.Test.YtmpnaobjgknfkacDoorToTrimC
import Derived.Test.YtmpnaobjgknfkacDoorToCircC
namespace Go.Proofs.YtmpnaobjgknfkacDoor
open Go.RowKit Crm

theorem get_getD {l : List Int} {k : Nat} (h : k < l.length) : l[k]? = some (l.getD k 0) := by
  rw [List.getD_eq_getElem?_getD, List.getElem?_eq_getElem h]; rfl

theorem addAt_pc (ps qs L : List Int) (m i : Nat) (hm : i + qs.length ≤ m)
    (hL : L = (List.range m).map fun k => nm (pc ps qs k i)) : addAt L i qs (ps.getD i 0) qs.length = (List.range m).map fun k => nm (pc ps qs k (i + 1)) := by
  apply List.ext_getElem?
  intro k
  have hl : L.length = m := by rw [hL]; simp
  by_cases hk : k < m
  · have h1 : k < (addAt L i qs (ps.getD i 0) qs.length).length := by rw [addAt_len, hl]; exact hk
    have e1 : (addAt L i qs (ps.getD i 0) qs.length)[k]? = some ((addAt L i qs (ps.getD i 0) qs.length).getD k 0) := get_getD h1
    rw [e1, addAt_getD, hl]
    have e2 : L.getD k 0 = nm (pc ps qs k i) := by rw [hL]; simp [hk]
    have e3 : ((List.range m).map fun k => nm (pc ps qs k (i + 1)))[k]? = some (nm (pc ps qs k (i + 1))) := by simp [hk]
    rw [e3, e2, pc]
    congr 1
    by_cases h : i ≤ k ∧ k < i + qs.length ∧ k < m
    · rw [if_pos h, nm_addl, tm, if_pos h.1]
    · rw [if_neg h, tm]
      have := hm
      split
      · have : qs.getD (k - i) 0 = 0 := by rw [List.getD_eq_getElem?_getD, List.getElem?_eq_none (by omega)]; rfl
        rw [this, Int.mul_zero, Int.add_zero]
      · rw [Int.add_zero]
  · rw [List.getElem?_eq_none (by rw [addAt_len, hl]; omega), List.getElem?_eq_none (by simp; omega)]

theorem pc_bd (ps qs : List Int) (m i : Nat) : ∀ x ∈ (List.range m).map (fun k => nm (pc ps qs k i)), 0 ≤ x ∧ x ≤ 18446744073709551615 := by
  intro x hx
  obtain ⟨k, _, rfl⟩ := List.mem_map.1 hx
  have := nm_bd (pc ps qs k i)
  omega

end Go.Proofs.YtmpnaobjgknfkacDoor

namespace Go.Proofs.YtmpnaobjgknfkacDoor
open Go.RowKit Crm

/-- What normal has made reads as the normal polynomial. -/
theorem Blk.nrm {w : World} {g n : Nat} {xs : List Int} (h : Blk w g (nz xs)) (hl : xs.length = n) (hn : n ≤ 1000000) : Rd w (some ⟨g, 0, none⟩) (tl (nz xs) n) n (Crm.nrm xs) := by
  have ht := tl_le (nz xs) n
  have := h.rd 0 (tl (nz xs) n) n ht (by unfold maxLen; omega) (by rw [nz_len]; omega) (nz_bd xs)
  rw [List.drop_zero] at this
  have e : Crm.nrm xs = (nz xs).take (tl (nz xs) n) := by unfold Crm.nrm trm; rw [nz_len, hl]
  rw [e]
  exact this

end Go.Proofs.YtmpnaobjgknfkacDoor
