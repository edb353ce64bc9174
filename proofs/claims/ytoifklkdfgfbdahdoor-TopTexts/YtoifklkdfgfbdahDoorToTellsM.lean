/- croftkeep.tiny. · The walk of croftkeep.CircuitBack. · What shares of a dealing tell: plain facts. -/
import Derived.Test.YtoifklkdfgfbdahDoorToCktP
import Derived.Test.YtoifklkdfgfbdahDoorToOutsM
import Derived.Test.YtoifklkdfgfbdahDoorToFmtUC
import Derived.Test.YtoifklkdfgfbdahDoorToSameCC
import Derived.Deep.DeepCutAuto
import Derived.Test.YtoifklkdfgfbdahDoorToDealC
namespace Go.Proofs.YtoifklkdfgfbdahDoor
open Go.RowKit Crm

def tnyG : List Gt := [⟨1, 1, 0, 0⟩, ⟨1, 2, 0, 0⟩, ⟨5, 0, 1, 0⟩, ⟨2, 0, 0, 7⟩, ⟨3, 2, 3, 0⟩]
end Go.Proofs.YtoifklkdfgfbdahDoor

namespace Go.Proofs.YtoifklkdfgfbdahDoor
open Go.RowKit Crm

theorem tny_ok : Cke tnyG [4] 5 1 0 := by
  refine .inr ⟨⟨by omega, by omega⟩, .inr ⟨⟨by omega, by omega⟩, .inr ⟨⟨fun i hi => ?_, fun j hj => ?_⟩, rfl⟩⟩⟩
  · have : i = 0 ∨ i = 1 ∨ i = 2 ∨ i = 3 ∨ i = 4 := by omega
    rcases this with rfl | rfl | rfl | rfl | rfl <;> simp [okg, gt, tnyG]
  · obtain rfl : j = 0 := by omega
    simp
theorem tny_text : otx (gtx tnyG 5) [4] 1 = ⟨#[105, 110, 112, 117, 116, 32, 49, 10, 105, 110, 112, 117, 116, 32, 50, 10, 109, 117, 108, 32, 48, 32, 49, 10, 99, 111, 110, 115, 116, 32, 55, 10, 97, 100, 100, 32, 50, 32, 51, 10, 111, 117, 116, 32, 52, 10]⟩ := by
  obtain ⟨_, _, hG, hO⟩ := tny_ok.ok
  rw [text_toB hG hO]
  have d1 : ∀ u, u < 10 → dd u = [UInt8.ofNat (48 + u)] := fun u hu => dd_lo hu
  have e : gls tnyG 5 ++ ols [4] 1 = [[105, 110, 112, 117, 116, 32, 49], [105, 110, 112, 117, 116, 32, 50], [109, 117, 108, 32, 48, 32, 49], [99, 111, 110, 115, 116, 32, 55], [97, 100, 100, 32, 50, 32, 51], [111, 117, 116, 32, 52]] := by
    have n7 : nm 7 = 7 := rfl
    simp [gls, ols, gll, oll, gt, tnyG, List.range_succ, vbl, vb, vbs, d1, n7]
  rw [e]
  rfl
theorem Par.err {s : ByteArray} {G : List Gt} {O : List Int} {n : Nat} {r : Int} (h : Par s G O n r) (hr : r ≠ 0) : G = [] := by
  rcases h with ⟨_, h, _⟩ | ⟨_, ⟨_, _, _, _, _, _, h, _⟩ | ⟨_, _, _, ⟨_, h, _⟩ | ⟨_, _, _, ⟨_, h, _⟩ | ⟨h, _⟩⟩⟩⟩
  · exact h
  · exact h
  · exact h
  · exact h
  · exact absurd h hr
theorem Par.right {s : ByteArray} {G : List Gt} {O : List Int} {n : Nat} (h : Par s G O n 0) : Cke G O G.length O.length 0 := by
  rcases h with ⟨_, _, _, _, h⟩ | ⟨_, ⟨_, _, _, _, _, _, _, _, _, h⟩ | ⟨_, _, _, ⟨_, _, _, _, h⟩ | ⟨_, _, c, ⟨h, _⟩ | ⟨_, rfl, rfl⟩⟩⟩⟩
  · omega
  · omega
  · omega
  · exact absurd rfl h
  · exact c
theorem smg_nm (G : List Gt) (n : Nat) : SmG ((nmG G n).map nmg) G n := fun i hi => by
  rw [gt_map, nmG_gt G hi]
  exact ⟨rfl, rfl, rfl, by show nm (nm (nm _)) = _; rw [nm_nm, nm_nm]⟩
theorem smg_nm' (G : List Gt) (n : Nat) : SmG G ((nmG G n).map nmg) n := fun i hi => by
  rw [gt_map, nmG_gt G hi]
  exact ⟨rfl, rfl, rfl, by show _ = nm (nm (nm _)); rw [nm_nm, nm_nm]⟩
theorem Par.zn {s : ByteArray} {G : List Gt} {O : List Int} {a : Nat} {r : Int} (h : Par s G O a r) : ∀ g ∈ G, g.k = 2 ∨ g.k = 6 ∨ g.n = 0 := by
  have nil : ∀ g ∈ ([] : List Gt), g.k = 2 ∨ g.k = 6 ∨ g.n = 0 := fun g hg => by simp at hg
  rcases h with ⟨_, rfl, rfl, _, _⟩ | ⟨_, ⟨_, _, _, _, _, _, rfl, rfl, _, _⟩ | ⟨G0, O0, h1, ⟨_, rfl, rfl, _, _⟩ | ⟨_, _, _, ⟨_, rfl, rfl⟩ | ⟨_, rfl, rfl⟩⟩⟩⟩
  · exact nil
  · exact nil
  · exact nil
  · exact nil
  · exact h1.zn
theorem text_le {G : List Gt} {O : List Int} {n m : Nat} (h : Cke G O n m 0) : (otx (gtx G n) O m).size ≤ 2048 := by
  obtain ⟨hn, hm, hG, hO⟩ := h.ok
  rw [text_toB hG hO, toB_size]
  exact text_size hG hO hn.2 hm.2

/-- A circuit that is told, laid into a variable. -/
theorem cbox_put (w : World) (ag : Option Addr) (n cg : Nat) (ao : Option Addr) (m co : Nat) : CBox (w.alloc (.cells #[.slice ag n cg, .slice ao m co] 25)) w.heap.size ag n cg ao m co ∧ Below w.heap.size w (w.alloc (.cells #[.slice ag n cg, .slice ao m co] 25)) :=
  ⟨CBox.new w ag n cg ao m co, (Below.refl _ _).alloc (Nat.le_refl _) _⟩

end Go.Proofs.YtoifklkdfgfbdahDoor

namespace Go.Proofs.YtoifklkdfgfbdahDoor
open Crm

/-- Enough shares of a dealing open it. -/
theorem any_open {C : List Int} {l : List (Int × Int)} {n k : Nat} (hd : dis (fa l) n) (hk : k ≤ 4) (hkn : k < n) (hC : C.length ≤ k + 1) (hy : Hs l n C) {x r : Int} (h : Opn l n k x r) : x = nm (ev C 0) ∧ r = 0 := by
  have h1 : Opn l n k (nm (ev C 0)) 0 := Or.inr ⟨Or.inr (Or.inr (Or.inr ⟨⟨by omega, by omega⟩, hd, by omega, rfl⟩)), Or.inl ⟨C, by omega, hy, rfl, rfl⟩⟩
  exact h.one h1

/-- One wrong share among more than are needed is told. -/
theorem wrong_told {C : List Int} {l : List (Int × Int)} {m k q : Nat} {b : Int} (hk : k ≤ 4) (hC : C.length ≤ k + 1) (hm : k + 2 ≤ m) (hm9 : m ≤ 9) (hq : q < m) (hb : nm b ≠ 0)
    (hl : ∀ j, j < m → l.getD j (0, 0) = ((j : Int) + 1, if j = q then nm (dlf C j + b) else dlf C j)) {x r : Int} (h : Opn l m k x r) : r = 6 := by
  have hfa : ∀ j, j < m → fa l j = (j : Int) + 1 := fun j hj => by unfold fa; rw [hl j hj]
  have hd : dis (fa l) m := fun i hi => by
    rw [hfa i hi]
    exact ⟨⟨by omega, by omega⟩, fun j hj => by rw [hfa j (by omega)]; omega⟩
  have hS : She l m k 0 := Or.inr (Or.inr (Or.inr ⟨⟨by omega, by omega⟩, hd, by omega, rfl⟩))
  rcases h with ⟨h1, h2, _⟩ | ⟨_, ⟨S, h2, h3, _, _⟩ | ⟨_, _, h4⟩⟩
  · exact absurd (h1.one hS) h2
  · exfalso
    have hne : ∀ j, j < m - 1 → (if j < q then j else j + 1) < m ∧ (if j < q then j else j + 1) ≠ q := fun j hj => by split <;> omega
    have hw : ∀ j, j < m - 1 → ((List.range (m - 1)).map fun j => l.getD (if j < q then j else j + 1) (0, 0)).getD j (0, 0) = l.getD (if j < q then j else j + 1) (0, 0) := fun j hj => by simp [hj]
    have h5 := hs_one (l := (List.range (m - 1)).map fun j => l.getD (if j < q then j else j + 1) (0, 0)) (n := m - 1) (S := S) (R := C) (fun j hj => ?_) (fun j hj => ?_) (fun j hj => ?_) (by omega) (by omega)
    · have h6 := h3 q hq
      rw [hl q hq, if_pos rfl] at h6
      simp only at h6
      rw [ev_one h5, nm_nm] at h6
      have h7 : nm (dlf C q + b - ev C ((q : Int) + 1)) = 0 := by
        rw [nm_eq_iff] at h6
        unfold nm at h6 ⊢
        omega
      apply hb
      have h8 : nm (dlf C q + b) = nm (ev C ((q : Int) + 1) + b) := by unfold dlf; rw [nm_addl]
      rw [← nm_subl, h8, nm_subl] at h7
      rw [← h7]
      congr 1
      omega
    · rw [hw j hj, hl _ (hne j hj).1]
      refine ⟨⟨by simp only; split <;> omega, by simp only; split <;> omega⟩, fun p hp => ?_⟩
      rw [hw p (by omega), hl _ (hne p (by omega)).1]
      simp only
      split <;> split <;> omega
    · rw [hw j hj]
      exact h3 _ (hne j hj).1
    · rw [hw j hj, hl _ (hne j hj).1, if_neg (hne j hj).2]
      unfold dlf
      simp only
      rw [nm_nm]
  · exact h4
end Go.Proofs.YtoifklkdfgfbdahDoor
