/- croftref.Whose. · A piece of a slice: x[l:h]. -/
import Derived.Test.YtmpnaobjgknfkabDoorToGRightC
import Derived.Test.YtmpnaobjgknfkabDoorToSumC
import Derived.Test.YtmpnaobjgknfkabDoorToMath
namespace Go.Proofs.YtmpnaobjgknfkabDoor
open Go.RowKit Crm

theorem whl_in {G : List Gt} {k : Nat} {x : Int} (h : (gt G k).k = 1) (hx : (gt G k).a = x) : whl G k ++ [x] = whl G (k + 1) := by rw [whl, if_pos h, hx]
theorem whl_no {G : List Gt} {k : Nat} (h : (gt G k).k ≠ 1) : whl G k = whl G (k + 1) := by rw [whl, if_neg h]
theorem whl_bd {G : List Gt} {n : Nat} (h : ∀ i, i < n → -9223372036854775808 ≤ (gt G i).a ∧ (gt G i).a ≤ 9223372036854775807) : ∀ k, k ≤ n → ∀ x ∈ whl G k, -9223372036854775808 ≤ x ∧ x ≤ 9223372036854775807
  | 0, _, x, hx => by simp [whl] at hx
  | k + 1, hk, x, hx => by
    rw [whl] at hx
    split at hx
    · rcases List.mem_append.1 hx with e | e
      · exact whl_bd h k (by omega) x e
      · rw [List.mem_singleton.1 e]; exact h k (by omega)
    · exact whl_bd h k (by omega) x hx

set_option maxRecDepth 100000 in
set_option maxHeartbeats 1000000 in
theorem rWhose (ag : Option Addr) (n cg : Nat) (G : List Gt) (ao : Option Addr) (m co : Nat) (w : World) (h : RdG w ag n cg G) (hn : n ≤ 1000) :
    Calls Tryd.prog 6 #[.agg #[.slice ag n cg, .slice ao m co]] w fun e w' => ∃ v, e = .returned v ∧ w'.ownsRow w.heap.size 3 1 v (ci G n) (zns (whl G n)) ∧ Below w.heap.size w w' := by
  have hcap := h.cap
  have hC0 := CBox.new w ag n cg ao m co
  have hb0 : Below w.heap.size w (w.alloc (.cells #[.slice ag n cg, .slice ao m co] 25)) := (Below.refl _ _).alloc (Nat.le_refl _) _
  go_enter Tryd.func6, Tryd.ntmps6
  go_upto_region 1 with fail
  generalize w.alloc (.cells #[.slice ag n cg, .slice ao m co] 25) = w0 at *
  have hs0 := hC0.lt
  go_wp2
  go_loopw [3, 4] (fun v q wr => ∃ i : Nat, i ≤ n ∧ q = .int .i64 i ∧ wr.ownsRow w0.heap.size 3 1 v (ci G i) (zns (whl G i)) ∧ Below w0.heap.size w0 wr) (fun _ q _ => n - (intOf q).toNat)
  case atStart => exact ⟨0, Nat.zero_le _, rfl, World.ownsRow_nil _ _ _ _, Below.refl _ _⟩
  case round =>
    obtain ⟨i, hi, rfl, hown, hbel⟩ := hrel
    have hC := hC0.below hbel hC0.lt
    obtain ⟨d0, d1⟩ := hC.cells
    have hl0 := hC.lt
    have hs1 := hbel.size
    by_cases hlt : i < n
    · obtain ⟨b, o, k, x, y, z, rfl, hbb, HG, hk, hx, hy, hz, c1, c2, c3, c4⟩ := (h.below (hb0.trans (hbel.mono hb0.size))).one hlt
      have hci := ci_le G i
      obtain ⟨N, HN⟩ : ∃ N, Hid (ci G i = N) := ⟨_, rfl⟩
      by_cases hk1 : k = 1
      · subst hk1
        have hw := whl_in (G := G) (k := i) (x := x) (by rw [HG.out]) (by rw [HG.out])
        have HW : Hid (zns (whl G i) ++ [.int .i64 x] = zns (whl G (i + 1))) := by unfold Hid; rw [zns_snoc, hw]
        have HC : Hid (ci G (i + 1) = N + 1) := by unfold Hid; rw [ci_in (by rw [HG.out]), HN.out]
        rw [HN.out] at hown hci
        clear hw
        go_wp2_with (at_builtin; refine wpList_appV Tryd.underlying23 infoZ rfl (by omega) _ rfl _ _ rfl w0.heap.size _ _ _ rfl hown (.int .i64 x) rfl rfl (by omega) hs1 ?_; intro v2 w2 hown2 hgr2 _; rw [HW.out] at hown2; have hb2 := hbel.grown hgr2 hs1 (fun q hq => (hown.lt q hq).1); clear hgr2 hown hbel)
        go_roundw
        case rel => exact ⟨i + 1, by omega, by go_num, by rw [HC.out]; exact hown2, hb2⟩
        case measure => simp [intOf]; omega
      · have hkb : (k == 1) = false := by rw [beq_eq_false_iff_ne]; exact hk1
        have hne : (gt G i).k ≠ 1 := by rw [HG.out]; exact hk1
        have HW : Hid (zns (whl G i) = zns (whl G (i + 1))) := by unfold Hid; rw [← whl_no hne]
        have HC : Hid (ci G (i + 1) = ci G i) := ci_no hne
        rw [HW.out] at hown
        clear hne hk1 HN hci
        go_wp2
        go_roundw
        case rel => exact ⟨i + 1, by omega, by go_num, by rw [HC.out]; exact hown, hbel⟩
        case measure => simp [intOf]; omega
    · have hin : i = n := by omega
      subst hin
      have hoE := own_base hown hb0.size
      have hbE := hb0.trans (hbel.mono hb0.size)
      go_wp2
      go_ret
      exact ⟨_, rfl, hoE, hbE⟩
end Go.Proofs.YtmpnaobjgknfkabDoor

namespace Go.Proofs.YtmpnaobjgknfkabDoor
open Go.RowKit

/-- Where a piece lies. -/
def subA (a : Option Addr) (c lo : Nat) : Option Addr := if c = lo then a else a.map (·.add lo)
theorem Rd.sub {w : World} {a : Option Addr} {n c : Nat} {xs : List Int} (h : Rd w a n c xs) {lo k : Nat} (hk : lo + k ≤ n) : Rd w (subA a c lo) k (c - lo) ((xs.drop lo).take k) := by
  have hl := h.len
  have hc := h.cap
  have hm := h.max
  refine ⟨by simp; omega, by omega, by omega, fun x hx => h.bd x (List.mem_of_mem_drop (List.mem_of_mem_take hx)), fun e => ?_, fun x hx i hi => ?_⟩
  · unfold subA at e
    split at e
    · omega
    · cases a with
      | none => have := h.nil rfl; omega
      | some y => simp at e
  · obtain ⟨b, o, rfl, _, hcell⟩ := h.at (k := lo + i) (by omega)
    unfold subA at hx
    rw [if_neg (by omega), Option.map_some] at hx
    obtain rfl := Option.some.inj hx
    rw [Addr.add_lit, Addr.add_lit, Nat.add_assoc, hcell (lo + i) (by omega)]
    congr 2
    simp [hi]
/-- .. as a walk meets it. -/
theorem run_sub {P : Program} {T E : TypeId} (hT : P.underlying T = some (.slice E)) (hE : (P.info? E).map (·.size) = some 1) (a : Option Addr) (n c lo k : Nat) {l h : Int} (hl : l = (lo : Int)) (hh : h = (lo : Int) + (k : Int)) (hc : lo + k ≤ c) (W : World) :
    (Instr.sliceAt T (.slice a n c) (some (.int .i64 l)) (some (.int .i64 h)) none).run P W = .ok (.slice (subA a c lo) k (c - lo)) W := by
  subst hl hh
  have he : P.elem T = E := by simp [Program.elem, hT]
  have hT' : P.underlying T = some (.slice (P.elem T)) := by rw [he]; exact hT
  have e1 : ((lo : Int) + (k : Int)).toNat = lo + k := by omega
  cases hi : P.info? E with
  | none => simp [hi] at hE
  | some i =>
    have hs : i.size = 1 := by simpa [hi] using hE
    rw [run_sliceAt_slice W T _ _ _ _ hT', run_slice_lh W T a n c hT' .i64 .i64 (lo : Int) ((lo : Int) + (k : Int)) (by omega) (by omega) (by omega), he, e1]
    simp [sizeOf, typeInfo, hi, hs, sliced, subA, Result.andThen]
theorem run_subl {P : Program} {T E : TypeId} (hT : P.underlying T = some (.slice E)) (hE : (P.info? E).map (·.size) = some 1) (a : Option Addr) (n c lo : Nat) {l : Int} (hl : l = (lo : Int)) (hn : lo ≤ n) (W : World) :
    (Instr.sliceAt T (.slice a n c) (some (.int .i64 l)) none none).run P W = .ok (.slice (subA a c lo) (n - lo) (c - lo)) W := by
  subst hl
  have he : P.elem T = E := by simp [Program.elem, hT]
  have hT' : P.underlying T = some (.slice (P.elem T)) := by rw [he]; exact hT
  cases hi : P.info? E with
  | none => simp [hi] at hE
  | some i =>
    have hs : i.size = 1 := by simpa [hi] using hE
    rw [run_sliceAt_slice W T _ _ _ _ hT', run_slice_l W T a n c hT' .i64 (lo : Int) (by omega) (by omega), he]
    simp [sizeOf, typeInfo, hi, hs, sliced, subA, Result.andThen]
end Go.Proofs.YtmpnaobjgknfkabDoor
