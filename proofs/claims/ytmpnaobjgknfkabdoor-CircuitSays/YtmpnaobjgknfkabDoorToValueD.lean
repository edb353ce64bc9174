/- croftref.Value, where the wires ahead are inputs and constants. · croftref.Value of a gate, the wires ahead being inputs and constants. -/
import Derived.Test.YtmpnaobjgknfkabDoorToSubC
import Derived.Test.YtmpnaobjgknfkabDoorToRefC
import Derived.Deep.RegionLaw
import Derived.Deep.RegionHeld3
namespace Go.Proofs.YtmpnaobjgknfkabDoor
open Go.RowKit Crm

/-- What an input or a constant tells. -/
def lf (D : List Gt) (ins : List Int) (j : Nat) : Int := if (gt D j).k = 1 then nm (ins.getD (ci D j) 0) else nm (gt D j).n
theorem lf_bd (D : List Gt) (ins : List Int) (j : Nat) : 0 ≤ lf D ins j ∧ lf D ins j ≤ 2147483646 := by unfold lf; split <;> exact nm_bd _

set_option maxRecDepth 100000 in
set_option maxHeartbeats 2000000 in
theorem rLeaf (ag : Option Addr) (n cg : Nat) (D : List Gt) (ao : Option Addr) (m co : Nat) (ai : Option Addr) (q ca : Nat) (ins : List Int) (j : Nat) (w : World) (h : RdG w ag n cg D) (g : Rd w ai q ca ins) (hn : n ≤ 1000) (hj : j < n) (hk : (gt D j).k = 1 ∨ (gt D j).k = 2) (hq : (gt D j).k = 1 → ci D j < q) :
    Calls Tryd.prog 17 #[.agg #[.slice ag n cg, .slice ao m co], .slice ai q ca, .int .i64 j] w fun e w' => e = .returned (.int .u64 (lf D ins j)) ∧ Below w.heap.size w w' := by
  have hcap := h.cap
  have hC0 := CBox.new w ag n cg ao m co
  have hb0 : Below w.heap.size w (w.alloc (.cells #[.slice ag n cg, .slice ao m co] 25)) := (Below.refl _ _).alloc (Nat.le_refl _) _
  go_enter Tryd.func17, Tryd.ntmps17
  go_upto_region 1 with fail
  generalize w.alloc (.cells #[.slice ag n cg, .slice ao m co] 25) = w0 at *
  obtain ⟨d0, d1⟩ := hC0.cells
  have hl0 := hC0.lt
  obtain ⟨b, o, k, x, y, z, rfl, hbb, HG, hkb, hx, hy, hz, c1, c2, c3, c4⟩ := (h.below hb0).one hj
  have hbA0 : Below w0.heap.size w0 (w0.alloc (.cells #[.int .i64 k, .int .i64 x, .int .i64 y, .int .u64 z] 43)) := (Below.refl _ _).alloc (Nat.le_refl _) _
  have hbA := hb0.trans (hbA0.mono hb0.size)
  have hCA := hC0.below hbA0 hC0.lt
  obtain ⟨q1, q2, q3, q4⟩ := gate_box w0 k x y z 43
  have hltA : w0.heap.size < (w0.alloc (.cells #[.int .i64 k, .int .i64 x, .int .i64 y, .int .u64 z] 43)).heap.size := by simp
  go_upto_region 2 with fail
  generalize w0.alloc (.cells #[.int .i64 k, .int .i64 x, .int .i64 y, .int .u64 z] 43) = W at *
  clear c1 c2 c3 c4 hbA0 hb0 d0 d1
  obtain ⟨d0, d1⟩ := hCA.cells
  have hlA := hCA.lt
  by_cases hk1 : k = 1
  · subst hk1
    have hq' : ci D j < q := hq (by rw [HG.out])
    have HV : Hid (lf D ins j = nm (ins.getD (ci D j) 0)) := by unfold Hid lf; rw [if_pos (by rw [HG.out])]
    have hjl := ci_le D j
    obtain ⟨N, HN⟩ : ∃ N, Hid (ci D j = N) := ⟨_, rfl⟩
    clear hk hq
    go_wp2
    go_loop [8, 9] (fun v p => ∃ i : Nat, i ≤ j ∧ p = .int .i64 i ∧ ∃ c : Nat, c ≤ i ∧ v = .int .i64 c ∧ Hid (c = ci D i)) (fun _ p => j - (intOf p).toNat)
    case atStart => exact ⟨0, Nat.zero_le _, rfl, 0, Nat.le_refl _, rfl, rfl⟩
    case round =>
      obtain ⟨i, hi, rfl, c, hc, rfl, HC⟩ := hrel
      by_cases hlt : i < j
      · obtain ⟨b', o', k', x', y', z', e', hbb', HG', hkb', _, _, _, c1', _, _, _⟩ := (h.below hbA).one (show i < n by omega)
        simp only [Option.some.injEq, Addr.mk.injEq, and_true] at e'
        obtain ⟨rfl, rfl⟩ := e'
        by_cases hk' : k' = 1
        · subst hk'
          have HC2 : Hid (c + 1 = ci D (i + 1)) := by unfold Hid; rw [ci_in (by rw [HG'.out]), HC.out]
          go_wp2
          go_round
          case rel => exact ⟨i + 1, by omega, by go_num, c + 1, by omega, by go_num, HC2⟩
          case measure => simp [intOf]; omega
        · have hkb2 : (k' == 1) = false := by rw [beq_eq_false_iff_ne]; exact hk'
          have HC2 : Hid (c = ci D (i + 1)) := by unfold Hid; rw [ci_no (by rw [HG'.out]; exact hk'), HC.out]
          clear hk'
          go_wp2
          go_round
          case rel => exact ⟨i + 1, by omega, by go_num, c, by omega, rfl, HC2⟩
          case measure => simp [intOf]; omega
      · have hij : i = j := by omega
        subst hij
        obtain rfl : c = N := HC.out.trans HN.out
        rw [HN.out] at hq'
        obtain ⟨b3, o3, v, rfl, hb3, HY, hv0, hv1, hcv⟩ := (g.below hbA).one hq'
        have HVE : Hid (nm (ins.getD (ci D i) 0) = nm v) := by unfold Hid; rw [HN.out, HY.out]
        have hcqi : (c : Int) < (q : Int) := by omega
        have hc0 : (0 : Int) ≤ (c : Int) := by omega
        go_wp2_with (go_at_call 16; refine (rNorm _ _ hv0 hv1).mono ?_; rintro e w' ⟨rfl, hw⟩; have hw := hw.symm; subst hw)
        go_ret
        rw [HV.out, HVE.out]
        exact ⟨rfl, hbA⟩
  · have hk2 : k = 2 := by rw [HG.out] at hk; rcases hk with e | e; exact absurd e hk1; exact e
    subst hk2
    have HV : Hid (lf D ins j = nm z) := by unfold Hid lf; rw [if_neg (by rw [HG.out]; exact hk1), HG.out]
    clear hk hq hk1
    go_wp2_with (go_at_call 16; refine (rNorm _ _ hz.1 hz.2).mono ?_; rintro e w' ⟨rfl, hw⟩; have hw := hw.symm; subst hw)
    go_ret
    rw [HV.out]
    exact ⟨rfl, hbA⟩
end Go.Proofs.YtmpnaobjgknfkabDoor

namespace Go.Proofs.YtmpnaobjgknfkabDoor
open Go.RowKit Crm

/-- What gate i tells. -/
def dv (D : List Gt) (ins : List Int) (i : Nat) : Int :=
  if (gt D i).k = 1 ∨ (gt D i).k = 2 then lf D ins i else if (gt D i).k = 6 then nm (lf D ins (gt D i).a.toNat * (gt D i).n)
  else if (gt D i).k = 3 then nm (lf D ins (gt D i).a.toNat + lf D ins (gt D i).b.toNat) else if (gt D i).k = 4 then nm (lf D ins (gt D i).a.toNat - lf D ins (gt D i).b.toNat) else nm (lf D ins (gt D i).a.toNat * lf D ins (gt D i).b.toNat)
theorem dv_bd (D : List Gt) (ins : List Int) (i : Nat) : 0 ≤ dv D ins i ∧ dv D ins i ≤ 2147483646 := by
  unfold dv
  split
  · exact lf_bd _ _ _
  · repeat' split
    all_goals exact nm_bd _

set_option maxRecDepth 100000 in
set_option maxHeartbeats 4000000 in
theorem rValue (ag : Option Addr) (n cg : Nat) (D : List Gt) (ao : Option Addr) (m co : Nat) (ai : Option Addr) (q ca : Nat) (ins : List Int) (i : Nat) (w : World) (h : RdG w ag n cg D) (g : Rd w ai q ca ins) (hn : n ≤ 1000) (hi : i < n) (hk : ∀ j, j < i → (gt D j).k = 1 ∨ (gt D j).k = 2) (hq : ∀ j, j ≤ i → (gt D j).k = 1 → ci D j < q) (hok : okg i (gt D i)) :
    Calls Tryd.prog 17 #[.agg #[.slice ag n cg, .slice ao m co], .slice ai q ca, .int .i64 i] w fun e w' => e = .returned (.int .u64 (dv D ins i)) ∧ Below w.heap.size w w' := by
  by_cases h12 : (gt D i).k = 1 ∨ (gt D i).k = 2
  · refine (rLeaf ag n cg D ao m co ai q ca ins i w h g hn hi h12 (hq i (Nat.le_refl _))).mono ?_
    rintro e w' ⟨rfl, hb⟩
    exact ⟨by unfold dv; rw [if_pos h12], hb⟩
  · have HK : Hid (∀ j, j < i → (gt D j).k = 1 ∨ (gt D j).k = 2) := hk
    have HQ : Hid (∀ j, j < i → (gt D j).k = 1 → ci D j < q) := fun j hj => hq j (by omega)
    have H12 : Hid (¬ ((gt D i).k = 1 ∨ (gt D i).k = 2)) := h12
    clear hk hq h12
    have hC0 := CBox.new w ag n cg ao m co
    have hb0 : Below w.heap.size w (w.alloc (.cells #[.slice ag n cg, .slice ao m co] 25)) := (Below.refl _ _).alloc (Nat.le_refl _) _
    go_enter Tryd.func17, Tryd.ntmps17
    go_upto_region 1 with fail
    generalize w.alloc (.cells #[.slice ag n cg, .slice ao m co] 25) = w0 at *
    obtain ⟨d0, d1⟩ := hC0.cells
    have hl0 := hC0.lt
    have hh := h
    obtain ⟨b, o, k, x, y, z, rfl, hbb, HG, hkb, hx, hy, hz, c1, c2, c3, c4⟩ := (h.below hb0).one hi
    have hbA0 : Below w0.heap.size w0 (w0.alloc (.cells #[.int .i64 k, .int .i64 x, .int .i64 y, .int .u64 z] 43)) := (Below.refl _ _).alloc (Nat.le_refl _) _
    have hbA := hb0.trans (hbA0.mono hb0.size)
    have hCA := hC0.below hbA0 hC0.lt
    have hGA := heap_alloc_new w0 (.cells #[.int .i64 k, .int .i64 x, .int .i64 y, .int .u64 z] 43)
    obtain ⟨q1, q2, q3, q4⟩ := gate_box w0 k x y z 43
    have hltA : w0.heap.size < (w0.alloc (.cells #[.int .i64 k, .int .i64 x, .int .i64 y, .int .u64 z] 43)).heap.size := by simp
    go_upto_region 2 with fail
    generalize w0.alloc (.cells #[.int .i64 k, .int .i64 x, .int .i64 y, .int .u64 z] 43) = W at *
    clear c1 c2 c3 c4 hbA0 hb0 d0 d1
    obtain ⟨d0, d1⟩ := hCA.cells
    have hlA := hCA.lt
    have HALL : Hid (∀ w', Below W.heap.size W w' → w'.cell? ⟨w.heap.size, 0, none⟩ = some (.slice (some ⟨b, o, none⟩) n cg) ∧ w'.cell? ⟨w.heap.size, 1, none⟩ = some (.slice ao m co) ∧ w'.cell? ⟨w0.heap.size, 0, none⟩ = some (.int .i64 k) ∧ w'.cell? ⟨w0.heap.size, 1, none⟩ = some (.int .i64 x) ∧ w'.cell? ⟨w0.heap.size, 2, none⟩ = some (.int .i64 y) ∧ w'.cell? ⟨w0.heap.size, 3, none⟩ = some (.int .u64 z) ∧ w.heap.size < w'.heap.size ∧ w0.heap.size < w'.heap.size) := fun w' hb => by
      refine ⟨by rw [hb.cell (p := ⟨w.heap.size, 0, none⟩) hlA]; exact d0, by rw [hb.cell (p := ⟨w.heap.size, 1, none⟩) hlA]; exact d1, ?_, ?_, ?_, ?_, Nat.lt_of_lt_of_le hlA hb.size, Nat.lt_of_lt_of_le hltA hb.size⟩
      · rw [hb.cell (p := ⟨w0.heap.size, 0, none⟩) hltA]; exact q1
      · rw [hb.cell (p := ⟨w0.heap.size, 1, none⟩) hltA]; exact q2
      · rw [hb.cell (p := ⟨w0.heap.size, 2, none⟩) hltA]; exact q3
      · rw [hb.cell (p := ⟨w0.heap.size, 3, none⟩) hltA]; exact q4
    have HRD : Hid (∀ w', Below W.heap.size W w' → RdG w' (some ⟨b, o, none⟩) n cg D ∧ Rd w' ai q ca ins) := fun w' hb => ⟨(h.below hbA).below hb, (g.below hbA).below hb⟩
    have hcur : Below W.heap.size W W.drew := (Below.refl _ _).drew
    have hlf := lf_bd D ins
    clear hGA hh hCA hC0
    rw [HG.out] at hok
    have hk12 : k ≠ 1 ∧ k ≠ 2 := by have := H12.out; rw [HG.out] at this; simp only at this; omega
    rcases hok with ⟨e, _⟩ | ⟨e, _⟩ | ⟨e, hxi, _⟩ | ⟨e, hxi, hyi, _⟩
    · exact absurd e hk12.1
    · exact absurd e hk12.2
    · obtain rfl : k = 6 := e
      simp only at hxi
      obtain ⟨p, rfl⟩ : ∃ p : Nat, x = p := ⟨x.toNat, by omega⟩
      have hpi : p < i := by omega
      have HV : Hid (dv D ins i = nm (lf D ins p * z)) := by
        unfold Hid dv
        rw [if_neg H12.out, if_pos (by rw [HG.out]), HG.out]
        rfl
      have hl1 := hlf p
      clear hlf hk12
      go_wp2
      go_region_law (first | (go_simp; go_at_call 17; refine (rLeaf _ _ _ _ _ _ _ _ _ _ _ p _ (HRD.out _ hcur).1 (HRD.out _ hcur).2 hn (by omega) (HK.out p hpi) (HQ.out p hpi)).mono ?_; rintro en w1 ⟨rfl, hb⟩; have hcur := hcur.trans (hb.mono hcur.size); obtain ⟨e1, e2, e3, e4, e5, e6, e7, e8⟩ := HALL.out _ hcur; clear hb) | (go_simp; go_at_call 25; refine (rMul _ _ _ (by omega) (by omega) (by omega) (by omega)).mono ?_; rintro en w' ⟨rfl, rfl⟩))
      all_goals
        have hbE := hbA.trans (hcur.mono hbA.size)
        go_wp2
        go_ret
        rw [HV.out]
        exact ⟨rfl, hbE⟩
    · simp only at e hxi hyi
      obtain ⟨p, rfl⟩ : ∃ p : Nat, x = p := ⟨x.toNat, by omega⟩
      obtain ⟨r, rfl⟩ : ∃ r : Nat, y = r := ⟨y.toNat, by omega⟩
      have hpi : p < i := by omega
      have hri : r < i := by omega
      rcases e with rfl | rfl | rfl
      · have HV : Hid (dv D ins i = nm (lf D ins p + lf D ins r)) := by
          unfold Hid dv
          rw [if_neg H12.out, if_neg (by rw [HG.out]; simp only; omega), if_pos (by rw [HG.out]), HG.out]
          rfl
        have hl1 := hlf p
        have hl2 := hlf r
        have hl3 := nm_bd (-lf D ins r)
        clear hlf hk12
        go_wp2
        go_region_held3 (fun w' => w'.cell? ⟨w.heap.size, 0, none⟩ = some (.slice (some ⟨b, o, none⟩) n cg) ∧ w'.cell? ⟨w.heap.size, 1, none⟩ = some (.slice ao m co) ∧ w'.cell? ⟨w0.heap.size, 1, none⟩ = some (.int .i64 (p : Int)) ∧ w'.cell? ⟨w0.heap.size, 2, none⟩ = some (.int .i64 (r : Int))) (go_keep) (first | (go_at_call_of 17 (Value.int .i64 (p : Int)); refine (rLeaf _ _ _ _ _ _ _ _ _ _ _ p _ (HRD.out _ hcur).1 (HRD.out _ hcur).2 hn (by omega) (HK.out p hpi) (HQ.out p hpi)).mono ?_; rintro en w1 ⟨rfl, hb⟩; have hcur := hcur.trans (hb.mono hcur.size); obtain ⟨e1, e2, e3, e4, e5, e6, e7, e8⟩ := HALL.out _ hcur; clear hb) | (go_at_call_of 17 (Value.int .i64 (r : Int)); refine (rLeaf _ _ _ _ _ _ _ _ _ _ _ r _ (HRD.out _ hcur).1 (HRD.out _ hcur).2 hn (by omega) (HK.out r hri) (HQ.out r hri)).mono ?_; rintro en w2 ⟨rfl, hb⟩; have hcur := hcur.trans (hb.mono hcur.size); obtain ⟨f1, f2, f3, f4, f5, f6, f7, f8⟩ := HALL.out _ hcur; clear hb))
        all_goals
          have hbE := hbA.trans (hcur.mono hbA.size)
          go_wp2_with (go_at_call 26; refine (rAdd _ _ _ (by omega) (by omega) (by omega) (by omega)).mono ?_; rintro e w' ⟨rfl, hw⟩; have hw := hw.symm; subst hw)
          go_ret
          rw [HV.out]
          exact ⟨rfl, hbE⟩
      · have HV : Hid (dv D ins i = nm (lf D ins p + nm (-lf D ins r))) := by
          unfold Hid dv
          rw [if_neg H12.out, if_neg (by rw [HG.out]; simp only; omega), if_neg (by rw [HG.out]; simp only; omega), if_pos (by rw [HG.out]), HG.out, nm_addr]
          rfl
        have hl1 := hlf p
        have hl2 := hlf r
        have hl3 := nm_bd (-lf D ins r)
        clear hlf hk12
        go_wp2
        go_region_held3 (fun w' => w'.cell? ⟨w.heap.size, 0, none⟩ = some (.slice (some ⟨b, o, none⟩) n cg) ∧ w'.cell? ⟨w.heap.size, 1, none⟩ = some (.slice ao m co) ∧ w'.cell? ⟨w0.heap.size, 1, none⟩ = some (.int .i64 (p : Int)) ∧ w'.cell? ⟨w0.heap.size, 2, none⟩ = some (.int .i64 (r : Int))) (go_keep) (first | (go_at_call_of 17 (Value.int .i64 (p : Int)); refine (rLeaf _ _ _ _ _ _ _ _ _ _ _ p _ (HRD.out _ hcur).1 (HRD.out _ hcur).2 hn (by omega) (HK.out p hpi) (HQ.out p hpi)).mono ?_; rintro en w1 ⟨rfl, hb⟩; have hcur := hcur.trans (hb.mono hcur.size); obtain ⟨e1, e2, e3, e4, e5, e6, e7, e8⟩ := HALL.out _ hcur; clear hb) | (go_at_call_of 17 (Value.int .i64 (r : Int)); refine (rLeaf _ _ _ _ _ _ _ _ _ _ _ r _ (HRD.out _ hcur).1 (HRD.out _ hcur).2 hn (by omega) (HK.out r hri) (HQ.out r hri)).mono ?_; rintro en w2 ⟨rfl, hb⟩; have hcur := hcur.trans (hb.mono hcur.size); obtain ⟨f1, f2, f3, f4, f5, f6, f7, f8⟩ := HALL.out _ hcur; clear hb))
        all_goals
          have hbE := hbA.trans (hcur.mono hbA.size)
          go_wp2_with (first | (go_at_call 27; refine (rNeg _ _ (by omega) (by omega)).mono ?_; rintro e w' ⟨rfl, hw⟩; have hw := hw.symm; subst hw) | (go_at_call 26; refine (rAdd _ _ _ (by omega) (by omega) (by omega) (by omega)).mono ?_; rintro e w' ⟨rfl, hw⟩; have hw := hw.symm; subst hw))
          go_ret
          rw [HV.out]
          exact ⟨rfl, hbE⟩
      · have HV : Hid (dv D ins i = nm (lf D ins p * lf D ins r)) := by
          unfold Hid dv
          rw [if_neg H12.out, if_neg (by rw [HG.out]; simp only; omega), if_neg (by rw [HG.out]; simp only; omega), if_neg (by rw [HG.out]; simp only; omega), HG.out]
          rfl
        have hl1 := hlf p
        have hl2 := hlf r
        have hl3 := nm_bd (-lf D ins r)
        clear hlf hk12
        go_wp2
        go_region_held3 (fun w' => w'.cell? ⟨w.heap.size, 0, none⟩ = some (.slice (some ⟨b, o, none⟩) n cg) ∧ w'.cell? ⟨w.heap.size, 1, none⟩ = some (.slice ao m co) ∧ w'.cell? ⟨w0.heap.size, 1, none⟩ = some (.int .i64 (p : Int)) ∧ w'.cell? ⟨w0.heap.size, 2, none⟩ = some (.int .i64 (r : Int))) (go_keep) (first | (go_at_call_of 17 (Value.int .i64 (p : Int)); refine (rLeaf _ _ _ _ _ _ _ _ _ _ _ p _ (HRD.out _ hcur).1 (HRD.out _ hcur).2 hn (by omega) (HK.out p hpi) (HQ.out p hpi)).mono ?_; rintro en w1 ⟨rfl, hb⟩; have hcur := hcur.trans (hb.mono hcur.size); obtain ⟨e1, e2, e3, e4, e5, e6, e7, e8⟩ := HALL.out _ hcur; clear hb) | (go_at_call_of 17 (Value.int .i64 (r : Int)); refine (rLeaf _ _ _ _ _ _ _ _ _ _ _ r _ (HRD.out _ hcur).1 (HRD.out _ hcur).2 hn (by omega) (HK.out r hri) (HQ.out r hri)).mono ?_; rintro en w2 ⟨rfl, hb⟩; have hcur := hcur.trans (hb.mono hcur.size); obtain ⟨f1, f2, f3, f4, f5, f6, f7, f8⟩ := HALL.out _ hcur; clear hb))
        all_goals
          have hbE := hbA.trans (hcur.mono hbA.size)
          go_wp2_with (go_at_call 25; refine (rMul _ _ _ (by omega) (by omega) (by omega) (by omega)).mono ?_; rintro e w' ⟨rfl, hw⟩; have hw := hw.symm; subst hw)
          go_ret
          rw [HV.out]
          exact ⟨rfl, hbE⟩
end Go.Proofs.YtmpnaobjgknfkabDoor
