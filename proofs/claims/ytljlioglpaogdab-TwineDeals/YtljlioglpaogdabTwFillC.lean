/- twine.fill. -/
import Derived.Test.YtljlioglpaogdabToTwApC
import Derived.Test.YtljlioglpaogdabToDealC
import Derived.Deep.Cut
import Derived.Laws.CopyOwn
namespace Go.Proofs.Ytljlioglpaogdab
set_option linter.unusedVariables false
set_option maxRecDepth 100000
set_option maxHeartbeats 8000000
section
open Crm Go.RowKit
theorem infoSq : (Try.prog.info? 79).map (·.size) = some 25 := by kernel_rfl
theorem sq_new (w : World) {A : World} (hA : A = (w.alloc (.cells #[.int .u64 0, .int .u64 0, .int .u64 0, .int .u64 0, .int .u64 0, .int .u64 0, .int .u64 0, .int .u64 0, .int .u64 0, .int .u64 0, .int .u64 0, .int .u64 0, .int .u64 0, .int .u64 0, .int .u64 0, .int .u64 0, .int .u64 0, .int .u64 0, .int .u64 0, .int .u64 0, .int .u64 0, .int .u64 0, .int .u64 0, .int .u64 0, .int .u64 0] 79)).alloc (.cells #[.int .u64 0, .int .u64 0, .int .u64 0, .int .u64 0, .int .u64 0, .int .u64 0, .int .u64 0, .int .u64 0, .int .u64 0, .int .u64 0, .int .u64 0, .int .u64 0, .int .u64 0, .int .u64 0, .int .u64 0, .int .u64 0, .int .u64 0, .int .u64 0, .int .u64 0, .int .u64 0, .int .u64 0, .int .u64 0, .int .u64 0, .int .u64 0, .int .u64 0] 79)) : BlkQ A w.heap.size (List.replicate 25 0) ∧ BlkQ A (w.heap.size + 1) (List.replicate 25 0) ∧ Below w.heap.size w A ∧ A.heap.size = w.heap.size + 2 := by
  subst hA
  have h1 : BlkQ (w.alloc (.cells #[.int .u64 0, .int .u64 0, .int .u64 0, .int .u64 0, .int .u64 0, .int .u64 0, .int .u64 0, .int .u64 0, .int .u64 0, .int .u64 0, .int .u64 0, .int .u64 0, .int .u64 0, .int .u64 0, .int .u64 0, .int .u64 0, .int .u64 0, .int .u64 0, .int .u64 0, .int .u64 0, .int .u64 0, .int .u64 0, .int .u64 0, .int .u64 0, .int .u64 0] 79)) w.heap.size (List.replicate 25 0) := heap_alloc_new w _
  have h2 : BlkQ ((w.alloc (.cells #[.int .u64 0, .int .u64 0, .int .u64 0, .int .u64 0, .int .u64 0, .int .u64 0, .int .u64 0, .int .u64 0, .int .u64 0, .int .u64 0, .int .u64 0, .int .u64 0, .int .u64 0, .int .u64 0, .int .u64 0, .int .u64 0, .int .u64 0, .int .u64 0, .int .u64 0, .int .u64 0, .int .u64 0, .int .u64 0, .int .u64 0, .int .u64 0, .int .u64 0] 79)).alloc (.cells #[.int .u64 0, .int .u64 0, .int .u64 0, .int .u64 0, .int .u64 0, .int .u64 0, .int .u64 0, .int .u64 0, .int .u64 0, .int .u64 0, .int .u64 0, .int .u64 0, .int .u64 0, .int .u64 0, .int .u64 0, .int .u64 0, .int .u64 0, .int .u64 0, .int .u64 0, .int .u64 0, .int .u64 0, .int .u64 0, .int .u64 0, .int .u64 0, .int .u64 0] 79)) (w.alloc (.cells #[.int .u64 0, .int .u64 0, .int .u64 0, .int .u64 0, .int .u64 0, .int .u64 0, .int .u64 0, .int .u64 0, .int .u64 0, .int .u64 0, .int .u64 0, .int .u64 0, .int .u64 0, .int .u64 0, .int .u64 0, .int .u64 0, .int .u64 0, .int .u64 0, .int .u64 0, .int .u64 0, .int .u64 0, .int .u64 0, .int .u64 0, .int .u64 0, .int .u64 0] 79)).heap.size (List.replicate 25 0) := heap_alloc_new _ _
  have e : (w.alloc (.cells #[.int .u64 0, .int .u64 0, .int .u64 0, .int .u64 0, .int .u64 0, .int .u64 0, .int .u64 0, .int .u64 0, .int .u64 0, .int .u64 0, .int .u64 0, .int .u64 0, .int .u64 0, .int .u64 0, .int .u64 0, .int .u64 0, .int .u64 0, .int .u64 0, .int .u64 0, .int .u64 0, .int .u64 0, .int .u64 0, .int .u64 0, .int .u64 0, .int .u64 0] 79)).heap.size = w.heap.size + 1 := by simp
  rw [e] at h2
  exact ⟨h1.below ((Below.refl _ _).alloc (Nat.le_refl _) _) h1.lt, h2, ((Below.refl _ _).alloc (Nat.le_refl _) _).alloc (by simp) _, by simp⟩

theorem cFill (s : Int) (a : Option Addr) (m c : Nat) (ds : List Int) (t : Nat) (w : World) (h : Rd w a m c ds) (hs0 : 0 ≤ s) (hs1 : s ≤ 18446744073709551615) (ht : t ≤ 4) (hm : m = need2 t) :
    Calls Try.prog 42 #[.int .u64 s, .int .i64 t, .slice a m c] w fun e w' => (∃ C, e = .returned (.agg (C.map (Value.int .u64)).toArray) ∧ Sqr s ds t (t + 1) (t + 1) C) ∧ Below w.heap.size w w' := by
  have hm14 : m ≤ 14 := by rw [hm]; exact need2_bd ht
  have HM : Hid (m = need2 t) := hm
  have hdl := h.len
  clear hm
  go_enter Try.func42, Try.ntmps42
  go_upto_region 2 with fail
  generalize hW : (w.alloc (.cells #[.int .u64 0, .int .u64 0, .int .u64 0, .int .u64 0, .int .u64 0, .int .u64 0, .int .u64 0, .int .u64 0, .int .u64 0, .int .u64 0, .int .u64 0, .int .u64 0, .int .u64 0, .int .u64 0, .int .u64 0, .int .u64 0, .int .u64 0, .int .u64 0, .int .u64 0, .int .u64 0, .int .u64 0, .int .u64 0, .int .u64 0, .int .u64 0, .int .u64 0] 79)).alloc (.cells #[.int .u64 0, .int .u64 0, .int .u64 0, .int .u64 0, .int .u64 0, .int .u64 0, .int .u64 0, .int .u64 0, .int .u64 0, .int .u64 0, .int .u64 0, .int .u64 0, .int .u64 0, .int .u64 0, .int .u64 0, .int .u64 0, .int .u64 0, .int .u64 0, .int .u64 0, .int .u64 0, .int .u64 0, .int .u64 0, .int .u64 0, .int .u64 0, .int .u64 0] 79) = w0
  obtain ⟨hq0, hq1, hb0, hz0⟩ := sq_new w hW.symm
  have HZ0 : Hid (w0.heap.size = w.heap.size + 2) := hz0
  clear hW hz0
  have hr0 := h.below hb0
  go_wp2_with (at_builtin; refine wpList_appRB Try.underlying23 info28 _ rfl _ _ rfl s hs0 hs1 a m c ds hr0 rfl rfl (by omega) ?_; intro a1 c1 w1 hr1 ha1 hb1)
  have hp0 := hq0.below hb1 hq0.lt
  have hp1 := hq1.below hb1 hq1.lt
  have hbw1 := hb0.trans (hb1.mono hb0.size)
  obtain ⟨X, HX⟩ : ∃ X, Hid (s :: ds = X) := ⟨_, rfl⟩
  rw [HX.out] at hr1
  clear hq0 hq1 hb0 hb1 hr0
  have HA1 : Hid (∀ x, a1 = some x → w.heap.size + 2 ≤ x.block) := fun x hx => by rw [← HZ0.out]; exact ha1 x hx
  clear ha1
  go_loopw [8, 17] (fun v i wr => ∃ (k q cc : Nat) (aa : Option Addr) (C : List Int), k ≤ t + 1 ∧ i = .int .i64 k ∧ q ≤ m + 1 ∧ Hid ((q : Int) = nd2 t k + 1) ∧ v = .slice aa (m + 1 - q) cc ∧ Rd wr aa (m + 1 - q) cc (X.drop q) ∧ Hid (∀ x, aa = some x → w.heap.size + 2 ≤ x.block) ∧ BlkQ wr w.heap.size (List.replicate 25 0) ∧ BlkQ wr (w.heap.size + 1) C ∧ Hid (Sqr s ds t k k C) ∧ Below w.heap.size w wr) (fun _ i _ => t + 1 - (intOf i).toNat)
  case atStart => exact ⟨0, 0, c1, a1, _, Nat.zero_le _, rfl, Nat.zero_le _, rfl, rfl, hr1, HA1, hp0, hp1, sqr_start s ds t, hbw1⟩
  case round =>
    clear hr1 HA1 hp0 hp1 hbw1
    obtain ⟨k, q, cc, aa, C, hk, rfl, hq, HQ, rfl, hrd, HA, hp0, hp1, HS, hbel⟩ := hrel
    by_cases hkt : k < t + 1
    · have hkd : decide ((k : Int) < (t : Int) + 1) = true := decide_eq_true (by omega)
      go_wp2
      go_loopw [8, 10] (fun v i wr => ∃ (j q cc : Nat) (aa : Option Addr) (C : List Int), k ≤ j ∧ j ≤ t + 1 ∧ i = .int .i64 j ∧ q ≤ m + 1 ∧ Hid ((q : Int) = nd2 t k + ((j : Int) - k) + 1) ∧ v = .slice aa (m + 1 - q) cc ∧ Rd wr aa (m + 1 - q) cc (X.drop q) ∧ Hid (∀ x, aa = some x → w.heap.size + 2 ≤ x.block) ∧ BlkQ wr w.heap.size (List.replicate 25 0) ∧ BlkQ wr (w.heap.size + 1) C ∧ Hid (Sqr s ds t k j C) ∧ Below w.heap.size w wr) (fun _ i _ => t + 1 - (intOf i).toNat)
      case atStart => exact ⟨k, q, cc, aa, C, Nat.le_refl _, by omega, rfl, hq, by have := HQ.out; unfold Hid; omega, rfl, hrd, HA, hp0, hp1, HS, hbel⟩
      case round =>
        clear HQ hrd HA hp0 hp1 HS hbel hq
        obtain ⟨j, q, cc, aa, C, hkj, hj, rfl, hq, HQ, rfl, hrd, HA, hp0, hp1, HS, hbel⟩ := hrel
        have hsw := hbel.size
        by_cases hjt : j ≤ t
        · have hpb := (pos_bd t (by omega) j (by omega) k (by omega) (by omega)).2
          have hqm : q < m + 1 := by have := HQ.out; have := HM.out; unfold need2 at this; omega
          clear hpb
          obtain ⟨r, hr⟩ : ∃ r, m + 1 - q = r + 1 := ⟨m - q, by omega⟩
          rw [hr] at hrd
          rw [hr]
          have hcp := hrd.cap
          obtain ⟨cd, rfl⟩ : ∃ cd, cc = cd + 1 := ⟨cc - 1, by omega⟩
          obtain ⟨b, o, y, rfl, hbb, HY, hy0, hy1, hcy⟩ := hrd.one (show 0 < r + 1 by omega)
          have hb2 := HA.out _ rfl
          have HV : Hid (y = dn s ds (nd2 t k + ((j : Int) - k))) := by
            unfold Hid
            rw [← HY.out, ← dn_cons HQ.out, HX.out]
            simp
          have HS2 : Hid (Sqr s ds t k (j + 1) ((C.set (k * 5 + j) y).set (j * 5 + k) y)) := sqr_step HS.out ht hkj hjt HV.out hy0 hy1
          have hl := HS.out.len
          have hlt1 := hp1.lt
          have c1 := hp1.cell (i := k * 5 + j) (by omega)
          have f1 := hp1.frozen (k * 5 + j)
          have hp2 := hp1.set (k * 5 + j) y
          have c2 := hp2.cell (i := j * 5 + k) (by simp; omega)
          have f2 := hp2.frozen (j * 5 + k)
          rw [Nat.add_zero] at hcy
          have hj4 : j < 5 := by omega
          have hk4 : k < 5 := by omega
          have HR : Hid (m + 1 - q = r + 1) := hr
          have H0 : Hid (BlkQ (((wr.setCell ⟨w.heap.size + 1, k * 5 + j, none⟩ (.int .u64 y)).setCell ⟨w.heap.size + 1, j * 5 + k, none⟩ (.int .u64 y)).drew) w.heap.size (List.replicate 25 0)) := (hp0.other (g' := w.heap.size + 1) (i := k * 5 + j) (v := .int .u64 y) (by omega)).other (g' := w.heap.size + 1) (i := j * 5 + k) (v := .int .u64 y) (by omega)
          have H1 : Hid (BlkQ (((wr.setCell ⟨w.heap.size + 1, k * 5 + j, none⟩ (.int .u64 y)).setCell ⟨w.heap.size + 1, j * 5 + k, none⟩ (.int .u64 y)).drew) (w.heap.size + 1) ((C.set (k * 5 + j) y).set (j * 5 + k) y)) := hp2.set (j * 5 + k) y
          have HBl : Hid (Below w.heap.size w (((wr.setCell ⟨w.heap.size + 1, k * 5 + j, none⟩ (.int .u64 y)).setCell ⟨w.heap.size + 1, j * 5 + k, none⟩ (.int .u64 y)).drew)) := ((hbel.setCell (p := ⟨w.heap.size + 1, k * 5 + j, none⟩) (by simp) (.int .u64 y)).setCell (p := ⟨w.heap.size + 1, j * 5 + k, none⟩) (by simp) (.int .u64 y)).drew
          have HRd : Hid (Rd (((wr.setCell ⟨w.heap.size + 1, k * 5 + j, none⟩ (.int .u64 y)).setCell ⟨w.heap.size + 1, j * 5 + k, none⟩ (.int .u64 y)).drew) (some ⟨b, o, none⟩) (r + 1) (cd + 1) (X.drop q)) := ((hrd.grown (grown_set wr (w.heap.size + 1) (k * 5 + j) (.int .u64 y)) (fun x hx => by obtain rfl := Option.some.inj hx; simp only [ne_eq, Option.some.injEq]; simp only at hb2; omega)).grown (grown_set _ (w.heap.size + 1) (j * 5 + k) (.int .u64 y)) (fun x hx => by obtain rfl := Option.some.inj hx; simp only [ne_eq, Option.some.injEq]; simp only at hb2; omega)).drew
          clear hr hrd hp0 hp1 hp2 hbel
          go_wp2
          go_region
          all_goals
            generalize ((wr.setCell ⟨w.heap.size + 1, k * 5 + j, none⟩ (.int .u64 y)).setCell ⟨w.heap.size + 1, j * 5 + k, none⟩ (.int .u64 y)).drew = W3 at *
            clear c1 c2 f1 f2 hcy HY HV HS
            go_wp2
          have e1 : m + 1 - (q + 1) = r := by have := HR.out; omega
          have hT := HRd.out.tail (a := if cd = 0 then some ⟨b, o, none⟩ else some ⟨b, o + 1, none⟩) ⟨fun hr0 => by rw [if_neg (by omega)], by split <;> simp⟩
          rw [List.drop_drop] at hT
          refine ⟨⟨j + 1, q + 1, cd, _, _, by omega, by omega, by go_num, by omega, ?_, by rw [e1], by rw [e1]; exact hT, ?_, H0.out, H1.out, HS2, HBl.out⟩, by simp [intOf]; omega⟩
          · have := HQ.out
            unfold Hid
            push_cast
            omega
          · intro x hx
            split at hx
            · obtain rfl := Option.some.inj hx; exact hb2
            · obtain rfl := Option.some.inj hx; exact hb2
        · have hj2 : j = t + 1 := by omega
          subst hj2
          have HQ2 : Hid ((q : Int) = nd2 t (k + 1) + 1) := by
            have := HQ.out
            unfold Hid
            rw [nd2]
            push_cast at this
            omega
          have HS2 : Hid (Sqr s ds t (k + 1) (k + 1) C) := sqr_row HS.out (by omega)
          go_wp2
          go_roundw
          case rel => exact ⟨k + 1, q, cc, aa, C, by omega, by go_num, hq, HQ2, rfl, hrd, HA, hp0, hp1, HS2, hbel⟩
          case measure => simp [intOf]; omega
    · have hkt2 : k = t + 1 := by omega
      subst hkt2
      have hl := HS.out.len
      have Hin : Hid ((Try.prog.info? 79).map (·.size) = some (C.map (Value.int .u64)).toArray.size) := by unfold Hid; simp only [List.size_toArray, List.length_map, hl]; exact infoSq
      have Hne : Hid (((List.replicate 25 (0 : Int)).map (Value.int .u64)).toArray.size = (C.map (Value.int .u64)).toArray.size) := by unfold Hid; simp [hl]
      have Hon : Hid ((C.map (Value.int .u64)).toArray.all (·.oneCell') = true) := by
        unfold Hid
        rw [Array.all_eq_true_iff_forall_mem]
        intro v hv
        obtain ⟨x, _, rfl⟩ := List.mem_map.1 (show v ∈ C.map (Value.int .u64) by simpa using hv)
        rfl
      have hbZ := below_setRow hbel (Nat.le_refl _) (C.map (Value.int .u64)).toArray
      have HZ : Hid (_ = _) := setRow_heap _ w.heap.size _ (C.map (Value.int .u64)).toArray _ (0, 0) hp0
      clear hl hrd HA HQ
      go_wp2_with (first | (refine wpList_load_row rfl 79 _ rfl (w.heap.size + 1) rfl 79 (C.map (Value.int .u64)).toArray (0, 0) _ hp1 Try.underlying79 rfl Hin.out ?_) | (refine wpList_store_row rfl 79 _ _ rfl w.heap.size (C.map (Value.int .u64)).toArray rfl rfl 79 ((List.replicate 25 (0 : Int)).map (Value.int .u64)).toArray hp0 Hin.out Hne.out Hon.out ?_))
      exact bodyPost_ret (v := .agg (C.map (Value.int .u64)).toArray) (results_cell_row Try.results42 _ _ w.heap.size 79 _ (0, 0) _ rfl HZ.out Try.underlying79 rfl Hin.out) rfl ⟨⟨C, rfl, HS.out⟩, hbZ⟩
end
end Go.Proofs.Ytljlioglpaogdab
