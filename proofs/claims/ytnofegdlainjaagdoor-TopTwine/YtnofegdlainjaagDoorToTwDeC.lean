/- twine.fill. · A list of rows that is made and then filled. · twine.Deal. -/
import Derived.Test.YtnofegdlainjaagDoorToTwSqM
import Derived.Test.YtnofegdlainjaagDoorToDealC
import Derived.Deep.Cut
import Derived.Laws.CopyOwn
import Derived.Test.YtnofegdlainjaagDoorToEnK
import Derived.Test.YtnofegdlainjaagDoorToLsV
import Derived.Deep.WholeRow
namespace Go.Proofs.YtnofegdlainjaagDoor
open Go.RowKit Crm

theorem infoSq : (Tryd.prog.info? 108).map (·.size) = some 25 := by kernel_rfl
theorem sq_new (w : World) {A : World} (hA : A = (w.alloc (.cells #[.int .u64 0, .int .u64 0, .int .u64 0, .int .u64 0, .int .u64 0, .int .u64 0, .int .u64 0, .int .u64 0, .int .u64 0, .int .u64 0, .int .u64 0, .int .u64 0, .int .u64 0, .int .u64 0, .int .u64 0, .int .u64 0, .int .u64 0, .int .u64 0, .int .u64 0, .int .u64 0, .int .u64 0, .int .u64 0, .int .u64 0, .int .u64 0, .int .u64 0] 108)).alloc (.cells #[.int .u64 0, .int .u64 0, .int .u64 0, .int .u64 0, .int .u64 0, .int .u64 0, .int .u64 0, .int .u64 0, .int .u64 0, .int .u64 0, .int .u64 0, .int .u64 0, .int .u64 0, .int .u64 0, .int .u64 0, .int .u64 0, .int .u64 0, .int .u64 0, .int .u64 0, .int .u64 0, .int .u64 0, .int .u64 0, .int .u64 0, .int .u64 0, .int .u64 0] 108)) : BlkQ A w.heap.size (List.replicate 25 0) ∧ BlkQ A (w.heap.size + 1) (List.replicate 25 0) ∧ Below w.heap.size w A ∧ A.heap.size = w.heap.size + 2 := by
  subst hA
  have h1 : BlkQ (w.alloc (.cells #[.int .u64 0, .int .u64 0, .int .u64 0, .int .u64 0, .int .u64 0, .int .u64 0, .int .u64 0, .int .u64 0, .int .u64 0, .int .u64 0, .int .u64 0, .int .u64 0, .int .u64 0, .int .u64 0, .int .u64 0, .int .u64 0, .int .u64 0, .int .u64 0, .int .u64 0, .int .u64 0, .int .u64 0, .int .u64 0, .int .u64 0, .int .u64 0, .int .u64 0] 108)) w.heap.size (List.replicate 25 0) := heap_alloc_new w _
  have h2 : BlkQ ((w.alloc (.cells #[.int .u64 0, .int .u64 0, .int .u64 0, .int .u64 0, .int .u64 0, .int .u64 0, .int .u64 0, .int .u64 0, .int .u64 0, .int .u64 0, .int .u64 0, .int .u64 0, .int .u64 0, .int .u64 0, .int .u64 0, .int .u64 0, .int .u64 0, .int .u64 0, .int .u64 0, .int .u64 0, .int .u64 0, .int .u64 0, .int .u64 0, .int .u64 0, .int .u64 0] 108)).alloc (.cells #[.int .u64 0, .int .u64 0, .int .u64 0, .int .u64 0, .int .u64 0, .int .u64 0, .int .u64 0, .int .u64 0, .int .u64 0, .int .u64 0, .int .u64 0, .int .u64 0, .int .u64 0, .int .u64 0, .int .u64 0, .int .u64 0, .int .u64 0, .int .u64 0, .int .u64 0, .int .u64 0, .int .u64 0, .int .u64 0, .int .u64 0, .int .u64 0, .int .u64 0] 108)) (w.alloc (.cells #[.int .u64 0, .int .u64 0, .int .u64 0, .int .u64 0, .int .u64 0, .int .u64 0, .int .u64 0, .int .u64 0, .int .u64 0, .int .u64 0, .int .u64 0, .int .u64 0, .int .u64 0, .int .u64 0, .int .u64 0, .int .u64 0, .int .u64 0, .int .u64 0, .int .u64 0, .int .u64 0, .int .u64 0, .int .u64 0, .int .u64 0, .int .u64 0, .int .u64 0] 108)).heap.size (List.replicate 25 0) := heap_alloc_new _ _
  have e : (w.alloc (.cells #[.int .u64 0, .int .u64 0, .int .u64 0, .int .u64 0, .int .u64 0, .int .u64 0, .int .u64 0, .int .u64 0, .int .u64 0, .int .u64 0, .int .u64 0, .int .u64 0, .int .u64 0, .int .u64 0, .int .u64 0, .int .u64 0, .int .u64 0, .int .u64 0, .int .u64 0, .int .u64 0, .int .u64 0, .int .u64 0, .int .u64 0, .int .u64 0, .int .u64 0] 108)).heap.size = w.heap.size + 1 := by simp
  rw [e] at h2
  exact ⟨h1.below ((Below.refl _ _).alloc (Nat.le_refl _) _) h1.lt, h2, ((Below.refl _ _).alloc (Nat.le_refl _) _).alloc (by simp) _, by simp⟩

set_option maxRecDepth 100000 in
set_option maxHeartbeats 2000000 in
theorem cFill (s : Int) (a : Option Addr) (m c : Nat) (ds : List Int) (t : Nat) (w : World) (h : Rd w a m c ds) (hs0 : 0 ≤ s) (hs1 : s ≤ 18446744073709551615) (ht : t ≤ 4) (hm : m = need2 t) :
    Calls Tryd.prog 65 #[.int .u64 s, .int .i64 t, .slice a m c] w fun e w' => (∃ C, e = .returned (.agg (C.map (Value.int .u64)).toArray) ∧ Sqr s ds t (t + 1) (t + 1) C) ∧ Below w.heap.size w w' := by
  have hm14 : m ≤ 14 := by rw [hm]; exact need2_bd ht
  have HM : Hid (m = need2 t) := hm
  have hdl := h.len
  clear hm
  go_enter Tryd.func65, Tryd.ntmps65
  go_upto_region 2 with fail
  generalize hW : (w.alloc (.cells #[.int .u64 0, .int .u64 0, .int .u64 0, .int .u64 0, .int .u64 0, .int .u64 0, .int .u64 0, .int .u64 0, .int .u64 0, .int .u64 0, .int .u64 0, .int .u64 0, .int .u64 0, .int .u64 0, .int .u64 0, .int .u64 0, .int .u64 0, .int .u64 0, .int .u64 0, .int .u64 0, .int .u64 0, .int .u64 0, .int .u64 0, .int .u64 0, .int .u64 0] 108)).alloc (.cells #[.int .u64 0, .int .u64 0, .int .u64 0, .int .u64 0, .int .u64 0, .int .u64 0, .int .u64 0, .int .u64 0, .int .u64 0, .int .u64 0, .int .u64 0, .int .u64 0, .int .u64 0, .int .u64 0, .int .u64 0, .int .u64 0, .int .u64 0, .int .u64 0, .int .u64 0, .int .u64 0, .int .u64 0, .int .u64 0, .int .u64 0, .int .u64 0, .int .u64 0] 108) = w0
  obtain ⟨hq0, hq1, hb0, hz0⟩ := sq_new w hW.symm
  have HZ0 : Hid (w0.heap.size = w.heap.size + 2) := hz0
  clear hW hz0
  have hr0 := h.below hb0
  go_wp2_with (at_builtin; refine wpList_appRB Tryd.underlying22 info34 _ rfl _ _ rfl s hs0 hs1 a m c ds hr0 rfl rfl (by omega) ?_; intro a1 c1 w1 hr1 ha1 hb1)
  have hp0 := hq0.below hb1 hq0.lt
  have hp1 := hq1.below hb1 hq1.lt
  have hbw1 := hb0.trans (hb1.mono hb0.size)
  obtain ⟨X, HX⟩ : ∃ X, Hid (s :: ds = X) := ⟨_, rfl⟩
  rw [HX.out] at hr1
  clear hq0 hq1 hb0 hb1 hr0
  have HA1 : Hid (∀ x, a1 = some x → w.heap.size + 2 ≤ x.block) := fun x hx => by rw [← HZ0.out]; exact ha1 x hx
  clear ha1
  go_loopw [8, 17] (fun v i wr => ∃ (k q cc : Nat) (aa : Option Addr) (C : List Int), k ≤ t + 1 ∧ i = .int .i64 k ∧ q ≤ m + 1 ∧ Hid ((q : Int) = nd2 t k + 1) ∧ v = .slice aa (m + 1 - q) cc ∧ Rd wr aa (m + 1 - q) cc (X.drop q) ∧ Hid (∀ x, aa = some x → w.heap.size + 2 ≤ x.block) ∧ BlkQ wr w.heap.size (List.replicate 25 0) ∧ BlkQ wr (w.heap.size + 1) C ∧ Hid (Sqr s ds t k k C) ∧ Below w.heap.size w wr) (fun _ i _ => t + 1 - (intOf i).toNat)
  case atStart => exact ⟨0, 0, c1, a1, _, Nat.zero_le _, rfl, Nat.zero_le _, rfl, rfl, hr1, HA1, hp0, hp1, sqr_start s ds t, hbw1⟩
  case round =>
    clear hr1 HA1 hp0 hp1 hbw1
    obtain ⟨k, q, cc, aa, C, hk, rfl, hq, HQ, rfl, hrd, HA, hp0, hp1, HS, hbel⟩ := hrel
    by_cases hkt : k < t + 1
    · have hkd : decide ((k : Int) < (t : Int) + 1) = true := decide_eq_true (by omega)
      go_wp2
      go_loopw [8, 10] (fun v i wr => ∃ (j q cc : Nat) (aa : Option Addr) (C : List Int), k ≤ j ∧ j ≤ t + 1 ∧ i = .int .i64 j ∧ q ≤ m + 1 ∧ Hid ((q : Int) = nd2 t k + ((j : Int) - k) + 1) ∧ v = .slice aa (m + 1 - q) cc ∧ Rd wr aa (m + 1 - q) cc (X.drop q) ∧ Hid (∀ x, aa = some x → w.heap.size + 2 ≤ x.block) ∧ BlkQ wr w.heap.size (List.replicate 25 0) ∧ BlkQ wr (w.heap.size + 1) C ∧ Hid (Sqr s ds t k j C) ∧ Below w.heap.size w wr) (fun _ i _ => t + 1 - (intOf i).toNat)
      case atStart => exact ⟨k, q, cc, aa, C, Nat.le_refl _, by omega, rfl, hq, by have := HQ.out; unfold Hid; omega, rfl, hrd, HA, hp0, hp1, HS, hbel⟩
      case round =>
        clear HQ hrd HA hp0 hp1 HS hbel hq
        obtain ⟨j, q, cc, aa, C, hkj, hj, rfl, hq, HQ, rfl, hrd, HA, hp0, hp1, HS, hbel⟩ := hrel
        have hsw := hbel.size
        by_cases hjt : j ≤ t
        · have hpb := (pos_bd t (by omega) j (by omega) k (by omega) (by omega)).2
          have hqm : q < m + 1 := by have := HQ.out; have := HM.out; unfold need2 at this; omega
          clear hpb
          obtain ⟨r, hr⟩ : ∃ r, m + 1 - q = r + 1 := ⟨m - q, by omega⟩
          rw [hr] at hrd
          rw [hr]
          have hcp := hrd.cap
          obtain ⟨cd, rfl⟩ : ∃ cd, cc = cd + 1 := ⟨cc - 1, by omega⟩
          obtain ⟨b, o, y, rfl, hbb, HY, hy0, hy1, hcy⟩ := hrd.one (show 0 < r + 1 by omega)
          have hb2 := HA.out _ rfl
          have HV : Hid (y = dn s ds (nd2 t k + ((j : Int) - k))) := by
            unfold Hid
            rw [← HY.out, ← dn_cons HQ.out, HX.out]
            simp
          have HS2 : Hid (Sqr s ds t k (j + 1) ((C.set (k * 5 + j) y).set (j * 5 + k) y)) := sqr_step HS.out ht hkj hjt HV.out hy0 hy1
          have hl := HS.out.len
          have hlt1 := hp1.lt
          have c1 := hp1.cell (i := k * 5 + j) (by omega)
          have f1 := hp1.frozen (k * 5 + j)
          have hp2 := hp1.set (k * 5 + j) y
          have c2 := hp2.cell (i := j * 5 + k) (by simp; omega)
          have f2 := hp2.frozen (j * 5 + k)
          rw [Nat.add_zero] at hcy
          have hj4 : j < 5 := by omega
          have hk4 : k < 5 := by omega
          have HR : Hid (m + 1 - q = r + 1) := hr
          have H0 : Hid (BlkQ (((wr.setCell ⟨w.heap.size + 1, k * 5 + j, none⟩ (.int .u64 y)).setCell ⟨w.heap.size + 1, j * 5 + k, none⟩ (.int .u64 y)).drew) w.heap.size (List.replicate 25 0)) := (hp0.other (g' := w.heap.size + 1) (i := k * 5 + j) (v := .int .u64 y) (by omega)).other (g' := w.heap.size + 1) (i := j * 5 + k) (v := .int .u64 y) (by omega)
          have H1 : Hid (BlkQ (((wr.setCell ⟨w.heap.size + 1, k * 5 + j, none⟩ (.int .u64 y)).setCell ⟨w.heap.size + 1, j * 5 + k, none⟩ (.int .u64 y)).drew) (w.heap.size + 1) ((C.set (k * 5 + j) y).set (j * 5 + k) y)) := hp2.set (j * 5 + k) y
          have HBl : Hid (Below w.heap.size w (((wr.setCell ⟨w.heap.size + 1, k * 5 + j, none⟩ (.int .u64 y)).setCell ⟨w.heap.size + 1, j * 5 + k, none⟩ (.int .u64 y)).drew)) := ((hbel.setCell (p := ⟨w.heap.size + 1, k * 5 + j, none⟩) (by simp) (.int .u64 y)).setCell (p := ⟨w.heap.size + 1, j * 5 + k, none⟩) (by simp) (.int .u64 y)).drew
          have HRd : Hid (Rd (((wr.setCell ⟨w.heap.size + 1, k * 5 + j, none⟩ (.int .u64 y)).setCell ⟨w.heap.size + 1, j * 5 + k, none⟩ (.int .u64 y)).drew) (some ⟨b, o, none⟩) (r + 1) (cd + 1) (X.drop q)) := ((hrd.grown (grown_set wr (w.heap.size + 1) (k * 5 + j) (.int .u64 y)) (fun x hx => by obtain rfl := Option.some.inj hx; simp only [ne_eq, Option.some.injEq]; simp only at hb2; omega)).grown (grown_set _ (w.heap.size + 1) (j * 5 + k) (.int .u64 y)) (fun x hx => by obtain rfl := Option.some.inj hx; simp only [ne_eq, Option.some.injEq]; simp only at hb2; omega)).drew
          clear hr hrd hp0 hp1 hp2 hbel
          go_wp2
          go_region
          all_goals
            generalize ((wr.setCell ⟨w.heap.size + 1, k * 5 + j, none⟩ (.int .u64 y)).setCell ⟨w.heap.size + 1, j * 5 + k, none⟩ (.int .u64 y)).drew = W3 at *
            clear c1 c2 f1 f2 hcy HY HV HS
            go_wp2
          have e1 : m + 1 - (q + 1) = r := by have := HR.out; omega
          have hT := HRd.out.tail (a := if cd = 0 then some ⟨b, o, none⟩ else some ⟨b, o + 1, none⟩) ⟨fun hr0 => by rw [if_neg (by omega)], by split <;> simp⟩
          rw [List.drop_drop] at hT
          refine ⟨⟨j + 1, q + 1, cd, _, _, by omega, by omega, by go_num, by omega, ?_, by rw [e1], by rw [e1]; exact hT, ?_, H0.out, H1.out, HS2, HBl.out⟩, by simp [intOf]; omega⟩
          · have := HQ.out
            unfold Hid
            push_cast
            omega
          · intro x hx
            split at hx
            · obtain rfl := Option.some.inj hx; exact hb2
            · obtain rfl := Option.some.inj hx; exact hb2
        · have hj2 : j = t + 1 := by omega
          subst hj2
          have HQ2 : Hid ((q : Int) = nd2 t (k + 1) + 1) := by
            have := HQ.out
            unfold Hid
            rw [nd2]
            push_cast at this
            omega
          have HS2 : Hid (Sqr s ds t (k + 1) (k + 1) C) := sqr_row HS.out (by omega)
          go_wp2
          go_roundw
          case rel => exact ⟨k + 1, q, cc, aa, C, by omega, by go_num, hq, HQ2, rfl, hrd, HA, hp0, hp1, HS2, hbel⟩
          case measure => simp [intOf]; omega
    · have hkt2 : k = t + 1 := by omega
      subst hkt2
      have hl := HS.out.len
      have Hin : Hid ((Tryd.prog.info? 108).map (·.size) = some (C.map (Value.int .u64)).toArray.size) := by unfold Hid; simp only [List.size_toArray, List.length_map, hl]; exact infoSq
      have Hne : Hid (((List.replicate 25 (0 : Int)).map (Value.int .u64)).toArray.size = (C.map (Value.int .u64)).toArray.size) := by unfold Hid; simp [hl]
      have Hon : Hid ((C.map (Value.int .u64)).toArray.all (·.oneCell') = true) := by
        unfold Hid
        rw [Array.all_eq_true_iff_forall_mem]
        intro v hv
        obtain ⟨x, _, rfl⟩ := List.mem_map.1 (show v ∈ C.map (Value.int .u64) by simpa using hv)
        rfl
      have hbZ := below_setRow hbel (Nat.le_refl _) (C.map (Value.int .u64)).toArray
      have HZ : Hid (_ = _) := setRow_heap _ w.heap.size _ (C.map (Value.int .u64)).toArray _ (0, 0) hp0
      clear hl hrd HA HQ
      go_wp2_with (first | (refine wpList_load_row rfl 108 _ rfl (w.heap.size + 1) rfl 108 (C.map (Value.int .u64)).toArray (0, 0) _ hp1 Tryd.underlying108 rfl Hin.out ?_) | (refine wpList_store_row rfl 108 _ _ rfl w.heap.size (C.map (Value.int .u64)).toArray rfl rfl 108 ((List.replicate 25 (0 : Int)).map (Value.int .u64)).toArray hp0 Hin.out Hne.out Hon.out ?_))
      exact bodyPost_ret (v := .agg (C.map (Value.int .u64)).toArray) (results_cell_row Tryd.results65 _ _ w.heap.size 108 _ (0, 0) _ rfl HZ.out Tryd.underlying108 rfl Hin.out) rfl ⟨⟨C, rfl, HS.out⟩, hbZ⟩
end Go.Proofs.YtnofegdlainjaagDoor

namespace Go.Proofs.YtnofegdlainjaagDoor
open Go.RowKit Crm

theorem made2_pvc (n : Nat) : (madeCells (Value.agg #[.int .i64 0, .slice none 0 0]).cells (n * 2)).toList = pvc (List.replicate n (0, .slice none 0 0)) := by
  have e : (Value.agg #[.int .i64 0, .slice none 0 0]).cells = #[.int .i64 0, .slice none 0 0] := rfl
  rw [e, made2]
  induction n with
  | zero => rfl
  | succ n ih => rw [List.replicate_succ, List.replicate_succ, List.flatMap_cons, ih]; rfl
theorem pvc_set2 : ∀ (l : List (Int × Value)) (q : Nat) (x : Int) (u : Value), ((pvc l).set (q * 2) (.int .i64 x)).set (q * 2 + 1) u = pvc (l.set q (x, u))
  | [], q, x, u => by simp [pvc]
  | p :: l, 0, x, u => rfl
  | p :: l, q + 1, x, u => by
    have := pvc_set2 l q x u
    have e1 : (q + 1) * 2 = q * 2 + 1 + 1 := by omega
    rw [e1]
    show _ :: _ :: ((pvc l).set (q * 2) (.int .i64 x)).set (q * 2 + 1) u = _
    rw [this]
    rfl
theorem getD_set_ne {α : Type} (l : List α) {i q : Nat} (x d : α) (h : i ≠ q) : (l.set q x).getD i d = l.getD i d := by
  simp [show ¬ q = i from fun e => h e.symm]
theorem getD_set_eq {α : Type} (l : List α) {q : Nat} (x d : α) (h : q < l.length) : (l.set q x).getD q d = x := by simp [h]
/-- Rows that are made, none of them filled. -/
theorem lsw_made {w : World} {B n : Nat} {v : Value} (h : w.ownsRow B 80 2 v n (madeCells (Value.agg #[.int .i64 0, .slice none 0 0]).cells (n * 2)).toList) : LsW w B v (List.replicate n (0, .slice none 0 0)) (List.replicate n (0, [])) := by
  have g1 : ∀ i, (List.replicate n ((0 : Int), Value.slice none 0 0)).getD i (0, .slice none 0 0) = (0, .slice none 0 0) := fun i => by
    rw [List.getD_eq_getElem?_getD, List.getElem?_replicate]; split <;> rfl
  have g2 : ∀ i, (List.replicate n ((0 : Int), ([] : List Int))).getD i (0, []) = (0, []) := fun i => by
    rw [List.getD_eq_getElem?_getD, List.getElem?_replicate]; split <;> rfl
  refine ⟨by rw [List.length_replicate, ← made2_pvc]; exact h, by simp, fun i _ => by rw [g1]; unfold ta; rw [g2], fun i _ => ?_, fun i j _ _ => by rw [g1]; exact .inl rfl⟩
  unfold tc
  rw [g1, g2]
  exact World.ownsRow_nil _ _ _ _
/-- One row is laid at its place. -/
theorem LsW.put {w : World} {B n c g q : Nat} {u : Value} {L : List (Int × Value)} {l : List (Int × List Int)} {x : Int} {row : List Int} (h : LsW w B (.slice (some ⟨g, 0, none⟩) n c) L l) (hl : l.length = n) (hq : q < n) (hr : w.ownsRow B 34 1 u row.length (row.map (Value.int .u64)))
    (hnew : ∀ i, i < l.length → (L.getD i (0, .slice none 0 0)).2.ownBlock = none ∨ (L.getD i (0, .slice none 0 0)).2.ownBlock ≠ u.ownBlock) :
    LsW ((w.setCell ⟨g, q * 2, none⟩ (.int .i64 x)).setCell ⟨g, q * 2 + 1, none⟩ u) B (.slice (some ⟨g, 0, none⟩) n c) (L.set q (x, u)) (l.set q (x, row)) := by
  have hL := h.len
  have hE : (80 : TypeId) ≠ 34 := by decide
  have hg : w.grownBy ((w.setCell ⟨g, q * 2, none⟩ (.int .i64 x)).setCell ⟨g, q * 2 + 1, none⟩ u) (some g) := grown_trans (grown_set _ _ _ _) (grown_set _ _ _ _)
  have ho := h.own
  rw [hl] at ho
  refine ⟨?_, by simp [hL], fun i hi => ?_, fun i hi => ?_, fun i j hij hj => ?_⟩
  · rw [List.length_set, hl, ← pvc_set2]
    exact own_set2 (own_set2 ho _ _) _ _
  · rw [List.length_set] at hi
    unfold ta
    by_cases e : i = q
    · subst e; rw [getD_set_eq _ _ _ (by omega), getD_set_eq _ _ _ (by omega)]
    · rw [getD_set_ne _ _ _ e, getD_set_ne _ _ _ e]; exact h.at_ i hi
  · rw [List.length_set] at hi
    unfold tc
    by_cases e : i = q
    · subst e
      rw [getD_set_eq _ _ _ (by omega), getD_set_eq _ _ _ (by omega)]
      exact hr.kept hg (own_apart ho hr hE)
    · rw [getD_set_ne _ _ _ e, getD_set_ne _ _ _ e]
      exact (h.row i hi).kept hg (own_apart ho (h.row i hi) hE)
  · rw [List.length_set] at hj
    by_cases e : i = q
    · subst e
      rw [getD_set_eq _ _ _ (by omega), getD_set_ne _ _ _ (show j ≠ i by omega)]
      rcases hnew j hj with e1 | e1
      · by_cases hu : u.ownBlock = none
        · exact .inl hu
        · exact .inr (by rw [e1]; exact hu)
      · exact .inr (fun e2 => e1 e2.symm)
    · by_cases e' : j = q
      · subst e'
        rw [getD_set_eq _ _ _ (by omega), getD_set_ne _ _ _ e]
        exact hnew i (by omega)
      · rw [getD_set_ne _ _ _ e, getD_set_ne _ _ _ e']
        exact h.inj i j hij hj
theorem own_baseZ {w : World} {B B' n z : Nat} {E : TypeId} {v : Value} {xs : List Value} (h : w.ownsRow B E z v n xs) (hB : B' ≤ B) : w.ownsRow B' E z v n xs := by
  refine ⟨h.1, ?_⟩
  rcases h.2 with h1 | ⟨g, cap, cur, e, hb, h2⟩
  · exact .inl h1
  · exact .inr ⟨g, cap, cur, e, Nat.le_trans hB hb, h2⟩
theorem LsW.base {w : World} {B B' : Nat} {v : Value} {L : List (Int × Value)} {l : List (Int × List Int)} (h : LsW w B v L l) (hB : B' ≤ B) : LsW w B' v L l :=
  ⟨own_baseZ h.own hB, h.len, h.at_, fun i hi => own_baseZ (h.row i hi) hB, h.inj⟩
/-- Its cells. -/
theorem LsW.cells {w : World} {B n c g q : Nat} {L : List (Int × Value)} {l : List (Int × List Int)} (h : LsW w B (.slice (some ⟨g, 0, none⟩) n c) L l) (hl : l.length = n) (hq : q < n) :
    (∃ a, w.cell? ⟨g, q * 2, none⟩ = some a) ∧ (∃ a, w.cell? ⟨g, q * 2 + 1, none⟩ = some a) ∧ w.frozen? ⟨g, q * 2, none⟩ = false ∧ w.frozen? ⟨g, q * 2 + 1, none⟩ = false := by
  have hL := h.len
  have ho := h.own
  rw [hl] at ho
  have hp := pvc_get L q (by omega)
  have a1 := ho.cells (g := g) rfl _ _ hp.1
  have a2 := ho.cells (g := g) rfl _ _ hp.2
  rw [Addr.add_lit] at a1 a2
  exact ⟨⟨_, by simpa using a1⟩, ⟨_, by simpa using a2⟩, own_frozen2 ho _, own_frozen2 ho _⟩
/-- The first k of n rows are dealt. -/
def dlw (s : Int) (ds : List Int) (t n k : Nat) : List (Int × List Int) := (List.range n).map fun r : Nat => if r < k then ((r : Int) + 1, rowK s ds t ((r : Int) + 1) (t + 1)) else (0, [])
theorem dlw_len (s : Int) (ds : List Int) (t n k : Nat) : (dlw s ds t n k).length = n := by simp [dlw]
theorem dlw_zero (s : Int) (ds : List Int) (t n : Nat) : List.replicate n (0, []) = dlw s ds t n 0 := by
  apply List.ext_getElem?
  intro i
  by_cases hi : i < n
  · simp [dlw, hi]
  · simp [dlw, hi]
theorem dlw_set (s : Int) (ds : List Int) (t n k : Nat) : (dlw s ds t n k).set k ((k : Int) + 1, rowK s ds t ((k : Int) + 1) (t + 1)) = dlw s ds t n (k + 1) := by
  apply List.ext_getElem?
  intro i
  rw [List.getElem?_set]
  by_cases hi : i < n
  · by_cases e : k = i
    · subst e; simp [dlw, hi]
    · have : (i < k + 1) = (i < k) := by apply propext; omega
      simp [dlw, hi, e, this]
  · by_cases e : k = i
    · subst e; simp [dlw, hi]
    · simp [dlw, hi, e]
theorem dlw_full (s : Int) (ds : List Int) (t n : Nat) : dlw s ds t n n = dealA s ds t n := by
  unfold dlw dealA
  refine List.map_congr_left fun i hi => ?_
  rw [if_pos (List.mem_range.1 hi)]
end Go.Proofs.YtnofegdlainjaagDoor

namespace Go.Proofs.YtnofegdlainjaagDoor
open Go.RowKit Crm

set_option maxRecDepth 100000 in
set_option maxHeartbeats 2000000 in
theorem cTwDeal (s t : Int) (a0 : Option Addr) (m c0 : Nat) (ds : List Int) (n : Int) (w : World) (h : Rd w a0 m c0 ds) (hs0 : 0 ≤ s) (hs1 : s ≤ 18446744073709551615) : Calls Tryd.prog 40 #[.int .u64 s, .int .i64 t, .slice a0 m c0, .int .i64 n] w fun e w' => Dwl s ds t n m w e w' := by
  obtain ⟨i0, hi, hz0, hz1, hz2⟩ := info_parts infoRow
  have hcap := h.cap
  have hmax := h.max
  unfold maxLen at hmax
  go_enter Tryd.func40, Tryd.ntmps40
  go_wp2_with fail
  refine (cTwNeed _ _).mono ?_
  rintro e w1 ⟨⟨hT, rfl⟩ | ⟨k, rfl, hk4, rfl⟩, hb1⟩
  · have HT : Hid (t < 0 ∨ 4 < t) := hT
    clear hT
    go_wp2
    go_ret2
    exact ⟨.inl ⟨fun k hk => by have := hk.1; have := hk.2.1; have := HT.out; omega, rfl⟩, hb1⟩
  · have hn14 := need2_bd hk4
    obtain ⟨N, HN⟩ : ∃ N, Hid (need2 k = N) := ⟨_, rfl⟩
    rw [HN.out] at hn14
    rw [HN.out]
    by_cases hmN : m = N
    · have HMN : Hid (m = N) := hmN
      have hmb : ((m : Int) != (N : Int)) = false := by rw [bne_eq_false_iff_eq]; omega
      have hm14 : m ≤ 14 := by omega
      clear hmN
      by_cases hnk : n ≤ (k : Int)
      · go_wp2
        go_ret2
        exact ⟨.inl ⟨fun j hj => by have h1 := hj.1; have h2 := hj.2.2.2.1; omega, rfl⟩, hb1⟩
      · by_cases hn9 : 9 < n
        · go_wp2
          go_ret2
          exact ⟨.inl ⟨fun j hj => by have h2 := hj.2.2.2.2; omega, rfl⟩, hb1⟩
        · obtain ⟨q, rfl⟩ : ∃ q : Nat, n = q := ⟨n.toNat, by omega⟩
          have hq9 : q ≤ 9 := by omega
          go_wp2_with fail
          refine (cFill _ _ _ _ _ _ _ (h.below hb1) hs0 hs1 hk4 (by rw [HMN.out, HN.out])).mono ?_
          rintro e w2 ⟨⟨C, rfl, hSq⟩, hb2⟩
          have HSq : Hid (Sqr s ds k (k + 1) (k + 1) C) := hSq
          have hbw2 := hb1.trans (hb2.mono hb1.size)
          have hl := hSq.len
          have Hin : Hid ((Tryd.prog.info? 108).map (·.size) = some (C.map (Value.int .u64)).toArray.size) := by unfold Hid; simp only [List.size_toArray, List.length_map, hl]; exact infoSq
          have Hne : Hid (((List.replicate 25 (0 : Int)).map (Value.int .u64)).toArray.size = (C.map (Value.int .u64)).toArray.size) := by unfold Hid; simp [hl]
          have Hon : Hid ((C.map (Value.int .u64)).toArray.all (·.oneCell') = true) := by
            unfold Hid
            rw [Array.all_eq_true_iff_forall_mem]
            intro v hv
            obtain ⟨x, _, rfl⟩ := List.mem_map.1 (show v ∈ C.map (Value.int .u64) by simpa using hv)
            rfl
          have hQ : BlkQ (w2.alloc (.cells (C.map (Value.int .u64)).toArray 108)) w2.heap.size C := heap_alloc_new w2 _
          have hbA : Below w2.heap.size w2 (w2.alloc (.cells (C.map (Value.int .u64)).toArray 108)) := (Below.refl _ _).alloc (Nat.le_refl _) _
          have hbwA := hbw2.trans (hbA.mono hbw2.size)
          clear hSq hl hb1 hb2 hbw2 hbA
          go_wp2_with (first | (refine wpList_store_row rfl 108 _ _ rfl w2.heap.size (C.map (Value.int .u64)).toArray rfl rfl 108 ((List.replicate 25 (0 : Int)).map (Value.int .u64)).toArray (heap_alloc_new w2 _) Hin.out Hne.out Hon.out ?_; rw [World.setRow_alloc_new]; generalize w2.alloc (.cells (C.map (Value.int .u64)).toArray 108) = w3 at *) | (at_make; refine wpList_make_full _ rfl _ _ 76 rfl w3.heap.size 80 i0 (.agg #[.int .i64 0, .slice none 0 0]) 2 Tryd.underlying76 hi hz0 hz1 .i64 .i64 _ _ q rfl rfl (by omega) (by omega) (by rw [hz2]; omega) (by unfold maxLen; omega) (Nat.le_refl _) ?_; intro w4 hown hgrow))
          have hb4 : Below w3.heap.size w3 w4 := (Below.refl _ _).grown hgrow (Nat.le_refl _) (by simp)
          have hL4 := lsw_made hown
          rw [dlw_zero s ds k] at hL4
          have hQ4 := hQ.below hb4 hQ.lt
          have hq3 := hQ.lt
          clear hown hgrow hQ
          go_loopw [44] (fun i wr => ∃ (r : Nat) (L : List (Int × Value)), r ≤ q ∧ i = .int .i64 r ∧ LsW wr w3.heap.size (.slice (some ⟨w3.heap.size, 0, none⟩) q q) L (dlw s ds k q r) ∧ BlkQ wr w2.heap.size C ∧ Below w3.heap.size w3 wr) (fun i _ => q - (intOf i).toNat)
          case atStart => exact ⟨0, _, Nat.zero_le _, rfl, hL4, hQ4, hb4⟩
          case round =>
            clear hL4 hQ4 hb4
            obtain ⟨r, L, hr, rfl, hL, hQr, hb5⟩ := hrel
            have hs5 := hb5.size
            have hdl := dlw_len s ds k q r
            by_cases hrq : r < q
            · have HR1 : Hid ((r : Int) + 1 = ((r + 1 : Nat) : Int)) := by unfold Hid; push_cast; rfl
              have HRK : Hid (rowK s ds k ((r + 1 : Nat) : Int) (k + 1) = rowK s ds k ((r : Int) + 1) (k + 1)) := by unfold Hid; rw [HR1.out]
              go_wp2_with fail
              rw [HR1.out]
              refine (cSqRow _ _ _ _ _ (r + 1) _ hQr HSq.out hk4 (by omega)).mono ?_
              rintro e w6 ⟨u, rfl, hown6, hb6⟩
              rw [HRK.out] at hown6
              have hL6 := hL.below hb6
              have hQ6 := hQr.below hb6 hQr.lt
              have hb36 := hb5.trans (hb6.mono hs5)
              have hrl := rowK_len s ds k ((r : Int) + 1) (k + 1)
              have hnew := hL.new (Nat.le_refl _) hown6
              have hown7 : w6.ownsRow w3.heap.size 34 1 (.slice (some ⟨u, 0, none⟩) (k + 1) (k + 1)) (rowK s ds k ((r : Int) + 1) (k + 1)).length ((rowK s ds k ((r : Int) + 1) (k + 1)).map (Value.int .u64)) := by rw [hrl]; exact own_base hown6 hs5
              have HL8 := hL6.put (q := r) (x := (r : Int) + 1) hdl hrq hown7 hnew
              rw [dlw_set] at HL8
              obtain ⟨⟨v0, d0⟩, ⟨v1, d1⟩, f0, f1⟩ := hL6.cells hdl hrq
              have hlt6 : w3.heap.size < w6.heap.size := World.block_lt_of_cell? w6 _ d0
              have HL9 : Hid (LsW _ _ _ _ _) := HL8
              have HQ9 : Hid (BlkQ ((w6.setCell ⟨w3.heap.size, r * 2, none⟩ (.int .i64 ((r : Int) + 1))).setCell ⟨w3.heap.size, r * 2 + 1, none⟩ (.slice (some ⟨u, 0, none⟩) (k + 1) (k + 1))) w2.heap.size C) := (hQ6.other (by omega)).other (by omega)
              have HB9 : Hid (Below w3.heap.size w3 ((w6.setCell ⟨w3.heap.size, r * 2, none⟩ (.int .i64 ((r : Int) + 1))).setCell ⟨w3.heap.size, r * 2 + 1, none⟩ (.slice (some ⟨u, 0, none⟩) (k + 1) (k + 1)))) := (hb36.setCell (p := ⟨w3.heap.size, r * 2, none⟩) (Nat.le_refl _) _).setCell (p := ⟨w3.heap.size, r * 2 + 1, none⟩) (Nat.le_refl _) _
              clear hL HL8 hL6 hnew hown6 hown7 hQr hQ6 hb5 hb6 hb36 hrl hdl
              go_wp2
              go_roundw
              case rel => exact ⟨r + 1, _, by omega, by go_num, HL9.out, HQ9.out, HB9.out⟩
              case measure => simp [intOf]; omega
            · have hrq2 : r = q := by omega
              subst hrq2
              have hbE := hbwA.trans (hb5.mono hbwA.size)
              rw [dlw_full] at hL
              have hLE := hL.base hbwA.size
              go_wp2
              go_ret2
              exact ⟨.inr ⟨k, r, _, L, ⟨rfl, hk4, by rw [HMN.out, HN.out], by omega, by omega⟩, rfl, rfl, hLE⟩, hbE⟩
    · have hmb : ((m : Int) != (N : Int)) = true := by rw [bne_iff_ne]; omega
      have HMN : Hid (m ≠ N) := hmN
      clear hmN
      go_wp2
      go_ret2
      exact ⟨.inl ⟨fun j hj => by
        have h1 := hj.1
        have h2 := hj.2.2.1
        obtain rfl : k = j := by omega
        rw [HN.out] at h2
        exact HMN.out h2, rfl⟩, hb1⟩
end Go.Proofs.YtnofegdlainjaagDoor
