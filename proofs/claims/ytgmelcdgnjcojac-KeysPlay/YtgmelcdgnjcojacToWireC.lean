/- croftlaw.KeysPlay: the walk. · shamir.Deal: what it tells is the caller's own. · croftref.Wire. -/
import Derived.Test.YtgmelcdgnjcojacToKpA
import Derived.Test.YtgmelcdgnjcojacToRDealC
import Derived.Test.YtgmelcdgnjcojacToValC
import Derived.Test.YtgmelcdgnjcojacToTellsM
import Derived.BigQuiet
namespace Go.Proofs.Ytgmelcdgnjcojac
open Go.RowKit Crm

set_option maxRecDepth 100000 in
set_option maxHeartbeats 20000000 in
theorem keysPlayW (qNew : KcNew) (qGen : KcGen) (qRefresh : KcRefresh) (qTweak : KcTweak) (qCombine : KcCombine) (qMultiply : KcMultiply) (qOpen : KcOpen) (qShares : KcShares) (qDrop : KcDrop)
    (n t : Int) (al : Option Addr) (m cl : Nat) (L : List Cl) (w : World) (hn0 : -9223372036854775808 ≤ n) (hn1 : n ≤ 9223372036854775807) (ht0 : -9223372036854775808 ≤ t) (ht1 : t ≤ 9223372036854775807) (hl : RdC w al m cl L) :
    Calls Try.prog 4 #[.int .i64 n, .int .i64 t, .slice al m cl] w fun e w' => e = .returned (.bool true) ∧ Below w.heap.size w w' := by
  have hcap := hl.cap
  have hmax := hl.max
  unfold maxLen at hmax
  go_enter Try.func4, Try.ntmps4
  go_wp2_with fail
  refine (qNew n t _ ⟨hn0, hn1⟩ ⟨ht0, ht1⟩).mono ?_
  rintro e w1 ⟨⟨hbad, rfl⟩ | ⟨n', t', pk, Gk, rfl, rfl, ht4, hn9, hnt, rfl, hK, hGk⟩, hb1⟩
  · by_cases h1 : t < 0 ∨ 4 < t
    · clear hbad
      go_wp2_with (go_at_call_of 13 (Value.int .i64 t); refine (rInN t 0 4 _ h1).mono ?_; rintro e w2 ⟨rfl, hw⟩; have hw := hw.symm; subst hw)
      go_ret
      exact ⟨rfl, hb1⟩
    · by_cases h2 : n < 1 ∨ 9 < n
      · clear hbad
        go_wp2_with (first | (go_at_call_of 13 (Value.int .i64 n); refine (rInN n 1 9 _ h2).mono ?_; rintro e w2 ⟨rfl, hw⟩; have hw := hw.symm; subst hw) | (go_at_call_of 13 (Value.int .i64 t); refine (rInY t 0 4 _ (by omega) (by omega)).mono ?_; rintro e w2 ⟨rfl, hw⟩; have hw := hw.symm; subst hw))
        go_ret
        exact ⟨rfl, hb1⟩
      · have h3 : ¬ (2 * t + 1 ≤ n) := fun h => hbad ⟨by omega, by omega, h⟩
        clear hbad
        go_wp2_with (first | (go_at_call_of 13 (Value.int .i64 n); refine (rInY n 1 9 _ (by omega) (by omega)).mono ?_; rintro e w2 ⟨rfl, hw⟩; have hw := hw.symm; subst hw) | (go_at_call_of 13 (Value.int .i64 t); refine (rInY t 0 4 _ (by omega) (by omega)).mono ?_; rintro e w2 ⟨rfl, hw⟩; have hw := hw.symm; subst hw))
        go_ret
        exact ⟨rfl, hb1⟩
  · by_cases hm60 : 60 < m
    · go_wp2_with (first | (go_at_call_of 13 (Value.int .i64 (n' : Int)); refine (rInY (n' : Int) 1 9 _ (by omega) (by omega)).mono ?_; rintro e w2 ⟨rfl, hw⟩; have hw := hw.symm; subst hw) | (go_at_call_of 13 (Value.int .i64 (t' : Int)); refine (rInY (t' : Int) 0 4 _ (by omega) (by omega)).mono ?_; rintro e w2 ⟨rfl, hw⟩; have hw := hw.symm; subst hw))
      go_ret
      exact ⟨rfl, hb1⟩
    · go_wp2_with (first | (first | (go_at_call_of 13 (Value.int .i64 (n' : Int)); refine (rInY (n' : Int) 1 9 _ (by omega) (by omega)).mono ?_; rintro e w2 ⟨rfl, hw⟩; have hw := hw.symm; subst hw) | (go_at_call_of 13 (Value.int .i64 (t' : Int)); refine (rInY (t' : Int) 0 4 _ (by omega) (by omega)).mono ?_; rintro e w2 ⟨rfl, hw⟩; have hw := hw.symm; subst hw)) | (go_at_call 17; refine (rNewStore n' t' _ ht4 hn9 hnt).mono ?_; rintro e w2 ⟨ps, Gs, rfl, hSt, hGs, hb2⟩))
      have hJ : Jn0 w pk ps (k0 n' t') w2 := ⟨Gk, Gs, hK.same hb2, hSt, fun i g k => by have := hK.lt i g; have := hGs i k; omega, hGk, fun i g => Nat.le_trans hb1.size (hGs i g), hb1.trans (hb2.mono hb1.size)⟩
      clear hK hSt hGk hGs hb1 hb2
      go_loopg [67] m (fun gk q wr => ∃ (j : Nat) (s : Kt), gk = m - j ∧ j ≤ m ∧ q = .int .i64 j ∧ Jn0 w pk ps s wr ∧ s.last ≤ j ∧ Hid (Kvd s))
      case atStart => exact ⟨0, k0 n' t', rfl, Nat.zero_le _, rfl, hJ, Nat.zero_le _, k0_vd n' t'⟩
      case round =>
        clear hJ
        obtain ⟨j, s, rfl, hjm, rfl, hJ, hlast, HVD⟩ := hrel
        by_cases hlt : j < m
        · obtain ⟨b, o, k, g, x, u, v, ad, q, cd, ds, rfl, hbb, HC, hk, hg, hx, hu, hv, hrW, a0, a1, a2, a3, a4, a5⟩ := hl.one hlt
          have c0 := a0
          rw [← hJ.bel.cell (p := ⟨b, o + j * 6, none⟩) hbb] at c0
          have c1 := a1
          rw [← hJ.bel.cell (p := ⟨b, o + j * 6 + 1, none⟩) hbb] at c1
          have c2 := a2
          rw [← hJ.bel.cell (p := ⟨b, o + j * 6 + 2, none⟩) hbb] at c2
          have c3 := a3
          rw [← hJ.bel.cell (p := ⟨b, o + j * 6 + 3, none⟩) hbb] at c3
          have c4 := a4
          rw [← hJ.bel.cell (p := ⟨b, o + j * 6 + 4, none⟩) hbb] at c4
          have c5 := a5
          rw [← hJ.bel.cell (p := ⟨b, o + j * 6 + 5, none⟩) hbb] at c5
          clear a0 a1 a2 a3 a4 a5
          have hbb2 : b < wr.heap.size := Nat.lt_of_lt_of_le hbb hJ.bel.size
          have hJ1 : Jnt w pk ps s s wr.heap.size (clo k g x u v ad q cd) (wr.alloc (.cells #[.int .i64 k, .int .i64 g, .int .i64 x, .int .u64 u, .int .u64 v, .slice ad q cd] 44)) := hJ.on _
          have hw0 := hJ.wf
          go_upto_region 11 with fail
          generalize wr.alloc (.cells #[.int .i64 k, .int .i64 g, .int .i64 x, .int .u64 u, .int .u64 v, .slice ad q cd] 44) = wA at *
          obtain ⟨gc, HGC⟩ : ∃ gc, Hid (wr.heap.size = gc) := ⟨_, rfl⟩
          rw [HGC.out] at hJ1 ⊢
          clear c0 c1 c2 c3 c4 c5
          obtain ⟨d0, d1, d2, d3, d4, d5, hgl⟩ := clo_cells hJ1.box
          have hl6 : s.last ≤ 1000000 := by omega
          go_upto_block 2 with fail
          go_cut [13, 14, 15, 16] from 71 to 246 (fun s13 s14 s15 s16 wx => Kpw w pk ps j s13 s14 s15 s16 wx)
          case first =>
            refine kpAll qGen qRefresh qTweak qCombine qMultiply qDrop hJ1 hrW hw0 HVD hg hx hu hv hl6 hlast ?_
            unfold Hid
            intro s13 s14 s15 s16
            intros
            rename_i w' hsw
            dsimp only
            go_wp2
            go_meet
            case rel => exact hsw
          case rest =>
            obtain ⟨h, e, s', rfl, rfl, rfl, rfl, hJ', hls, hvd⟩ := hcut
            have HVD' : Hid (Kvd s') := hvd
            obtain ⟨wq, hwq⟩ : ∃ q, q = wc := ⟨_, rfl⟩
            subst hwq
            clear hvd hJ1 hJ d0 d1 d2 d3 d4 d5 hgl HVD hw0 hrW
            obtain ⟨b', V, hS⟩ := hJ'.sto
            obtain ⟨_, _, y2, _⟩ := hS.four
            have hpl := hS.lt
            have hhh : (h != h) = false := by simp
            have hee : (e != e) = false := by simp
            obtain ⟨La, HLa⟩ : ∃ La, Hid (s'.last = La) := ⟨_, rfl⟩
            rw [HLa.out] at y2 hls
            clear hS
            go_wp2
            go_loopw [200] (fun q wr => ∃ x : Nat, x ≤ La + 2 ∧ q = .int .i64 x ∧ Jn0 w pk ps s' wr) (fun q _ => La + 2 - (intOf q).toNat)
            case atStart => exact ⟨0, Nat.zero_le _, rfl, hJ'⟩
            case round =>
              clear hJ' y2 hpl
              obtain ⟨x, hxl, rfl, hJ⟩ := hrel
              by_cases hlx : x < La + 2
              · have hlti : (x : Int) < (La : Int) + 2 := by omega
                have hxr : i64r (x : Int) := ⟨by omega, by omega⟩
                have HXR : Hid (i64r (x : Int)) := hxr
                clear hxr
                go_wp2_with fail
                refine (hJ.kr (fun G hG => qOpen pk G s' x _ hG HXR.out)).mono ?_
                rintro e1 w1 ⟨y, r, rfl, hO1, hb1⟩
                have HO1 : Hid (Kop s' x y r) := hO1
                have hJa := hJ.same hb1
                clear hJ hb1 hO1
                go_wp2_with fail
                refine (hJa.sr (fun G hG => rOpenK ps G s' x _ hG HXR.out.1 HXR.out.2)).mono ?_
                rintro e2 w2 ⟨y', r', rfl, hO2, hb2⟩
                obtain ⟨rfl, rfl⟩ := HO1.out.one hO2
                have hJb := hJa.same hb2
                clear hJa hb2 hO2
                go_wp2_with fail
                refine (hJb.kr (fun G hG => qShares pk G s' x _ hG HXR.out)).mono ?_
                have hyy : (y != y) = false := by simp
                have hrr : (r != r) = false := by simp
                rintro e3 w3 ⟨⟨hf, rfl⟩ | ⟨l, v, hf, rfl, ho⟩, hb3⟩
                · obtain ⟨rfl, rfl⟩ := HO1.out.none hf
                  have hJc := hJb.same hb3
                  obtain ⟨b', V, hS⟩ := hJc.sto
                  obtain ⟨_, _, _, y3⟩ := hS.four
                  have hpl := hS.lt
                  have HV : Hid ((V x).getD (.slice none 0 0) = .slice none 0 0) := by
                    rcases hS.val x with e | ⟨l, _, _, e, _⟩
                    · unfold Hid; rw [e.2]; rfl
                    · rw [hf] at e; cases e
                  have hM := hS.map
                  have hlk := (hM.look Try.underlying53 (zeroL _) HXR.out).2
                  rw [HV.out] at hlk
                  clear hJb hb3 hS hf hM
                  go_wp2_with (go_at_call 12; refine (cSame _ _ _ _ _ _ _ _ (nil_rd _) (nil_rd _)).mono ?_; rintro e4 w4 ⟨rfl, hb4⟩; have hJd := hJc.same hb4)
                  go_roundw
                  case rel => exact ⟨x + 1, by omega, by go_num, hJd⟩
                  case measure => simp [intOf]; omega
                · obtain ⟨g, hvl⟩ := HVD'.out
                  obtain ⟨_, rfl⟩ := hvl.told hJb.wf hf HO1.out
                  have hJc := hJb.same hb3
                  obtain ⟨b', V, hS⟩ := hJc.sto
                  obtain ⟨_, _, _, y3⟩ := hS.four
                  have hpl := hS.lt
                  obtain ⟨a', c', hV, hr'⟩ := hS.slice hf
                  have HV : Hid ((V x).getD (.slice none 0 0) = .slice a' s'.n c') := by unfold Hid; rw [hV]; rfl
                  have hM := hS.map
                  obtain ⟨a2, c2, rfl, hr2, _⟩ := Rd.own ho (bd_u64 (hJb.wf.key x l hf).2.2)
                  have hlk := (hM.look Try.underlying53 (zeroL _) HXR.out).2
                  rw [HV.out] at hlk
                  clear hJb hb3 hS hf hV ho hvl hM
                  go_wp2_with (go_at_call 12; refine (cSame _ _ _ _ _ _ _ _ hr2 hr').mono ?_; rintro e4 w4 ⟨rfl, hb4⟩; have hJd := hJc.same hb4)
                  go_roundw
                  case rel => exact ⟨x + 1, by omega, by go_num, hJd⟩
                  case measure => simp [intOf]; omega
              · obtain rfl : x = La + 2 := by omega
                have hnl : ¬ (((La + 2 : Nat) : Int) < (La : Int) + 2) := by omega
                go_wp2
                go_roundg (m - (j + 1))
                case measure => omega
                case rel => exact ⟨j + 1, s', rfl, by omega, by go_num, hJ, by rw [HLa.out]; exact hls, HVD'⟩
        · obtain rfl : j = m := by omega
          have hbw := hJ.bel
          go_wp2
          go_ret
          exact ⟨rfl, hbw⟩
end Go.Proofs.Ytgmelcdgnjcojac

namespace Go.Proofs.Ytgmelcdgnjcojac
open Go.RowKit Crm

set_option maxRecDepth 100000 in
set_option maxHeartbeats 1000000 in
theorem cDealB (s : Int) (a : Option Addr) (m c : Nat) (xs : List Int) (n : Nat) (w : World) (h : Rd w a m c xs) (hs0 : 0 ≤ s) (hs1 : s ≤ 18446744073709551615) (hm : m ≤ 4) (hn : m < n) (hn9 : n ≤ 9) :
    Calls Try.prog 63 #[.int .u64 s, .slice a m c, .int .i64 n] w fun e w' => ∃ v, e = .returned (.tuple #[v, .int .i64 0]) ∧ w'.ownsRow w.heap.size 23 1 v n ((dl (s :: xs) n).map (Value.int .u64)) ∧ Below w.heap.size w w' := by
  obtain ⟨i0, hi, hz0, hz1, hz2⟩ := info_parts info23
  have hlen := h.len
  go_enter Try.func63, Try.ntmps63
  go_wp2_with (first | (at_builtin; refine wpList_appR Try.underlying24 info23 _ rfl _ _ rfl s hs0 hs1 a m c xs h rfl rfl (by omega) ?_; intro a1 c1 w1 hr1 hb1) | (at_make; refine wpList_make_full _ rfl _ _ 24 rfl w1.heap.size 23 i0 (.int .u64 0) 1 Try.underlying24 hi hz0 hz1 .i64 .i64 _ _ n rfl rfl (by omega) (by omega) (by rw [hz2]; omega) (by unfold maxLen; omega) (Nat.le_refl _) ?_; intro w2 hown hgrow))
  have hs1 := hb1.size
  have hB2 : Blk w2 w1.heap.size (fil (dlf (s :: xs)) n 0) := by rw [← fil_zero]; exact Blk.made hown
  have hb2 : Below w1.heap.size w1 w2 := (Below.refl _ _).grown hgrow (Nat.le_refl _) (by simp)
  have hb12 : Below w.heap.size w w2 := hb1.trans (hb2.mono hs1)
  clear hown hgrow
  go_loopw [32] (fun i wr => ∃ k : Nat, k ≤ n ∧ i = .int .i64 k ∧ Blk wr w1.heap.size (fil (dlf (s :: xs)) n k) ∧ Below w1.heap.size w1 wr ∧ Below w.heap.size w wr) (fun i _ => n - (intOf i).toNat)
  case atStart => exact ⟨0, Nat.zero_le _, rfl, hB2, hb2, hb12⟩
  case round =>
    clear hB2 hb2 hb12
    obtain ⟨k, hk, rfl, hblk, hbe1, hbel⟩ := hrel
    by_cases hlt : k < n
    · have hr := hr1.below hbe1
      have HF : Hid (nm (ev (s :: xs) ((k : Int) + 1)) = dlf (s :: xs) k) := rfl
      go_wp2_with fail
      refine (cEvalOK _ _ _ _ _ _ hr (by omega) (by omega) (by omega)).mono ?_
      rintro e w3 ⟨rfl, hb3⟩
      rw [HF.out]
      have hblk3 := hblk.below hb3 hblk.lt
      have hcell := hblk3.cell (i := k) (by rw [fil_len]; exact hlt)
      have hfz := hblk3.frozen k
      have hlt3 := hblk3.lt
      have hblk4 := hblk3.set k (dlf (s :: xs) k)
      rw [fil_set rfl] at hblk4
      have hbe3 := hbe1.trans (hb3.mono hbe1.size)
      have hbel3 := hbel.trans (hb3.mono hbel.size)
      have Hb4 : Hid (Below w1.heap.size w1 (w3.setCell ⟨w1.heap.size, k, none⟩ (.int .u64 (dlf (s :: xs) k)))) := hbe3.setCell (Nat.le_refl _) _
      have Hb5 : Hid (Below w.heap.size w (w3.setCell ⟨w1.heap.size, k, none⟩ (.int .u64 (dlf (s :: xs) k)))) := hbel3.setCell hs1 _
      clear hbe1 hbel hb3 hblk hblk3 hbe3 hbel3 hr
      go_wp2
      go_roundw
      case rel => exact ⟨k + 1, by omega, by go_num, hblk4, Hb4.out, Hb5.out⟩
      case measure => simp [intOf]; omega
    · have hkn : k = n := by omega
      subst hkn
      have hr : wr.ownsRow w.heap.size 23 1 (.slice (some ⟨w1.heap.size, 0, none⟩) k k) k ((dl (s :: xs) k).map (Value.int .u64)) := by
        rw [fil_full] at hblk
        exact ⟨by rw [List.length_map, dl_len, Nat.mul_one], .inr ⟨_, k, _, rfl, hs1, hblk, Nat.le_refl _, by unfold maxLen; omega, by simp, by rw [List.toList_toArray, Nat.mul_one, List.take_of_length_le (by simp)]; rfl⟩⟩
      go_wp2
      go_ret2
      exact ⟨_, rfl, hr, hbel⟩
end Go.Proofs.Ytgmelcdgnjcojac

namespace Go.Proofs.Ytgmelcdgnjcojac
open Go.RowKit Crm

/-- Slices of which the lengths are read. -/
structure RdL (w : World) (g k : Nat) (ns : List Nat) : Prop where
  len : ns.length = k
  lt : g < w.heap.size
  cell : ∀ i, i < k → ∃ ai ci, w.cell? ⟨g, i, none⟩ = some (.slice ai (ns.getD i 0) ci)
theorem rdL_one (w : World) (a : Option Addr) (n c : Nat) (E : TypeId) : RdL (w.alloc (.cells #[.slice a n c] E)) w.heap.size 1 [n] := by
  refine ⟨rfl, by simp, fun i hi => ?_⟩
  obtain rfl : i = 0 := by omega
  exact ⟨a, c, by rw [cell_of_row _ _ 0 _ E (0, 0) (heap_alloc_new w _)]; rfl⟩
theorem rdL_two (w : World) (a : Option Addr) (n c : Nat) (b : Option Addr) (m d : Nat) (E : TypeId) : RdL (w.alloc (.cells #[.slice a n c, .slice b m d] E)) w.heap.size 2 [n, m] := by
  refine ⟨rfl, by simp, fun i hi => ?_⟩
  match i, hi with
  | 0, _ => exact ⟨a, c, by rw [cell_of_row _ _ 0 _ E (0, 0) (heap_alloc_new w _)]; rfl⟩
  | 1, _ => exact ⟨b, d, by rw [cell_of_row _ _ 1 _ E (0, 0) (heap_alloc_new w _)]; rfl⟩
theorem RdL.below {w w' : World} {g k : Nat} {ns : List Nat} (h : RdL w g k ns) (hb : Below w.heap.size w w') : RdL w' g k ns := by
  refine ⟨h.len, Nat.lt_of_lt_of_le h.lt hb.size, fun i hi => ?_⟩
  obtain ⟨a, c, e⟩ := h.cell i hi
  exact ⟨a, c, by rw [hb.cell (World.block_lt_of_cell? w _ e)]; exact e⟩
/-- Lists of 1 to 9 numbers, all as long. -/
def Wk (ns : List Nat) (k : Nat) : Prop := (1 ≤ ns.getD 0 0 ∧ ns.getD 0 0 ≤ 9) ∧ ∀ i, i < k → ns.getD i 0 = ns.getD 0 0

end Go.Proofs.Ytgmelcdgnjcojac
