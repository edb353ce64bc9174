/- crofttop.TopKeys: the walk. · crofttop.TopKeys: the walk, package keys' contracts paid. -/
import Derived.Test.YtljlioglpaogdagDoorToTkA
import Derived.Test.YtljlioglpaogdagDoorSaidC
import Derived.Test.YtljlioglpaogdagDoorToKyG
import Derived.Test.YtljlioglpaogdagDoorToKyO
namespace Go.Proofs.YtljlioglpaogdagDoor
set_option linter.unusedVariables false
set_option maxRecDepth 100000
set_option maxHeartbeats 8000000
section
open Crm Go.RowKit
theorem topKeysW (qNew : KcNew) (qGen : KcGen) (qRefresh : KcRefresh) (qTweak : KcTweak) (qCombine : KcCombine) (qMultiply : KcMultiply) (qOpen : KcOpen) (qDrop : KcDrop)
    (t n : Int) (al : Option Addr) (m cl : Nat) (L : List Cl) (w : World) (hl : RdC w al m cl L) (hS : Shp w) :
    Calls Tryd.prog 8 #[.int .i64 t, .int .i64 n, .slice al m cl] w fun e w' => e = .returned (.bool true) ∧ Below w.heap.size w w' := by
  have hcap := hl.cap
  have hmax := hl.max
  unfold maxLen at hmax
  have hmm := @run_makeMap Tryd.prog
  go_enter Tryd.func8, Tryd.ntmps8
  go_wp2_with fail
  refine (tSaid _ hS).mono ?_
  rintro e w1 ⟨rfl, hb1⟩
  go_wp2_with fail
  refine (tCrew t n _).mono ?_
  rintro e w1' ⟨⟨t', n', rfl, ht4, hnt, hn9⟩, hw⟩
  have hw := hw.symm
  subst hw
  go_wp2_with fail
  refine (qNew (n' : Int) (t' : Int) _ ⟨by omega, by omega⟩ ⟨by omega, by omega⟩).mono ?_
  rintro e w2 ⟨⟨hbad, _⟩ | ⟨n2, t2, pk, Gk, e1, e2, _, _, _, rfl, hK, hGk⟩, hb2⟩
  · exact absurd ⟨by omega, by omega, by omega⟩ hbad
  obtain rfl : n' = n2 := by omega
  obtain rfl : t' = t2 := by omega
  have hbw2 := hb1.trans (hb2.mono hb1.size)
  by_cases hm60 : 60 < m
  · go_wp2
    go_ret
    exact ⟨rfl, hbw2⟩
  · have hT0 := Tkp.new hK (fun i g => Nat.le_trans hb1.size (hGk i g)) hbw2
    obtain ⟨bm, HBM⟩ : ∃ bm, Hid (w2.heap.size = bm) := ⟨_, rfl⟩
    clear hK hGk hb1 hb2 e1 e2
    go_upto_region 10 with fail
    generalize w2.alloc (.map #[] 0) = w3 at *
    rw [HBM.out] at hT0 ⊢
    go_wp2
    go_loopg [49] m (fun gk q wr => ∃ (j : Nat) (s : Kt) (g : Int → Option Int), gk = m - j ∧ j ≤ m ∧ q = .int .i64 j ∧ Tkp w pk bm s g wr ∧ Hid (s.n = n' ∧ s.t = t' ∧ Kwf s) ∧ s.last ≤ j)
    case atStart => exact ⟨0, k0 n' t', _, rfl, Nat.zero_le _, rfl, hT0, ⟨rfl, rfl, k0_wf ht4 hn9 hnt⟩, Nat.zero_le _⟩
    case round =>
      clear hT0
      obtain ⟨j, s, gv, rfl, hjm, rfl, hT, HSW, hlast⟩ := hrel
      by_cases hlt : j < m
      · obtain ⟨b, o, k, g, x, u, v, ad, q, cd, ds, rfl, hbb, HC, hk, hg, hx, hu, hv, hrW, a0, a1, a2, a3, a4, a5⟩ := hl.one hlt
        have c0 := a0
        rw [← hT.bel.cell (p := ⟨b, o + j * 6, none⟩) hbb] at c0
        have c1 := a1
        rw [← hT.bel.cell (p := ⟨b, o + j * 6 + 1, none⟩) hbb] at c1
        have c2 := a2
        rw [← hT.bel.cell (p := ⟨b, o + j * 6 + 2, none⟩) hbb] at c2
        have c3 := a3
        rw [← hT.bel.cell (p := ⟨b, o + j * 6 + 3, none⟩) hbb] at c3
        have c4 := a4
        rw [← hT.bel.cell (p := ⟨b, o + j * 6 + 4, none⟩) hbb] at c4
        have c5 := a5
        rw [← hT.bel.cell (p := ⟨b, o + j * 6 + 5, none⟩) hbb] at c5
        clear a0 a1 a2 a3 a4 a5
        have hbb2 : b < wr.heap.size := Nat.lt_of_lt_of_le hbb hT.bel.size
        have hT1 : Tkb w pk bm s s.cnt gv wr.heap.size (clo k g x u v ad q cd) (wr.alloc (.cells #[.int .i64 k, .int .i64 g, .int .i64 x, .int .u64 u, .int .u64 v, .slice ad q cd] 88)) := hT.on _
        have HVL : Hid (Kvl s gv) := hT.vl
        go_upto_region 13 with fail
        generalize wr.alloc (.cells #[.int .i64 k, .int .i64 g, .int .i64 x, .int .u64 u, .int .u64 v, .slice ad q cd] 88) = wA at *
        obtain ⟨gc, HGC⟩ : ∃ gc, Hid (wr.heap.size = gc) := ⟨_, rfl⟩
        rw [HGC.out] at hT1 ⊢
        clear c0 c1 c2 c3 c4 c5
        obtain ⟨d0, d1, d2, d3, d4, d5, hgl⟩ := clo_cells hT1.box
        have hl6 : s.last ≤ 1000000 := by omega
        go_upto_block 2 with fail
        go_cut [12, 13, 14, 15, 16, 17, 18, 19, 20, 21, 22] from 53 to 220 (fun s12 s13 s14 s15 s16 s17 s18 s19 s20 s21 s22 wx => Tpw w pk bm j n' t' wx)
        case first =>
          refine tkAll qGen qRefresh qTweak qCombine qMultiply qDrop hT1 HVL hrW HSW.out.2.2 HSW.out.1 HSW.out.2.1 ht4 hn9 hnt hg hx hu hv hl6 hlast ?_
          unfold Hid
          intros
          rename_i w' hsw
          dsimp only
          go_wp2
          go_meet
          case rel => exact hsw
        case rest =>
          obtain ⟨s', g', hT', hn', ht', hls, hw'⟩ := hcut
          have HSW' : Hid (s'.n = n' ∧ s'.t = t' ∧ Kwf s') := ⟨hn', ht', hw'⟩
          have hc8 := hw'.c8
          have HVL' : Hid (Kvl s' g') := hT'.vl
          obtain ⟨wq, hwq⟩ : ∃ q, q = wc := ⟨_, rfl⟩
          subst hwq
          clear hT1 hT d0 d1 d2 d3 d4 d5 hgl HVL HSW hrW hn' ht' hw'
          have hMl := hT'.map
          have hc8i : ¬ ((8 : Int) < (s'.cnt : Int)) := by omega
          go_wp2_with (first | (at_len; refine wpList_lenU _ rfl _ 86 rfl 34 Tryd.underlying86 bm _ g' rfl hMl ?_) | (at_range; refine wpList_rangeU _ rfl _ 86 rfl 34 Tryd.underlying86 bm _ g' rfl hMl ?_; intro w5 hR5 hg5 hs5; have hTr := hT'.range hR5 hg5; clear hR5 hg5 hs5))
          clear hMl
          obtain ⟨rb, HRB⟩ : ∃ rb, Hid (wq.heap.size = rb) := ⟨_, rfl⟩
          rw [HRB.out] at hTr ⊢
          go_loopw [23] (fun _ wr => ∃ cnt, Tkr w pk bm rb s' g' cnt wr) (fun _ wr => wr.rangeLeft bm rb)
          case atStart => exact ⟨_, hTr⟩
          case round =>
            clear hTr
            obtain ⟨cnt, hR⟩ := hrel
            go_wp2_with (at_next; refine wpList_nextU _ rfl _ rfl bm rb _ cnt g' rfl hR.rng ?_ ?_)
            · go_wp2
              go_roundg (m - (j + 1))
              case measure => omega
              case rel => exact ⟨j + 1, s', g', rfl, by omega, by go_num, hR.off HVL'.out, HSW', hls⟩
            · intro x c wn cnt' hxr hgx hRn hltc hgn _ hen
              have HXR : Hid (i64r x) := hxr
              have HGX : Hid (g' x = some c) := hgx
              have hR2 := hR.next hRn hgn
              have HCL : Hid (cnt = wr.rangeLeft bm rb) := hR.rng.left.symm
              clear hRn hgn hgx hxr hR
              go_wp2_with fail
              refine (hR2.kr (fun G hG => qOpen pk G s' x _ hG HXR.out)).mono ?_
              rintro e w6 ⟨y, r, rfl, hO, hb6⟩
              obtain ⟨l, hf⟩ : ∃ l, s'.f x = some l := by
                rcases HVL'.out x with ⟨_, e⟩ | ⟨l, _, e, _⟩
                · rw [HGX.out] at e; cases e
                · exact ⟨l, e⟩
              obtain ⟨e1, rfl⟩ := HVL'.out.told HSW'.out.2.2 hf hO
              obtain rfl : c = y := by rw [HGX.out] at e1; exact Option.some.inj e1
              have hR3 := hR2.same hb6
              have hcc : (c != c) = false := by simp
              clear hR2 hb6 hf hO e1 hen
              go_wp2
              go_roundw
              case rel => exact ⟨cnt', hR3⟩
              case measure => rw [hR3.rng.left, ← HCL.out]; exact hltc
      · obtain rfl : j = m := by omega
        have hbw := hT.bel
        go_wp2
        go_ret
        exact ⟨rfl, hbw⟩
theorem topKeysV (t n : Int) (al : Option Addr) (m cl : Nat) (L : List Cl) (w : World) (hl : RdC w al m cl L) (hS : Shp w) :
    Calls Tryd.prog 8 #[.int .i64 t, .int .i64 n, .slice al m cl] w fun e w' => e = .returned (.bool true) ∧ Below w.heap.size w w' :=
  topKeysW cNewK cGenK cRefreshK cTweakK cCombineK cMultiplyK cOpenK cDropK t n al m cl L w hl hS
end
end Go.Proofs.YtljlioglpaogdagDoor
