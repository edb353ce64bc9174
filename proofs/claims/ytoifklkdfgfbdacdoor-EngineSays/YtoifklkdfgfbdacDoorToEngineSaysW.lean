/- croftref.Played. · croftlaw.same: two lists of lists that read the same. · The walk of croftlaw.EngineSays. -/
import Derived.Test.YtoifklkdfgfbdacDoorToPlS
import Derived.Deep.LoopGhost
import Derived.Deep.CutBlock
import Derived.Deep.CutRange
import Derived.Deep.DeepCutAuto
import Derived.Deep.RegionLaw
import Derived.Test.YtoifklkdfgfbdacDoorToRows2
import Derived.Test.YtoifklkdfgfbdacDoorToDealC
import Derived.Test.YtoifklkdfgfbdacDoorToPlC
namespace Go.Proofs.YtoifklkdfgfbdacDoor
open Go.RowKit Crm

set_option maxRecDepth 100000 in
set_option maxHeartbeats 4000000 in
theorem rPlayed (ag : Option Addr) (N cg : Nat) (G : List Gt) (ao : Option Addr) (m co : Nat) (O : List Int) (n t : Nat) (ai : Option Addr) (q ca : Nat) (ins : List Int) (ad : Option Addr) (d cd : Nat) (ds : List Int) (w : World) (h : RdG w ag N cg G) (g : RdI w ao m co O) (ih : Rd w ai q ca ins) (dh : Rd w ad d cd ds) (hN1 : 1 ≤ N) (hN : N ≤ 30) (hm : m ≤ 30) (hG : okG G N) (hO : okO O N m) (hq : q = ci G N) (hd : d = dwn G n t N) (hn : 2 * t + 1 ≤ n) (hn9 : n ≤ 9) :
    Calls Tryd.prog 12 #[.agg #[.slice ag N cg, .slice ao m co], .int .i64 (n : Int), .int .i64 (t : Int), .slice ai q ca, .slice ad d cd] w fun e w' => ∃ v u L, e = .returned (.tuple #[v, u]) ∧ w'.ownsRow w.heap.size 43 1 v m ((otl G O ins m).map (Value.int .u64)) ∧ LsV w' w.heap.size u L (snl G O n t ins ds N m) ∧ Below w.heap.size w w' := by
  obtain ⟨i0, hi0, hz0, hz1, hz2⟩ := info_parts infoVs
  have HOKG : Hid (okG G N) := hG
  have HOKO : Hid (okO O N m) := hO
  have HQ : Hid (q = ci G N) := hq
  have HD : Hid (d = dwn G n t N) := hd
  have hcap := h.cap
  have gcap := g.cap
  clear hG hO hq hd
  have hC0 := CBox.new w ag N cg ao m co
  have hb0 : Below w.heap.size w (w.alloc (.cells #[.slice ag N cg, .slice ao m co] 25)) := (Below.refl _ _).alloc (Nat.le_refl _) _
  go_enter Tryd.func12, Tryd.ntmps12
  go_upto_region 1 with fail
  generalize w.alloc (.cells #[.slice ag N cg, .slice ao m co] 25) = w0 at *
  have hl0 := hC0.lt
  go_wp2_with (at_make; refine wpList_make_full _ rfl _ _ 37 rfl w0.heap.size 31 i0 (.slice none 0 0) 1 Tryd.underlying37 hi0 hz0 hz1 .i64 .i64 _ _ n rfl rfl (by omega) (by omega) (by rw [hz2]; omega) (by unfold maxLen; omega) (Nat.le_refl _) ?_; intro w1 hown hgrow)
  have hb1 : Below w0.heap.size w0 w1 := (Below.refl _ _).grown hgrow (Nat.le_refl _) (by simp)
  have hL1 := lsv_made hown
  have e0 : List.replicate n ([] : List Int) = sgl G n t ins ds 0 := by
    apply List.ext_getElem?
    intro i
    by_cases hi : i < n
    · simp [sgl, sng, hi]
    · simp [sgl, hi]
  rw [e0] at hL1
  have hS1 : Sen w0 w1 w0.heap.size n (List.replicate n (.slice none 0 0)) (sgl G n t ins ds 0) (.slice none 0 0) [] (ewr G n t ins ds 0) (w0.heap.size + 1) (w0.heap.size + 1) := ⟨hL1, sgl_len _ _ _ _ _ _, lsv_nil _ _, apt_rep n [], by simp [Value.ownBlock], fun p _ gg _ => by omega, by omega, (hL1.cell (sgl_len _ _ _ _ _ _) (q := 0) (by omega)).2.2, hb1⟩
  clear hown hgrow hL1 hb1 e0
  go_loopg [13, 14, 15, 16] N (fun gk vW va vk vi wr => ∃ (i : Nat) (Ls LW : List Value), gk = N - i ∧ i ≤ N ∧ vi = .int .i64 i ∧ va = .int .i64 (dwn G n t i : Int) ∧ vk = .int .i64 (ci G i : Int) ∧ (∃ aW cW, vW = .slice aW i cW) ∧ Sen w0 wr w0.heap.size n Ls (sgl G n t ins ds i) vW LW (ewr G n t ins ds i) (w0.heap.size + 1) (w0.heap.size + 1))
  case atStart => exact ⟨0, _, [], rfl, Nat.zero_le _, rfl, rfl, rfl, ⟨none, 0, rfl⟩, hS1⟩
  case round =>
    clear hS1
    obtain ⟨i, Ls, LW, rfl, hi, rfl, rfl, rfl, ⟨aW, cW, rfl⟩, hS⟩ := hrel
    have hC := hC0.below hS.bel hl0
    obtain ⟨d0, d1⟩ := hC.cells
    have hcl := hC.lt
    by_cases hlt : i < N
    · obtain ⟨b, o, k, x, y, z, rfl, hbb, HGi, hk, hx, hy, hz, c1, c2, c3, c4⟩ := (h.below (hb0.trans (hS.bel.mono hb0.size))).one hlt
      have hbA : Below wr.heap.size wr (wr.alloc (.cells #[.int .i64 k, .int .i64 x, .int .i64 y, .int .u64 z] 58)) := (Below.refl _ _).alloc (Nat.le_refl _) _
      obtain ⟨q1, q2, q3, q4⟩ := gate_box wr k x y z 58
      have hltA : wr.heap.size < (wr.alloc (.cells #[.int .i64 k, .int .i64 x, .int .i64 y, .int .u64 z] 58)).heap.size := by simp
      have hSA := hS.below hbA
      have hbwA := (hb0.trans (hS.bel.mono hb0.size)).trans (hbA.mono (hb0.trans (hS.bel.mono hb0.size)).size)
      have hok := HOKG.out i hlt
      rw [HGi.out] at hok
      have HDN : Hid (dwn G n t N = d) := HD.out.symm
      have HCN : Hid (ci G N = q) := HQ.out.symm
      go_upto_region 9 with fail
      generalize wr.alloc (.cells #[.int .i64 k, .int .i64 x, .int .i64 y, .int .u64 z] 58) = W at *
      clear c1 c2 c3 c4 hbA d0 d1 hcl
      go_upto_block 2 with fail
      go_cut [14, 15, 18, 19, 20, 21, 22] from 27 to 182 (fun s14 s15 s18 s19 s20 s21 s22 wx => s14 = .int .i64 (dwn G n t (i + 1) : Int) ∧ s15 = .int .i64 (ci G (i + 1) : Int) ∧ Psw G n t ins ds w0 w0.heap.size i (.slice aW i cW) LW s18 wx)
      case first =>
        refine plAll hSA (ih.below hbwA) (dh.below hbwA) q2 q3 q4 hltA HGi hz hn hn9 (show Hid (dwn G n t i = dwn G n t i) from rfl) (show Hid (ci G i = ci G i) from rfl) hlt hN HDN HCN hok ?_
        unfold Hid
        intro u
        intros
        rename_i w' hsw
        dsimp only
        go_wp2
        go_meet
        case rel => exact ⟨rfl, rfl, hsw⟩
      case rest =>
        obtain ⟨rfl, rfl, hP⟩ := hcut
        obtain ⟨w8, hw8⟩ : ∃ w8, w8 = wc := ⟨_, rfl⟩
        subst hw8
        obtain ⟨s18, hs18⟩ : ∃ x, x = u18 := ⟨_, rfl⟩
        subst hs18
        have HPW := hP
        obtain ⟨Ls8, lo8, hi8, hS8, hu8, _, _⟩ := hP
        have hwo := hS8.wires.own
        rw [ewr_len] at hwo
        have hs8 := hS8.bel.size
        obtain ⟨ua, uc, rfl, huc⟩ := own_slice hu8
        have HN : Hid (∀ v2 w2, w2.ownsRow w0.heap.size 31 1 v2 (i + 1) (LW ++ [.slice ua n uc]) → w8.grownBy w2 (Value.slice aW i cW).ownBlock → (v2.ownBlock = (Value.slice aW i cW).ownBlock ∨ ∃ k, v2.ownBlock = some k ∧ w8.heap.size ≤ k) → (∃ aW cW, v2 = .slice aW (i + 1) cW) ∧ ∃ Ls, Sen w0 w2 w0.heap.size n Ls (sgl G n t ins ds (i + 1)) v2 (LW ++ [.slice ua n uc]) (ewr G n t ins ds (i + 1)) (w0.heap.size + 1) (w0.heap.size + 1)) := fun v2 w2 ho hg hat => by
          obtain ⟨a', c', e', _⟩ := own_slice ho
          exact ⟨⟨a', c', e'⟩, HPW.next (by omega) ho hg hat⟩
        clear HPW hS8 hu8 hSA hS
        go_wp2_with (at_builtin; refine wpList_appV Tryd.underlying37 infoVs rfl (by decide) _ rfl _ _ rfl w0.heap.size _ _ _ rfl hwo (.slice ua n uc) rfl rfl (by omega) hs8 ?_; intro v2 w2 hown2 hgr2 hat2; have HN2 : Hid (_ ∧ _) := HN.out v2 w2 hown2 hgr2 hat2; clear hown2 hgr2 hat2 hwo)
        obtain ⟨⟨a2, c2, e2⟩, Ls2, hS2⟩ := HN2.out
        go_roundg (N - (i + 1))
        case measure => omega
        case rel => exact ⟨i + 1, Ls2, _, rfl, by omega, by go_num, rfl, rfl, ⟨a2, c2, e2⟩, hS2⟩
    · have hiN : i = N := by omega
      subst hiN
      rw [snl_zero G O] at hS
      go_wp2
      clear d0 d1 hcl hC
      obtain ⟨wo, hwo⟩ : ∃ x, x = wr := ⟨_, rfl⟩
      subst hwo
      go_loopw [23] (fun v wr => ∃ (j : Nat) (Ls : List Value), j ≤ m ∧ v = .int .i64 j ∧ Sen w0 wr w0.heap.size n Ls (snl G O n t ins ds i j) (.slice aW i cW) LW (ewr G n t ins ds i) (w0.heap.size + 1) (w0.heap.size + 1)) (fun v _ => m - (intOf v).toNat)
      case atStart => exact ⟨0, Ls, Nat.zero_le _, rfl, hS⟩
      case round =>
        clear hS
        obtain ⟨p, Ls, hp, rfl, hS⟩ := hrel
        have hC := hC0.below hS.bel hl0
        obtain ⟨d0, d1⟩ := hC.cells
        have hcl := hC.lt
        by_cases hpm : p < m
        · obtain ⟨bo, oo, xo, rfl, hbo, HXo, hxo0, hxo1, hco⟩ := (g.below (hb0.trans (hS.bel.mono hb0.size))).one hpm
          have hxo := HOKO.out p hpm
          rw [HXo.out] at hxo
          obtain ⟨po, rfl⟩ : ∃ p : Nat, xo = p := ⟨xo.toNat, by omega⟩
          have hpo : po < i := by omega
          have hpo0 : (0 : Int) ≤ (po : Int) := by omega
          have hpoi : (po : Int) < (i : Int) := by omega
          have hp0 : (0 : Int) ≤ (p : Int) := by omega
          have hpmi : (p : Int) < (m : Int) := by omega
          have HEX : Hid ((fun _ : Nat => ew G n t ins ds (O.getD p 0).toNat) = fun _ => ew G n t ins ds po) := by unfold Hid; rw [HXo.out]; rfl
          rw [snl_first, HEX.out] at hS
          go_wp2
          clear d0 d1 hcl hC hco hbo
          obtain ⟨wp, hwp⟩ : ∃ x, x = wr := ⟨_, rfl⟩
          subst hwp
          go_loopw [24] (fun v wr => ∃ (j : Nat) (Ls : List Value), j ≤ n ∧ v = .int .i64 j ∧ Sen w0 wr w0.heap.size n Ls (sgx (sno G O n t ins ds i p) (fun _ => ew G n t ins ds po) n j) (.slice aW i cW) LW (ewr G n t ins ds i) (w0.heap.size + 1) (w0.heap.size + 1)) (fun v _ => n - (intOf v).toNat)
          case atStart => exact ⟨0, Ls, Nat.zero_le _, rfl, hS⟩
          case round =>
            clear hS
            obtain ⟨j, Ls, hj, rfl, hS⟩ := hrel
            have hC := hC0.below hS.bel hl0
            obtain ⟨d0, d1⟩ := hC.cells
            have hcl := hC.lt
            by_cases hjn : j < n
            · obtain ⟨bo', oo', xo', eo, hbo, HXo', _, _, hco⟩ := (g.below (hb0.trans (hS.bel.mono hb0.size))).one hpm
              simp only [Option.some.injEq, Addr.mk.injEq, and_true] at eo
              obtain ⟨rfl, rfl⟩ := eo
              obtain rfl : xo' = (po : Int) := HXo'.out.symm.trans HXo.out
              have hgl := sgx_len (sno G O n t ins ds i p) (fun _ => ew G n t ins ds po) n j
              obtain ⟨dg, fg, lg⟩ := hS.seen.cell hgl hjn
              have hrow := hS.seen.row j (by rw [hgl]; exact hjn)
              rw [sgx_getD _ _ hjn] at hrow
              obtain ⟨u, HU⟩ : ∃ u, Hid (Ls.getD j (.slice none 0 0) = u) := ⟨_, rfl⟩
              rw [HU.out] at dg hrow
              obtain ⟨l, Hl⟩ : ∃ l, Hid ((sno G O n t ins ds i p j).length = l) := ⟨_, rfl⟩
              have hlb := sno_bound G O n t ins ds i p j hn9
              rw [Hl.out] at hrow hlb
              have hrowD : wr.drew.ownsRow w0.heap.size 43 1 u l ((sno G O n t ins ds i p j).map (Value.int .u64)) := hrow
              obtain ⟨ua, uc, rfl, huc⟩ := own_slice hrow
              have hsw := hS.bel.size
              obtain ⟨gW, a3, c3, rfl, hgW, eg, r3⟩ := hS.wire hpo
              obtain ⟨b3, o3, rfl, _, _⟩ := r3.at (k := 0) (by omega)
              have HST : Hid (∀ w7, wr.drew.grownBy w7 (Value.slice ua l uc).ownBlock → (∃ x, w7.cell? ⟨w0.heap.size, j, none⟩ = some x) ∧ w7.frozen? ⟨w0.heap.size, j, none⟩ = false) := fun w7 hg => by
                have ho7 := (show wr.drew.ownsRow _ _ _ _ _ _ from hS.seen.own).kept hg (own_apart hrowD (show wr.drew.ownsRow _ _ _ _ _ _ from hS.seen.own) (by decide))
                rw [hgl] at ho7
                obtain ⟨g', x, e1, _, _, _, e5⟩ := own_at ho7 hjn
                simp only [Option.some.injEq, Addr.mk.injEq, and_true] at e1
                subst e1
                exact ⟨⟨x, e5⟩, own_frozen ho7 j⟩
              have HUP : Hid (∀ g7 cap7 w7, w7.ownsRow w0.heap.size 43 1 (.slice (some ⟨g7, 0, none⟩) (l + n) cap7) (l + n) ((sno G O n t ins ds i p j ++ ew G n t ins ds po).map (Value.int .u64)) → wr.drew.grownBy w7 (Value.slice ua l uc).ownBlock → ((Value.slice (some ⟨g7, 0, none⟩) (l + n) cap7).ownBlock = (Value.slice ua l uc).ownBlock ∨ ∃ k, (Value.slice (some ⟨g7, 0, none⟩) (l + n) cap7).ownBlock = some k ∧ wr.drew.heap.size ≤ k) →
                  Sen w0 (w7.setCell ⟨w0.heap.size, j, none⟩ (.slice (some ⟨g7, 0, none⟩) (l + n) cap7)) w0.heap.size n (Ls.set j (.slice (some ⟨g7, 0, none⟩) (l + n) cap7)) (sgx (sno G O n t ins ds i p) (fun _ => ew G n t ins ds po) n (j + 1)) (.slice (some ⟨gW, 0, none⟩) i cW) LW (ewr G n t ins ds i) (w0.heap.size + 1) (w0.heap.size + 1)) := fun g7 cap7 w7 ho hg hat => by
                have hlen : (sno G O n t ins ds i p j ++ ew G n t ins ds po).length = l + n := by rw [List.length_append, Hl.out, ew_len]
                have hpp := hS.drew.put (j := j) (row := sno G O n t ins ds i p j ++ ew G n t ins ds po) (v7 := .slice (some ⟨g7, 0, none⟩) (l + n) cap7) hjn (by rw [hlen]; exact ho) (by rw [HU.out]; exact hg) (by rw [HU.out]; exact hat)
                rw [sgx_set (sno G O n t ins ds i p) (fun _ => ew G n t ins ds po) n j] at hpp
                exact hpp
              have hj0 : (0 : Int) ≤ (j : Int) := by omega
              have hjni : (j : Int) < (n : Int) := by omega
              clear hS hrow hC
              go_wp2
              go_region_law (refine step_appM Tryd.underlying31 info43 wr.drew rfl _ _ rfl w0.heap.size _ _ _ rfl hrowD b3 o3 n c3 (ew G n t ins ds po) r3.drew rfl (by omega) (by omega) (by exact hsw) ?_; intro g7 cap7 w7 ho7 hgr7 hat7; obtain ⟨⟨xx, dd⟩, ff⟩ := HST.out w7 hgr7; have hl7 := World.block_lt_of_cell? w7 _ dd; have HE : Hid (Sen _ _ _ _ _ _ _ _ _ _ _) := HUP.out g7 cap7 w7 ho7 hgr7 hat7; clear ho7 hgr7 hat7)
              all_goals
                clear HST HUP hrowD
                go_wp2
                go_roundw
                case rel => exact ⟨j + 1, _, by omega, by go_num, HE.out⟩
                case measure => simp [intOf]; omega
            · have hjn2 : j = n := by omega
              subst hjn2
              rw [← HEX.out, snl_next] at hS
              go_wp2
              go_roundw
              case rel => exact ⟨p + 1, Ls, by omega, by go_num, hS⟩
              case measure => simp [intOf]; omega
        · have hpm2 : p = m := by omega
          subst hpm2
          have hbw := hb0.trans (hS.bel.mono hb0.size)
          go_wp2_with fail
          refine (rOuts _ _ _ _ _ _ _ _ _ _ _ _ _ (h.below hbw) (g.below hbw) (ih.below hbw) hN1 hN hm HOKG.out HOKO.out HQ.out).mono ?_
          rintro e w5 ⟨v, rfl, ho5, hb5⟩
          have ho6 := own_base ho5 hbw.size
          have hL6 := (hS.seen.below hb5).base hb0.size
          have hb6 := hbw.trans (hb5.mono hbw.size)
          clear hS hb5 ho5 d0 d1 hcl hC
          go_wp2
          go_ret2
          exact ⟨v, _, _, rfl, ho6, hL6, hb6⟩
end Go.Proofs.YtoifklkdfgfbdacDoor

namespace Go.Proofs.YtoifklkdfgfbdacDoor
open Go.RowKit Crm

set_option maxRecDepth 100000 in
theorem lSame1 (a : Option Addr) (n c : Nat) (b : Option Addr) (m d : Nat) (xs : List Int) (w : World) (h : Rd w a n c xs) (g : Rd w b m d xs) :
    Calls Tryd.prog 37 #[.slice a n c, .slice b m d] w fun e w' => e = .returned (.bool true) ∧ Below w.heap.size w w' := by
  go_enter Tryd.func37, Tryd.ntmps37
  go_wp2_with fail
  refine (cSame _ _ _ _ _ _ _ _ h g).mono ?_
  rintro e w1 ⟨rfl, hb1⟩
  go_wp2
  go_ret
  exact ⟨rfl, hb1⟩

set_option maxRecDepth 100000 in
set_option maxHeartbeats 1000000 in
theorem lEqualFunc (a : Option Addr) (n c : Nat) (b : Option Addr) (d : Nat) (l : List (List Int)) (w : World) (h : RdR w a n c l) (g : RdR w b n d l) :
    Calls Tryd.prog 36 #[.slice a n c, .slice b n d, .func (.func 37) #[] #[]] w fun e w' => e = .returned (.bool true) ∧ Below w.heap.size w w' := by
  have hcap := h.cap
  have hmax := h.max
  unfold maxLen at hmax
  go_enter Tryd.func36, Tryd.ntmps36
  go_wp2
  go_loopw [17] (fun i wr => ∃ k : Nat, k ≤ n ∧ i = .int .i64 k ∧ Below w.heap.size w wr) (fun i _ => n - (intOf i).toNat)
  case atStart => exact ⟨0, Nat.zero_le _, rfl, Below.refl _ _⟩
  case round =>
    obtain ⟨k, hk, rfl, hbel⟩ := hrel
    have hs1 := hbel.size
    by_cases hlt : k < n
    · obtain ⟨b1, o1, a1, n1, c1, row, rfl, hbb, HRow, hcr, hrow⟩ := (h.below hbel).one hlt
      obtain ⟨b2, o2, a2, n2, c2, row2, rfl, hbb2, HRow2, hcr2, hrow2⟩ := (g.below hbel).one hlt
      obtain rfl : row = row2 := HRow.out.symm.trans HRow2.out
      clear HRow HRow2
      go_wp2_with fail
      refine (lSame1 _ _ _ _ _ _ _ _ hrow hrow2).mono ?_
      rintro e w3 ⟨rfl, hb3⟩
      have hw3 := hbel.trans (hb3.mono hs1)
      clear hrow hrow2 hbel hb3
      go_wp2
      go_roundw
      case rel => exact ⟨k + 1, by omega, by go_num, hw3⟩
      case measure => simp [intOf]; omega
    · have hkn : k = n := by omega
      subst hkn
      go_wp2
      go_ret
      exact ⟨rfl, hbel⟩

set_option maxRecDepth 100000 in
theorem lSame (a : Option Addr) (n c : Nat) (b : Option Addr) (m d : Nat) (l : List (List Int)) (w : World) (h : RdR w a n c l) (g : RdR w b m d l) :
    Calls Tryd.prog 15 #[.slice a n c, .slice b m d] w fun e w' => e = .returned (.bool true) ∧ Below w.heap.size w w' := by
  obtain rfl : n = m := h.len.symm.trans g.len
  go_enter Tryd.func15, Tryd.ntmps15
  go_wp2_with fail
  refine (lEqualFunc _ _ _ _ _ _ _ h g).mono ?_
  rintro e w1 ⟨rfl, hb1⟩
  go_wp2
  go_ret
  exact ⟨rfl, hb1⟩
end Go.Proofs.YtoifklkdfgfbdacDoor

namespace Go.Proofs.YtoifklkdfgfbdacDoor
open Go.RowKit Crm

set_option maxRecDepth 100000 in
set_option maxHeartbeats 4000000 in
theorem engineSaysW (ag : Option Addr) (N cg : Nat) (G : List Gt) (ao : Option Addr) (m co : Nat) (O : List Int) (n t : Int) (ai : Option Addr) (q ca : Nat) (ins : List Int) (ad : Option Addr) (d cd : Nat) (ds : List Int) (w : World) (h : RdG w ag N cg G) (g : RdI w ao m co O) (hn0 : -9223372036854775808 ≤ n) (hn1 : n ≤ 9223372036854775807) (ht0 : -9223372036854775808 ≤ t) (ht1 : t ≤ 9223372036854775807) (ih : Rd w ai q ca ins) (dh : Rd w ad d cd ds) (hS : Shp w) :
    Calls Tryd.prog 4 #[.agg #[.slice ag N cg, .slice ao m co], .int .i64 n, .int .i64 t, .slice ai q ca, .slice ad d cd] w fun e w' => e = .returned (.bool true) ∧ Below w.heap.size w w' := by
  have hn : -9223372036854775808 ≤ n ∧ n ≤ 9223372036854775807 := ⟨hn0, hn1⟩
  have ht : -9223372036854775808 ≤ t ∧ t ≤ 9223372036854775807 := ⟨ht0, ht1⟩
  clear hn0 hn1 ht0 ht1
  have hC0 := CBox.new w ag N cg ao m co
  have hb0 : Below w.heap.size w (w.alloc (.cells #[.slice ag N cg, .slice ao m co] 25)) := (Below.refl _ _).alloc (Nat.le_refl _) _
  have hqc := ih.cap
  have hqm := ih.max
  have hdc := dh.cap
  have hdm := dh.max
  unfold maxLen at hqm hdm
  go_enter Tryd.func4, Tryd.ntmps4
  go_wp2_with fail
  generalize w.alloc (.cells #[.slice ag N cg, .slice ao m co] 25) = w0 at *
  refine (rCrew _ _ _ _ _ _ _ _ _ _ _ (h.below hb0) (g.below hb0) hn ht).mono ?_
  rintro e w1 ⟨r, rfl, hE, hb1'⟩
  have hb1 := hb0.trans (hb1'.mono hb0.size)
  have hC1 := hC0.below hb1' hC0.lt
  obtain ⟨d0, d1⟩ := hC1.cells
  clear hC0 hb1' hb0
  have HE : Hid (Nde G O N m n t r) := hE
  go_wp2_with fail
  refine (eNeed _ _ _ _ _ _ _ _ _ _ _ (h.below hb1) (g.below hb1) hn ht (hS.below hb1)).mono ?_
  by_cases hr : r = 0
  · subst hr
    obtain ⟨c1, c2⟩ := hE.ok
    have hN := c1.ok.1
    have hm := c1.ok.2.1
    have HG : Hid (okG G N) := c1.ok.2.2.1
    have HO : Hid (okO O N m) := c1.ok.2.2.2
    obtain ⟨o1, o2, o3, _⟩ := c2
    obtain ⟨n, rfl⟩ : ∃ n' : Nat, n = n' := ⟨n.toNat, by omega⟩
    obtain ⟨t, rfl⟩ : ∃ t' : Nat, t = t' := ⟨t.toNat, by omega⟩
    have HWB : Hid (∀ x ∈ whl G N, -9223372036854775808 ≤ x ∧ x ≤ 9223372036854775807) := whl_bd (fun i hi => (h.bd i hi).2.1) N (Nat.le_refl _)
    have hdl := dwn_le G (n := n) (t := t) (by omega) (by omega) N
    have hcl := ci_le G N
    rintro e w2 ⟨⟨r2, hr2, hE2, _⟩ | ⟨_, rfl⟩, hb2'⟩
    · exact absurd (hE2.one HE.out) hr2
    rw [Int.toNat_natCast, Int.toNat_natCast] at *
    have hb2 := hb1.trans (hb2'.mono hb1.size)
    have hC2 := hC1.below hb2' hC1.lt
    obtain ⟨e0, e1⟩ := hC2.cells
    obtain ⟨D, HD⟩ : ∃ D, Hid (dwn G n t N = D) := ⟨_, rfl⟩
    rw [HD.out] at hdl ⊢
    clear hE c1 hb1 hC1 hb2' d0 d1
    go_wp2_with fail
    refine (rDraws _ _ _ _ ao m co _ _ _ (h.below hb2) (by omega) (by omega) (by omega)).mono ?_
    rintro e w3 ⟨rfl, hb3'⟩
    rw [HD.out]
    have hb3 := hb2.trans (hb3'.mono hb2.size)
    have hC3 := hC2.below hb3' hC2.lt
    obtain ⟨f0, f1⟩ := hC3.cells
    clear hb2 hC2 hb3' e0 e1
    go_wp2_with fail
    refine (rWhose _ _ _ _ ao m co _ (h.below hb3) (by omega)).mono ?_
    rintro e w4 ⟨v, rfl, hown, hb4'⟩
    obtain ⟨a6, c6, rfl, hr6⟩ := RdI.own hown HWB.out
    have hb4 := hb3.trans (hb4'.mono hb3.size)
    have hC4 := hC3.below hb4' hC3.lt
    obtain ⟨g0, g1⟩ := hC4.cells
    have hc6 := hr6.cap
    have hm6 := hr6.max
    unfold maxLen at hm6
    obtain ⟨l, HL⟩ : ∃ l, Hid (ci G N = l) := ⟨_, rfl⟩
    rw [HL.out] at hr6 hc6 hcl ⊢
    clear hb3 hC3 hown hb4' f0 f1
    by_cases hq : q = l
    · subst hq
      by_cases hd : d = D
      · subst hd
        have HQ : Hid (Ere G O N m n t q d 0) := .inr ⟨HE.out, .inr ⟨HL.out.symm, .inr ⟨HD.out.symm, rfl⟩⟩⟩
        go_wp2_with fail
        refine (rPlayed _ _ _ _ _ _ _ _ n t _ _ _ _ _ _ _ _ _ (h.below hb4) (g.below hb4) (ih.below hb4) (dh.below hb4) hN.1 hN.2 hm.2 HG.out HO.out HL.out.symm HD.out.symm (by omega) (by omega)).mono ?_
        rintro e w5 ⟨v, u, L, rfl, ho, hL, hb5'⟩
        obtain ⟨aw, cw, rfl, hrw, _⟩ := Rd.own ho (bd_u64 (otl_bd G O ins m))
        obtain ⟨au, cu, rfl, hru⟩ := snl_rd hL
        have hb5 := hb4.trans (hb5'.mono hb4.size)
        have hC5 := hC4.below hb5' hC4.lt
        obtain ⟨i0, i1⟩ := hC5.cells
        clear hb4 hC4 hb5' g0 g1 ho hL
        go_wp2_with fail
        refine (eRun _ _ _ _ _ _ _ _ _ _ _ _ _ _ _ _ _ _ _ (h.below hb5) (g.below hb5) (ih.below hb5) (dh.below hb5) hn ht (hS.below hb5)).mono ?_
        rintro e w6 ⟨⟨r3, hr3, hE3, _⟩ | ⟨_, a7, c7, b7, k7, rfl, hr7, hr8⟩, hb6'⟩
        · exact absurd (hE3.one HQ.out) hr3
        rw [Int.toNat_natCast] at *
        have hb6 := hb5.trans (hb6'.mono hb5.size)
        have hrw6 := hrw.below hb6'
        have hru6 := hru.below hb6'
        clear hb5 hC5 hb6' i0 i1 hrw hru
        rw [Int.toNat_natCast] at *
        go_wp2_with fail
        refine (cSame _ _ _ _ _ _ _ _ hr7 hrw6).mono ?_
        rintro e w7 ⟨rfl, hb7'⟩
        have hb7 := hb6.trans (hb7'.mono hb6.size)
        have hru7 := hru6.below hb7'
        have hr87 := hr8.below hb7'
        clear hb6 hb7' hrw6 hru6 hr7 hr8
        go_wp2_with fail
        refine (lSame _ _ _ _ _ _ _ _ hr87 hru7).mono ?_
        rintro e w8 ⟨rfl, hb8'⟩
        have hb8 := hb7.trans (hb8'.mono hb7.size)
        clear hb7 hb8'
        go_wp2
        go_ret
        exact ⟨rfl, hb8⟩
      · have HQ : Hid (Ere G O N m n t q d 1) := .inr ⟨HE.out, .inr ⟨HL.out.symm, .inl ⟨fun e => hd (e.trans HD.out), rfl⟩⟩⟩
        go_wp2_with fail
        refine (eRun _ _ _ _ _ _ _ _ _ _ _ _ _ _ _ _ _ _ _ (h.below hb4) (g.below hb4) (ih.below hb4) (dh.below hb4) hn ht (hS.below hb4)).mono ?_
        rintro e w6 ⟨⟨r3, hr3, hE3, rfl⟩ | ⟨hE3, _⟩, hb6'⟩
        case inr => exact absurd (hE3.one HQ.out) (by decide)
        obtain rfl := hE3.one HQ.out
        have hb6 := hb4.trans (hb6'.mono hb4.size)
        clear hb4 hE3 hr3 hb6'
        go_wp2_with fail
        refine (cSame _ _ _ _ _ _ _ _ (nil_rd w6) (nil_rd w6)).mono ?_
        rintro e w7 ⟨rfl, hb7'⟩
        have hb7 := hb6.trans (hb7'.mono hb6.size)
        clear hb6 hb7'
        go_wp2_with fail
        refine (lSame _ _ _ _ _ _ _ _ (nil_rdR w7) (nil_rdR w7)).mono ?_
        rintro e w8 ⟨rfl, hb8'⟩
        have hb8 := hb7.trans (hb8'.mono hb7.size)
        clear hb7 hb8'
        go_wp2
        go_ret
        exact ⟨rfl, hb8⟩
    · have HQ : Hid (Ere G O N m n t q d 5) := .inr ⟨HE.out, .inl ⟨fun e => hq (e.trans HL.out), rfl⟩⟩
      go_wp2_with fail
      refine (eRun _ _ _ _ _ _ _ _ _ _ _ _ _ _ _ _ _ _ _ (h.below hb4) (g.below hb4) (ih.below hb4) (dh.below hb4) hn ht (hS.below hb4)).mono ?_
      rintro e w6 ⟨⟨r3, hr3, hE3, rfl⟩ | ⟨hE3, _⟩, hb6'⟩
      case inr => exact absurd (hE3.one HQ.out) (by decide)
      obtain rfl := hE3.one HQ.out
      have hb6 := hb4.trans (hb6'.mono hb4.size)
      clear hb4 hE3 hr3 hb6'
      go_wp2_with fail
      refine (cSame _ _ _ _ _ _ _ _ (nil_rd w6) (nil_rd w6)).mono ?_
      rintro e w7 ⟨rfl, hb7'⟩
      have hb7 := hb6.trans (hb7'.mono hb6.size)
      clear hb6 hb7'
      go_wp2_with fail
      refine (lSame _ _ _ _ _ _ _ _ (nil_rdR w7) (nil_rdR w7)).mono ?_
      rintro e w8 ⟨rfl, hb8'⟩
      have hb8 := hb7.trans (hb8'.mono hb7.size)
      clear hb7 hb8'
      go_wp2
      go_ret
      exact ⟨rfl, hb8⟩
  · rintro e w2 ⟨⟨r2, hr2, hE2, rfl⟩ | ⟨hE2, _⟩, hb2'⟩
    case inr => exact absurd (HE.out.one hE2) hr
    obtain rfl : r = r2 := HE.out.one hE2
    have hb2 := hb1.trans (hb2'.mono hb1.size)
    have hC2 := hC1.below hb2' hC1.lt
    obtain ⟨e0, e1⟩ := hC2.cells
    clear hE hE2 hr2 hb1 hC1 hb2' d0 d1
    have HQ : Hid (Ere G O N m n t q d r) := .inl ⟨hr, HE.out⟩
    go_wp2_with fail
    refine (eRun _ _ _ _ _ _ _ _ _ _ _ _ _ _ _ _ _ _ _ (h.below hb2) (g.below hb2) (ih.below hb2) (dh.below hb2) hn ht (hS.below hb2)).mono ?_
    rintro e w6 ⟨⟨r3, hr3, hE3, rfl⟩ | ⟨hE3, _⟩, hb6'⟩
    case inr => exact absurd (hE3.one HQ.out) (Ne.symm hr)
    obtain rfl : r = r3 := HQ.out.one hE3
    have hb6 := hb2.trans (hb6'.mono hb2.size)
    clear hb2 hE3 hr3 hb6'
    go_wp2_with fail
    refine (cSame _ _ _ _ _ _ _ _ (nil_rd w6) (nil_rd w6)).mono ?_
    rintro e w7 ⟨rfl, hb7'⟩
    have hb7 := hb6.trans (hb7'.mono hb6.size)
    clear hb6 hb7'
    go_wp2_with fail
    refine (lSame _ _ _ _ _ _ _ _ (nil_rdR w7) (nil_rdR w7)).mono ?_
    rintro e w8 ⟨rfl, hb8'⟩
    have hb8 := hb7.trans (hb8'.mono hb7.size)
    clear hb7 hb8'
    go_wp2
    go_ret
    exact ⟨rfl, hb8⟩
end Go.Proofs.YtoifklkdfgfbdacDoor
