/- The walk of crofttop.TopTwine. -/
import Derived.Test.YtljlioglpaogdagDoorToTwFillC
import Derived.Test.YtljlioglpaogdagDoorToSomeC
import Derived.Test.YtljlioglpaogdagDoorToSaidC
import Derived.Test.YtljlioglpaogdagDoorToTopC
import Derived.Test.YtljlioglpaogdagDoorTwDeC
import Derived.Test.YtljlioglpaogdagDoorToTwJoC
import Derived.Test.YtljlioglpaogdagDoorToOpenC
import Derived.Deep.RegionLaw
import Derived.Deep.RegionHeld3
namespace Go.Proofs.YtljlioglpaogdagDoor
set_option linter.unusedVariables false
set_option maxRecDepth 100000
set_option maxHeartbeats 8000000
section
open Crm Go.RowKit
theorem run_subl2 {P : Program} {T E : TypeId} (hT : P.underlying T = some (.slice E)) (hE : (P.info? E).map (·.size) = some 2) (b o n c lo : Nat) {l : Int} (hl : l = (lo : Int)) (hn : lo ≤ n) (hc : lo < c) (W : World) :
    (Instr.sliceAt T (.slice (some ⟨b, o, none⟩) n c) (some (.int .i64 l)) none none).run P W = .ok (.slice (some ⟨b, o + lo * 2, none⟩) (n - lo) (c - lo)) W := by
  subst hl
  have he : P.elem T = E := by simp [Program.elem, hT]
  have hT' : P.underlying T = some (.slice (P.elem T)) := by rw [he]; exact hT
  cases hi : P.info? E with
  | none => simp [hi] at hE
  | some i =>
    have hs : i.size = 2 := by simpa [hi] using hE
    rw [run_sliceAt_slice W T _ _ _ _ hT', run_slice_l W T _ n c hT' .i64 (lo : Int) (by omega) (by omega), he]
    simp [sizeOf, typeInfo, hi, hs, sliced, Result.andThen, show ¬ c = lo by omega, Addr.add]
theorem getD_dropW (l : List (Int × List Int)) (lo i : Nat) : (l.drop lo).getD i (0, []) = l.getD (lo + i) (0, []) := by simp
theorem RdW.drop {w : World} {b o n c : Nat} {l : List (Int × List Int)} (h : RdW w (some ⟨b, o, none⟩) n c l) {lo : Nat} (hl : lo ≤ n) : RdW w (some ⟨b, o + lo * 2, none⟩) (n - lo) (c - lo) (l.drop lo) := by
  have hc := h.cap
  have hm := h.max
  have e1 : ∀ i, ta (l.drop lo) i = ta l (lo + i) := fun i => by unfold ta; rw [getD_dropW]
  have e2 : ∀ i, tc (l.drop lo) i = tc l (lo + i) := fun i => by unfold tc; rw [getD_dropW]
  refine ⟨by rw [List.length_drop, h.len], by omega, by omega, by simp, fun i hi => by rw [e1]; exact h.bd _ (by omega), fun x hx i hi => ?_⟩
  obtain rfl := Option.some.inj hx
  rw [e1, e2]
  obtain ⟨h1, ai, ci, h2, h3⟩ := h.row _ rfl (lo + i) (by omega)
  rw [Addr.add_lit] at h1 h2
  rw [Addr.add_lit, Addr.add_lit]
  exact ⟨by rw [show o + lo * 2 + i * 2 = o + (lo + i) * 2 by omega]; exact h1, ai, ci, by rw [show o + lo * 2 + (i * 2 + 1) = o + ((lo + i) * 2 + 1) by omega]; exact h2, h3⟩
theorem infoRw2 : (Tryd.prog.info? 80).map (·.size) = some 2 := by kernel_rfl
/-- The first number of each row. -/
def fsn (s : Int) (ds : List Int) (t m : Nat) : List Int := (List.range m).map fun i : Nat => nm (ev (colA s ds t 0) ((i : Int) + 1))
theorem fsn_getD (s : Int) (ds : List Int) (t : Nat) {m i : Nat} (h : i < m) : (fsn s ds t m).getD i 0 = nm (ev (colA s ds t 0) ((i : Int) + 1)) := by simp [fsn, h]
theorem fsn_bd (s : Int) (ds : List Int) (t m : Nat) : ∀ z ∈ fsn s ds t m, 0 ≤ z ∧ z ≤ 2147483646 := fun z hz => by
  obtain ⟨i, _, rfl⟩ := List.mem_map.1 hz
  exact nm_bd _
theorem fsn_row {s : Int} {ds : List Int} {t m i : Nat} (h : i < m) : (tc (dealA s ds t m) i).getD 0 0 = (fsn s ds t m).getD i 0 := by
  rw [deal_ofd s ds t m i h, deal_ta s ds t h, rowK_getD _ _ _ _ (by omega), fsn_getD s ds t h]
theorem fsn_zero (s : Int) (ds : List Int) (t : Nat) : nm (ev (colA s ds t 0) 0) = nm s := by
  have e : (colA s ds t 0).getD 0 0 = nm s := by rw [colA_getD _ _ _ _ (Nat.zero_le _), A2_zero]
  cases hq : colA s ds t 0 with
  | nil => have := colA_len s ds t 0; rw [hq] at this; simp at this
  | cons a l =>
    rw [hq, cons_getD0] at e
    rw [ev, Int.zero_mul, Int.add_zero, e, nm_nm]
theorem deal_drop_ofd (s : Int) (ds : List Int) (t : Nat) {m lo q : Nat} (h : lo + q = m) : OfD s ds t ((dealA s ds t m).drop lo) q := fun r hr => by
  have e1 : ta ((dealA s ds t m).drop lo) r = ta (dealA s ds t m) (lo + r) := by unfold ta; rw [getD_dropW]
  have e2 : tc ((dealA s ds t m).drop lo) r = tc (dealA s ds t m) (lo + r) := by unfold tc; rw [getD_dropW]
  rw [e1, e2]
  exact deal_ofd s ds t m (lo + r) (by omega)
theorem deal_drop_dis (s : Int) (ds : List Int) (t : Nat) {m lo q : Nat} (h : lo + q = m) (hm : m ≤ 9) : dis (ta ((dealA s ds t m).drop lo)) q := fun i hi => by
  have e1 : ∀ r, r < q → ta ((dealA s ds t m).drop lo) r = ((lo + r : Nat) : Int) + 1 := fun r hr => by
    have : ta ((dealA s ds t m).drop lo) r = ta (dealA s ds t m) (lo + r) := by unfold ta; rw [getD_dropW]
    rw [this, deal_ta s ds t (by omega)]
  rw [e1 i hi]
  exact ⟨⟨by omega, by omega⟩, fun j hj => by rw [e1 j (by omega)]; omega⟩

theorem topTwineW (s u : Int) (a0 : Option Addr) (n0 c0 : Nat) (xs : List Int) (t n : Int) (a1 : Option Addr) (n1 c1 : Nat) (ps : List Int) (w : World) (hs0 : 0 ≤ s) (hs1 : s ≤ 18446744073709551615) (hu0 : 0 ≤ u) (hu1 : u ≤ 18446744073709551615) (h0 : Rd w a0 n0 c0 xs) (h1 : RdI w a1 n1 c1 ps) (hS : Shp w) :
    Calls Tryd.prog 7 #[.int .u64 s, .int .u64 u, .slice a0 n0 c0, .int .i64 t, .int .i64 n, .slice a1 n1 c1] w fun e w' => e = .returned (.bool true) ∧ Below w.heap.size w w' := by
  go_enter Tryd.func7, Tryd.ntmps7
  go_wp2_with fail
  refine (tSaid _ hS).mono ?_
  rintro e w1 ⟨rfl, hb2⟩
  go_wp2_with fail
  refine (tCrew _ _ _).mono ?_
  rintro e w3 ⟨⟨k, m, rfl, hk, hkm, hm⟩, hw⟩
  have hw := hw.symm
  subst hw
  go_wp2_with fail
  refine (cTwNeed k _).mono ?_
  rintro e w5 ⟨hN, hb5'⟩
  obtain rfl : e = .returned (.tuple #[.int .i64 (need2 k : Nat), .int .i64 0]) := by
    rcases hN with ⟨h', _⟩ | ⟨k', e1, _, e2⟩
    · omega
    · obtain rfl : k = k' := by omega
      exact e2
  clear hN
  have hn14 := need2_bd hk
  obtain ⟨N, HN⟩ : ∃ N, Hid (need2 k = N) := ⟨_, rfl⟩
  rw [HN.out] at hn14 ⊢
  have hb5 := hb2.trans (hb5'.mono hb2.size)
  clear hb2 hb5'
  go_wp2_with fail
  refine (tFilled _ _ _ _ N _ (h0.below hb5) (by omega)).mono ?_
  rintro e w6 ⟨g6, rfl, r6, hb6'⟩
  generalize padded xs N = P at r6
  have hb6 := hb5.trans (hb6'.mono hb5.size)
  clear hb5 hb6'
  go_wp2_with fail
  refine (cTwDeal s k _ _ _ P m _ r6 hs0 hs1).mono ?_
  rintro e w7 ⟨⟨hno, rfl⟩ | ⟨k', q', v, L7, hDw, hq, rfl, hL7⟩, hb7'⟩
  · exact absurd ⟨rfl, hk, HN.out.symm, by omega, by omega⟩ (hno k)
  obtain rfl : k = k' := by have := hDw.1; omega
  obtain rfl : m = q' := by omega
  obtain ⟨a7, c7, rfl, r7⟩ := deal_rd hL7 (by omega)
  have r67 := r6.below hb7'
  have hb7 := hb6.trans (hb7'.mono hb6.size)
  have hc7 := r7.cap
  have hm7 := r7.max
  unfold maxLen at hm7
  clear hDw hq hL7 r6 hb6 hb7'
  have HTL : Hid (∀ j, j < m → (tc (dealA s P k m) j).length = k + 1) := fun j hj => by rw [deal_ofd s P k m j hj, rowK_len]
  go_wp2
  go_loopw [18, 60] (fun v i wr => ∃ j : Nat, j ≤ m ∧ i = .int .i64 j ∧ wr.ownsRow w7.heap.size 68 2 v j (shc (shl (fsn s P k m) j)) ∧ Below w7.heap.size w7 wr) (fun _ i _ => m - (intOf i).toNat)
  case atStart => exact ⟨0, Nat.zero_le _, rfl, World.ownsRow_nil _ _ _ _, Below.refl _ _⟩
  case round =>
    obtain ⟨j, hj, rfl, hown, hbel⟩ := hrel
    have hs7 := hbel.size
    by_cases hjm : j < m
    · obtain ⟨b, o, x, ai, ni, ci, row, rfl, hbb, HX, HRow, hx0, hx1, hcx, hcr, hrow⟩ := (r7.below hbel).one hjm
      have hni : 1 ≤ ni := by have := HTL.out j hjm; rw [HRow.out, hrow.len] at this; omega
      have hxj : x = (j : Int) + 1 := by rw [← HX.out]; exact deal_ta s P k hjm
      have hbA0 : Below wr.heap.size wr (wr.alloc (.cells #[.int .i64 x, .slice ai ni ci] 80)) := (Below.refl _ _).alloc (Nat.le_refl _) _
      have hbA := hbel.trans (hbA0.mono hs7)
      have hownA := own_below2 hown hbA0
      have hcA0 := cell_alloc0 wr (.int .i64 x) (.slice ai ni ci) 80
      have hcA1 := cell_alloc1 wr (.int .i64 x) (.slice ai ni ci) 80
      have hltA : wr.heap.size < (wr.alloc (.cells #[.int .i64 x, .slice ai ni ci] 80)).heap.size := by simp
      obtain ⟨b2, o2, y, rfl, hbb2, HY, hy0, hy1, hcy⟩ := (hrow.below hbA0).one (show 0 < ni by omega)
      have hn0 : 0 < ni := hni
      have HSS : Hid (shl (fsn s P k m) j ++ [((j : Int) + 1, y)] = shl (fsn s P k m) (j + 1)) := shl_snoc (fsn s P k m) j (by rw [← fsn_row hjm, HRow.out]; exact HY.out)
      rw [Nat.add_zero] at hcy
      subst hxj
      go_upto_region 13 with fail
      generalize wr.alloc (.cells #[.int .i64 ((j : Int) + 1), .slice (some ⟨b2, o2, none⟩) ni ci] 80) = W at *
      clear hcx hcr hrow hbA0
      have hownD : W.drew.ownsRow w7.heap.size 68 2 _ j (shc (shl (fsn s P k m) j)) := hownA
      have hbW := hbA.drew
      go_region_law (refine step_appS Tryd.underlying66 infoSh W.drew rfl _ _ rfl w7.heap.size _ j (shl (fsn s P k m) j) rfl hownD ((j : Int) + 1) y (by simp [Act.eval]) rfl (by omega) hbW.size ?_; intro v8 w8 hown8 hbel8'; rw [HSS.out] at hown8; have hbel8 := hbW.trans hbel8'; clear hbel8')
      all_goals
        clear hownD hownA hbW hbA hcA0 hcA1 hcy hbb2 hbel hown
        go_wp2
        go_roundw
        case rel => exact ⟨j + 1, by omega, by go_num, hown8, hbel8⟩
        case measure => simp [intOf]; omega
    · obtain rfl : j = m := by omega
      obtain ⟨aS, cS, rfl, rS⟩ := RdS.own hown (shl_len _ _) (fun i hi => by
        rw [shl_getD _ hi]
        have := getD_bd (bd_u64 (fsn_bd s P k j)) i
        exact ⟨⟨by simp only; omega, by simp only; omega⟩, this⟩)
      have r7a := r7.below hbel
      have r67a := r67.below hbel
      have hb8 := hb7.trans (hbel.mono hb7.size)
      clear hown hbel
      go_wp2_with fail
      refine (cOpenS _ _ _ _ _ _ rS).mono ?_
      rintro e w9 ⟨x9, r9, rfl, hO, hb9'⟩
      obtain ⟨rfl, rfl⟩ := shl_open hm hk (by omega) (C := colA s P k 0) (by rw [colA_len]; exact Nat.le_refl _) (fun i hi => fsn_getD s P k hi) hO
      rw [fsn_zero]
      have r79 := r7a.below hb9'
      have r69 := r67a.below hb9'
      have hb9 := hb8.trans (hb9'.mono hb8.size)
      clear hO hb8 hb9' r7a r67a rS
      obtain ⟨b7, o7, rfl, _, _⟩ := r79.at (k := 0) (by omega)
      obtain ⟨lo, HLO⟩ : ∃ lo, Hid (j - k - 1 = lo) := ⟨_, rfl⟩
      have hlo : lo + (k + 1) = j := by have := HLO.out; omega
      have hloI : (j : Int) - (k : Int) - 1 = (lo : Int) := by omega
      have e1 : ∀ W, (Instr.sliceAt 76 (.slice (some ⟨b7, o7, none⟩) j c7) (some (.int .i64 (lo : Int))) none none).run Tryd.prog W = .ok (.slice (some ⟨b7, o7 + lo * 2, none⟩) (k + 1) (c7 - lo)) W := fun W => by
        have := run_subl2 (P := Tryd.prog) Tryd.underlying76 infoRw2 b7 o7 j c7 lo rfl (by omega) (by omega) W
        rw [this, show j - lo = k + 1 by omega]
      have rJ := r79.drop (lo := lo) (by omega)
      rw [show j - lo = k + 1 by omega] at rJ
      go_wp2_with fail
      refine (cTwJoin k _ _ _ _ _ rJ).mono ?_
      rintro e w10 ⟨x10, r10, rfl, hJ, hb10'⟩
      obtain ⟨rfl, rfl⟩ := ofd_join (deal_drop_ofd s P k hlo) (deal_drop_dis s P k hlo hm) hk (by omega) hJ
      have r710 := r79.below hb10'
      have r610 := r69.below hb10'
      have hb10 := hb9.trans (hb10'.mono hb9.size)
      clear hJ hb9 hb10' r79 r69 rJ e1
      have hss : (nm s != nm s) = false := by simp
      obtain ⟨bb7, HB7⟩ : ∃ x, Hid ((some ⟨b7, o7, none⟩ : Option Addr) = x) := ⟨_, rfl⟩
      go_wp2_with (first | (go_at_call 37; refine (fNorm s _ hs0 hs1).mono ?_; rintro e w3 ⟨rfl, hw⟩; have hw := hw.symm; subst hw) | fail)
      refine (tSome _ _ _ _ k j _ (h1.below hb10) (by omega) hm hk).mono ?_
      rintro e w11 ⟨v11, L, rfl, ho11, hSm, hb11'⟩
      obtain ⟨aL, cL, rfl, rL⟩ := RdI.own ho11 (som_bd hSm)
      obtain ⟨K, HK⟩ : ∃ K, Hid (L.length = K) := ⟨_, rfl⟩
      rw [HK.out] at rL ⊢
      have hKk : K ≤ k := by rw [← HK.out]; exact hSm.1
      have HD : Hid (dis (fi L) K) := by unfold Hid; rw [← HK.out]; exact hSm.2.1
      have HLn : Hid (∀ i, i < K → L.getD i 0 ≤ (j : Int)) := by unfold Hid; rw [← HK.out]; exact hSm.2.2
      have r711 := r710.below hb11'
      have r611 := r610.below hb11'
      have hb11 := hb10.trans (hb11'.mono hb10.size)
      have hcL := rL.cap
      have hmL := rL.max
      unfold maxLen at hmL
      clear hSm ho11 hb10 hb11' r710 r610 HB7
      have HTE : Hid (Hte L K k N 0) := .inr ⟨HD.out, .inr ⟨⟨⟨by omega, by omega⟩, by omega, by rw [Int.toNat_natCast]; exact HN.out.symm⟩, rfl⟩⟩
      go_wp2_with fail
      refine (eTwine _ _ _ _ k s u _ _ _ _ _ rL (by omega) (by omega) hs0 hs1 hu0 hu1 r611).mono ?_
      intro e w12 hh
      have hb12' := hh.2
      obtain ⟨a12, c12, rfl, r12⟩ := hh.told HTE.out
      rw [Int.toNat_natCast] at r12
      have rL12 := rL.below hb12'
      have r712 := r711.below hb12'
      have hb12 := hb11.trans (hb12'.mono hb11.size)
      clear hh rL r611 r711 hb11 hb12' HTE
      have HRW : Hid (∀ i, i < K → rowK u (twl L K s u P k N) k (L.getD i 0) (k + 1) = rowK s P k (L.getD i 0) (k + 1)) := fun i hi => by rw [← HN.out]; exact twl_row hk hKk hi (dis_nz HD.out i hi)
      obtain ⟨Q, HQ⟩ : ∃ Q, Hid (twl L K s u P k N = Q) := ⟨_, rfl⟩
      rw [HQ.out] at r12 HRW
      go_wp2_with fail
      refine (cTwDeal u k _ _ _ Q j _ r12 hu0 hu1).mono ?_
      rintro e w9 ⟨⟨hno, rfl⟩ | ⟨k', q', v, L9, hDw, hq, rfl, hL9⟩, hb9'⟩
      · exact absurd ⟨rfl, hk, HN.out.symm, by omega, by omega⟩ (hno k)
      obtain rfl : k = k' := by have := hDw.1; omega
      obtain rfl : j = q' := by omega
      obtain ⟨a9, c9, rfl, r9⟩ := deal_rd hL9 (by omega)
      have rL9 := rL12.below hb9'
      have r79 := r712.below hb9'
      have hb9 := hb12.trans (hb9'.mono hb12.size)
      clear hDw hq hL9 rL12 r712 r12 hb12 hb9'
      go_wp2
      go_loopw [138] (fun i wr => ∃ p : Nat, p ≤ K ∧ i = .int .i64 p ∧ Below w9.heap.size w9 wr) (fun i _ => K - (intOf i).toNat)
      case atStart => exact ⟨0, Nat.zero_le _, rfl, Below.refl _ _⟩
      case round =>
        obtain ⟨p, hp, rfl, hbel⟩ := hrel
        by_cases hpK : p < K
        · obtain ⟨b1, o1, x, rfl, hbb1, HX, hx0, hx1, hcx⟩ := (rL9.below hbel).one hpK
          have hd := (HD.out p hpK).1
          have hdx : fi L p = x := HX.out
          rw [hdx] at hd
          have hdn := HLn.out p hpK
          rw [HX.out] at hdn
          obtain ⟨z, rfl⟩ : ∃ z : Nat, x = (z : Int) + 1 := ⟨(x - 1).toNat, by omega⟩
          have hzm : z < j := by omega
          have hz1 : (z : Int) + 1 - 1 = (z : Int) := by omega
          obtain ⟨b2, o2, x2, ai2, ni2, ci2, row2, e2, hbb2, _, HR2, _, _, _, hc2, rr2⟩ := (r79.below hbel).one hzm
          simp only [Option.some.injEq, Addr.mk.injEq, and_true] at e2
          obtain ⟨rfl, rfl⟩ : b2 = b7 ∧ o2 = o7 := ⟨e2.1.symm, e2.2.symm⟩
          obtain ⟨b3, o3, x3, ai3, ni3, ci3, row3, rfl, hbb3, _, HR3, _, _, _, hc3, rr3⟩ := (r9.below hbel).one hzm
          have hrow : row2 = row3 := by
            rw [← HR2.out, ← HR3.out, deal_ofd s P k j z hzm, deal_ofd u Q k j z hzm, deal_ta s P k hzm, deal_ta u Q k hzm]
            have := HRW.out p hpK
            rw [HX.out] at this
            exact this.symm
          subst hrow
          have hz0 : (0 : Int) ≤ (z : Int) := by omega
          have hzmi : (z : Int) < (j : Int) := by omega
          have HALL : Hid (∀ w', Below wr.drew.heap.size wr.drew w' → w'.cell? ⟨b2, o2 + z * 2 + 1, none⟩ = some (.slice ai2 ni2 ci2) ∧ w'.cell? ⟨b3, o3 + z * 2 + 1, none⟩ = some (.slice ai3 ni3 ci3) ∧ b2 < w'.heap.size ∧ b3 < w'.heap.size ∧ Below w9.heap.size w9 w') := fun w' hb => ⟨by rw [hb.cell hbb2]; exact hc2, by rw [hb.cell hbb3]; exact hc3, Nat.lt_of_lt_of_le hbb2 hb.size, Nat.lt_of_lt_of_le hbb3 hb.size, hbel.drew.trans (hb.mono hbel.drew.size)⟩
          have hwz : IntKind.i64.wrap ((z : Int) + 1 - 1) = (z : Int) := by rw [IntKind.wrap_i64]; omega
          have hwz2 : IntKind.i64.wrap (z : Int) = (z : Int) := by rw [IntKind.wrap_i64]; omega
          clear hbel
          go_upto_region 27 with fail
          go_region_held3 (fun w' => w'.cell? ⟨b2, o2 + z * 2 + 1, none⟩ = some (.slice ai2 ni2 ci2) ∧ w'.cell? ⟨b3, o3 + z * 2 + 1, none⟩ = some (.slice ai3 ni3 ci3)) (go_keep) (first | (go_at_call 20; refine (cSame _ _ _ _ _ _ _ _ rr2.drew rr3.drew).mono ?_; rintro e w10 ⟨rfl, hb10⟩; obtain ⟨j2, j3, j4, j5, hbel10⟩ := HALL.out w10 hb10; clear hb10))
          all_goals
            clear HALL hc2 hc3 rr2 rr3 hcx
            go_wp2
            go_roundw
            case rel => exact ⟨p + 1, by omega, by go_num, hbel10⟩
            case measure => simp [intOf]; omega
        · have hnp : ¬ ((p : Int) < (K : Int)) := by omega
          have hbz := hb9.trans (hbel.mono hb9.size)
          clear hbel
          go_wp2
          go_ret
          exact ⟨rfl, hbz⟩
end
end Go.Proofs.YtljlioglpaogdagDoor
