/- croftkeep.ListsOwn: the walk. -/
import Derived.Test.YtljlioglpaogdagDoorToTopRightM
import Derived.Test.YtljlioglpaogdagDoorToKeyV
import Derived.Test.YtljlioglpaogdagDoorToKyO
import Derived.Test.YtljlioglpaogdagDoorToHidQ
import Derived.Test.YtljlioglpaogdagDoorToWorkedC
import Derived.Test.YtljlioglpaogdagDoorToHidS
import Derived.Test.YtljlioglpaogdagDoorToTimesC
import Derived.Test.YtljlioglpaogdagDoorToOpenC
import Derived.Test.YtljlioglpaogdagDoorToLstC
import Derived.Test.YtljlioglpaogdagDoorToCktC
import Derived.Deep.RegionHeld3
import Derived.Deep.RegionWith
namespace Go.Proofs.YtljlioglpaogdagDoor
set_option linter.unusedVariables false
set_option maxRecDepth 100000
set_option maxHeartbeats 8000000
section
open Crm Go.RowKit
theorem nil_rdI (w : World) : RdI w none 0 0 [] := ⟨rfl, Nat.le_refl _, Nat.zero_le _, by simp, fun _ => rfl, by simp⟩
/-- What is handed in, and the circuit's own variable, at the world w'. -/
structure LoIn (w' : World) (gb : Nat) (a1 : Option Addr) (m1 c1 : Nat) (d : List Int) (a2 : Option Addr) (m2 c2 : Nat) (f : List Int) (ag : Option Addr) (N cg : Nat) (G : List Gt) (ao : Option Addr) (m co : Nat) (O : List Int) (ai : Option Addr) (q ca : Nat) (ins : List Int) : Prop where
  d : Rd w' a1 m1 c1 d
  f : Rd w' a2 m2 c2 f
  g : RdG w' ag N cg G
  o : RdI w' ao m co O
  i : Rd w' ai q ca ins
  s : Shp w'
  c : CBox w' gb ag N cg ao m co
theorem LoIn.below {w w' : World} {gb : Nat} {a1 : Option Addr} {m1 c1 : Nat} {d : List Int} {a2 : Option Addr} {m2 c2 : Nat} {f : List Int} {ag : Option Addr} {N cg : Nat} {G : List Gt} {ao : Option Addr} {m co : Nat} {O : List Int} {ai : Option Addr} {q ca : Nat} {ins : List Int}
    (h : LoIn w gb a1 m1 c1 d a2 m2 c2 f ag N cg G ao m co O ai q ca ins) (hb : Below w.heap.size w w') : LoIn w' gb a1 m1 c1 d a2 m2 c2 f ag N cg G ao m co O ai q ca ins :=
  ⟨h.d.below hb, h.f.below hb, h.g.below hb, h.o.below hb, h.i.below hb, h.s.below hb, h.c.below hb h.c.lt⟩

theorem listsOwnW (a1 : Option Addr) (m1 c1 : Nat) (d : List Int) (a2 : Option Addr) (m2 c2 : Nat) (f : List Int) (t n : Int) (ag : Option Addr) (N cg : Nat) (G : List Gt) (ao : Option Addr) (m co : Nat) (O : List Int) (ai : Option Addr) (q ca : Nat) (ins : List Int) (w : World)
    (hd : Rd w a1 m1 c1 d) (hf : Rd w a2 m2 c2 f) (h : RdG w ag N cg G) (g : RdI w ao m co O) (ih : Rd w ai q ca ins) (hS : Shp w) :
    Calls Tryd.prog 3 #[.slice a1 m1 c1, .slice a2 m2 c2, .int .i64 t, .int .i64 n, .agg #[.slice ag N cg, .slice ao m co], .slice ai q ca] w fun e w' => e = .returned (.bool true) ∧ Below w.heap.size w w' := by
  have HWB : Hid (∀ x ∈ whl G N, -9223372036854775808 ≤ x ∧ x ≤ 9223372036854775807) := whl_bd (fun i hi => (h.bd i hi).2.1) N (Nat.le_refl _)
  have hb0 : Below w.heap.size w (w.alloc (.cells #[.slice ag N cg, .slice ao m co] 26)) := (Below.refl _ _).alloc (Nat.le_refl _) _
  have hL0 : LoIn (w.alloc (.cells #[.slice ag N cg, .slice ao m co] 26)) w.heap.size a1 m1 c1 d a2 m2 c2 f ag N cg G ao m co O ai q ca ins :=
    ⟨hd.below hb0, hf.below hb0, h.below hb0, g.below hb0, ih.below hb0, hS.below hb0, CBox.new w ag N cg ao m co⟩
  clear hd hf h g ih hS
  go_enter Tryd.func3, Tryd.ntmps3
  go_wp2_with fail
  generalize w.alloc (.cells #[.slice ag N cg, .slice ao m co] 26) = w0 at *
  obtain ⟨gb, HGB⟩ : ∃ gb, Hid (w.heap.size = gb) := ⟨_, rfl⟩
  have HB0 : Hid (Below w.heap.size w w0) := hb0
  rw [HGB.out] at hL0 ⊢
  clear hb0
  refine (kDealt _).mono ?_
  rintro e w1 ⟨rfl, hb1⟩
  have hL1 := hL0.below hb1
  go_wp2_with fail
  refine (kWorked _ hL1.s).mono ?_
  rintro e w2 ⟨rfl, hb2⟩
  have hL2 := hL1.below hb2
  have hbw2 := hb1.trans (hb2.mono hb1.size)
  clear hL0 hL1 hb1 hb2
  go_wp2_with fail
  refine (kCrew t n _).mono ?_
  rintro e w2' ⟨⟨t', n', rfl, ht4, hnt, hn9⟩, hw⟩
  have hw := hw.symm
  subst hw
  have hn1 : 1 ≤ n' := by omega
  obtain ⟨T1, HT1⟩ : ∃ T1, Hid (t' + 1 = T1) := ⟨_, rfl⟩
  have hT1 : (t' : Int) + 1 = (T1 : Int) := by rw [← HT1.out]; omega
  obtain ⟨M, HM⟩ : ∃ M, Hid (n' * T1 = M) := ⟨_, rfl⟩
  have hMI : (n' : Int) * (T1 : Int) = (M : Int) := by rw [← HM.out]; push_cast; rfl
  have hM45 : M ≤ 45 := by rw [← HM.out]; exact Nat.mul_le_mul hn9 (show T1 ≤ 5 by rw [← HT1.out]; omega)
  obtain ⟨P, HP⟩ : ∃ P, Hid (n' * t' = P) := ⟨_, rfl⟩
  have hPI : (n' : Int) * (t' : Int) = (P : Int) := by rw [← HP.out]; push_cast; rfl
  have hP45 : P ≤ 36 := by rw [← HP.out]; exact Nat.mul_le_mul hn9 ht4
  have HGM : Hid (Gme (t' : Int) n' n' P 0) := .inr ⟨⟨by omega, by omega⟩, .inr ⟨⟨⟨hn1, hn9⟩, rfl⟩, .inr ⟨by omega, .inr ⟨by rw [← hPI], rfl⟩⟩⟩⟩
  obtain ⟨X, HX⟩ : ∃ X, Hid (padded d t' = X) := ⟨_, rfl⟩
  have HXL : Hid (X.length = t' ∧ ∀ x ∈ X, 0 ≤ x ∧ x ≤ 18446744073709551615) := by unfold Hid; rw [← HX.out]; exact ⟨padded_len _ _, padded_bd hL2.d.bd _⟩
  obtain ⟨Y, HY⟩ : ∃ Y, Hid (padded f P = Y) := ⟨_, rfl⟩
  have HYL : Hid (Y.length = P ∧ ∀ x ∈ Y, 0 ≤ x ∧ x ≤ 18446744073709551615) := by unfold Hid; rw [← HY.out]; exact ⟨padded_len _ _, padded_bd hL2.f.bd _⟩
  obtain ⟨Z, HZ⟩ : ∃ Z, Hid (padded d M = Z) := ⟨_, rfl⟩
  have HZL : Hid (Z.length = M ∧ ∀ x ∈ Z, 0 ≤ x ∧ x ≤ 18446744073709551615) := by unfold Hid; rw [← HZ.out]; exact ⟨padded_len _ _, padded_bd hL2.d.bd _⟩
  -- x
  go_wp2_with fail
  refine (kFilledO _ _ _ _ t' _ hL2.d (by omega)).mono ?_
  rintro e w3 ⟨rfl, hx, hb⟩
  rw [HX.out] at hx
  have rx := hx.whole t' HXL.out.1.symm (by unfold maxLen; omega) HXL.out.2
  have hL3 := hL2.below hb
  have hbw3 := hbw2.trans (hb.mono hbw2.size)
  obtain ⟨gx, HGX⟩ : ∃ gx, Hid (w2.heap.size = gx) := ⟨_, rfl⟩
  rw [HGX.out] at rx ⊢
  clear hx hb hL2 hbw2
  -- a
  go_wp2_with fail
  refine (cDealB 5 _ _ _ X n' _ rx (by omega) (by omega) ht4 (by omega) hn9).mono ?_
  rintro e w4 ⟨v4, rfl, ho, hb⟩
  obtain ⟨A, HA⟩ : ∃ A, Hid (dl (5 :: X) n' = A) := ⟨_, rfl⟩
  have HAB : Hid (∀ x ∈ A, 0 ≤ x ∧ x ≤ 18446744073709551615) := by unfold Hid; rw [← HA.out]; exact bd_u64 (dl_bd _ _)
  rw [HA.out] at ho
  obtain ⟨a4, k4, rfl, ra, _⟩ := Rd.own ho HAB.out
  obtain ⟨ba, oa, rfl, _, _⟩ := ra.at (k := 0) (by omega)
  have hL4 := hL3.below hb
  have rx := rx.below hb
  have hbw4 := hbw3.trans (hb.mono hbw3.size)
  clear ho hb hL3 hbw3
  -- was, too
  go_wp2_with fail
  refine (cCloneZ _ _ _ _ _ _ ra (by omega)).mono ?_
  rintro e w5 ⟨aw, kw, rfl, rw1, hb⟩
  have hL5 := hL4.below hb
  have rx := rx.below hb
  have ra := ra.below hb
  have hbw5 := hbw4.trans (hb.mono hbw4.size)
  clear hb hL4 hbw4
  go_wp2_with fail
  refine (cCloneZ _ _ _ _ _ _ rx (by omega)).mono ?_
  rintro e w6 ⟨ao6, ko6, rfl, ro, hb⟩
  have hL6 := hL5.below hb
  have rx := rx.below hb
  have ra := ra.below hb
  have rw1 := rw1.below hb
  have hbw6 := hbw5.trans (hb.mono hbw5.size)
  clear hb hL5 hbw5
  -- y, old
  go_wp2_with fail
  refine (kFilledO _ _ _ _ P _ hL6.f (by omega)).mono ?_
  rintro e w7 ⟨rfl, hy, hb⟩
  rw [HY.out] at hy
  have ry := hy.whole P HYL.out.1.symm (by unfold maxLen; omega) HYL.out.2
  obtain ⟨gy, HGY⟩ : ∃ gy, Hid (w6.heap.size = gy) := ⟨_, rfl⟩
  rw [HGY.out] at ry ⊢
  have hL7 := hL6.below hb
  have rx := rx.below hb
  have ra := ra.below hb
  have rw1 := rw1.below hb
  have ro := ro.below hb
  have hbw7 := hbw6.trans (hb.mono hbw6.size)
  clear hb hL6 hbw6 hy
  go_wp2_with fail
  refine (cCloneZ _ _ _ _ _ _ ry (by omega)).mono ?_
  rintro e W ⟨ao8, ko8, rfl, rq, hb⟩
  have HALL : Hid (∀ w', Below W.heap.size W w' → LoIn w' gb a1 m1 c1 d a2 m2 c2 f ag N cg G ao m co O ai q ca ins ∧ Rd w' (some ⟨gx, 0, none⟩) t' t' X ∧ Rd w' (some ⟨ba, oa, none⟩) n' k4 A ∧ Rd w' aw n' kw A ∧ Rd w' ao6 t' ko6 X ∧ Rd w' (some ⟨gy, 0, none⟩) P P Y ∧ Rd w' ao8 P ko8 Y) := fun w' hb' =>
    ⟨(hL7.below hb).below hb', (rx.below hb).below hb', (ra.below hb).below hb', (rw1.below hb).below hb', (ro.below hb).below hb', (ry.below hb).below hb', rq.below hb'⟩
  have HBW : Hid (Below w.heap.size w W) := by
    have h1 := hbw7.trans (hb.mono hbw7.size)
    exact HB0.out.trans (h1.mono HB0.out.size)
  clear hb hL7 hbw7 rx ra rw1 ro ry rq
  -- gate.Mul
  obtain ⟨_, _, ra, _, _, ry, _⟩ := HALL.out W (Below.refl _ _)
  go_wp2_with fail
  refine (cGMulA _ _ _ _ _ _ _ _ _ _ _ _ _ _ ra ra ry).mono ?_
  rintro e w9 ⟨⟨r, hr, hE, _⟩ | ⟨_, v9, u9, L, rfl, ho, hLV, hap⟩, hb9⟩
  · exact absurd (hE.one HGM.out) hr
  have HAP : Hid (∀ i, (L.getD i (.slice none 0 0)).ownBlock = none ∨ (L.getD i (.slice none 0 0)).ownBlock ≠ v9.ownBlock) := hap
  clear hap ra ry
  go_wp2_with fail
  refine (kSpoil _ _ _ _ 9 _ ho).mono ?_
  rintro e w10 ⟨rfl, hg⟩
  have hLK := (hLV.grown hg (own_apart ho hLV.own ne_uv) (fun i _ => HAP.out i)).lsk (tmG_len _ _ _ _ _)
  have hcur := spoilt hb9 ho hg
  clear hLV hg hb9 ho
  obtain ⟨gu, cu, rfl, _, _⟩ := hLK.cell (q := 0) (by omega)
  go_wp2
  go_loopw [100] (fun i wr => ∃ k : Nat, k ≤ n' ∧ i = .int .i64 k ∧ LsK wr W.heap.size (.slice (some ⟨gu, 0, none⟩) n' cu) L n' k ∧ Below W.heap.size W wr) (fun i _ => n' - (intOf i).toNat)
  case atStart => exact ⟨0, Nat.zero_le _, rfl, hLK, hcur⟩
  case round =>
    clear hLK hcur
    obtain ⟨k, hk, rfl, hLK, hcur⟩ := hrel
    by_cases hlt : k < n'
    · have hlti : (k : Int) < (n' : Int) := by omega
      obtain ⟨gu', cu', e1, hgl, hcell⟩ := hLK.cell hlt
      simp only [Value.slice.injEq, Option.some.injEq, Addr.mk.injEq, and_true, true_and] at e1
      obtain ⟨rfl, rfl⟩ := e1
      obtain ⟨mk, xk, hrow⟩ := hLK.row k (Nat.le_refl _) hlt
      obtain ⟨ak, ck, ek, _⟩ := own_slice hrow
      have HEK : Hid (L.getD k (.slice none 0 0) = .slice ak mk ck) := ek
      rw [ek] at hcell hrow
      clear ek
      go_wp2_with fail
      refine (kSpoil _ _ _ _ 9 _ hrow).mono ?_
      rintro e w11 ⟨rfl, hg⟩
      have hcur2 := hcur.grown hg hcur.size (fun b hb => (hrow.lt b hb).1)
      have hLK2 := hLK.next hlt (by rw [HEK.out]; exact hg)
      clear hLK hcur hrow hcell hg
      go_wp2
      go_roundw
      case rel => exact ⟨k + 1, by omega, by go_num, hLK2, hcur2⟩
      case measure => simp [intOf]; omega
    · obtain rfl : k = n' := by omega
      have hnn : ¬ ((k : Int) < (k : Int)) := by omega
      clear hLK
      obtain ⟨wa, hwa⟩ : ∃ x, x = wr := ⟨_, rfl⟩
      subst hwa
      -- gate.Add
      obtain ⟨_, _, ra, _⟩ := HALL.out wa hcur
      go_wp2_with fail
      refine (cGAdd _ _ _ _ _ _ _ _ _ ra ra).mono ?_
      rintro e w12 ⟨⟨hbad, _⟩ | ⟨_, v12, rfl, ho⟩, hb⟩
      · exact absurd ⟨⟨hn1, hn9⟩, rfl⟩ hbad
      clear ra
      go_wp2_with fail
      refine (kSpoil _ _ _ _ 9 _ ho).mono ?_
      rintro e w13 ⟨rfl, hg⟩
      have hcur := hcur.trans ((spoilt hb ho hg).mono hcur.size)
      clear hb ho hg
      -- hide.Shift
      obtain ⟨_, rx, _⟩ := HALL.out w13 hcur
      have HSE : Hid (Hse [] 0 t' 0) := .inr ⟨fun i hi => absurd hi (Nat.not_lt_zero _), .inr ⟨⟨ht4, Nat.zero_le _⟩, rfl⟩⟩
      go_wp2_with fail
      refine (eShift _ _ _ [] 1 2 _ _ _ _ _ (nil_rdI _) (by omega) (by omega) (by omega) (by omega) rx).mono ?_
      rintro e w14 ⟨⟨r, hr, hE, _⟩ | ⟨_, v14, rfl, ho⟩, hb⟩
      · exact absurd (hE.one HSE.out) hr
      clear rx
      go_wp2_with fail
      refine (kSpoil _ _ _ _ 9 _ ho).mono ?_
      rintro e w15 ⟨rfl, hg⟩
      have hcur := hcur.trans ((spoilt hb ho hg).mono hcur.size)
      clear hb ho hg
      -- poly.Norm
      obtain ⟨_, _, ra, _⟩ := HALL.out w15 hcur
      go_wp2_with fail
      refine (cNormO _ _ _ _ _ ra (by omega)).mono ?_
      rintro e w16 ⟨v16, m16, y16, rfl, ho, hb⟩
      clear ra
      go_wp2_with fail
      refine (kSpoil _ _ _ _ 9 _ ho).mono ?_
      rintro e w17 ⟨rfl, hg⟩
      have hcur := hcur.trans ((spoilt hb ho hg).mono hcur.size)
      clear hb ho hg
      -- what was handed in is as it was
      obtain ⟨_, rx, ra, rw1, ro, ry, rq⟩ := HALL.out w17 hcur
      go_wp2_with fail
      refine (cSame _ _ _ _ _ _ _ _ ra rw1).mono ?_
      rintro e w18 ⟨rfl, hb18⟩
      clear ra rw1
      go_wp2_with fail
      refine (cSame _ _ _ _ _ _ _ _ (rx.below hb18) (ro.below hb18)).mono ?_
      rintro e w19 ⟨rfl, hb19⟩
      have hb1719 := hb18.trans (hb19.mono hb18.size)
      clear rx ro
      go_wp2_with fail
      refine (cSame _ _ _ _ _ _ _ _ (ry.below hb1719) (rq.below hb1719)).mono ?_
      rintro e w20 ⟨rfl, hb20⟩
      have hb1720 := hb1719.trans (hb20.mono hb1719.size)
      have hcur := hcur.trans (hb1720.mono hcur.size)
      clear ry rq hb18 hb19 hb20 hb1719 hb1720
      -- keys
      go_wp2_with fail
      refine (cNewK (k : Int) (t' : Int) _ ⟨by omega, by omega⟩ ⟨by omega, by omega⟩).mono ?_
      rintro e w21 ⟨⟨hbad, _⟩ | ⟨n2, t2, pk, Gk, e1, e2, _, _, _, rfl, hK, hGk⟩, hb21⟩
      · exact absurd ⟨by omega, by omega, by omega⟩ hbad
      obtain rfl : k = n2 := by omega
      obtain rfl : t' = t2 := by omega
      have hcur21 := hcur.trans (hb21.mono hcur.size)
      have HGK : Hid (∀ i, Gk i → W.heap.size ≤ i) := fun i hi => Nat.le_trans hcur.size (hGk i hi)
      clear hGk hb21 e1 e2 hcur
      obtain ⟨hLi, _⟩ := HALL.out w21 hcur21
      go_wp2_with fail
      refine (kFilledO _ _ _ _ M _ hLi.d (by omega)).mono ?_
      rintro e w22 ⟨rfl, hz, hb22⟩
      rw [HZ.out] at hz
      have rz := hz.whole M HZL.out.1.symm (by unfold maxLen; omega) HZL.out.2
      have hK22 := hK.same hb22
      have hcur22 := hcur21.trans (hb22.mono hcur21.size)
      obtain ⟨gz, HGZ⟩ : ∃ gz, Hid (w21.heap.size = gz) := ⟨_, rfl⟩
      have HGL : Hid (∀ i, Gk i → i < gz) := fun i hi => by rw [← HGZ.out]; exact hK.lt i hi
      rw [HGZ.out] at rz hz ⊢
      have hgz : W.heap.size ≤ gz := by rw [← HGZ.out]; exact hcur21.size
      have hgz22 := hz.lt
      clear hLi hb22 hK hcur21
      obtain ⟨s1, HE1, HA1⟩ : ∃ s', Hid (kgen (k0 k t') Z = (1, 0, s')) ∧ Hid (Kab s' k t' [ksv t' true Z k]) := by
        obtain ⟨s', e, h⟩ := (k0_ab ht4 hn9 hnt).gen (by simp) (ds := Z) (by rw [HZL.out.1, HT1.out, HM.out])
        exact ⟨s', by unfold Hid; simpa using e, h⟩
      go_wp2_with fail
      refine (cGenK pk Gk (k0 k t') _ _ _ Z _ hK22 rz (by show 0 ≤ 1000000; omega)).mono ?_
      rintro e w23 ⟨rfl, hK23, hT23⟩
      rw [HE1.out] at hK23 ⊢
      have hz23 : Blk w23 gz Z := by unfold Blk; rw [hT23.block gz hgz22 (fun hi => by have := HGL.out gz hi; omega)]; exact hz
      have hcur23 := hT23.below hcur22 HGK.out hcur22.size
      have HG23 : Hid (∀ i, Gnx Gk w22 w23 i → i ≠ gz) := fun i hi e => by
        rcases hi with hi | hi
        · have := HGL.out i hi; omega
        · omega
      clear hK22 rz hz hT23 hcur22
      dsimp only at hK23 ⊢
      have hi1 : i64r 1 := ⟨by omega, by omega⟩
      have HI1 : Hid (i64r 1) := hi1
      clear hi1
      go_wp2_with fail
      refine (cOpenK pk _ s1 1 _ hK23 HI1.out).mono ?_
      rintro e w24 ⟨y1, r1, rfl, hO1, hb24⟩
      have HO1 : Hid (Kop s1 1 y1 r1) := hO1
      have hK24 := hK23.same hb24
      have hz24 := hz23.below hb24 hz23.lt
      have hcur24 := hcur23.trans (hb24.mono hcur23.size)
      clear hK23 hz23 hcur23 hO1 hb24
      go_wp2_with fail
      refine (kSpoil _ M W.heap.size _ 9 _ (hz24.ownTo HZL.out.1 (Nat.le_refl _) (by omega) _ hgz)).mono ?_
      rintro e w25 ⟨rfl, hg⟩
      have hK25 := hK24.aside (G' := fun i => i = gz) ⟨hg.os, hg.tape, hg.output, hg.size, fun i hi hn => hg.block i hi (by simpa [Value.ownBlock] using hn)⟩ HG23.out
      have hcur25 := hcur24.grown hg hcur24.size (fun b hb => by simp only [Value.ownBlock, Option.some.injEq] at hb; omega)
      clear hK24 hz24 hcur24 hg
      go_wp2_with fail
      refine (cSharesK pk _ s1 1 _ hK25 HI1.out).mono ?_
      rintro e w26 ⟨⟨hno, _⟩ | ⟨l26, v26, _, rfl, ho⟩, hb⟩
      · obtain ⟨l, e, _⟩ := HA1.out.key (k := 1) (by omega) (by simp)
        rw [hno] at e
        cases e
      go_wp2_with fail
      refine (kSpoil _ _ _ _ 9 _ ho).mono ?_
      rintro e w27 ⟨rfl, hg⟩
      have hb27 := spoilt hb ho hg
      have hK27 := hK25.same hb27
      have hcur27 := hcur25.trans (hb27.mono hcur25.size)
      clear hb ho hg hb27 hK25 hcur25
      go_wp2_with fail
      refine (cOpenK pk _ s1 1 _ hK27 HI1.out).mono ?_
      rintro e w28 ⟨y2, r2, rfl, hO2, hb28⟩
      obtain ⟨rfl, rfl⟩ := HO1.out.one hO2
      have hyy : (y1 != y1) = false := by simp
      have hcur28 := hcur27.trans (hb28.mono hcur27.size)
      clear hK27 hcur27 hO2 hb28
      -- the circuit
      obtain ⟨hLi, _⟩ := HALL.out w28 hcur28
      obtain ⟨q0, q1⟩ := hLi.c.cells
      have hgl := hLi.c.lt
      go_wp2_with fail
      refine (eNeed _ _ _ _ _ _ _ _ (k : Int) (t' : Int) _ hLi.g hLi.o ⟨by omega, by omega⟩ ⟨by omega, by omega⟩ hLi.s).mono ?_
      rintro e w29 ⟨⟨r, hr, hE, rfl⟩ | ⟨hE, rfl⟩, hb29⟩
      · have hcur29 := hcur28.trans (hb29.mono hcur28.size)
        have hrb : (r != 0) = true := by rw [bne_iff_ne]; exact hr
        clear hE hr hb29 hLi q0 q1 hgl hcur28
        obtain ⟨hLi, _⟩ := HALL.out w29 hcur29
        obtain ⟨q0, q1⟩ := hLi.c.cells
        have hgl := hLi.c.lt
        go_wp2_with fail
        refine (cInputs _ _ _ _ _ _ _ _ _ hLi.g hLi.o hLi.s).mono ?_
        rintro e w30 ⟨⟨r2, _, _, rfl⟩ | ⟨_, v5, rfl, _⟩, hb30⟩
        · have hbw := HBW.out.trans ((hcur29.trans (hb30.mono hcur29.size)).mono HBW.out.size)
          clear hLi q0 q1 hgl hcur29 hb30
          go_wp2
          go_ret
          exact ⟨rfl, hbw⟩
        · have hbw := HBW.out.trans ((hcur29.trans (hb30.mono hcur29.size)).mono HBW.out.size)
          clear hLi q0 q1 hgl hcur29 hb30
          go_wp2
          go_ret
          exact ⟨rfl, hbw⟩
      · have HE : Hid (Nde G O N m (k : Int) (t' : Int) 0) := hE
        have HC : Hid (Cke G O N m 0) := hE.facts.1
        have hN := HC.out.ok.1
        have hmm := HC.out.ok.2.1
        have hdl := dwn_le G (n := k) (t := t') hn9 ht4 N
        have hcl := ci_le G N
        rw [Int.toNat_natCast, Int.toNat_natCast] at *
        have hcur29 := hcur28.trans (hb29.mono hcur28.size)
        obtain ⟨D, HD⟩ : ∃ D, Hid (dwn G k t' N = D) := ⟨_, rfl⟩
        obtain ⟨l, HL⟩ : ∃ l, Hid (ci G N = l) := ⟨_, rfl⟩
        rw [HD.out] at hdl ⊢
        rw [HL.out] at hcl
        have HQ : Hid (Ere G O N m (k : Int) (t' : Int) l D 0) := .inr ⟨HE.out, .inr ⟨HL.out.symm, .inr ⟨by rw [Int.toNat_natCast, Int.toNat_natCast]; exact HD.out.symm, rfl⟩⟩⟩
        clear hE hb29 hLi q0 q1 hgl hcur28
        obtain ⟨hLi, _⟩ := HALL.out w29 hcur29
        obtain ⟨q0, q1⟩ := hLi.c.cells
        have hgl := hLi.c.lt
        go_wp2_with fail
        refine (cInputs _ _ _ _ _ _ _ _ _ hLi.g hLi.o hLi.s).mono ?_
        rintro e w30 ⟨⟨r2, hr2, hE2, _⟩ | ⟨_, v5, rfl, ho5⟩, hb30⟩
        · exact absurd (hE2.one HC.out) hr2
        rw [HL.out] at ho5
        obtain ⟨a5, c5, rfl, hr5⟩ := RdI.own ho5 HWB.out
        have hc5 := hr5.cap
        have hm5 := hr5.max
        unfold maxLen at hm5
        have hcur30 := hcur29.trans (hb30.mono hcur29.size)
        clear hLi q0 q1 hgl hcur29 hb30 ho5 hr5
        obtain ⟨hLi, _⟩ := HALL.out w30 hcur30
        obtain ⟨I, HI⟩ : ∃ I, Hid (padded ins l = I) := ⟨_, rfl⟩
        have HIL : Hid (I.length = l ∧ ∀ x ∈ I, 0 ≤ x ∧ x ≤ 18446744073709551615) := by unfold Hid; rw [← HI.out]; exact ⟨padded_len _ _, padded_bd hLi.i.bd _⟩
        obtain ⟨J, HJ⟩ : ∃ J, Hid (padded f D = J) := ⟨_, rfl⟩
        have HJL : Hid (J.length = D ∧ ∀ x ∈ J, 0 ≤ x ∧ x ≤ 18446744073709551615) := by unfold Hid; rw [← HJ.out]; exact ⟨padded_len _ _, padded_bd hLi.f.bd _⟩
        go_wp2_with fail
        refine (kFilledO _ _ _ _ l _ hLi.i (by omega)).mono ?_
        rintro e w31 ⟨rfl, hi31, hb31⟩
        rw [HI.out] at hi31
        have ri := hi31.whole l HIL.out.1.symm (by unfold maxLen; omega) HIL.out.2
        obtain ⟨gi, HGI⟩ : ∃ gi, Hid (w30.heap.size = gi) := ⟨_, rfl⟩
        rw [HGI.out] at ri ⊢
        have hcur31 := hcur30.trans (hb31.mono hcur30.size)
        clear hLi hi31 hb31 hcur30
        obtain ⟨hLi, _⟩ := HALL.out w31 hcur31
        go_wp2_with fail
        refine (kFilledO _ _ _ _ D _ hLi.f (by omega)).mono ?_
        rintro e w32 ⟨rfl, hj32, hb32⟩
        rw [HJ.out] at hj32
        have rj := hj32.whole D HJL.out.1.symm (by unfold maxLen; omega) HJL.out.2
        obtain ⟨gj, HGJ⟩ : ∃ gj, Hid (w31.heap.size = gj) := ⟨_, rfl⟩
        rw [HGJ.out] at rj ⊢
        have ri := ri.below hb32
        have hcur32 := hcur31.trans (hb32.mono hcur31.size)
        clear hLi hj32 hb32 hcur31
        go_wp2_with fail
        refine (cCloneZ _ _ _ _ _ _ ri (by omega)).mono ?_
        rintro e w33 ⟨a33, k33, rfl, rI, hb33⟩
        have ri := ri.below hb33
        have rj := rj.below hb33
        have hcur33 := hcur32.trans (hb33.mono hcur32.size)
        clear hb33 hcur32
        go_wp2_with fail
        refine (cCloneZ _ _ _ _ _ _ rj (by omega)).mono ?_
        rintro e W2 ⟨a34, k34, rfl, rJ, hb34⟩
        have hcurW := hcur33.trans (hb34.mono hcur33.size)
        have HAL2 : Hid (∀ w', Below W2.heap.size W2 w' → Rd w' (some ⟨gi, 0, none⟩) l l I ∧ Rd w' a33 l k33 I ∧ Rd w' (some ⟨gj, 0, none⟩) D D J ∧ Rd w' a34 D k34 J) := fun w' hb' => ⟨(ri.below hb34).below hb', (rI.below hb34).below hb', (rj.below hb34).below hb', rJ.below hb'⟩
        have HBW2 : Hid (Below w.heap.size w W2) := HBW.out.trans (hcurW.mono HBW.out.size)
        clear hb34 hcur33 ri rI rj rJ
        obtain ⟨hLi, _⟩ := HALL.out W2 hcurW
        obtain ⟨q0, q1⟩ := hLi.c.cells
        have hgl := hLi.c.lt
        obtain ⟨ri, _, rj, _⟩ := HAL2.out W2 (Below.refl _ _)
        go_wp2_with fail
        refine (eRunO _ _ _ _ _ _ _ _ (k : Int) (t' : Int) _ _ _ _ _ _ _ _ _ hLi.g hLi.o ri rj ⟨by omega, by omega⟩ ⟨by omega, by omega⟩ hLi.s).mono ?_
        rintro e w35 ⟨⟨r3, hr3, hE3, _⟩ | ⟨_, v35, u35, L2, rfl, ho, hLV, hap⟩, hb35⟩
        · exact absurd (hE3.one HQ.out) hr3
        rw [Int.toNat_natCast, Int.toNat_natCast] at hLV
        rw [Int.toNat_natCast] at hap
        have HAP2 : Hid (∀ i, i < k → (L2.getD i (.slice none 0 0)).ownBlock = none ∨ (L2.getD i (.slice none 0 0)).ownBlock ≠ v35.ownBlock) := hap
        clear hap ri rj hLi q0 q1 hgl hcurW
        go_wp2_with fail
        refine (kSpoil _ _ _ _ 9 _ ho).mono ?_
        rintro e w36 ⟨rfl, hg⟩
        have hLK := (hLV.grown hg (own_apart ho hLV.own ne_uv) (fun i hi => HAP2.out i (by rw [snl_len] at hi; exact hi))).lsk (snl_len _ _ _ _ _ _ _ _)
        have hcur := spoilt hb35 ho hg
        clear hLV hg hb35 ho
        obtain ⟨gs, cs, rfl, _, _⟩ := hLK.cell (q := 0) (by omega)
        go_wp2
        go_loopw [229] (fun i wr => ∃ p : Nat, p ≤ k ∧ i = .int .i64 p ∧ LsK wr W2.heap.size (.slice (some ⟨gs, 0, none⟩) k cs) L2 k p ∧ Below W2.heap.size W2 wr) (fun i _ => k - (intOf i).toNat)
        case atStart => exact ⟨0, Nat.zero_le _, rfl, hLK, hcur⟩
        case round =>
          clear hLK hcur
          obtain ⟨p, hp, rfl, hLK, hcur⟩ := hrel
          by_cases hlt : p < k
          · have hlti : (p : Int) < (k : Int) := by omega
            obtain ⟨gu', cu', e1, hgl, hcell⟩ := hLK.cell hlt
            simp only [Value.slice.injEq, Option.some.injEq, Addr.mk.injEq, and_true, true_and] at e1
            obtain ⟨rfl, rfl⟩ := e1
            obtain ⟨mk, xk, hrow⟩ := hLK.row p (Nat.le_refl _) hlt
            obtain ⟨ak, ck, ek, _⟩ := own_slice hrow
            have HEK : Hid (L2.getD p (.slice none 0 0) = .slice ak mk ck) := ek
            rw [ek] at hcell hrow
            clear ek
            go_wp2_with fail
            refine (kSpoil _ _ _ _ 9 _ hrow).mono ?_
            rintro e w37 ⟨rfl, hg⟩
            have hcur2 := hcur.grown hg hcur.size (fun b hb => (hrow.lt b hb).1)
            have hLK2 := hLK.next hlt (by rw [HEK.out]; exact hg)
            clear hLK hcur hrow hcell hg
            go_wp2
            go_roundw
            case rel => exact ⟨p + 1, by omega, by go_num, hLK2, hcur2⟩
            case measure => simp [intOf]; omega
          · obtain rfl : p = k := by omega
            have hnn2 : ¬ ((p : Int) < (p : Int)) := by omega
            clear hLK
            obtain ⟨ri, rI, rj, rJ⟩ := HAL2.out wr hcur
            go_wp2_with fail
            refine (cSame _ _ _ _ _ _ _ _ ri rI).mono ?_
            rintro e w38 ⟨rfl, hb38⟩
            clear ri rI
            go_wp2_with fail
            refine (cSame _ _ _ _ _ _ _ _ (rj.below hb38) (rJ.below hb38)).mono ?_
            rintro e w39 ⟨rfl, hb39⟩
            have hb1 := hcur.trans ((hb38.trans (hb39.mono hb38.size)).mono hcur.size)
            have hbw := HBW2.out.trans (hb1.mono HBW2.out.size)
            clear rj rJ hb38 hb39 hb1 hcur
            go_wp2
            go_ret
            exact ⟨rfl, hbw⟩
end
end Go.Proofs.YtljlioglpaogdagDoor
