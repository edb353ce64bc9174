/- The walk of crofttop.TopHidden. -/
import Derived.Test.YtljlioglpaogdagDoorToHidS
import Derived.Test.YtljlioglpaogdagDoorToTopRightM
import Derived.Test.YtljlioglpaogdagDoorToOpenC
import Derived.Test.YtljlioglpaogdagDoorToDealtC
import Derived.Test.YtljlioglpaogdagDoorToCkDef
import Derived.Test.YtljlioglpaogdagDoorToSaidC
import Derived.Test.YtljlioglpaogdagDoorToTopHidC
import Derived.Test.YtljlioglpaogdagDoorToCktC
import Derived.Test.YtljlioglpaogdagDoorToShpM
import Derived.Test.YtljlioglpaogdagDoorToLsV2
import Derived.Deep.RegionLaw
import Derived.Deep.RegionHeld3
import Derived.Deep.RegionWith
namespace Go.Proofs.YtljlioglpaogdagDoor
set_option linter.unusedVariables false
set_option maxRecDepth 100000
set_option maxHeartbeats 8000000
section
open Crm Go.RowKit
/-- A list that is read, behind a list that the call gathers. -/
theorem wpList_appRd {P : Program} {T : TypeId} (hT : P.underlying T = some (.slice 34)) (info : (P.info? 34).map (fun i => (i.zero, i.size, i.bytes)) = some (some (.int .u64 0), 1, 8))
    (w : World) {ops : Array Oper} {rest : List Oper} {o : Oper} {a : Act} {Q : Exit → Act → World → Prop} (hgd : o.guard = none) (s x : Operand)
    (ho : o.op = .call { callee := .builtin .append, args := #[s, x], argTypes := #[T, T] })
    (base : Nat) (v : Value) (n : Nat) (xs : List Int) (hs : a.eval s = v) (hown : w.ownsRow base 34 1 v n (xs.map (Value.int .u64))) (ad : Option Addr) (m c : Nat) (ys : List Int) (hr : Rd w ad m c ys) (hx : a.eval x = .slice ad m c)
    (hn : n + m ≤ 1000000) (hbase : base ≤ w.heap.size)
    (h : ∀ v' w', w'.ownsRow base 34 1 v' (n + m) ((xs ++ ys).map (Value.int .u64)) → Below base w w' → wpList P ops Q rest (a.put o.dst v') w') : wpList P ops Q (o :: rest) a w := by
  obtain ⟨i0, hi, hz0, hz1, hz2⟩ := info_parts info
  have hyl := hr.len
  cases ha : ad with
  | none =>
    have h1 := hr.nil ha
    have h2 := hr.cap
    obtain rfl : m = 0 := by omega
    obtain rfl : c = 0 := by omega
    obtain rfl : ys = [] := List.eq_nil_of_length_eq_zero hyl
    subst ha
    refine wpList_append_own_none hgd s x T ho base 34 i0 1 hT hi v n _ hs hown hx ?_
    exact h v w (by rw [List.append_nil]; exact hown) (Below.refl _ _)
  | some z =>
    subst ha
    refine wpList_append_own _ hgd s x T ho base 34 i0 (.int .u64 0) 1 8 hT hi hz0 hz1 hz2 rfl (by decide) v n _ hs hown z m c (ys.map (Value.int .u64)) hx (by simp [hyl]) ?_ ?_ (by unfold maxLen; omega) (by omega) hbase ?_
    · intro j u hj
      have hjm : j < m := by
        have := (List.getElem?_eq_some_iff.1 hj).1
        simp at this
        omega
      rw [hr.cell _ rfl j hjm]
      rw [List.getElem?_map, List.getElem?_eq_getElem (by omega)] at hj
      simp only [Option.map_some, Option.some.injEq] at hj
      rw [← hj, List.getD_eq_getElem?_getD, List.getElem?_eq_getElem (by omega)]
      rfl
    · intro u hu
      obtain ⟨y, _, rfl⟩ := List.mem_map.1 hu
      rfl
    · intro v' w' hown' hgrow _
      refine h v' w' (by rw [List.map_append]; exact hown') ?_
      exact (Below.refl _ _).grown hgrow hbase (fun k hk => (hown.lt k hk).1)

theorem topHiddenW (ag : Option Addr) (N cg : Nat) (G : List Gt) (ao : Option Addr) (m co : Nat) (O : List Int) (n t : Int) (ai : Option Addr) (q ca : Nat) (ins : List Int) (aj : Option Addr) (qj cj : Nat) (oths : List Int) (ad : Option Addr) (d cd : Nat) (ds : List Int) (ap : Option Addr) (np cp : Nat) (ps : List Int) (w : World) (hg : RdG w ag N cg G) (g : RdI w ao m co O) (hn0 : -9223372036854775808 ≤ n) (hn1 : n ≤ 9223372036854775807) (ht0 : -9223372036854775808 ≤ t) (ht1 : t ≤ 9223372036854775807) (ih : Rd w ai q ca ins) (jh : Rd w aj qj cj oths) (dh : Rd w ad d cd ds) (ph : RdI w ap np cp ps) (hS : Shp w) :
    Calls Tryd.prog 5 #[.agg #[.slice ag N cg, .slice ao m co], .int .i64 n, .int .i64 t, .slice ai q ca, .slice aj qj cj, .slice ad d cd, .slice ap np cp] w fun e w' => e = .returned (.bool true) ∧ Below w.heap.size w w' := by
  have hn : -9223372036854775808 ≤ n ∧ n ≤ 9223372036854775807 := ⟨hn0, hn1⟩
  have ht : -9223372036854775808 ≤ t ∧ t ≤ 9223372036854775807 := ⟨ht0, ht1⟩
  clear hn0 hn1 ht0 ht1
  have hC0 := CBox.new w ag N cg ao m co
  have hb0 : Below w.heap.size w (w.alloc (.cells #[.slice ag N cg, .slice ao m co] 26)) := (Below.refl _ _).alloc (Nat.le_refl _) _
  go_enter Tryd.func5, Tryd.ntmps5
  go_wp2_with fail
  generalize w.alloc (.cells #[.slice ag N cg, .slice ao m co] 26) = w0 at *
  refine (tSaid _ (hS.below hb0)).mono ?_
  rintro e w1 ⟨rfl, hb1'⟩
  have hb1 := hb0.trans (hb1'.mono hb0.size)
  have hC1 := hC0.below hb1' hC0.lt
  obtain ⟨d0, d1⟩ := hC1.cells
  clear hC0 hb1' hb0
  go_wp2_with fail
  refine (eNeed _ _ _ _ _ _ _ _ _ _ _ (hg.below hb1) (g.below hb1) hn ht (hS.below hb1)).mono ?_
  rintro e w2 ⟨⟨r, hr, hE, rfl⟩ | ⟨hE, rfl⟩, hb2'⟩
  · have hb2 := hb1.trans (hb2'.mono hb1.size)
    clear hE hb1 hC1 hb2' d0 d1
    go_wp2
    go_ret
    exact ⟨rfl, hb2⟩
  have HE : Hid (Nde G O N m n t 0) := hE
  obtain ⟨c1, n, t, rfl, rfl, o1, o2, o3⟩ := hE.facts
  have HC : Hid (Cke G O N m 0) := c1
  have hN := c1.ok.1
  have HWB : Hid (∀ x ∈ whl G N, -9223372036854775808 ≤ x ∧ x ≤ 9223372036854775807) := whl_bd (fun i hi => (hg.bd i hi).2.1) N (Nat.le_refl _)
  have hdl := dwn_le G (n := n) (t := t) (by omega) (by omega) N
  have hcl := ci_le G N
  rw [Int.toNat_natCast, Int.toNat_natCast] at *
  have hb2 := hb1.trans (hb2'.mono hb1.size)
  have hC2 := hC1.below hb2' hC1.lt
  obtain ⟨e0, e1⟩ := hC2.cells
  have el := hC2.lt
  obtain ⟨D, HD⟩ : ∃ D, Hid (dwn G n t N = D) := ⟨_, rfl⟩
  obtain ⟨l, HL⟩ : ∃ l, Hid (ci G N = l) := ⟨_, rfl⟩
  rw [HD.out] at hdl ⊢
  rw [HL.out] at hcl
  have HQ : Hid (Ere G O N m n t l D 0) := .inr ⟨HE.out, .inr ⟨HL.out.symm, .inr ⟨HD.out.symm, rfl⟩⟩⟩
  have HR : Hid (Cre G O N m l 0) := .inr ⟨HC.out, .inr ⟨HL.out.symm, rfl⟩⟩
  clear hE c1 hb1 hC1 hb2' d0 d1
  go_wp2_with fail
  refine (tContains _ _ _ _ _ (hg.below hb2) hN.2).mono ?_
  rintro e w3 ⟨bm, rfl, hbm, hb3'⟩
  have hb3 := hb2.trans (hb3'.mono hb2.size)
  have hC3 := hC2.below hb3' hC2.lt
  clear hb2 hC2 hb3' e0 e1 el
  cases bm with
  | true =>
    clear hbm
    go_wp2
    go_ret
    exact ⟨rfl, hb3⟩
  | false =>
    have HNO : Hid (∀ i, i < N → (gt G i).k ≠ 5) := fun i hi e => by
      have := hbm.2 ⟨i, hi, e⟩
      cases this
    have HDL : Hid (D = l * t) := by unfold Hid; rw [← HD.out, ← HL.out]; exact dwn_nomul HNO.out n t N (Nat.le_refl _)
    obtain ⟨e0, e1⟩ := hC3.cells
    have el := hC3.lt
    clear hbm
    go_wp2_with fail
    refine (tSome _ _ _ _ t n _ (ph.below hb3) (by omega) o2 o3).mono ?_
    rintro e w4 ⟨v4, L, rfl, ho4, hSm, hb4'⟩
    obtain ⟨aL, cL, rfl, rL⟩ := RdI.own ho4 (som_bd hSm)
    obtain ⟨K, HK⟩ : ∃ K, Hid (L.length = K) := ⟨_, rfl⟩
    rw [HK.out] at rL ⊢
    have hKk : K ≤ t := by rw [← HK.out]; exact hSm.1
    have HDS : Hid (dis (fi L) K) := by unfold Hid; rw [← HK.out]; exact hSm.2.1
    have HLn : Hid (∀ i, i < K → L.getD i 0 ≤ (n : Int)) := by unfold Hid; rw [← HK.out]; exact hSm.2.2
    have hb4 := hb3.trans (hb4'.mono hb3.size)
    have hC4 := hC3.below hb4' hC3.lt
    have hcL := rL.cap
    have hmL := rL.max
    unfold maxLen at hmL
    clear hSm ho4 hb3 hC3 hb4' e0 e1 el
    obtain ⟨e0, e1⟩ := hC4.cells
    have el := hC4.lt
    go_wp2_with fail
    refine (cInputs _ _ _ _ _ _ _ _ _ (hg.below hb4) (g.below hb4) (hS.below hb4)).mono ?_
    rintro e w5 ⟨⟨r2, hr2, hE, _⟩ | ⟨_, v5, rfl, ho5⟩, hb5'⟩
    · exact absurd (hE.one HC.out) hr2
    rw [HL.out] at ho5
    obtain ⟨a5, c5, rfl, hr5⟩ := RdI.own ho5 HWB.out
    have hc5 := hr5.cap
    have hm5 := hr5.max
    unfold maxLen at hm5
    have rL5 := rL.below hb5'
    have hb5 := hb4.trans (hb5'.mono hb4.size)
    have hC5 := hC4.below hb5' hC4.lt
    clear hb4 hC4 hb5' e0 e1 el ho5 rL
    go_wp2_with fail
    refine (tFilledO _ _ _ _ l _ (ih.below hb5) (by omega)).mono ?_
    rintro e w6 ⟨gx, rfl, bx, hgx, hb6'⟩
    obtain ⟨X, HX⟩ : ∃ X, Hid (padded ins l = X) := ⟨_, rfl⟩
    have HXl : Hid (X.length = l) := by unfold Hid; rw [← HX.out]; exact padded_len _ _
    have HXb : Hid (∀ z ∈ X, 0 ≤ z ∧ z ≤ 18446744073709551615) := by unfold Hid; rw [← HX.out]; exact padded_bd ih.bd l
    rw [HX.out] at bx
    have rL6 := rL5.below hb6'
    have hr6 := hr5.below hb6'
    have hb6 := hb5.trans (hb6'.mono hb5.size)
    have hC6 := hC5.below hb6' hC5.lt
    clear hb5 hC5 hb6' rL5 hr5
    go_wp2_with fail
    refine (tFilledO _ _ _ _ l _ (jh.below hb6) (by omega)).mono ?_
    rintro e w7 ⟨gy, rfl, by_, hgy, hb7⟩
    have HYl : Hid ((padded oths l).length = l) := padded_len _ _
    have HYb : Hid (∀ z ∈ padded oths l, 0 ≤ z ∧ z ≤ 18446744073709551615) := padded_bd jh.bd l
    have hbxl := bx.lt
    go_wp2
    go_loopw [73] (fun v wr => ∃ (j : Nat) (Y : List Int), j ≤ l ∧ v = .int .i64 j ∧ Hid (Y.length = l) ∧ Hid (∀ z ∈ Y, 0 ≤ z ∧ z ≤ 18446744073709551615) ∧ Blk wr gy Y ∧ Below w6.heap.size w6 wr) (fun v _ => l - (intOf v).toNat)
    case atStart => exact ⟨0, _, Nat.zero_le _, rfl, HYl, HYb, by_, hb7⟩
    case round =>
      clear by_ hb7 HYl HYb
      obtain ⟨j, Y, hj, rfl, HYl, HYb, bY, hbel⟩ := hrel
      by_cases hjl : j < l
      · obtain ⟨b1, o1', x, rfl, hbb1, HXx, hx0, hx1, hcx⟩ := (hr6.below hbel).one hjl
        by_cases hc : ∃ p, p < K ∧ L.getD p 0 = x
        · obtain ⟨p, hp, hpx⟩ := hc
          have HP : Hid (L.getD p 0 = x) := hpx
          clear hpx
          have bX := bx.below hbel hbxl
          have cX := bX.cell (i := j) (by rw [HXl.out]; exact hjl)
          have cY := bY.cell (i := j) (by rw [HYl.out]; exact hjl)
          have fY := bY.frozen j
          have lY := bY.lt
          have lX := bX.lt
          have hxb := getD_bd HXb.out j
          obtain ⟨xv, HXV⟩ : ∃ xv, Hid (X.getD j 0 = xv) := ⟨_, rfl⟩
          rw [HXV.out] at cX hxb
          have bY2 := bY.set j xv
          have HYl2 : Hid ((Y.set j xv).length = l) := by unfold Hid; rw [List.length_set]; exact HYl.out
          have HYb2 : Hid (∀ z ∈ Y.set j xv, 0 ≤ z ∧ z ≤ 18446744073709551615) := bd_set HYb.out j hxb
          have hbel2 : Below w6.heap.size w6 (wr.setCell ⟨gy, j, none⟩ (.int .u64 xv)) := hbel.setCell hgy _
          go_wp2_with (go_at_call 34; refine (iContT _ _ _ _ x _ (rL6.below hbel) hp HP.out).mono ?_; rintro e w8 ⟨rfl, hw⟩; have hw := hw.symm; subst hw)
          go_roundw
          case rel => exact ⟨j + 1, _, by omega, by go_num, HYl2, HYb2, bY2, hbel2⟩
          case measure => simp [intOf]; omega
        · have HNP : Hid (∀ p, p < K → L.getD p 0 ≠ x) := fun p hp e => hc ⟨p, hp, e⟩
          clear hc
          go_wp2_with (go_at_call 34; refine (iContF _ _ _ _ x _ (rL6.below hbel) HNP.out).mono ?_; rintro e w8 ⟨rfl, hw⟩; have hw := hw.symm; subst hw)
          go_roundw
          case rel => exact ⟨j + 1, Y, by omega, by go_num, HYl, HYb, bY, hbel⟩
          case measure => simp [intOf]; omega
      · obtain rfl : j = l := by omega
        have bX := bx.below hbel hbxl
        have rX : Rd wr (some ⟨gx, 0, none⟩) j j X := bX.whole j HXl.out.symm (by unfold maxLen; omega) HXb.out
        have rY : Rd wr (some ⟨gy, 0, none⟩) j j Y := bY.whole j HYl.out.symm (by unfold maxLen; omega) HYb.out
        have rL8 := rL6.below hbel
        have hb8 := hb6.trans (hbel.mono hb6.size)
        have hC8 := hC6.below hbel hC6.lt
        obtain ⟨w8, hw8⟩ : ∃ x, x = wr := ⟨_, rfl⟩
        subst hw8
        obtain ⟨e0, e1⟩ := hC8.cells
        have el := hC8.lt
        clear bX bY bx hbel hb6 hC6 rL6 hr6
        go_wp2_with fail
        refine (cRun _ _ _ _ _ _ _ _ _ _ _ _ _ (hg.below hb8) (g.below hb8) rX (hS.below hb8)).mono ?_
        rintro e w9 ⟨⟨r3, hr3, hE, _⟩ | ⟨_, v9, rfl, ho9⟩, hb9'⟩
        · exact absurd (hE.one HR.out) hr3
        obtain ⟨a9, c9, rfl, r9, _⟩ := Rd.own ho9 (bd_u64 (otl_bd G O _ m))
        have rX9 := rX.below hb9'
        have rY9 := rY.below hb9'
        have rL9 := rL8.below hb9'
        have hb9 := hb8.trans (hb9'.mono hb8.size)
        have hC9 := hC8.below hb9' hC8.lt
        clear rX rY rL8 hb8 hC8 hb9' ho9 e0 e1 el
        obtain ⟨e0, e1⟩ := hC9.cells
        have el := hC9.lt
        go_wp2_with fail
        refine (cRun _ _ _ _ _ _ _ _ _ _ _ _ _ (hg.below hb9) (g.below hb9) rY9 (hS.below hb9)).mono ?_
        rintro e w10 ⟨⟨r3, hr3, hE, _⟩ | ⟨_, v10, rfl, ho10⟩, hb10'⟩
        · exact absurd (hE.one HR.out) hr3
        obtain ⟨a10, c10, rfl, r10, _⟩ := Rd.own ho10 (bd_u64 (otl_bd G O _ m))
        have r910 := r9.below hb10'
        have rX10 := rX9.below hb10'
        have rY10 := rY9.below hb10'
        have rL10 := rL9.below hb10'
        have hb10 := hb9.trans (hb10'.mono hb9.size)
        have hC10 := hC9.below hb10' hC9.lt
        clear r9 rX9 rY9 rL9 hb9 hC9 hb10' ho10 e0 e1 el
        go_wp2_with fail
        refine (cEqual _ _ _ _ _ _ _ _ _ r910 r10).mono ?_
        rintro e w11 ⟨rfl, hb11'⟩
        have rX11 := rX10.below hb11'
        have rY11 := rY10.below hb11'
        have rL11 := rL10.below hb11'
        have hb11 := hb10.trans (hb11'.mono hb10.size)
        have hC11 := hC10.below hb11' hC10.lt
        clear r910 r10 rX10 rY10 rL10 hb10 hC10 hb11'
        by_cases hoe : otl G O X m = otl G O Y m
        · have HOE : Hid (otl G O X m = otl G O Y m) := hoe
          have hbt : (otl G O X m == otl G O Y m) = true := by rw [beq_iff_eq]; exact hoe
          rw [hbt]
          clear hoe hbt
          obtain ⟨e0, e1⟩ := hC11.cells
          have el := hC11.lt
          go_wp2_with fail
          refine (tFilled _ _ _ _ D _ (dh.below hb11) (by omega)).mono ?_
          rintro e w12 ⟨gd, rfl, rD, hb12'⟩
          obtain ⟨Dl, HDl⟩ : ∃ Dl, Hid (padded ds D = Dl) := ⟨_, rfl⟩
          have HDll : Hid (Dl.length = D) := by unfold Hid; rw [← HDl.out]; exact padded_len _ _
          rw [HDl.out] at rD
          have rX12 := rX11.below hb12'
          have rY12 := rY11.below hb12'
          have rL12 := rL11.below hb12'
          have hb12 := hb11.trans (hb12'.mono hb11.size)
          have hC12 := hC11.below hb12' hC11.lt
          clear rX11 rY11 rL11 hb11 hC11 hb12' e0 e1 el
          have HSE : Hid (Hse L K t 0) := .inr ⟨HDS.out, .inr ⟨⟨o3, hKk⟩, rfl⟩⟩
          go_wp2
          go_loopw [28, 116] (fun v i wr => ∃ p : Nat, p ≤ j ∧ i = .int .i64 p ∧ wr.ownsRow w12.heap.size 34 1 v (p * t) ((esl L K t X Y Dl p).map (Value.int .u64)) ∧ Below w12.heap.size w12 wr) (fun _ i _ => j - (intOf i).toNat)
          case atStart => exact ⟨0, Nat.zero_le _, rfl, by rw [Nat.zero_mul]; exact World.ownsRow_nil _ _ _ _, Below.refl _ _⟩
          case round =>
            obtain ⟨p, hp, rfl, hown, hbel⟩ := hrel
            have hs12 := hbel.size
            by_cases hpj : p < j
            · obtain ⟨b1, o1', xv, e1', hbb1, HXv, hx0, hx1, hcx⟩ := (rX12.below hbel).one hpj
              obtain ⟨b2, o2', yv, e2', hbb2, HYv, hy0, hy1, hcy⟩ := (rY12.below hbel).one hpj
              simp only [Option.some.injEq, Addr.mk.injEq, and_true] at e1' e2'
              obtain ⟨rfl, rfl⟩ := e1'
              obtain ⟨rfl, rfl⟩ := e2'
              rw [Nat.zero_add] at hcx hcy
              obtain ⟨A, HA⟩ : ∃ A, Hid (p * t = A) := ⟨_, rfl⟩
              have hAt : A + t ≤ D := by
                have h2 : (p + 1) * t ≤ j * t := Nat.mul_le_mul_right t (by omega)
                rw [Nat.add_mul, Nat.one_mul, HA.out] at h2
                rw [HDL.out]
                exact h2
              have hm1 : (p : Int) * (t : Int) = (A : Int) := by rw [← HA.out]; push_cast; rfl
              have hm2 : ((p : Int) + 1) * (t : Int) = (A : Int) + (t : Int) := by rw [Int.add_mul, Int.one_mul, hm1]
              have hw1 : IntKind.i64.wrap (A : Int) = (A : Int) := by rw [IntKind.wrap_i64]; omega
              have hw2 : IntKind.i64.wrap ((A : Int) + (t : Int)) = (A : Int) + (t : Int) := by rw [IntKind.wrap_i64]; omega
              have hw3 : IntKind.i64.wrap ((p : Int) + 1) = (p : Int) + 1 := by rw [IntKind.wrap_i64]; omega
              have rdk := (rD.below hbel).sub (lo := A) (k := t) hAt
              obtain ⟨X3, HX3⟩ : ∃ X3, Hid (subA (some ⟨gd, 0, none⟩) D A = X3) := ⟨_, rfl⟩
              rw [HX3.out] at rdk
              have hsl : ∀ W, (Instr.sliceAt 22 (.slice (some ⟨gd, 0, none⟩) D D) (some (.int .i64 (A : Int))) (some (.int .i64 ((A : Int) + (t : Int)))) none).run Tryd.prog W = .ok (.slice X3 t (D - A)) W := fun W => by rw [← HX3.out]; exact run_sub Tryd.underlying22 infoRpt (some ⟨gd, 0, none⟩) D D A t rfl rfl hAt W
              have HEF : Hid (shf L K xv yv ((Dl.drop A).take t) t = esf L K t X Y Dl p) := by unfold Hid esf; rw [HXv.out, HYv.out, HA.out]
              have HES : Hid (esl L K t X Y Dl p ++ esf L K t X Y Dl p = esl L K t X Y Dl (p + 1)) := esl_snoc _ _ _ _ _ _ _
              have HPL : Hid ((p + 1) * t = A + t) := by unfold Hid; rw [Nat.add_mul, Nat.one_mul, HA.out]
              rw [HA.out] at hown
              have rLp := (rL12.below hbel).below (Below.drew (Below.refl wr.heap.size wr))
              have rdkD := rdk.drew
              have HALL : Hid (∀ w', Below wr.drew.heap.size wr.drew w' → w'.cell? ⟨gx, p, none⟩ = some (.int .u64 xv) ∧ w'.cell? ⟨gy, p, none⟩ = some (.int .u64 yv) ∧ gx < w'.heap.size ∧ gy < w'.heap.size) := fun w' hb => ⟨by rw [hb.cell hbb1]; exact hcx, by rw [hb.cell hbb2]; exact hcy, Nat.lt_of_lt_of_le hbb1 hb.size, Nat.lt_of_lt_of_le hbb2 hb.size⟩
              have hp0 : (0 : Int) ≤ (p : Int) := by omega
              have hpji : (p : Int) < (j : Int) := by omega
              have hbelD := hbel.drew
              go_upto_region 26 with fail
              go_region_held3 (fun w' => w'.cell? ⟨gx, p, none⟩ = some (.int .u64 xv) ∧ w'.cell? ⟨gy, p, none⟩ = some (.int .u64 yv)) (go_keep) (first | (go_at_call 18; refine (eShift _ _ _ _ xv yv _ _ _ _ _ rLp hx0 hx1 hy0 hy1 rdkD).mono ?_; intro en w13 hh; have hb13 := hh.2; obtain ⟨a13, c13, rfl, r13⟩ := hh.told HSE.out; rw [HEF.out] at r13; obtain ⟨i0, i1, i2, i3⟩ := HALL.out w13 hb13; clear hh))
              all_goals
                have hown13 := own_below (show wr.drew.ownsRow _ _ _ _ _ _ from hown) hb13
                have hbel13 := hbelD.trans (hb13.mono hbelD.size)
                clear HALL hbel hbelD hown hb13 hsl rdk rdkD rLp hcx hcy
                go_wp2_with (at_builtin; refine wpList_appRd Tryd.underlying22 info34 _ rfl _ _ rfl w12.heap.size _ A (esl L K t X Y Dl p) rfl hown13 a13 t c13 (esf L K t X Y Dl p) r13 rfl (by omega) hbel13.size ?_; intro v14 w14 hown14 hb14; rw [HES.out] at hown14; have hbel14 := hbel13.trans hb14; clear hb14)
                go_roundw
                case rel => exact ⟨p + 1, by omega, by go_num, by rw [HPL.out]; exact hown14, hbel14⟩
                case measure => simp [intOf]; omega
            · obtain rfl : p = j := by omega
              obtain ⟨aE, cE, rfl, rE, _⟩ := Rd.own hown (bd_u64 (esl_bd _ _ _ _ _ _ _))
              rw [← HDL.out] at rE ⊢
              have rXe := rX12.below hbel
              have rYe := rY12.below hbel
              have rLe := rL12.below hbel
              have rDe := rD.below hbel
              have hbe := hb12.trans (hbel.mono hb12.size)
              have hCe := hC12.below hbel hC12.lt
              obtain ⟨we, hwe⟩ : ∃ x, x = wr := ⟨_, rfl⟩
              subst hwe
              obtain ⟨e0, e1⟩ := hCe.cells
              have el := hCe.lt
              clear hown hbel hb12 hC12 rX12 rY12 rL12 rD
              go_wp2_with fail
              refine (eRun _ _ _ _ _ _ _ _ n t _ _ _ _ _ _ _ _ _ (hg.below hbe) (g.below hbe) rXe rDe hn ht (hS.below hbe)).mono ?_
              rintro en w13 ⟨⟨r3, hr3, hE3, _⟩ | ⟨_, a13, c13, b13, k13, rfl, _, hs13⟩, hb13'⟩
              · exact absurd (hE3.one HQ.out) hr3
              rw [Int.toNat_natCast, Int.toNat_natCast] at hs13
              have rYf := rYe.below hb13'
              have rEf := rE.below hb13'
              have rLf := rLe.below hb13'
              have hbf := hbe.trans (hb13'.mono hbe.size)
              have hCf := hCe.below hb13' hCe.lt
              clear rXe rYe rE rLe rDe hbe hCe hb13' e0 e1 el
              obtain ⟨e0, e1⟩ := hCf.cells
              have el := hCf.lt
              go_wp2_with fail
              refine (eRun _ _ _ _ _ _ _ _ n t _ _ _ _ _ _ _ _ _ (hg.below hbf) (g.below hbf) rYf rEf hn ht (hS.below hbf)).mono ?_
              rintro en w14 ⟨⟨r3, hr3, hE3, _⟩ | ⟨_, a14, c14, b14, k14, rfl, _, hs14⟩, hb14'⟩
              · exact absurd (hE3.one HQ.out) hr3
              rw [Int.toNat_natCast, Int.toNat_natCast] at hs14
              have hs13f := hs13.below hb14'
              have rLg := rLf.below hb14'
              have hbg := hbf.trans (hb14'.mono hbf.size)
              have HSEEN : Hid (∀ i z : Nat, i < K → L.getD i 0 = (z : Int) + 1 → z < n → sno G O n t Y (esl L K t X Y Dl p) N m z = sno G O n t X Dl N m z) := fun i z hi hz hzn => by
                have := hid_seen (G := G) (O := O) (n := n) (who := L) (xs := X) (ys := Y) (ds := Dl) HC.out.ok.2.2.1 HC.out.ok.2.2.2 HNO.out hKk (by rw [HL.out, HDll.out]; exact HDL.out) HOE.out hi (dis_nz HDS.out i hi) hz hzn
                rw [HL.out] at this
                exact this
              clear rYf rEf rLf hbf hCf hb14' e0 e1 el hs13
              go_wp2
              go_loopw [175] (fun v wr => ∃ i : Nat, i ≤ K ∧ v = .int .i64 i ∧ Below w14.heap.size w14 wr) (fun v _ => K - (intOf v).toNat)
              case atStart => exact ⟨0, Nat.zero_le _, rfl, Below.refl _ _⟩
              case round =>
                obtain ⟨i, hi, rfl, hbel⟩ := hrel
                by_cases hiK : i < K
                · obtain ⟨b1, o1', x, rfl, hbb1, HXx, hx0, hx1, hcx⟩ := (rLg.below hbel).one hiK
                  have hd := (HDS.out i hiK).1
                  have hdx : fi L i = x := HXx.out
                  rw [hdx] at hd
                  have hdn := HLn.out i hiK
                  rw [HXx.out] at hdn
                  obtain ⟨z, rfl⟩ : ∃ z : Nat, x = (z : Int) + 1 := ⟨(x - 1).toNat, by omega⟩
                  have hzn : z < n := by omega
                  have hz1 : (z : Int) + 1 - 1 = (z : Int) := by omega
                  obtain ⟨b2, o2', ai2, ni2, ci2, row2, rfl, hbb2, HR2, hc2, rr2⟩ := (hs13f.below hbel).one hzn
                  obtain ⟨b3, o3', ai3, ni3, ci3, row3, rfl, hbb3, HR3, hc3, rr3⟩ := (hs14.below hbel).one hzn
                  have hrow : row2 = row3 := by
                    rw [← HR2.out, ← HR3.out, snl_getD _ _ _ _ _ _ _ _ hzn, snl_getD _ _ _ _ _ _ _ _ hzn]
                    exact (HSEEN.out i z hiK HXx.out hzn).symm
                  subst hrow
                  have hz0 : (0 : Int) ≤ (z : Int) := by omega
                  have hzni : (z : Int) < (n : Int) := by omega
                  have hwz : IntKind.i64.wrap ((z : Int) + 1 - 1) = (z : Int) := by rw [IntKind.wrap_i64]; omega
                  have hwz2 : IntKind.i64.wrap (z : Int) = (z : Int) := by rw [IntKind.wrap_i64]; omega
                  have HALL : Hid (∀ w', Below wr.drew.heap.size wr.drew w' → w'.cell? ⟨b2, o2' + z, none⟩ = some (.slice ai2 ni2 ci2) ∧ w'.cell? ⟨b3, o3' + z, none⟩ = some (.slice ai3 ni3 ci3) ∧ b2 < w'.heap.size ∧ b3 < w'.heap.size ∧ Below w14.heap.size w14 w') := fun w' hb => ⟨by rw [hb.cell hbb2]; exact hc2, by rw [hb.cell hbb3]; exact hc3, Nat.lt_of_lt_of_le hbb2 hb.size, Nat.lt_of_lt_of_le hbb3 hb.size, hbel.drew.trans (hb.mono hbel.drew.size)⟩
                  clear hbel
                  go_upto_region 38 with fail
                  go_region_held3 (fun w' => w'.cell? ⟨b2, o2' + z, none⟩ = some (.slice ai2 ni2 ci2) ∧ w'.cell? ⟨b3, o3' + z, none⟩ = some (.slice ai3 ni3 ci3)) (go_keep) (first | (go_at_call 20; refine (cSame _ _ _ _ _ _ _ _ rr2.drew rr3.drew).mono ?_; rintro e w15 ⟨rfl, hb15⟩; obtain ⟨j2, j3, j4, j5, hbel15⟩ := HALL.out w15 hb15; clear hb15))
                  all_goals
                    clear HALL hc2 hc3 rr2 rr3 hcx
                    go_wp2
                    go_roundw
                    case rel => exact ⟨i + 1, by omega, by go_num, hbel15⟩
                    case measure => simp [intOf]; omega
                · have hni : ¬ ((i : Int) < (K : Int)) := by omega
                  have hbz := hbg.trans (hbel.mono hbg.size)
                  clear hbel
                  go_wp2
                  go_ret
                  exact ⟨rfl, hbz⟩
        · have hbf : (otl G O X m == otl G O Y m) = false := by rw [beq_eq_false_iff_ne]; exact hoe
          rw [hbf]
          clear hoe hbf
          go_wp2
          go_ret
          exact ⟨rfl, hb11⟩
end
end Go.Proofs.YtljlioglpaogdagDoor
