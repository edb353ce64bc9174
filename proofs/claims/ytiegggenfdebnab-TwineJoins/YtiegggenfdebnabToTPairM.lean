/- croftref.Join. · croftref.Pairs: plain facts. -/
import Derived.Test.YtiegggenfdebnabToTJoinM
import Derived.Test.YtiegggenfdebnabToTRefC
import Derived.Test.YtiegggenfdebnabToFitC
import Derived.Test.YtiegggenfdebnabToTwoC
import Derived.Test.YtiegggenfdebnabToLstC
import Derived.Deep.AppendLies
import Derived.Deep.RegionLaw
import Derived.Test.YtiegggenfdebnabToBadM
namespace Go.Proofs.Ytiegggenfdebnab
open Go.RowKit Crm

/-- A slice of shares that the call itself gathers, and one share more: a step of a region that draws. -/
theorem step_appS {P : Program} {T E : TypeId} (hT : P.underlying T = some (.slice E)) (info : (P.info? E).map (fun i => (i.zero, i.size, i.bytes)) = some (some (.agg #[.int .i64 0, .int .u64 0]), 2, 16))
    (w : World) {w1 : World} {ops : Array Oper} {o : Oper} {a : Act} {K : Act → World → Prop} {Q : Exit → Act → World → Prop} {F : Prop} (hgd : o.guard = none) (s x : Operand)
    (ho : o.op = .call { callee := .builtin .append, args := #[s, x], argTypes := #[T, T] })
    (base : Nat) (v : Value) (n : Nat) (l : List (Int × Int)) (hs : a.eval s = v) (hown : w.ownsRow base E 2 v n (shc l)) (p q : Int) (hx : a.eval x = .slice (some ⟨w.heap.size, 0, none⟩) 1 1)
    (hw1 : w1 = w.alloc (.cells #[.int .i64 p, .int .u64 q] E)) (hn : n ≤ 1000000) (hbase : base ≤ w.heap.size)
    (h : ∀ v' w', w'.ownsRow base E 2 v' (n + 1) (shc (l ++ [(p, q)])) → Below base w w' → K (a.put o.dst v') w') :
    if Region.wanted o (yielded ops a.tmps) = true then Oper.wp P o a w1 K Q else F := by
  subst hw1
  obtain ⟨i0, hi, hz0, hz1, hz2⟩ := info_parts info
  refine step_append_lies _ hgd s x T ho base E i0 (.agg #[.int .i64 0, .int .u64 0]) 2 16 hT hi hz0 hz1 hz2 rfl (by decide) v n _ hs (hown.alloc _) ⟨w.heap.size, 0, none⟩ 1 1 [.int .i64 p, .int .u64 q] hx rfl ?_ ?_ (by decide) (by unfold maxLen; omega) (by omega) (by simp; omega) _ rfl ?_
  · intro j u hj
    match j, hj with
    | 0, hj => simp at hj; subst hj; rw [Addr.add_lit]; exact cell_alloc0 _ _ _ _
    | 1, hj => simp at hj; subst hj; rw [Addr.add_lit]; exact cell_alloc1 _ _ _ _
  · intro u hu; simp at hu; rcases hu with rfl | rfl <;> rfl
  · intro g cap w' hown' hgrow _ _
    refine h _ w' (by rw [shc_snoc]; exact hown') ?_
    exact ((Below.refl _ _).alloc hbase _).grown hgrow (by simp; omega) (fun k hk => (hown.lt k hk).1)

theorem RdW.nbd {w : World} {a : Option Addr} {n c : Nat} {l : List (Int × List Int)} (h : RdW w a n c l) {i : Nat} (hi : i < n) : ∀ x ∈ tc l i, 0 ≤ x ∧ x ≤ 18446744073709551615 := by
  obtain ⟨b, o, x, ai, ni, ci, row, _, _, _, HRow, _, _, _, _, hrow⟩ := h.one hi
  rw [HRow.out]; exact hrow.bd

/-- What Join answers. -/
def Jns (l : List (Int × List Int)) (n : Nat) (t : Int) (w : World) (e : Ending) (w' : World) : Prop := ∃ x r, e = .returned (.tuple #[.int .u64 x, .int .i64 r]) ∧ Jnd l n t x r ∧ Below w.heap.size w w'

set_option maxRecDepth 100000 in
set_option maxHeartbeats 2000000 in
theorem rJoin (t : Int) (a : Option Addr) (n c : Nat) (l : List (Int × List Int)) (w : World) (h : RdW w a n c l) :
    Calls Try.prog 20 #[.int .i64 t, .slice a n c] w fun e w' => Jns l n t w e w' := by
  have hcap := h.cap
  have hmax := h.max
  unfold maxLen at hmax
  go_enter Try.func20, Try.ntmps20
  by_cases ht : t < 0 ∨ 4 < t
  · have HT : Hid (t < 0 ∨ 4 < t) := ht
    clear ht
    go_wp2_with (go_at_call 14; refine (rInN _ _ _ _ HT.out).mono ?_; rintro e w' ⟨rfl, hw⟩; have hw := hw.symm; subst hw)
    go_ret2
    exact ⟨0, 1, rfl, .inl ⟨HT.out, rfl, rfl⟩, Below.refl _ _⟩
  · obtain ⟨k, rfl⟩ : ∃ k : Nat, t = k := ⟨t.toNat, by omega⟩
    go_wp2_with fail
    refine (rInY _ _ _ _ (by omega) (by omega)).mono ?_
    rintro e w' ⟨rfl, hw⟩
    have hw := hw.symm
    subst hw
    go_wp2_with fail
    refine (rRows _ _ _ _ _ h).mono ?_
    rintro e w1 ⟨r, rfl, hr, hb1⟩
    have HR : Hid (r = true ↔ Rwk l n) := hr
    clear hr
    go_wp2
    go_loopw [6, 7] (fun v i wr => ∃ (q : Nat) (b : Bool), q ≤ n ∧ i = .int .i64 q ∧ v = .bool b ∧ Hid (b = true ↔ (Rwk l n ∧ ∀ i, i < q → (tc l i).length = k + 1)) ∧ wr = w1) (fun _ i _ => n - (intOf i).toNat)
    case atStart => exact ⟨0, r, Nat.zero_le _, rfl, rfl, ⟨fun e => ⟨HR.out.1 e, fun i hi => by omega⟩, fun e => HR.out.2 e.1⟩, rfl⟩
    case round =>
      obtain ⟨q, b, hq, rfl, rfl, HB, hw⟩ := hrel
      have hw := hw.symm
      subst hw
      by_cases hlt : q < n
      · obtain ⟨b1, o1, x, ai, ni, ci, row, rfl, hbb, HX, HRow, hx0, hx1, hcx, hcr, hrow⟩ := (h.below hb1).one hlt
        have hnl := hrow.len
        have HNL : Hid ((tc l q).length = ni) := by unfold Hid; rw [HRow.out]; exact hnl
        cases b with
        | false =>
          have HB2 : Hid (false = true ↔ (Rwk l n ∧ ∀ i, i < q + 1 → (tc l i).length = k + 1)) := ⟨fun e => (by cases e), fun e => HB.out.2 ⟨e.1, fun i hi => e.2 i (by omega)⟩⟩
          go_wp2
          go_roundw
          case rel => exact ⟨q + 1, false, by omega, by go_num, rfl, HB2, by trivial⟩
          case measure => simp [intOf]; omega
        | true =>
          have HBt := HB.out.1 rfl
          by_cases hni : ni = k + 1
          · have hnb : ((ni : Int) == (k : Int) + 1) = true := by rw [beq_iff_eq]; omega
            have HB2 : Hid (true = true ↔ (Rwk l n ∧ ∀ i, i < q + 1 → (tc l i).length = k + 1)) := ⟨fun _ => ⟨HBt.1, fun i hi => by
              by_cases e : i = q
              · rw [e, HNL.out]; exact hni
              · exact HBt.2 i (by omega)⟩, fun _ => rfl⟩
            clear hni HBt
            go_wp2
            go_roundw
            case rel => exact ⟨q + 1, true, by omega, by go_num, rfl, HB2, by trivial⟩
            case measure => simp [intOf]; omega
          · have hnb : ((ni : Int) == (k : Int) + 1) = false := by rw [beq_eq_false_iff_ne]; omega
            have HB2 : Hid (false = true ↔ (Rwk l n ∧ ∀ i, i < q + 1 → (tc l i).length = k + 1)) := ⟨fun e => (by cases e), fun e => absurd (e.2 q (by omega)) (by rw [HNL.out]; exact hni)⟩
            clear hni HBt
            go_wp2
            go_roundw
            case rel => exact ⟨q + 1, false, by omega, by go_num, rfl, HB2, by trivial⟩
            case measure => simp [intOf]; omega
      · have hqn : q = n := by omega
        subst hqn
        have HB2 : Hid (b = true ↔ Rwt l q k) := HB.out
        clear HB HR
        cases b with
        | false =>
          have HJ : Hid (Jnd l q k 0 5) := .inr ⟨k, rfl, by omega, .inl ⟨fun e => (by have := HB2.out.2 e; cases this), rfl, rfl⟩⟩
          go_wp2
          go_ret2
          exact ⟨0, 5, rfl, HJ.out, hb1⟩
        | true =>
          have HW : Hid (Rwt l q k) := HB2.out.1 rfl
          clear HB2
          by_cases hqk : q ≤ k
          · have HJ : Hid (Jnd l q k 0 4) := .inr ⟨k, rfl, by omega, .inr (.inl ⟨HW.out, hqk, rfl, rfl⟩)⟩
            go_wp2
            go_ret2
            exact ⟨0, 4, rfl, HJ.out, hb1⟩
          · have hq9 := dis_nine HW.out.1.dis
            have hqk2 : decide ((q : Int) < (k : Int) + 1) = false := decide_eq_false (by omega)
            have hqk3 : (k : Int) + 1 ≤ (q : Int) := by omega
            obtain ⟨wo, hwo⟩ : ∃ wo, wo = w1 := ⟨_, rfl⟩
            subst hwo
            have hs1 := hb1.size
            go_wp2
            go_loopw [8, 9] (fun v i wr => ∃ (j : Nat) (bs : List Value) (F : List (List Int)), j ≤ k + 1 ∧ i = .int .i64 j ∧ Lst wr wo.heap.size j (k + 1) v bs F ∧ Hid (Cls l q k j F) ∧ Below wo.heap.size wo wr) (fun _ i _ => k + 1 - (intOf i).toNat)
            case atStart => exact ⟨0, [], [], Nat.zero_le _, rfl, lst_nil _ _ _, cls_nil _ _ _, Below.refl _ _⟩
            case round =>
              obtain ⟨j, bs, F, hj, rfl, hL, HC, hb2⟩ := hrel
              obtain ⟨w2, hw2⟩ : ∃ w2, w2 = wr := ⟨_, rfl⟩
              subst hw2
              have hs2 := hb2.size
              have hbw2 := hb1.trans (hb2.mono hs1)
              by_cases hjk : j < k + 1
              · have hjk2 : decide ((j : Int) ≤ (k : Int)) = true := decide_eq_true (by omega)
                have hjk3 : j ≤ k := by omega
                go_wp2
                go_loopw [10, 11] (fun v i wr => ∃ m : Nat, m ≤ q ∧ i = .int .i64 m ∧ wr.ownsRow w2.heap.size 60 2 v m (shc (colS l j m)) ∧ Below w2.heap.size w2 wr) (fun _ i _ => q - (intOf i).toNat)
                case atStart => exact ⟨0, Nat.zero_le _, rfl, World.ownsRow_nil _ _ _ _, Below.refl _ _⟩
                case round =>
                  obtain ⟨m, hm, rfl, hos, hb3⟩ := hrel
                  have hs3 := hb3.size
                  have hbw3 := hbw2.trans (hb3.mono hbw2.size)
                  by_cases hmq : m < q
                  · obtain ⟨b1, o1, x, ai, ni, ci, row, rfl, hbb, HX, HRow, hx0, hx1, hcx, hcr, hrow⟩ := (h.below hbw3).one hmq
                    have hni : ni = k + 1 := by have := HW.out.2 m hmq; rw [HRow.out, hrow.len] at this; exact this
                    obtain ⟨b2, o2, y, rfl, hbb2, HY, hy0, hy1, hcy⟩ := hrow.one (show j < ni by omega)
                    have HCS : Hid (colS l j m ++ [(x, y)] = colS l j (m + 1)) := colS_snoc l j m HX.out (by rw [HRow.out]; exact HY.out)
                    have hos2 : wr.drew.ownsRow w2.heap.size 60 2 u10 m (shc (colS l j m)) := hos
                    have hb3d := hb3.drew
                    have hjn : (j : Int) < (ni : Int) := by omega
                    have hj0 : (0 : Int) ≤ (j : Int) := by omega
                    have hmqi : (m : Int) < (q : Int) := by omega
                    clear hni
                    go_wp2
                    go_region_law (refine step_appS Try.underlying22 infoSh wr.drew rfl _ _ rfl w2.heap.size _ _ _ rfl hos2 x y rfl rfl (by omega) (by exact hs3) ?_; intro v4 w4 hos4 hb4; rw [HCS.out] at hos4; have hb4' := hb3d.trans hb4)
                    all_goals
                      clear hos hos2 hb3d hb4
                      go_wp2
                      go_roundw
                      case rel => exact ⟨m + 1, by omega, by go_num, hos4, hb4'⟩
                      case measure => simp [intOf]; omega
                  · have hmq2 : m = q := by omega
                    subst hmq2
                    obtain ⟨aS, cS, rfl, hRs⟩ := RdS.own hos (colS_len l j m) (fun r hr => by
                      rw [colS_getD l j hr]
                      have h1 := (HW.out.1 r hr).1.1
                      have h2 := getD_bd (h.nbd hr) j
                      exact ⟨⟨by simp only; omega, by simp only; omega⟩, h2⟩)
                    clear hos
                    go_wp2_with fail
                    refine (rFitO _ _ _ _ k _ hRs (colS_dis HW.out.1.dis j) (by omega)).mono ?_
                    rintro e w4 ⟨p, ap, cp, B, ab, cb, rfl, hop, hpl, hHs, hNm, hob, hO, hb4⟩
                    have hs4 := hb4.size
                    have hbw4 := hbw3.trans (hb4.mono hbw3.size)
                    have hb24 := hb3.trans (hb4.mono hs3)
                    have hbl := bdl_le (colS l j m) p m
                    by_cases hb0 : (bdl (colS l j m) p m).length = 0
                    · have HC2 : Hid (Cls l m k (j + 1) (F ++ [pdn p (k + 1)])) := cls_add HC.out hpl hb0
                      have HPb : Hid (∀ x ∈ p, 0 ≤ x ∧ x ≤ 2147483646) := hNm.bd
                      rw [hb0]
                      obtain ⟨LP, HLP⟩ : ∃ LP, Hid (p.length = LP) := ⟨_, rfl⟩
                      have hop2 : w4.ownsRow wr.heap.size 28 1 (.slice ap p.length cp) p.length ((pad0 p p.length).map (Value.int .u64)) := by rw [pad0_self]; exact hop
                      rw [HLP.out] at hop2 hpl ⊢
                      obtain ⟨w3, hw3⟩ : ∃ w3, w3 = wr := ⟨_, rfl⟩
                      subst hw3
                      have hb4k := hb4
                      clear hop hHs hNm hob hO hb4 hRs hbl hb0
                      go_wp2
                      go_loopw [12] (fun v wr => ∃ i : Nat, LP ≤ i ∧ i ≤ k + 1 ∧ slen v = i ∧ wr.ownsRow w3.heap.size 28 1 v i ((pad0 p i).map (Value.int .u64)) ∧ Below w3.heap.size w3 wr) (fun v _ => k + 1 - slen v)
                      case atStart => exact ⟨LP, Nat.le_refl _, hpl, rfl, hop2, hb4k⟩
                      case round =>
                        clear hop2 hb4k
                        obtain ⟨i, hi1, hi2, hsl, hop, hb5⟩ := hrel
                        obtain ⟨aq, cq, rfl, hcq⟩ := own_slice hop
                        have hs5 := hb5.size
                        by_cases hit : i < k + 1
                        · have HP : Hid ((pad0 p i).map (Value.int .u64) ++ [.int .u64 0] = (pad0 p (i + 1)).map (Value.int .u64)) := by
                            unfold Hid
                            rw [← pad0_snoc (show p.length ≤ i by rw [HLP.out]; exact hi1), List.map_append]; rfl
                          go_wp2_with (at_builtin; refine wpList_appV Try.underlying23 infoU rfl (by omega) _ rfl _ _ rfl w3.heap.size _ _ _ rfl hop (.int .u64 0) rfl rfl (by omega) hs5 ?_; intro v' w7 hown7 hgr7 _; rw [HP.out] at hown7; have hb7 := hb5.grown hgr7 hs5 (fun i hi => (hop.lt i hi).1); obtain ⟨a7, c7, rfl, _⟩ := own_slice hown7; clear hgr7 hop hb5)
                          go_roundw
                          case rel => exact ⟨i + 1, by omega, by omega, rfl, hown7, hb7⟩
                          case measure => simp [slen]; omega
                        · have hit2 : i = k + 1 := by omega
                          subst hit2
                          rw [pad0_pdn HPb.out (by rw [HLP.out]; exact hpl)] at hop
                          obtain ⟨g0, u0, rfl, hg1, hg2, _, _⟩ := own_at hop (show 0 < k + 1 by omega)
                          have hrP : Rd wr (some ⟨g0, 0, none⟩) (k + 1) cq (pdn p (k + 1)) := by
                            obtain ⟨a6, c6, e6, hr6, _⟩ := Rd.own hop (bd_u64 (pdn_bd p (k + 1)))
                            simp only [Value.slice.injEq, true_and] at e6
                            obtain ⟨rfl, rfl⟩ := e6
                            exact hr6
                          have hb25 := hb3.trans (hb5.mono hs3)
                          have hL5 := hL.below hb25
                          have hoL := hL5.own
                          have hne : u8.ownBlock ≠ some g0 := by
                            rcases own_apart hop hoL (by decide) with e | e
                            · rw [e]; simp
                            · simpa [Value.ownBlock] using e
                          have HLA : Hid (∀ v' w', w'.ownsRow wo.heap.size 23 1 v' (j + 1) (bs ++ [.slice (some ⟨g0, 0, none⟩) (k + 1) cq]) → wr.grownBy w' u8.ownBlock → (v'.ownBlock = u8.ownBlock ∨ ∃ q, v'.ownBlock = some q ∧ wr.heap.size ≤ q) → Lst w' wo.heap.size (j + 1) (k + 1) v' (bs ++ [.slice (some ⟨g0, 0, none⟩) (k + 1) cq]) (F ++ [pdn p (k + 1)])) := fun v' w' s1 g1 b1 => hL5.add hrP hg2 hne s1 g1 b1
                          have hbo := hb2.trans (hb25.mono hs2)
                          have hso := hbo.size
                          clear hL5 hrP hne hb25 hb5 hop
                          go_wp2_with (at_builtin; refine wpList_appV Try.underlying83 infoV rfl (by omega) _ rfl _ _ rfl wo.heap.size _ _ _ rfl hoL (.slice (some ⟨g0, 0, none⟩) (k + 1) cq) rfl rfl (by omega) hso ?_; intro v' w7 hown7 hgr7 hat7; have hL7 := HLA.out v' w7 hown7 hgr7 hat7; have hb7 := hbo.grown hgr7 hso (fun i hi => (hoL.lt i hi).1); clear hgr7 hown7 hat7)
                          go_roundw
                          case rel => exact ⟨j + 1, _, _, by omega, by go_num, hL7, HC2, hb7⟩
                          case measure => simp [intOf]; omega
                    · have HJ : Hid (Jnd l m k 0 6) := .inr ⟨k, rfl, by omega, .inr (.inr ⟨HW.out, by omega, .inr ⟨col_no HW.out.1.dis (by omega) hjk3 hpl hHs hb0, rfl, rfl⟩⟩)⟩
                      obtain ⟨LP, HLP⟩ : ∃ LP, Hid (p.length = LP) := ⟨_, rfl⟩
                      obtain ⟨NB, HNB⟩ : ∃ NB, Hid ((bdl (colS l j m) p m).length = NB) := ⟨_, rfl⟩
                      rw [HLP.out, HNB.out]
                      rw [HNB.out] at hb0 hbl
                      have hnb : (0 : Int) < (NB : Int) := by omega
                      clear hop hHs hNm hob hO hb4 hRs hb0
                      go_wp2
                      go_ret2
                      exact ⟨0, 6, rfl, HJ.out, hbw4⟩
              · have hjk2 : j = k + 1 := by omega
                subst hjk2
                obtain ⟨af, cf, rfl, hRR⟩ := hL.rdR (by omega)
                have hjkd : decide ((k : Int) + 1 ≤ (k : Int)) = false := decide_eq_false (by omega)
                have hwid := HC.out.wid
                have HWd : Hid (∀ q, q < k + 1 → (F.getD q []).length = k + 1) := hwid
                clear hwid hL
                go_wp2
                go_loopw [14] (fun v wr => ∃ i : Nat, i ≤ k + 1 ∧ v = .int .i64 i ∧ Hid (∀ a b, a < i → b < a → cn F a b = cn F b a) ∧ Below w2.heap.size w2 wr) (fun v _ => k + 1 - (intOf v).toNat)
                case atStart => exact ⟨0, Nat.zero_le _, rfl, fun a b ha => by omega, Below.refl _ _⟩
                case round =>
                  obtain ⟨i, hi, rfl, HI, hb3⟩ := hrel
                  by_cases hik : i < k + 1
                  · have hik2 : i ≤ k := by omega
                    go_wp2
                    go_loopw [15] (fun v wr => ∃ m : Nat, m ≤ i ∧ v = .int .i64 m ∧ Hid (∀ b, b < m → cn F i b = cn F b i) ∧ Below w2.heap.size w2 wr) (fun v _ => i - (intOf v).toNat)
                    case atStart => exact ⟨0, Nat.zero_le _, rfl, fun b hb => by omega, hb3⟩
                    case round =>
                      clear hb3
                      obtain ⟨m, hm, rfl, HM, hb3⟩ := hrel
                      by_cases hmi : m < i
                      · obtain ⟨bf, of, a1, n1, c1, row1, rfl, hbb1, HR1, hc1, hr1⟩ := (hRR.below hb3).one (show i < k + 1 by omega)
                        obtain ⟨bf', of', a2, n2, c2, row2, e2, hbb2, HR2, hc2, hr2⟩ := (hRR.below hb3).one (show m < k + 1 by omega)
                        simp only [Option.some.injEq, Addr.mk.injEq, and_true] at e2
                        obtain ⟨rfl, rfl⟩ := e2
                        have hn1 : n1 = k + 1 := by have := HWd.out i (by omega); rw [HR1.out, hr1.len] at this; exact this
                        have hn2 : n2 = k + 1 := by have := HWd.out m (by omega); rw [HR2.out, hr2.len] at this; exact this
                        obtain ⟨b1, o1, x, rfl, _, HX, hx0, hx1, hcx⟩ := hr1.one (show m < n1 by omega)
                        obtain ⟨b2, o2, y, rfl, _, HY, hy0, hy1, hcy⟩ := hr2.one (show i < n2 by omega)
                        have HXc : Hid (cn F i m = x) := by unfold Hid cn; rw [HR1.out]; exact HX.out
                        have HYc : Hid (cn F m i = y) := by unfold Hid cn; rw [HR2.out]; exact HY.out
                        have hmn1 : (m : Int) < (n1 : Int) := by omega
                        have hin2 : (i : Int) < (n2 : Int) := by omega
                        have hik4 : (i : Int) < (k : Int) + 1 := by omega
                        have hmk4 : (m : Int) < (k : Int) + 1 := by omega
                        clear hn1 hn2 HR1 HR2 HX HY hr1 hr2
                        by_cases hxy : x = y
                        · have hxb : (x != y) = false := by rw [hxy]; simp
                          have HM2 : Hid (∀ b, b < m + 1 → cn F i b = cn F b i) := fun b hb => by
                            by_cases e : b = m
                            · rw [e, HXc.out, HYc.out]; exact hxy
                            · exact HM.out b (by omega)
                          clear hxy
                          go_wp2
                          go_region
                          all_goals go_wp2
                          all_goals
                            go_roundw
                            case rel => exact ⟨m + 1, by omega, by go_num, HM2, by first | exact hb3.drew | exact hb3.drew.drew⟩
                            case measure => simp [intOf]; omega
                        · have hxb : (x != y) = true := by rw [bne_iff_ne]; exact hxy
                          have HJ : Hid (Jnd l q k 0 6) := .inr ⟨k, rfl, by omega, .inr (.inr ⟨HW.out, by omega, .inr ⟨cls_no HW.out.1.dis (by omega) HC.out (show i ≤ k by omega) (show m ≤ k by omega) (by rw [HXc.out, HYc.out]; exact hxy), rfl, rfl⟩⟩)⟩
                          clear hxy
                          go_wp2
                          go_region
                          all_goals go_wp2
                          all_goals
                            go_ret2
                            exact ⟨0, 6, rfl, HJ.out, by first | exact hbw2.trans (hb3.drew.mono hbw2.size) | exact hbw2.trans (hb3.drew.drew.mono hbw2.size)⟩
                      · have hmi2 : m = i := by omega
                        subst hmi2
                        have HI2 : Hid (∀ a b, a < m + 1 → b < a → cn F a b = cn F b a) := fun a b ha hb => by
                          by_cases e : a = m
                          · rw [e]; exact HM.out b (by omega)
                          · exact HI.out a b (by omega) hb
                        go_wp2
                        go_roundw
                        case rel => exact ⟨m + 1, by omega, by go_num, HI2, hb3⟩
                        case measure => simp [intOf]; omega
                  · have hik2 : i = k + 1 := by omega
                    subst hik2
                    obtain ⟨hTw, hx00⟩ := cls_yes HC.out (fun a b ha hb => HI.out a b (by omega) hb)
                    obtain ⟨bf, of, a1, n1, c1, row1, rfl, hbb1, HR1, hc1, hr1⟩ := (hRR.below hb3).one (show 0 < k + 1 by omega)
                    have hn1 : n1 = k + 1 := by have := HWd.out 0 (by omega); rw [HR1.out, hr1.len] at this; exact this
                    obtain ⟨b1, o1, x, rfl, _, HX, hx0, hx1, hcx⟩ := hr1.one (show 0 < n1 by omega)
                    rw [Nat.add_zero] at hc1 hcx
                    have HXc : Hid (cn F 0 0 = x) := by unfold Hid cn; rw [HR1.out]; exact HX.out
                    have HJ : Hid (Jnd l q k x 0) := .inr ⟨k, rfl, by omega, .inr (.inr ⟨HW.out, by omega, .inl ⟨_, hTw, by rw [← HXc.out]; exact hx00, rfl⟩⟩)⟩
                    have hn10 : (0 : Int) < (n1 : Int) := by omega
                    have hk10 : (0 : Int) < (k : Int) + 1 := by omega
                    clear hn1 HR1 HX hr1 hTw hx00
                    go_wp2
                    go_ret2
                    exact ⟨x, 0, rfl, HJ.out, hbw2.trans (hb3.mono hbw2.size)⟩
end Go.Proofs.Ytiegggenfdebnab

namespace Go.Proofs.Ytiegggenfdebnab
open Crm

theorem dif_yes {l : List (Int × List Int)} {n r s : Nat} {i j : Int} (hr : r < n) (hs : s < n) (ei : ta l r = i) (ej : ta l s = j) (h : nm (ev (tc l r) j) ≠ nm (ev (tc l s) i)) : Dif l n i j := ⟨r, s, hr, hs, ei, ej, h⟩
theorem dis_idx {l : List (Int × List Int)} {n r s : Nat} (hd : dis (ta l) n) (hr : r < n) (hs : s < n) (h : ta l r = ta l s) : r = s := by
  rcases Nat.lt_trichotomy r s with e | e | e
  · exact absurd h ((hd s hs).2 r e)
  · exact e
  · exact absurd h.symm ((hd r hr).2 s e)
theorem dif_no {l : List (Int × List Int)} {n r s : Nat} {i j : Int} (hd : dis (ta l) n) (hr : r < n) (hs : s < n) (ei : ta l r = i) (ej : ta l s = j) (h : nm (ev (tc l r) j) = nm (ev (tc l s) i)) : ¬ Dif l n i j := by
  rintro ⟨r', s', hr', hs', ei', ej', h'⟩
  obtain rfl := dis_idx hd hr' hr (ei'.trans ei.symm)
  obtain rfl := dis_idx hd hs' hs (ej'.trans ej.symm)
  exact h' h
theorem dif_none1 {l : List (Int × List Int)} {n : Nat} {i j : Int} (h : ∀ r, r < n → ta l r ≠ i) : ¬ Dif l n i j := by
  rintro ⟨r, s, hr, hs, ei, ej, h'⟩; exact h r hr ei
theorem dif_none2 {l : List (Int × List Int)} {n : Nat} {i j : Int} (h : ∀ r, r < n → ta l r ≠ j) : ¬ Dif l n i j := by
  rintro ⟨r, s, hr, hs, ei, ej, h'⟩; exact h s hs ej
theorem dif_bd {l : List (Int × List Int)} {n : Nat} {i j : Int} (hd : dis (ta l) n) (h : Dif l n i j) : (1 ≤ i ∧ i ≤ 9) ∧ 1 ≤ j ∧ j ≤ 9 := by
  obtain ⟨r, s, hr, hs, ei, ej, _⟩ := h
  have h1 := (hd r hr).1
  have h2 := (hd s hs).1
  omega

/-- Pairs ahead of (i, j). -/
structure Prj (l : List (Int × List Int)) (n : Nat) (i j : Int) (L : List (Int × Int)) : Prop where
  up : L.Pairwise lexp
  mem : ∀ a b, (a, b) ∈ L ↔ (a < b ∧ Dif l n a b ∧ (a < i ∨ (a = i ∧ b < j)))
theorem prj_start {l : List (Int × List Int)} {n : Nat} (hd : dis (ta l) n) : Prj l n 1 2 [] := ⟨List.Pairwise.nil, fun a b => ⟨fun h => by simp at h, fun ⟨h1, h2, h3⟩ => by have := dif_bd hd h2; omega⟩⟩
theorem prj_skip {l : List (Int × List Int)} {n : Nat} {i j : Int} {L : List (Int × Int)} (h : Prj l n i j L) (hn : ¬ Dif l n i j) : Prj l n i (j + 1) L := by
  refine ⟨h.up, fun a b => ?_⟩
  rw [h.mem]
  constructor
  · rintro ⟨h1, h2, h3⟩; exact ⟨h1, h2, by omega⟩
  · rintro ⟨h1, h2, h3⟩
    refine ⟨h1, h2, ?_⟩
    by_cases e : a = i ∧ b = j
    · obtain ⟨rfl, rfl⟩ := e; exact absurd h2 hn
    · omega
theorem prj_add {l : List (Int × List Int)} {n : Nat} {i j : Int} {L : List (Int × Int)} (h : Prj l n i j L) (hij : i < j) (hd : Dif l n i j) : Prj l n i (j + 1) (L ++ [(i, j)]) := by
  refine ⟨?_, fun a b => ?_⟩
  · rw [List.pairwise_append]
    refine ⟨h.up, by simp, fun x hx y hy => ?_⟩
    rw [List.mem_singleton] at hy
    subst hy
    obtain ⟨a, b⟩ := x
    have := ((h.mem a b).1 hx).2.2
    unfold lexp
    simp only
    omega
  · rw [List.mem_append, h.mem, List.mem_singleton, Prod.mk.injEq]
    constructor
    · rintro (⟨h1, h2, h3⟩ | ⟨rfl, rfl⟩)
      · exact ⟨h1, h2, by omega⟩
      · exact ⟨hij, hd, by omega⟩
    · rintro ⟨h1, h2, h3⟩
      by_cases e : a = i ∧ b = j
      · exact .inr e
      · exact .inl ⟨h1, h2, by omega⟩
theorem prj_next {l : List (Int × List Int)} {n : Nat} {i : Int} {L : List (Int × Int)} (hd : dis (ta l) n) (h : Prj l n i 10 L) : Prj l n (i + 1) (i + 2) L := by
  refine ⟨h.up, fun a b => ?_⟩
  rw [h.mem]
  constructor
  · rintro ⟨h1, h2, h3⟩; exact ⟨h1, h2, by omega⟩
  · rintro ⟨h1, h2, h3⟩
    have := dif_bd hd h2
    exact ⟨h1, h2, by omega⟩
theorem prj_next9 {l : List (Int × List Int)} {n : Nat} {i j : Int} {L : List (Int × Int)} (hd : dis (ta l) n) (h : Prj l n i j L) (hj : 10 ≤ j) : Prj l n (i + 1) (i + 2) L := by
  refine ⟨h.up, fun a b => ?_⟩
  rw [h.mem]
  constructor
  · rintro ⟨h1, h2, h3⟩; exact ⟨h1, h2, by omega⟩
  · rintro ⟨h1, h2, h3⟩
    have := dif_bd hd h2
    exact ⟨h1, h2, by omega⟩
theorem prj_end {l : List (Int × List Int)} {n : Nat} {j : Int} {L : List (Int × Int)} (hd : dis (ta l) n) (h : Prj l n 10 j L) : Prs l n L := by
  refine ⟨h.up, fun a b => ?_⟩
  rw [h.mem]
  constructor
  · rintro ⟨h1, h2, h3⟩; exact ⟨h1, h2⟩
  · rintro ⟨h1, h2⟩
    have := dif_bd hd h2
    exact ⟨h1, h2, by omega⟩
end Go.Proofs.Ytiegggenfdebnab
