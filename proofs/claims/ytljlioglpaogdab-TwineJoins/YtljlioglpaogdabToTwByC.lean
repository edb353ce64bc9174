/- croftref.Join. · What the calls of package twine answer. · The square of numbers of a dealing in two variables: plain facts, and its block. · twine.Need, value, allHave. · (*twine.square).row. · croftkeep.dealt; shares that are written. · Rows by party: the table that package twine makes of rows. · twine.byParty. -/
import Derived.Test.YtljlioglpaogdabToTJoinM
import Derived.Test.YtljlioglpaogdabToRefPolyC
import Derived.Test.YtljlioglpaogdabFitC
import Derived.Test.YtljlioglpaogdabLstC
import Derived.Deep.AppendLies
import Derived.Deep.RegionLaw
import Derived.Test.YtljlioglpaogdabToCheckC
import Derived.Test.YtljlioglpaogdabToTEqC
import Derived.Test.YtljlioglpaogdabToBadM
import Derived.Test.YtljlioglpaogdabToRefProdC
import Derived.Test.YtljlioglpaogdabToTMeetM
import Derived.Laws.Rows
import Derived.Laws.Tables
import Derived.Test.YtljlioglpaogdabToOpenC
import Derived.Laws.AppendOwnNone
import Derived.Test.YtljlioglpaogdabProg
import Derived.Laws.CopyOwn
namespace Go.Proofs.Ytljlioglpaogdab
set_option linter.unusedVariables false
set_option maxRecDepth 100000
set_option maxHeartbeats 8000000
section
open Crm Go.RowKit
/-- A slice of shares that the call itself gathers, and one share more: a step of a region that draws. -/
theorem step_appS {P : Program} {T E : TypeId} (hT : P.underlying T = some (.slice E)) (info : (P.info? E).map (fun i => (i.zero, i.size, i.bytes)) = some (some (.agg #[.int .i64 0, .int .u64 0]), 2, 16))
    (w : World) {w1 : World} {ops : Array Oper} {o : Oper} {a : Act} {K : Act → World → Prop} {Q : Exit → Act → World → Prop} {F : Prop} (hgd : o.guard = none) (s x : Operand)
    (ho : o.op = .call { callee := .builtin .append, args := #[s, x], argTypes := #[T, T] })
    (base : Nat) (v : Value) (n : Nat) (l : List (Int × Int)) (hs : a.eval s = v) (hown : w.ownsRow base E 2 v n (shc l)) (p q : Int) (hx : a.eval x = .slice (some ⟨w.heap.size, 0, none⟩) 1 1)
    (hw1 : w1 = w.alloc (.cells #[.int .i64 p, .int .u64 q] E)) (hn : n ≤ 1000000) (hbase : base ≤ w.heap.size)
    (h : ∀ v' w', w'.ownsRow base E 2 v' (n + 1) (shc (l ++ [(p, q)])) → Below base w w' → K (a.put o.dst v') w') :
    if Region.wanted o (yielded ops a.tmps) = true then Oper.wp P o a w1 K Q else F := by
  subst hw1
  obtain ⟨i0, hi, hz0, hz1, hz2⟩ := info_parts info
  refine step_append_lies _ hgd s x T ho base E i0 (.agg #[.int .i64 0, .int .u64 0]) 2 16 hT hi hz0 hz1 hz2 rfl (by decide) v n _ hs (hown.alloc _) ⟨w.heap.size, 0, none⟩ 1 1 [.int .i64 p, .int .u64 q] hx rfl ?_ ?_ (by decide) (by unfold maxLen; omega) (by omega) (by simp; omega) _ rfl ?_
  · intro j u hj
    match j, hj with
    | 0, hj => simp at hj; subst hj; rw [Addr.add_lit]; exact cell_alloc0 _ _ _ _
    | 1, hj => simp at hj; subst hj; rw [Addr.add_lit]; exact cell_alloc1 _ _ _ _
  · intro u hu; simp at hu; rcases hu with rfl | rfl <;> rfl
  · intro g cap w' hown' hgrow _ _
    refine h _ w' (by rw [shc_snoc]; exact hown') ?_
    exact ((Below.refl _ _).alloc hbase _).grown hgrow (by simp; omega) (fun k hk => (hown.lt k hk).1)

theorem RdW.nbd {w : World} {a : Option Addr} {n c : Nat} {l : List (Int × List Int)} (h : RdW w a n c l) {i : Nat} (hi : i < n) : ∀ x ∈ tc l i, 0 ≤ x ∧ x ≤ 18446744073709551615 := by
  obtain ⟨b, o, x, ai, ni, ci, row, _, _, _, HRow, _, _, _, _, hrow⟩ := h.one hi
  rw [HRow.out]; exact hrow.bd

/-- What Join answers. -/
def Jns (l : List (Int × List Int)) (n : Nat) (t : Int) (w : World) (e : Ending) (w' : World) : Prop := ∃ x r, e = .returned (.tuple #[.int .u64 x, .int .i64 r]) ∧ Jnd l n t x r ∧ Below w.heap.size w w'

theorem rJoin (t : Int) (a : Option Addr) (n c : Nat) (l : List (Int × List Int)) (w : World) (h : RdW w a n c l) :
    Calls Try.prog 22 #[.int .i64 t, .slice a n c] w fun e w' => Jns l n t w e w' := by
  have hcap := h.cap
  have hmax := h.max
  unfold maxLen at hmax
  go_enter Try.func22, Try.ntmps22
  by_cases ht : t < 0 ∨ 4 < t
  · have HT : Hid (t < 0 ∨ 4 < t) := ht
    clear ht
    go_wp2_with (go_at_call 16; refine (rInN _ _ _ _ HT.out).mono ?_; rintro e w' ⟨rfl, hw⟩; have hw := hw.symm; subst hw)
    go_ret2
    exact ⟨0, 1, rfl, .inl ⟨HT.out, rfl, rfl⟩, Below.refl _ _⟩
  · obtain ⟨k, rfl⟩ : ∃ k : Nat, t = k := ⟨t.toNat, by omega⟩
    go_wp2_with fail
    refine (rInY _ _ _ _ (by omega) (by omega)).mono ?_
    rintro e w' ⟨rfl, hw⟩
    have hw := hw.symm
    subst hw
    go_wp2_with fail
    refine (rRows _ _ _ _ _ h).mono ?_
    rintro e w1 ⟨r, rfl, hr, hb1⟩
    have HR : Hid (r = true ↔ Rwk l n) := hr
    clear hr
    go_wp2
    go_loopw [6, 7] (fun v i wr => ∃ (q : Nat) (b : Bool), q ≤ n ∧ i = .int .i64 q ∧ v = .bool b ∧ Hid (b = true ↔ (Rwk l n ∧ ∀ i, i < q → (tc l i).length = k + 1)) ∧ wr = w1) (fun _ i _ => n - (intOf i).toNat)
    case atStart => exact ⟨0, r, Nat.zero_le _, rfl, rfl, ⟨fun e => ⟨HR.out.1 e, fun i hi => by omega⟩, fun e => HR.out.2 e.1⟩, rfl⟩
    case round =>
      obtain ⟨q, b, hq, rfl, rfl, HB, hw⟩ := hrel
      have hw := hw.symm
      subst hw
      by_cases hlt : q < n
      · obtain ⟨b1, o1, x, ai, ni, ci, row, rfl, hbb, HX, HRow, hx0, hx1, hcx, hcr, hrow⟩ := (h.below hb1).one hlt
        have hnl := hrow.len
        have HNL : Hid ((tc l q).length = ni) := by unfold Hid; rw [HRow.out]; exact hnl
        cases b with
        | false =>
          have HB2 : Hid (false = true ↔ (Rwk l n ∧ ∀ i, i < q + 1 → (tc l i).length = k + 1)) := ⟨fun e => (by cases e), fun e => HB.out.2 ⟨e.1, fun i hi => e.2 i (by omega)⟩⟩
          go_wp2
          go_roundw
          case rel => exact ⟨q + 1, false, by omega, by go_num, rfl, HB2, by trivial⟩
          case measure => simp [intOf]; omega
        | true =>
          have HBt := HB.out.1 rfl
          by_cases hni : ni = k + 1
          · have hnb : ((ni : Int) == (k : Int) + 1) = true := by rw [beq_iff_eq]; omega
            have HB2 : Hid (true = true ↔ (Rwk l n ∧ ∀ i, i < q + 1 → (tc l i).length = k + 1)) := ⟨fun _ => ⟨HBt.1, fun i hi => by
              by_cases e : i = q
              · rw [e, HNL.out]; exact hni
              · exact HBt.2 i (by omega)⟩, fun _ => rfl⟩
            clear hni HBt
            go_wp2
            go_roundw
            case rel => exact ⟨q + 1, true, by omega, by go_num, rfl, HB2, by trivial⟩
            case measure => simp [intOf]; omega
          · have hnb : ((ni : Int) == (k : Int) + 1) = false := by rw [beq_eq_false_iff_ne]; omega
            have HB2 : Hid (false = true ↔ (Rwk l n ∧ ∀ i, i < q + 1 → (tc l i).length = k + 1)) := ⟨fun e => (by cases e), fun e => absurd (e.2 q (by omega)) (by rw [HNL.out]; exact hni)⟩
            clear hni HBt
            go_wp2
            go_roundw
            case rel => exact ⟨q + 1, false, by omega, by go_num, rfl, HB2, by trivial⟩
            case measure => simp [intOf]; omega
      · have hqn : q = n := by omega
        subst hqn
        have HB2 : Hid (b = true ↔ Rwt l q k) := HB.out
        clear HB HR
        cases b with
        | false =>
          have HJ : Hid (Jnd l q k 0 5) := .inr ⟨k, rfl, by omega, .inl ⟨fun e => (by have := HB2.out.2 e; cases this), rfl, rfl⟩⟩
          go_wp2
          go_ret2
          exact ⟨0, 5, rfl, HJ.out, hb1⟩
        | true =>
          have HW : Hid (Rwt l q k) := HB2.out.1 rfl
          clear HB2
          by_cases hqk : q ≤ k
          · have HJ : Hid (Jnd l q k 0 4) := .inr ⟨k, rfl, by omega, .inr (.inl ⟨HW.out, hqk, rfl, rfl⟩)⟩
            go_wp2
            go_ret2
            exact ⟨0, 4, rfl, HJ.out, hb1⟩
          · have hq9 := dis_nine HW.out.1.dis
            have hqk2 : decide ((q : Int) < (k : Int) + 1) = false := decide_eq_false (by omega)
            have hqk3 : (k : Int) + 1 ≤ (q : Int) := by omega
            obtain ⟨wo, hwo⟩ : ∃ wo, wo = w1 := ⟨_, rfl⟩
            subst hwo
            have hs1 := hb1.size
            go_wp2
            go_loopw [8, 9] (fun v i wr => ∃ (j : Nat) (bs : List Value) (F : List (List Int)), j ≤ k + 1 ∧ i = .int .i64 j ∧ Lst wr wo.heap.size j (k + 1) v bs F ∧ Hid (Cls l q k j F) ∧ Below wo.heap.size wo wr) (fun _ i _ => k + 1 - (intOf i).toNat)
            case atStart => exact ⟨0, [], [], Nat.zero_le _, rfl, lst_nil _ _ _, cls_nil _ _ _, Below.refl _ _⟩
            case round =>
              obtain ⟨j, bs, F, hj, rfl, hL, HC, hb2⟩ := hrel
              obtain ⟨w2, hw2⟩ : ∃ w2, w2 = wr := ⟨_, rfl⟩
              subst hw2
              have hs2 := hb2.size
              have hbw2 := hb1.trans (hb2.mono hs1)
              by_cases hjk : j < k + 1
              · have hjk2 : decide ((j : Int) ≤ (k : Int)) = true := decide_eq_true (by omega)
                have hjk3 : j ≤ k := by omega
                go_wp2
                go_loopw [10, 11] (fun v i wr => ∃ m : Nat, m ≤ q ∧ i = .int .i64 m ∧ wr.ownsRow w2.heap.size 73 2 v m (shc (colS l j m)) ∧ Below w2.heap.size w2 wr) (fun _ i _ => q - (intOf i).toNat)
                case atStart => exact ⟨0, Nat.zero_le _, rfl, World.ownsRow_nil _ _ _ _, Below.refl _ _⟩
                case round =>
                  obtain ⟨m, hm, rfl, hos, hb3⟩ := hrel
                  have hs3 := hb3.size
                  have hbw3 := hbw2.trans (hb3.mono hbw2.size)
                  by_cases hmq : m < q
                  · obtain ⟨b1, o1, x, ai, ni, ci, row, rfl, hbb, HX, HRow, hx0, hx1, hcx, hcr, hrow⟩ := (h.below hbw3).one hmq
                    have hni : ni = k + 1 := by have := HW.out.2 m hmq; rw [HRow.out, hrow.len] at this; exact this
                    obtain ⟨b2, o2, y, rfl, hbb2, HY, hy0, hy1, hcy⟩ := hrow.one (show j < ni by omega)
                    have HCS : Hid (colS l j m ++ [(x, y)] = colS l j (m + 1)) := colS_snoc l j m HX.out (by rw [HRow.out]; exact HY.out)
                    have hos2 : wr.drew.ownsRow w2.heap.size 73 2 u10 m (shc (colS l j m)) := hos
                    have hb3d := hb3.drew
                    have hjn : (j : Int) < (ni : Int) := by omega
                    have hj0 : (0 : Int) ≤ (j : Int) := by omega
                    have hmqi : (m : Int) < (q : Int) := by omega
                    clear hni
                    go_wp2
                    go_region_law (refine step_appS Try.underlying22 infoSh wr.drew rfl _ _ rfl w2.heap.size _ _ _ rfl hos2 x y rfl rfl (by omega) (by exact hs3) ?_; intro v4 w4 hos4 hb4; rw [HCS.out] at hos4; have hb4' := hb3d.trans hb4)
                    all_goals
                      clear hos hos2 hb3d hb4
                      go_wp2
                      go_roundw
                      case rel => exact ⟨m + 1, by omega, by go_num, hos4, hb4'⟩
                      case measure => simp [intOf]; omega
                  · have hmq2 : m = q := by omega
                    subst hmq2
                    obtain ⟨aS, cS, rfl, hRs⟩ := RdS.own hos (colS_len l j m) (fun r hr => by
                      rw [colS_getD l j hr]
                      have h1 := (HW.out.1 r hr).1.1
                      have h2 := getD_bd (h.nbd hr) j
                      exact ⟨⟨by simp only; omega, by simp only; omega⟩, h2⟩)
                    clear hos
                    go_wp2_with fail
                    refine (rFitO _ _ _ _ k _ hRs (colS_dis HW.out.1.dis j) (by omega)).mono ?_
                    rintro e w4 ⟨p, ap, cp, B, ab, cb, rfl, hop, hpl, hHs, hNm, hob, hO, hb4⟩
                    have hs4 := hb4.size
                    have hbw4 := hbw3.trans (hb4.mono hbw3.size)
                    have hb24 := hb3.trans (hb4.mono hs3)
                    have hbl := bdl_le (colS l j m) p m
                    by_cases hb0 : (bdl (colS l j m) p m).length = 0
                    · have HC2 : Hid (Cls l m k (j + 1) (F ++ [pdn p (k + 1)])) := cls_add HC.out hpl hb0
                      have HPb : Hid (∀ x ∈ p, 0 ≤ x ∧ x ≤ 2147483646) := hNm.bd
                      rw [hb0]
                      obtain ⟨LP, HLP⟩ : ∃ LP, Hid (p.length = LP) := ⟨_, rfl⟩
                      have hop2 : w4.ownsRow wr.heap.size 28 1 (.slice ap p.length cp) p.length ((pad0 p p.length).map (Value.int .u64)) := by rw [pad0_self]; exact hop
                      rw [HLP.out] at hop2 hpl ⊢
                      obtain ⟨w3, hw3⟩ : ∃ w3, w3 = wr := ⟨_, rfl⟩
                      subst hw3
                      have hb4k := hb4
                      clear hop hHs hNm hob hO hb4 hRs hbl hb0
                      go_wp2
                      go_loopw [12] (fun v wr => ∃ i : Nat, LP ≤ i ∧ i ≤ k + 1 ∧ slen v = i ∧ wr.ownsRow w3.heap.size 28 1 v i ((pad0 p i).map (Value.int .u64)) ∧ Below w3.heap.size w3 wr) (fun v _ => k + 1 - slen v)
                      case atStart => exact ⟨LP, Nat.le_refl _, hpl, rfl, hop2, hb4k⟩
                      case round =>
                        clear hop2 hb4k
                        obtain ⟨i, hi1, hi2, hsl, hop, hb5⟩ := hrel
                        obtain ⟨aq, cq, rfl, hcq⟩ := own_slice hop
                        have hs5 := hb5.size
                        by_cases hit : i < k + 1
                        · have HP : Hid ((pad0 p i).map (Value.int .u64) ++ [.int .u64 0] = (pad0 p (i + 1)).map (Value.int .u64)) := by
                            unfold Hid
                            rw [← pad0_snoc (show p.length ≤ i by rw [HLP.out]; exact hi1), List.map_append]; rfl
                          go_wp2_with (at_builtin; refine wpList_appV Try.underlying23 infoU rfl (by omega) _ rfl _ _ rfl w3.heap.size _ _ _ rfl hop (.int .u64 0) rfl rfl (by omega) hs5 ?_; intro v' w7 hown7 hgr7 _; rw [HP.out] at hown7; have hb7 := hb5.grown hgr7 hs5 (fun i hi => (hop.lt i hi).1); obtain ⟨a7, c7, rfl, _⟩ := own_slice hown7; clear hgr7 hop hb5)
                          go_roundw
                          case rel => exact ⟨i + 1, by omega, by omega, rfl, hown7, hb7⟩
                          case measure => simp [slen]; omega
                        · have hit2 : i = k + 1 := by omega
                          subst hit2
                          rw [pad0_pdn HPb.out (by rw [HLP.out]; exact hpl)] at hop
                          obtain ⟨g0, u0, rfl, hg1, hg2, _, _⟩ := own_at hop (show 0 < k + 1 by omega)
                          have hrP : Rd wr (some ⟨g0, 0, none⟩) (k + 1) cq (pdn p (k + 1)) := by
                            obtain ⟨a6, c6, e6, hr6, _⟩ := Rd.own hop (bd_u64 (pdn_bd p (k + 1)))
                            simp only [Value.slice.injEq, true_and] at e6
                            obtain ⟨rfl, rfl⟩ := e6
                            exact hr6
                          have hb25 := hb3.trans (hb5.mono hs3)
                          have hL5 := hL.below hb25
                          have hoL := hL5.own
                          have hne : u8.ownBlock ≠ some g0 := by
                            rcases own_apart hop hoL (by decide) with e | e
                            · rw [e]; simp
                            · simpa [Value.ownBlock] using e
                          have HLA : Hid (∀ v' w', w'.ownsRow wo.heap.size 23 1 v' (j + 1) (bs ++ [.slice (some ⟨g0, 0, none⟩) (k + 1) cq]) → wr.grownBy w' u8.ownBlock → (v'.ownBlock = u8.ownBlock ∨ ∃ q, v'.ownBlock = some q ∧ wr.heap.size ≤ q) → Lst w' wo.heap.size (j + 1) (k + 1) v' (bs ++ [.slice (some ⟨g0, 0, none⟩) (k + 1) cq]) (F ++ [pdn p (k + 1)])) := fun v' w' s1 g1 b1 => hL5.add hrP hg2 hne s1 g1 b1
                          have hbo := hb2.trans (hb25.mono hs2)
                          have hso := hbo.size
                          clear hL5 hrP hne hb25 hb5 hop
                          go_wp2_with (at_builtin; refine wpList_appV Try.underlying60 infoV rfl (by omega) _ rfl _ _ rfl wo.heap.size _ _ _ rfl hoL (.slice (some ⟨g0, 0, none⟩) (k + 1) cq) rfl rfl (by omega) hso ?_; intro v' w7 hown7 hgr7 hat7; have hL7 := HLA.out v' w7 hown7 hgr7 hat7; have hb7 := hbo.grown hgr7 hso (fun i hi => (hoL.lt i hi).1); clear hgr7 hown7 hat7)
                          go_roundw
                          case rel => exact ⟨j + 1, _, _, by omega, by go_num, hL7, HC2, hb7⟩
                          case measure => simp [intOf]; omega
                    · have HJ : Hid (Jnd l m k 0 6) := .inr ⟨k, rfl, by omega, .inr (.inr ⟨HW.out, by omega, .inr ⟨col_no HW.out.1.dis (by omega) hjk3 hpl hHs hb0, rfl, rfl⟩⟩)⟩
                      obtain ⟨LP, HLP⟩ : ∃ LP, Hid (p.length = LP) := ⟨_, rfl⟩
                      obtain ⟨NB, HNB⟩ : ∃ NB, Hid ((bdl (colS l j m) p m).length = NB) := ⟨_, rfl⟩
                      rw [HLP.out, HNB.out]
                      rw [HNB.out] at hb0 hbl
                      have hnb : (0 : Int) < (NB : Int) := by omega
                      clear hop hHs hNm hob hO hb4 hRs hb0
                      go_wp2
                      go_ret2
                      exact ⟨0, 6, rfl, HJ.out, hbw4⟩
              · have hjk2 : j = k + 1 := by omega
                subst hjk2
                obtain ⟨af, cf, rfl, hRR⟩ := hL.rdR (by omega)
                have hjkd : decide ((k : Int) + 1 ≤ (k : Int)) = false := decide_eq_false (by omega)
                have hwid := HC.out.wid
                have HWd : Hid (∀ q, q < k + 1 → (F.getD q []).length = k + 1) := hwid
                clear hwid hL
                go_wp2
                go_loopw [14] (fun v wr => ∃ i : Nat, i ≤ k + 1 ∧ v = .int .i64 i ∧ Hid (∀ a b, a < i → b < a → cn F a b = cn F b a) ∧ Below w2.heap.size w2 wr) (fun v _ => k + 1 - (intOf v).toNat)
                case atStart => exact ⟨0, Nat.zero_le _, rfl, fun a b ha => by omega, Below.refl _ _⟩
                case round =>
                  obtain ⟨i, hi, rfl, HI, hb3⟩ := hrel
                  by_cases hik : i < k + 1
                  · have hik2 : i ≤ k := by omega
                    go_wp2
                    go_loopw [15] (fun v wr => ∃ m : Nat, m ≤ i ∧ v = .int .i64 m ∧ Hid (∀ b, b < m → cn F i b = cn F b i) ∧ Below w2.heap.size w2 wr) (fun v _ => i - (intOf v).toNat)
                    case atStart => exact ⟨0, Nat.zero_le _, rfl, fun b hb => by omega, hb3⟩
                    case round =>
                      clear hb3
                      obtain ⟨m, hm, rfl, HM, hb3⟩ := hrel
                      by_cases hmi : m < i
                      · obtain ⟨bf, of, a1, n1, c1, row1, rfl, hbb1, HR1, hc1, hr1⟩ := (hRR.below hb3).one (show i < k + 1 by omega)
                        obtain ⟨bf', of', a2, n2, c2, row2, e2, hbb2, HR2, hc2, hr2⟩ := (hRR.below hb3).one (show m < k + 1 by omega)
                        simp only [Option.some.injEq, Addr.mk.injEq, and_true] at e2
                        obtain ⟨rfl, rfl⟩ := e2
                        have hn1 : n1 = k + 1 := by have := HWd.out i (by omega); rw [HR1.out, hr1.len] at this; exact this
                        have hn2 : n2 = k + 1 := by have := HWd.out m (by omega); rw [HR2.out, hr2.len] at this; exact this
                        obtain ⟨b1, o1, x, rfl, _, HX, hx0, hx1, hcx⟩ := hr1.one (show m < n1 by omega)
                        obtain ⟨b2, o2, y, rfl, _, HY, hy0, hy1, hcy⟩ := hr2.one (show i < n2 by omega)
                        have HXc : Hid (cn F i m = x) := by unfold Hid cn; rw [HR1.out]; exact HX.out
                        have HYc : Hid (cn F m i = y) := by unfold Hid cn; rw [HR2.out]; exact HY.out
                        have hmn1 : (m : Int) < (n1 : Int) := by omega
                        have hin2 : (i : Int) < (n2 : Int) := by omega
                        have hik4 : (i : Int) < (k : Int) + 1 := by omega
                        have hmk4 : (m : Int) < (k : Int) + 1 := by omega
                        clear hn1 hn2 HR1 HR2 HX HY hr1 hr2
                        by_cases hxy : x = y
                        · have hxb : (x != y) = false := by rw [hxy]; simp
                          have HM2 : Hid (∀ b, b < m + 1 → cn F i b = cn F b i) := fun b hb => by
                            by_cases e : b = m
                            · rw [e, HXc.out, HYc.out]; exact hxy
                            · exact HM.out b (by omega)
                          clear hxy
                          go_wp2
                          go_region
                          all_goals go_wp2
                          all_goals
                            go_roundw
                            case rel => exact ⟨m + 1, by omega, by go_num, HM2, by first | exact hb3.drew | exact hb3.drew.drew⟩
                            case measure => simp [intOf]; omega
                        · have hxb : (x != y) = true := by rw [bne_iff_ne]; exact hxy
                          have HJ : Hid (Jnd l q k 0 6) := .inr ⟨k, rfl, by omega, .inr (.inr ⟨HW.out, by omega, .inr ⟨cls_no HW.out.1.dis (by omega) HC.out (show i ≤ k by omega) (show m ≤ k by omega) (by rw [HXc.out, HYc.out]; exact hxy), rfl, rfl⟩⟩)⟩
                          clear hxy
                          go_wp2
                          go_region
                          all_goals go_wp2
                          all_goals
                            go_ret2
                            exact ⟨0, 6, rfl, HJ.out, by first | exact hbw2.trans (hb3.drew.mono hbw2.size) | exact hbw2.trans (hb3.drew.drew.mono hbw2.size)⟩
                      · have hmi2 : m = i := by omega
                        subst hmi2
                        have HI2 : Hid (∀ a b, a < m + 1 → b < a → cn F a b = cn F b a) := fun a b ha hb => by
                          by_cases e : a = m
                          · rw [e]; exact HM.out b (by omega)
                          · exact HI.out a b (by omega) hb
                        go_wp2
                        go_roundw
                        case rel => exact ⟨m + 1, by omega, by go_num, HI2, hb3⟩
                        case measure => simp [intOf]; omega
                  · have hik2 : i = k + 1 := by omega
                    subst hik2
                    obtain ⟨hTw, hx00⟩ := cls_yes HC.out (fun a b ha hb => HI.out a b (by omega) hb)
                    obtain ⟨bf, of, a1, n1, c1, row1, rfl, hbb1, HR1, hc1, hr1⟩ := (hRR.below hb3).one (show 0 < k + 1 by omega)
                    have hn1 : n1 = k + 1 := by have := HWd.out 0 (by omega); rw [HR1.out, hr1.len] at this; exact this
                    obtain ⟨b1, o1, x, rfl, _, HX, hx0, hx1, hcx⟩ := hr1.one (show 0 < n1 by omega)
                    rw [Nat.add_zero] at hc1 hcx
                    have HXc : Hid (cn F 0 0 = x) := by unfold Hid cn; rw [HR1.out]; exact HX.out
                    have HJ : Hid (Jnd l q k x 0) := .inr ⟨k, rfl, by omega, .inr (.inr ⟨HW.out, by omega, .inl ⟨_, hTw, by rw [← HXc.out]; exact hx00, rfl⟩⟩)⟩
                    have hn10 : (0 : Int) < (n1 : Int) := by omega
                    have hk10 : (0 : Int) < (k : Int) + 1 := by omega
                    clear hn1 HR1 HX hr1 hTw hx00
                    go_wp2
                    go_ret2
                    exact ⟨x, 0, rfl, HJ.out, hbw2.trans (hb3.mono hbw2.size)⟩
/-- What Pairs answers. -/
def Pss (l : List (Int × List Int)) (n : Nat) (w : World) (e : Ending) (w' : World) : Prop :=
  ((¬ Rwk l n ∧ e = .returned (.tuple #[.slice none 0 0, .int .i64 5])) ∨ (Rwk l n ∧ ∃ a k c L, e = .returned (.tuple #[.slice a k c, .int .i64 0]) ∧ RdP w' a k c L ∧ Prs l n L)) ∧ Below w.heap.size w w'
/-- Block g holds the square's numbers. -/
def BlkQ (w : World) (g : Nat) (C : List Int) : Prop := w.heap[g]? = some (.cells (C.map (Value.int .u64)).toArray 79 (0, 0))
theorem BlkQ.lt {w : World} {g : Nat} {C : List Int} (h : BlkQ w g C) : g < w.heap.size := (Array.getElem?_eq_some_iff.1 h).1
theorem BlkQ.cell {w : World} {g : Nat} {C : List Int} (h : BlkQ w g C) {i : Nat} (hi : i < C.length) : w.cell? ⟨g, i, none⟩ = some (.int .u64 (C.getD i 0)) := by
  rw [cell_of_row w g i _ _ (0, 0) h]
  simp [List.getElem?_eq_getElem hi]
theorem BlkQ.frozen {w : World} {g : Nat} {C : List Int} (h : BlkQ w g C) (i : Nat) : w.frozen? ⟨g, i, none⟩ = false := frozen_of_row w g i _ _ h
theorem BlkQ.set {w : World} {g : Nat} {C : List Int} (h : BlkQ w g C) (i : Nat) (v : Int) : BlkQ (w.setCell ⟨g, i, none⟩ (.int .u64 v)) g (C.set i v) := by
  have := heap_setCell_same w g i _ _ (.int .u64 v) h
  unfold BlkQ
  rw [this]
  simp [List.map_set]
theorem BlkQ.below {w w' : World} {B g : Nat} {C : List Int} (h : BlkQ w g C) (hb : Below B w w') (hg : g < B) : BlkQ w' g C := by
  unfold BlkQ; rw [hb.block g hg]; exact h
theorem BlkQ.other {w : World} {g g' i : Nat} {C : List Int} {v : Value} (h : BlkQ w g C) (hg : g' ≠ g) : BlkQ (w.setCell ⟨g', i, none⟩ v) g C := by
  unfold BlkQ; rw [heap_setCell_other w ⟨g', i, none⟩ g v (fun e => hg e.symm)]; exact h
/-- A part of a row of it. -/
theorem BlkQ.rd {w : World} {g : Nat} {C : List Int} (h : BlkQ w g C) (o n c : Nat) (hc : n ≤ c) (hm : c ≤ maxLen) (hn : o + n ≤ C.length) (hL : ∀ x ∈ C, 0 ≤ x ∧ x ≤ 18446744073709551615) : Rd w (some ⟨g, o, none⟩) n c ((C.drop o).take n) := by
  refine ⟨by simp; omega, hc, hm, fun x hx => hL x (List.mem_of_mem_drop (List.mem_of_mem_take hx)), by simp, fun x hx i hi => ?_⟩
  obtain rfl := Option.some.inj hx
  rw [Addr.add_lit, h.cell (by omega)]
  congr 2
  simp [hi]
theorem cAllHave (a : Option Addr) (n c : Nat) (l : List (Int × List Int)) (k : Nat) (w : World) (h : RdW w a n c l) :
    Calls Try.prog 52 #[.slice a n c, .int .i64 k] w fun e w' => Tells (∀ i, i < n → (tc l i).length = k) w e w' := by
  have hcap := h.cap
  have hmax := h.max
  unfold maxLen at hmax
  go_enter Try.func52, Try.ntmps52
  go_wp2
  go_loopw [9] (fun i wr => ∃ q : Nat, q ≤ n ∧ i = .int .i64 q ∧ Hid (∀ i, i < q → (tc l i).length = k) ∧ Below w.heap.size w wr) (fun i _ => n - (intOf i).toNat)
  case atStart => exact ⟨0, Nat.zero_le _, rfl, fun i hi => by omega, Below.refl _ _⟩
  case round =>
    obtain ⟨q, hq, rfl, HQ, hbel⟩ := hrel
    have hs1 := hbel.size
    by_cases hlt : q < n
    · obtain ⟨b, o, x, ai, ni, ci, row, rfl, hbb, HX, HRow, hx0, hx1, hcx, hcr, hrow⟩ := (h.below hbel).one hlt
      have hnl := hrow.len
      have hnc := hrow.cap
      have hnm := hrow.max
      unfold maxLen at hnm
      have HNL : Hid ((tc l q).length = ni) := by unfold Hid; rw [HRow.out]; exact hnl
      have hbA := hbel.alloc hs1 (.cells #[.int .i64 x, .slice ai ni ci] 83)
      have hcA1 := cell_alloc1 wr (.int .i64 x) (.slice ai ni ci) 83
      by_cases hni : ni = k
      · have hnb : ((ni : Int) != (k : Int)) = false := by rw [bne_eq_false_iff_eq]; omega
        have HQ2 : Hid (∀ i, i < q + 1 → (tc l i).length = k) := fun i hi => by
          by_cases e : i = q
          · rw [e, HNL.out]; exact hni
          · exact HQ.out i (by omega)
        clear hni
        go_wp2
        go_roundw
        case rel => exact ⟨q + 1, by omega, by go_num, HQ2, hbA⟩
        case measure => simp [intOf]; omega
      · have hnb : ((ni : Int) != (k : Int)) = true := by rw [bne_iff_ne]; omega
        have HN : Hid (¬ ∀ i, i < n → (tc l i).length = k) := fun hh => hni (by have := hh q hlt; rw [HNL.out] at this; exact this)
        clear hni
        go_wp2
        go_ret
        exact .no HN.out hbA
    · have hqn : q = n := by omega
      subst hqn
      go_wp2
      go_ret
      exact .yes HQ.out hbel
/-- A row of the call's own, all of it. -/
theorem Blk.own {w : World} {g n B : Nat} {L : List Int} (h : Blk w g L) (hl : L.length = n) (hB : B ≤ g) (hn : n ≤ 1000) : w.ownsRow B 28 1 (.slice (some ⟨g, 0, none⟩) n n) n (L.map (Value.int .u64)) :=
  ⟨by simp [hl], .inr ⟨g, n, _, rfl, hB, h, Nat.le_refl _, by unfold maxLen; omega, by simp [hl], by rw [List.take_of_length_le (by simp [hl])]⟩⟩
theorem own_set2 {w : World} {B n c g : Nat} {E : TypeId} {xs : List Value} (h : w.ownsRow B E 2 (.slice (some ⟨g, 0, none⟩) n c) n xs) (i : Nat) (u : Value) : (w.setCell ⟨g, i, none⟩ u).ownsRow B E 2 (.slice (some ⟨g, 0, none⟩) n c) n (xs.set i u) := by
  refine ⟨by rw [List.length_set]; exact h.1, .inr ?_⟩
  rcases h.2 with ⟨e, _⟩ | ⟨g', cap, cur, e, hb, hg, h1, h2, hs, ht⟩
  · simp at e
  · simp only [Value.slice.injEq, Option.some.injEq, Addr.mk.injEq, and_true, true_and] at e
    obtain ⟨rfl, rfl⟩ := e
    refine ⟨g, c, _, rfl, hb, heap_setCell_same w g i _ _ _ hg, h1, h2, by simpa using hs, ?_⟩
    rw [← ht]
    simp [List.take_set]
theorem own_frozen2 {w : World} {B n c g : Nat} {E : TypeId} {xs : List Value} (h : w.ownsRow B E 2 (.slice (some ⟨g, 0, none⟩) n c) n xs) (i : Nat) : w.frozen? ⟨g, i, none⟩ = false := by
  rcases h.2 with ⟨e, _⟩ | ⟨g', cap, cur, e, hb, hg, _⟩
  · simp at e
  · simp only [Value.slice.injEq, Option.some.injEq, Addr.mk.injEq, and_true, true_and] at e
    obtain ⟨rfl, rfl⟩ := e
    exact frozen_of_row w g i _ _ hg
theorem sh_cell {w : World} {base n c g : Nat} {E : TypeId} {l : List (Int × Int)} (h : w.ownsRow base E 2 (.slice (some ⟨g, 0, none⟩) n c) n (shc l)) (hl : l.length = n) {k : Nat} (hk : k < n) :
    w.cell? ⟨g, k * 2, none⟩ = some (.int .i64 (l.getD k (0, 0)).1) ∧ w.cell? ⟨g, k * 2 + 1, none⟩ = some (.int .u64 (l.getD k (0, 0)).2) := by
  have h1 := shc_get l k (by omega)
  have a1 := h.cells (g := g) rfl _ _ h1.1
  have a2 := h.cells (g := g) rfl _ _ h1.2
  rw [Addr.add_lit] at a1 a2
  exact ⟨by simpa using a1, by simpa using a2⟩
/-- No row. -/
def nil10 : List Value := List.replicate 10 (.slice none 0 0)
/-- Block g holds the table S. -/
def BlkV (w : World) (g : Nat) (S : List Value) : Prop := w.heap[g]? = some (.cells S.toArray 89 (0, 0))
theorem BlkV.lt {w : World} {g : Nat} {S : List Value} (h : BlkV w g S) : g < w.heap.size := (Array.getElem?_eq_some_iff.1 h).1
theorem BlkV.cell {w : World} {g : Nat} {S : List Value} (h : BlkV w g S) {i : Nat} {v : Value} (hi : S[i]? = some v) : w.cell? ⟨g, i, none⟩ = some v := by
  rw [cell_of_row w g i _ _ (0, 0) h]
  simpa using hi
theorem BlkV.frozen {w : World} {g : Nat} {S : List Value} (h : BlkV w g S) (i : Nat) : w.frozen? ⟨g, i, none⟩ = false := frozen_of_row w g i _ _ h
theorem BlkV.set {w : World} {g : Nat} {S : List Value} (h : BlkV w g S) (i : Nat) (v : Value) : BlkV (w.setCell ⟨g, i, none⟩ v) g (S.set i v) := by
  have := heap_setCell_same w g i _ _ v h
  unfold BlkV
  rw [this]
  simp
theorem BlkV.below {w w' : World} {B g : Nat} {S : List Value} (h : BlkV w g S) (hb : Below B w w') (hg : g < B) : BlkV w' g S := by
  unfold BlkV; rw [hb.block g hg]; exact h
theorem BlkV.other {w : World} {g g' i : Nat} {S : List Value} {v : Value} (h : BlkV w g S) (hg : g' ≠ g) : BlkV (w.setCell ⟨g', i, none⟩ v) g S := by
  unfold BlkV; rw [heap_setCell_other w ⟨g', i, none⟩ g v (fun e => hg e.symm)]; exact h

/-- The table has the first k rows of l, each at its party. -/
structure Pt (w : World) (l : List (Int × List Int)) (k : Nat) (S : List Value) : Prop where
  len : S.length = 10
  row : ∀ p : Nat, p < 10 → ∃ a m c, S[p]? = some (.slice a m c) ∧ m ≤ 5 ∧ ((m = 0 ∧ ∀ r, r < k → ta l r ≠ (p : Int)) ∨ (∃ r, r < k ∧ ta l r = (p : Int) ∧ 1 ≤ m ∧ Rd w a m c (tc l r)))
  rwk : Rwk l k
theorem Pt.below {w w' : World} {l : List (Int × List Int)} {k : Nat} {S : List Value} (h : Pt w l k S) (hb : Below w.heap.size w w') : Pt w' l k S := by
  refine ⟨h.len, fun p hp => ?_, h.rwk⟩
  obtain ⟨a, m, c, h1, h2, h3⟩ := h.row p hp
  refine ⟨a, m, c, h1, h2, ?_⟩
  rcases h3 with h3 | ⟨r, r1, r2, r3, r4⟩
  · exact .inl h3
  · exact .inr ⟨r, r1, r2, r3, r4.below hb⟩
theorem pt_start (w : World) (l : List (Int × List Int)) : Pt w l 0 nil10 :=
  ⟨rfl, fun p hp => ⟨none, 0, 0, by unfold nil10; rw [List.getElem?_replicate, if_pos hp], by omega, .inl ⟨rfl, fun r hr => by omega⟩⟩, rwk_zero l⟩
theorem pt_step {w : World} {l : List (Int × List Int)} {k p m c c0 : Nat} {S : List Value} {a a0 : Option Addr} (h : Pt w l k S) (hp : ta l k = (p : Int)) (h1 : 1 ≤ p) (h9 : p ≤ 9) (hr : Rd w a m c (tc l k)) (m1 : 1 ≤ m) (m5 : m ≤ 5) (hS : S[p]? = some (.slice a0 0 c0)) : Pt w l (k + 1) (S.set p (.slice a m c)) := by
  have hno : ∀ r, r < k → ta l r ≠ (p : Int) := by
    obtain ⟨a', m', c', e1, e2, e3⟩ := h.row p (by omega)
    rw [hS] at e1
    simp only [Option.some.injEq, Value.slice.injEq] at e1
    obtain ⟨rfl, rfl, rfl⟩ := e1
    rcases e3 with e3 | ⟨r, _, _, e4, _⟩
    · exact e3.2
    · omega
  have hl := h.len
  refine ⟨by rw [List.length_set]; exact hl, fun q hq => ?_, rwk_succ h.rwk hp hr.len (by omega) (by omega) m1 m5 hno⟩
  by_cases e : q = p
  · subst e
    exact ⟨a, m, c, by rw [List.getElem?_set_self (by omega)], m5, .inr ⟨k, by omega, hp, m1, hr⟩⟩
  · obtain ⟨a', m', c', e1, e2, e3⟩ := h.row q hq
    refine ⟨a', m', c', by rw [List.getElem?_set_ne (fun e' => e e'.symm)]; exact e1, e2, ?_⟩
    rcases e3 with ⟨e3, e4⟩ | ⟨r, e3, e4, e5, e6⟩
    · refine .inl ⟨e3, fun r hr => ?_⟩
      by_cases er : r = k
      · rw [er, hp]; omega
      · exact e4 r (by omega)
    · exact .inr ⟨r, by omega, e4, e5, e6⟩
theorem pt_twice {w : World} {l : List (Int × List Int)} {k n p m c : Nat} {S : List Value} {a : Option Addr} (h : Pt w l k S) (hk : k < n) (hp : ta l k = (p : Int)) (h9 : p ≤ 9) (hS : S[p]? = some (.slice a m c)) (hm : 0 < m) : ¬ Rwk l n := fun hR => by
  obtain ⟨a', m', c', e1, e2, e3⟩ := h.row p (by omega)
  rw [hS] at e1
  simp only [Option.some.injEq, Value.slice.injEq] at e1
  obtain ⟨rfl, rfl, rfl⟩ := e1
  rcases e3 with e3 | ⟨r, e4, e5, _, _⟩
  · omega
  · exact (hR k hk).1.2 r e4 (by rw [e5, hp])
theorem nil10_one : (nil10.toArray.all (·.oneCell')) = true := by
  rw [Array.all_eq_true_iff_forall_mem]
  intro v hv
  obtain rfl := List.eq_of_mem_replicate (show v ∈ List.replicate 10 _ from (by simpa [nil10] using hv : v ∈ nil10))
  rfl
theorem Pt.one {w : World} {l : List (Int × List Int)} {k : Nat} {S : List Value} (h : Pt w l k S) : (S.toArray.all (·.oneCell')) = true := by
  rw [Array.all_eq_true_iff_forall_mem]
  intro v hv
  obtain ⟨i, hi, rfl⟩ := List.getElem_of_mem (show v ∈ S by simpa using hv)
  obtain ⟨a, m, c, h1, _⟩ := h.row i (by have := h.len; omega)
  rw [List.getElem?_eq_getElem hi] at h1
  rw [Option.some.inj h1]
  rfl
theorem Pt.size {w : World} {l : List (Int × List Int)} {k : Nat} {S : List Value} (h : Pt w l k S) : S.toArray.size = 10 := by simpa using h.len
/-- What byParty answers. -/
def Byp (l : List (Int × List Int)) (n : Nat) (w : World) (e : Ending) (w' : World) : Prop :=
  ((∃ S, Pt w' l n S ∧ e = .returned (.tuple #[.agg S.toArray, .bool true])) ∨ (¬ Rwk l n ∧ e = .returned (.tuple #[.agg nil10.toArray, .bool false]))) ∧ Below w.heap.size w w'
theorem results_two {P : Program} {fn : Func} {p q : Tmp} {ty : TypeId} (h : fn.results = #[.cell p ty, .tmp q]) {tmps : Array Value} {w : World} {g : Nat} {v u : Value} (hl : (loadVar ty ⟨g, 0, none⟩).run P w = .ok v w)
    (hp : tmps.getD p undef = .pointer (some ⟨g, 0, none⟩)) (hq : tmps.getD q undef = u) : (results fn tmps).run P w = .ok (.tuple #[v, u]) w := by
  have hp' : tmps[p]?.getD undef = .pointer (some ⟨g, 0, none⟩) := by simpa using hp
  have hq' : tmps[q]?.getD undef = u := by simpa using hq
  simp [results, h, hp', hq', asAddr, hl]
theorem infoPt : (Try.prog.info? 89).map (·.size) = some 10 := by kernel_rfl
theorem by_new (w : World) : BlkV ((w.alloc (.cells nil10.toArray 89)).alloc (.cells nil10.toArray 89)) w.heap.size nil10 ∧ BlkV ((w.alloc (.cells nil10.toArray 89)).alloc (.cells nil10.toArray 89)) (w.heap.size + 1) nil10 ∧ Below w.heap.size w ((w.alloc (.cells nil10.toArray 89)).alloc (.cells nil10.toArray 89)) := by
  have h1 : BlkV (w.alloc (.cells nil10.toArray 89)) w.heap.size nil10 := heap_alloc_new w _
  have h2 : BlkV ((w.alloc (.cells nil10.toArray 89)).alloc (.cells nil10.toArray 89)) (w.alloc (.cells nil10.toArray 89)).heap.size nil10 := heap_alloc_new _ _
  have e : (w.alloc (.cells nil10.toArray 89)).heap.size = w.heap.size + 1 := by simp
  rw [e] at h2
  exact ⟨h1.below ((Below.refl _ _).alloc (Nat.le_refl _) _) h1.lt, h2, ((Below.refl _ _).alloc (Nat.le_refl _) _).alloc (by simp) _⟩

theorem cByParty (a : Option Addr) (n c : Nat) (l : List (Int × List Int)) (w : World) (h : RdW w a n c l) :
    Calls Try.prog 50 #[.slice a n c] w fun e w' => Byp l n w e w' := by
  have hcap := h.cap
  have hmax := h.max
  unfold maxLen at hmax
  go_enter Try.func50, Try.ntmps50
  go_wp2
  go_loopw [9] (fun i wr => ∃ (k : Nat) (S : List Value), k ≤ n ∧ i = .int .i64 k ∧ BlkV wr w.heap.size nil10 ∧ BlkV wr (w.heap.size + 1) S ∧ Hid (Pt w l k S) ∧ Below w.heap.size w wr) (fun i _ => n - (intOf i).toNat)
  case atStart => exact ⟨0, nil10, Nat.zero_le _, rfl, (by_new w).1, (by_new w).2.1, pt_start w l, (by_new w).2.2⟩
  case round =>
    obtain ⟨k, S, hk, rfl, hB0, hB1, HP, hbel⟩ := hrel
    have hs1 := hbel.size
    by_cases hlt : k < n
    · obtain ⟨b, o, x, ai, ni, ci, row, rfl, hbb, HX, HRow, hx0, hx1, hcx0, hcr0, hrow⟩ := h.one hlt
      have hcx := hcx0
      rw [← hbel.cell (p := ⟨b, o + k * 2, none⟩) hbb] at hcx
      have hcr := hcr0
      rw [← hbel.cell (p := ⟨b, o + k * 2 + 1, none⟩) hbb] at hcr
      have hnl := hrow.len
      have hnc := hrow.cap
      have hnm := hrow.max
      unfold maxLen at hnm
      have hbA0 : Below wr.heap.size wr (wr.alloc (.cells #[.int .i64 x, .slice ai ni ci] 83)) := (Below.refl _ _).alloc (Nat.le_refl _) _
      have hbA := hbel.trans (hbA0.mono hs1)
      have hA0 := hB0.below hbA0 hB0.lt
      have hA1 := hB1.below hbA0 hB1.lt
      have hcA0 := cell_alloc0 wr (.int .i64 x) (.slice ai ni ci) 83
      have hcA1 := cell_alloc1 wr (.int .i64 x) (.slice ai ni ci) 83
      have hbZ := below_setRow hbA (Nat.le_refl _) nil10.toArray
      have HZ : Hid (_ = _) := run_loadVar_row (P := Try.prog) _ w.heap.size 89 89 nil10.toArray (0, 0) _ (setRow_heap _ w.heap.size _ nil10.toArray _ (0, 0) hA0) Try.underlying89 rfl infoPt
      clear hbA0 hB0 hB1
      by_cases hx2 : x < 1
      · have HN : Hid (¬ Rwk l n) := fun hk => by have := (hk k hlt).1.1; rw [HX.out] at this; omega
        go_wp2_with (refine wpList_store_row rfl 89 _ _ rfl w.heap.size nil10.toArray rfl rfl 89 nil10.toArray hA0 infoPt rfl nil10_one ?_)
        exact bodyPost_ret (v := .tuple #[.agg nil10.toArray, .bool false]) (results_two Try.results50 HZ.out rfl rfl) rfl ⟨.inr ⟨HN.out, rfl⟩, hbZ⟩
      · by_cases hx9 : 9 < x
        · have HN : Hid (¬ Rwk l n) := fun hk => by have := (hk k hlt).1.1; rw [HX.out] at this; omega
          go_wp2_with (refine wpList_store_row rfl 89 _ _ rfl w.heap.size nil10.toArray rfl rfl 89 nil10.toArray hA0 infoPt rfl nil10_one ?_)
          exact bodyPost_ret (v := .tuple #[.agg nil10.toArray, .bool false]) (results_two Try.results50 HZ.out rfl rfl) rfl ⟨.inr ⟨HN.out, rfl⟩, hbZ⟩
        · obtain ⟨p, rfl⟩ : ∃ p : Nat, x = p := ⟨x.toNat, by omega⟩
          obtain ⟨a0, m0, c0, hS0, hm5, hm0⟩ := HP.out.row p (by omega)
          have hcS := hA1.cell hS0
          have hltA := hA1.lt
          by_cases hm : 0 < m0
          · have HN : Hid (¬ Rwk l n) := pt_twice HP.out hlt HX.out (by omega) hS0 hm
            clear hm0
            go_wp2_with (refine wpList_store_row rfl 89 _ _ rfl w.heap.size nil10.toArray rfl rfl 89 nil10.toArray hA0 infoPt rfl nil10_one ?_)
            exact bodyPost_ret (v := .tuple #[.agg nil10.toArray, .bool false]) (results_two Try.results50 HZ.out rfl rfl) rfl ⟨.inr ⟨HN.out, rfl⟩, hbZ⟩
          · obtain rfl : m0 = 0 := by omega
            clear hm0 hm hm5
            by_cases hn1 : ni < 1
            · have HN : Hid (¬ Rwk l n) := fun hk => by have := (hk k hlt).2; rw [HRow.out, hnl] at this; omega
              go_wp2_with (refine wpList_store_row rfl 89 _ _ rfl w.heap.size nil10.toArray rfl rfl 89 nil10.toArray hA0 infoPt rfl nil10_one ?_)
              exact bodyPost_ret (v := .tuple #[.agg nil10.toArray, .bool false]) (results_two Try.results50 HZ.out rfl rfl) rfl ⟨.inr ⟨HN.out, rfl⟩, hbZ⟩
            · by_cases hn5 : 5 < ni
              · have HN : Hid (¬ Rwk l n) := fun hk => by have := (hk k hlt).2; rw [HRow.out, hnl] at this; omega
                go_wp2_with (refine wpList_store_row rfl 89 _ _ rfl w.heap.size nil10.toArray rfl rfl 89 nil10.toArray hA0 infoPt rfl nil10_one ?_)
                exact bodyPost_ret (v := .tuple #[.agg nil10.toArray, .bool false]) (results_two Try.results50 HZ.out rfl rfl) rfl ⟨.inr ⟨HN.out, rfl⟩, hbZ⟩
              · have HP2 : Hid (Pt w l (k + 1) (S.set p (.slice ai ni ci))) := pt_step HP.out HX.out (by omega) (by omega) (by rw [HRow.out]; exact hrow) (by omega) (by omega) hS0
                have hfz := hA1.frozen p
                have Hs1 : Hid (BlkV _ _ _) := hA1.set p (.slice ai ni ci)
                have Hs0 : Hid (BlkV _ _ _) := hA0.other (g' := w.heap.size + 1) (i := p) (v := .slice ai ni ci) (by omega)
                have Hsb : Hid (Below _ _ _) := hbA.setCell (p := ⟨w.heap.size + 1, p, none⟩) (by simp) (.slice ai ni ci)
                clear hA0 hA1 hbA hbZ HZ hS0 hbel
                go_wp2
                go_roundw
                case rel => exact ⟨k + 1, _, by omega, by go_num, Hs0.out, Hs1.out, HP2, Hsb.out⟩
                case measure => simp [intOf]; omega
    · have hkn : k = n := by omega
      subst hkn
      have hsz := HP.out.size
      have hin : (Try.prog.info? 89).map (·.size) = some S.toArray.size := by rw [hsz]; exact infoPt
      have hon := HP.out.one
      have hne : nil10.toArray.size = S.toArray.size := by rw [hsz]; rfl
      have hbZ := below_setRow hbel (Nat.le_refl _) S.toArray
      have HZ : Hid (_ = _) := run_loadVar_row (P := Try.prog) _ w.heap.size 89 89 S.toArray (0, 0) _ (setRow_heap _ w.heap.size _ S.toArray _ (0, 0) hB0) Try.underlying89 rfl hin
      have HE : Hid (Byp l k w (.returned (.tuple #[.agg S.toArray, .bool true])) (wr.setRow w.heap.size S.toArray)) := ⟨.inl ⟨S, HP.out.below hbZ, rfl⟩, hbZ⟩
      have Hin : Hid (_ = _) := hin
      have Hne : Hid (_ = _) := hne
      have Hon : Hid (_ = _) := hon
      clear hsz hin hne hon hbZ
      go_wp2_with (first | (refine wpList_load_row rfl 89 _ rfl (w.heap.size + 1) rfl 89 S.toArray (0, 0) _ hB1 Try.underlying89 rfl Hin.out ?_) | (refine wpList_store_row rfl 89 _ _ rfl w.heap.size S.toArray rfl rfl 89 nil10.toArray hB0 Hin.out Hne.out Hon.out ?_))
      exact bodyPost_ret (v := .tuple #[.agg S.toArray, .bool true]) (results_two Try.results50 HZ.out rfl rfl) rfl HE.out
end
end Go.Proofs.Ytljlioglpaogdab
