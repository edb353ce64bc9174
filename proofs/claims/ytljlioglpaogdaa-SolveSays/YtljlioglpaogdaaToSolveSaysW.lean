/- croftref.Leads. · The walk of croftlaw.SolveSays. -/
import Derived.Test.YtljlioglpaogdaaHoldsC
import Derived.Test.YtljlioglpaogdaaToOcC
import Derived.Test.YtljlioglpaogdaaToSolveC
import Derived.Test.YtljlioglpaogdaaToEqC
namespace Go.Proofs.Ytljlioglpaogdaa
set_option linter.unusedVariables false
set_option maxRecDepth 100000
set_option maxHeartbeats 8000000
section
open Crm Go.RowKit
/-- The first q numbers of column c. -/
def colk (rs : List (List Int)) (c q : Nat) : List Int := (List.range q).map fun i => nm (mat rs i c)
theorem colk_step (rs : List (List Int)) (c q : Nat) {x : Int} (h : mat rs q c = x) : colk rs c q ++ [nm x] = colk rs c (q + 1) := by
  unfold colk; rw [List.range_succ]; simp [h]
theorem colk_bd (rs : List (List Int)) (c q : Nat) : ∀ x ∈ colk rs c q, 0 ≤ x ∧ x ≤ 2147483646 := fun x hx => by
  unfold colk at hx
  obtain ⟨i, _, rfl⟩ := List.mem_map.1 hx
  exact nm_bd _
theorem colk_at (rs : List (List Int)) (c q : Nat) {i : Nat} (h : i < q) : (colk rs c q).getD i 0 = nm (mat rs i c) := by unfold colk; simp [h]

/-- To the first t numbers of C those of b, times m, have been added. -/
structure Ax (C b : List Int) (m : Int) (t : Nat) (D : List Int) : Prop where
  at_ : ∀ i, i < C.length → D.getD i 0 = if i < t then nm (C.getD i 0 + nm (m * b.getD i 0)) else C.getD i 0
theorem ax_start (C b : List Int) (m : Int) : Ax C b m 0 C := ⟨fun i _ => by rw [if_neg (by omega)]⟩
theorem ax_step {C b D : List Int} {m : Int} {t : Nat} (h : Ax C b m t D) (hl : D.length = C.length) (ht : t < C.length) {v : Int} (hv : v = nm (C.getD t 0 + nm (m * b.getD t 0))) : Ax C b m (t + 1) (D.set t v) := by
  refine ⟨fun i hi => ?_⟩
  rw [getD_set]
  by_cases e : i = t
  · subst e
    rw [if_pos ⟨rfl, by omega⟩, if_pos (by omega), hv]
  · rw [if_neg (by omega), h.at_ i hi]
    by_cases e2 : i < t
    · rw [if_pos e2, if_pos (by omega)]
    · rw [if_neg e2, if_neg (by omega)]

/-- The i-th number of a list, as a function. -/
def fn (C : List Int) (i : Nat) : Int := C.getD i 0

/-- What croftref.Leads answers. -/
def Leading (M : Nat → Nat → Int) (n k : Nat) (w : World) (e : Ending) (w' : World) : Prop :=
  ∃ (u : Value) (L : List Nat) (b : Bool), e = .returned (.tuple #[u, .bool b]) ∧ w'.ownsRow w.heap.size 3 1 u L.length (ins L) ∧ Lds M n k L ∧ (b = true ↔ dep M n k) ∧ Below w.heap.size w w'

theorem rLeads (a : Option Addr) (n c0 k : Nat) (rs : List (List Int)) (w : World) (h : RdR w a n c0 rs) (hwid : ∀ i, i < n → (rs.getD i []).length = k + 1) (hn : n ≤ 100) (hk : k ≤ 100) :
    Calls Try.prog 37 #[.slice a n c0, .int .i64 k] w fun e w' => Leading (mat rs) n k w e w' := by
  have hcap := h.cap
  go_enter Try.func37, Try.ntmps37
  go_wp2
  go_loopw [6, 7, 8, 9] (fun vL vB vA i wr => ∃ (c m : Nat) (L at_ : List Nat) (bs : List Value) (BB : List (List Int)), c ≤ k + 1 ∧ m ≤ c ∧ i = .int .i64 c ∧ Bas wr w.heap.size n m vL vB vA L at_ bs BB ∧ Hid (LeI (mat rs) n c BB at_ L) ∧ Hid (c ≤ k ∨ dep (mat rs) n k) ∧ Below w.heap.size w wr) (fun _ _ _ i _ => k + 1 - (intOf i).toNat)
  case atStart => exact ⟨0, 0, [], [], [], [], Nat.zero_le _, Nat.zero_le _, rfl, bas_nil _ _ _, le_start _ _, .inl (Nat.zero_le _), Below.refl _ _⟩
  case round =>
    obtain ⟨c, m, L, at_, bs, BB, hc, hmc, rfl, hbas, HL, HD, hbel⟩ := hrel
    obtain ⟨wo, hwo⟩ : ∃ wo, wo = wr := ⟨_, rfl⟩
    subst hwo
    have hs0 := hbel.size
    have hlb := hbas.lb
    have hLl : L.length = m := by rw [HL.out.ll]; exact hlb
    obtain ⟨aL, cL, rfl, hcL⟩ := own_slice hbas.oL
    obtain ⟨aB, cB, rfl, hcB⟩ := own_slice hbas.oB
    obtain ⟨aA, cA, rfl, hcA⟩ := own_slice hbas.oA
    by_cases hck : c ≤ k
    · go_wp2
      go_loopw [10, 11] (fun v i wr => ∃ q : Nat, q ≤ n ∧ i = .int .i64 q ∧ wr.ownsRow wo.heap.size 22 1 v q ((colk rs c q).map (Value.int .u64)) ∧ Below wo.heap.size wo wr) (fun _ i _ => n - (intOf i).toNat)
      case atStart => exact ⟨0, Nat.zero_le _, rfl, World.ownsRow_nil _ _ _ _, Below.refl _ _⟩
      case round =>
        obtain ⟨q, hq, rfl, hown, hb2⟩ := hrel
        have hs2 := hb2.size
        by_cases hqn : q < n
        · obtain ⟨b1, o1, ai, ni, ci, row, rfl, hbb, HRow, hcr0, hrow⟩ := h.one hqn
          have hni : ni = k + 1 := by have := hwid q hqn; rw [HRow.out] at this; rw [← hrow.len]; exact this
          subst hni
          have hbw : Below w.heap.size w wr := hbel.trans (hb2.mono hs0)
          have hcr : wr.cell? ⟨b1, o1 + q, none⟩ = some (.slice ai (k + 1) ci) := by rw [hbw.cell hbb]; exact hcr0
          obtain ⟨b2, o2, x, rfl, hbb2, HX, hx0, hx1, hcx⟩ := (hrow.below hbw).one (show c < k + 1 by omega)
          have HM : Hid (mat rs q c = x) := by unfold mat; rw [HRow.out]; exact HX.out
          go_wp2_with (first | (go_at_call 10; refine (rNorm _ _ (by omega) (by omega)).mono ?_; rintro e w' ⟨rfl, hw'⟩; have hw' := hw'.symm; subst hw') | (at_builtin; refine wpList_app1 Try.underlying29 infoU _ rfl _ _ rfl wo.heap.size _ _ _ rfl hown _ rfl (by omega) (by omega) ?_; intro v' w3 hown3 hbel3))
          rw [colk_step rs c q HM.out] at hown3
          have hb3 := hb2.trans hbel3
          clear hown hb2 hbel3 hbw
          go_wp2
          go_roundw
          case rel => exact ⟨q + 1, by omega, by go_num, hown3, hb3⟩
          case measure => simp [intOf]; omega
        · have hqn2 : q = n := by omega
          subst hqn2
          obtain ⟨ac, cc, rfl, hOc0⟩ := Oc.of_own hown (colk_bd rs c q)
          have HC0 : Hid (ClI (mat rs) q c BB at_ 0 (fn (colk rs c q))) := cl_start _ _ _ _ _ fun i hi => by
            show nm ((colk rs c q).getD i 0) = _
            rw [colk_at rs c q hi]; exact nm_nm _
          clear hown
          go_wp2
          go_loopw [12] (fun i wr => ∃ (t : Nat) (C : List Int), t ≤ m ∧ i = .int .i64 t ∧ Oc wr wo.heap.size ac q cc C ∧ Hid (ClI (mat rs) q c BB at_ t (fn C)) ∧ Below wo.heap.size wo wr) (fun i _ => m - (intOf i).toNat)
          case atStart => exact ⟨0, _, Nat.zero_le _, rfl, hOc0, HC0, hb2⟩
          case round =>
            clear hOc0 HC0 hb2 hs2
            obtain ⟨t, C, ht, rfl, hOc, HC, hb2⟩ := hrel
            have hs2 := hb2.size
            have hlC := hOc.len
            by_cases htm : t < m
            · have htB : t < BB.length := by omega
              obtain ⟨gA, rfl, hgA1, hgA2, hcA0⟩ := ins_at hbas.oA htm
              have hcA1 : wr.cell? ⟨gA, t, none⟩ = some (.int .i64 ((at_.getD t 0 : Nat) : Int)) := by rw [hb2.cell hgA2]; exact hcA0
              have hpr := HL.out.ab t htB
              obtain ⟨p, HP⟩ : ∃ p, Hid (at_.getD t 0 = p) := ⟨_, rfl⟩
              rw [HP.out] at hcA1 hpr
              obtain ⟨g, hac, hg1, hg2, hfz, hcp⟩ := hOc.at_ hpr
              subst hac
              have hxb := hOc.nbd p
              obtain ⟨x, HX⟩ : ∃ x, Hid (C.getD p 0 = x) := ⟨_, rfl⟩
              rw [HX.out] at hcp hxb
              have hmb := nm_bd (-x)
              obtain ⟨gB, uB, rfl, hgB1, hgB2, hbs, hcB0⟩ := own_at hbas.oB htm
              obtain ⟨gr, cr, hbs2, hgr1, hgr2, _, _, _, hrd⟩ := hbas.row t htm
              have hub : uB = .slice (some ⟨gr, 0, none⟩) q cr := Option.some.inj (hbs.symm.trans hbs2)
              subst hub
              obtain ⟨mm, hmm⟩ : ∃ mm, nm (-x) = mm := ⟨_, rfl⟩
              have HMM : Hid (mm = nm (-(fn C (at_.getD t 0)))) := by rw [← hmm, HP.out]; show nm (-x) = nm (-(C.getD p 0)); rw [HX.out]
              rw [hmm] at hmb
              have HMm : Hid (nm (-x) = mm) := hmm
              clear hmm
              obtain ⟨bq, HBQ⟩ : ∃ bq, Hid (BB.getD t [] = bq) := ⟨_, rfl⟩
              rw [HBQ.out] at hrd
              go_wp2_with (first | (go_at_call 16; refine (rNeg _ _ (by omega) (by omega)).mono ?_; rintro e w' ⟨rfl, hw'⟩; have hw' := hw'.symm; subst hw'; rw [HMm.out]) | fail)
              go_loopw [14] (fun j wr => ∃ (z : Nat) (D : List Int), z ≤ q ∧ j = .int .i64 z ∧ Oc wr wo.heap.size (some ⟨g, 0, none⟩) q cc D ∧ Hid (Ax C bq mm z D) ∧ Below wo.heap.size wo wr) (fun j _ => q - (intOf j).toNat)
              case atStart => exact ⟨0, C, Nat.zero_le _, rfl, hOc, ax_start _ _ _, hb2⟩
              case round =>
                obtain ⟨z, D, hz, rfl, hOd, HA, hb3⟩ := hrel
                have hlD := hOd.len
                by_cases hzq : z < q
                · obtain ⟨g', hg', _, _, hfz2, hcy⟩ := hOd.at_ hzq
                  simp only [Option.some.injEq, Addr.mk.injEq, and_true] at hg'
                  subst hg'
                  have hyb := hOd.nbd z
                  obtain ⟨y, HY⟩ : ∃ y, Hid (D.getD z 0 = y) := ⟨_, rfl⟩
                  rw [HY.out] at hcy hyb
                  have HY2 : Hid (C.getD z 0 = y) := by rw [← HY.out, HA.out.at_ z (by omega), if_neg (by omega)]; exact rfl
                  obtain ⟨b5, o5, v5, e5, hb5, HV5, hv50, hv51, hcv0⟩ := hrd.one hzq
                  simp only [Option.some.injEq, Addr.mk.injEq, and_true] at e5
                  obtain ⟨rfl, rfl⟩ := e5
                  rw [Nat.zero_add] at hcv0
                  have hcv : wr.cell? ⟨gr, z, none⟩ = some (.int .u64 v5) := by rw [hb3.cell hgr2]; exact hcv0
                  have hcB1 : wr.cell? ⟨gB, t, none⟩ = some (.slice (some ⟨gr, 0, none⟩) q cr) := by rw [hb3.cell hgB2]; exact hcB0
                  have hmb2 := nm_bd (mm * v5)
                  have hOd2 := hOd.set (k := z) rfl (nm_bd (y + nm (mm * v5)))
                  have HA2 : Hid (Ax C bq mm (z + 1) (D.set z (nm (y + nm (mm * v5))))) := ax_step HA.out (by omega) (by omega) (by rw [HY2.out, HV5.out])
                  have hb4 := hb3.setCell (p := ⟨g, z, none⟩) hg1 (.int .u64 (nm (y + nm (mm * v5))))
                  have hz1 : z + 1 ≤ q := by omega
                  clear hOd HA hb3 hOc HC hb2 hbas HL HD hbel hcv0 hcB0 hcA0 hcA1 hrd hcp hfz HMM HMm HX HP hwid hcL hcA hbs hbs2 hgA1 hgA2 hgB1 hgr1 h hlb hLl
                  go_wp2
                  go_region_with (first | (go_at_call 18; refine (rMul _ _ _ (by omega) (by omega) (by omega) (by omega)).mono ?_; rintro e w' ⟨rfl, rfl⟩) | (go_at_call 14; refine (rAdd _ _ _ (by omega) (by omega) (by omega) (by omega)).mono ?_; rintro e w' ⟨rfl, rfl⟩))
                  all_goals
                    go_wp2
                    go_roundw
                    case rel => exact ⟨z + 1, _, hz1, by go_num, hOd2.drew, HA2, hb4.drew⟩
                    case measure => simp [intOf]; omega
                · have hzq2 : z = q := by omega
                  subst hzq2
                  have HC2 : Hid (ClI (mat rs) z c BB at_ (t + 1) (fn D)) := cl_step HL.out HC.out htB HMM.out fun i hi => by
                    show nm (D.getD i 0) = nm (C.getD i 0 + mm * bk BB t i)
                    rw [HA.out.at_ i (by omega), if_pos hi, nm_nm, nm_addr]
                    unfold bk; rw [HBQ.out]
                  go_wp2
                  go_roundw
                  case rel => exact ⟨t + 1, D, by omega, by go_num, hOd, HC2, hb3⟩
                  case measure => simp [intOf]; omega
            · have htm2 : t = m := by omega
              subst htm2
              have HC2 : Hid (ClI (mat rs) q c BB at_ BB.length (fn C)) := by rw [hlb]; exact HC.out
              obtain ⟨w5, hw5⟩ : ∃ w5, w5 = wr := ⟨_, rfl⟩
              subst hw5
              clear HC
              go_wp2
              go_loopw [15, 16] (fun f i wr => ∃ z : Nat, z ≤ q ∧ i = .int .i64 ((z : Int) - 1) ∧ ((f = .int .i64 (-1) ∧ ∀ i, z ≤ i → i < q → C.getD i 0 = 0) ∨ ∃ p : Nat, f = .int .i64 p ∧ p < q ∧ C.getD p 0 ≠ 0) ∧ wr = w5) (fun _ i _ => (intOf i + 1).toNat)
              case atStart => exact ⟨q, Nat.le_refl _, rfl, .inl ⟨rfl, fun i h1 h2 => by omega⟩, rfl⟩
              case round =>
                obtain ⟨z, hz, rfl, hf, hw'⟩ := hrel
                have hw' := hw'.symm
                subst hw'
                have hbas5 := hbas.below hb2
                have hbel5 : Below w.heap.size w w5 := hbel.trans (hb2.mono hs0)
                cases z with
                | succ z =>
                  obtain ⟨g, hac, hg1, hg2, hfz, hcy⟩ := hOc.at_ (show z < q by omega)
                  subst hac
                  have hyb := hOc.nbd z
                  obtain ⟨y, HY⟩ : ∃ y, Hid (C.getD z 0 = y) := ⟨_, rfl⟩
                  rw [HY.out] at hcy hyb
                  by_cases hy : y = 0
                  · have hf2 : (u15 = .int .i64 (-1) ∧ ∀ i, z ≤ i → i < q → C.getD i 0 = 0) ∨ ∃ p : Nat, u15 = .int .i64 p ∧ p < q ∧ C.getD p 0 ≠ 0 := by
                      rcases hf with hh | hh
                      · exact .inl ⟨hh.1, fun i h1 h2 => by
                          by_cases e : i = z
                          · rw [e, HY.out, hy]
                          · exact hh.2 i (by omega) h2⟩
                      · exact .inr hh
                    subst hy
                    go_wp2
                    go_roundw
                    case rel => exact ⟨z, by omega, by go_num, hf2, by trivial⟩
                    case measure => simp [intOf]
                  · have hyn : (y == 0) = false := by rw [beq_eq_false_iff_ne]; exact hy
                    have hpz : C.getD z 0 ≠ 0 := by rw [HY.out]; exact hy
                    clear hy
                    go_wp2
                    go_roundw
                    case rel => exact ⟨z, by omega, by go_num, .inr ⟨z, by go_num, by omega, hpz⟩, by trivial⟩
                    case measure => simp [intOf]
                | zero =>
                  rcases hf with ⟨rfl, hz0⟩ | ⟨p, rfl, hp, hpx⟩
                  · have hzz : ∀ i, i < q → nm (fn C i) = 0 := fun i hi => by show nm (C.getD i 0) = 0; rw [hz0 i (by omega) hi]; rfl
                    have HL2 : Hid (LeI (mat rs) q (c + 1) BB at_ L) := le_skip HL.out HC2.out hzz
                    have HD2 : Hid (c + 1 ≤ k ∨ dep (mat rs) q k) := by
                      by_cases e : c = k
                      · rw [← e]; exact .inr (dep_cl HL.out HC2.out hzz)
                      · exact .inl (by omega)
                    clear hz0 hzz
                    go_wp2
                    go_roundw
                    case rel => exact ⟨c + 1, _, L, at_, bs, BB, by omega, by omega, by go_num, hbas5, HL2, HD2, hbel5⟩
                    case measure => simp [intOf]; omega
                  · have hxb := hOc.nbd p
                    have hnx : nm (fn C p) ≠ 0 := by show nm (C.getD p 0) ≠ 0; rw [nm_small hxb.1 hxb.2]; exact hpx
                    have HND : Hid (¬ dep (mat rs) q c) := fun hd => hnx (cl_dep HL.out HC2.out hd p hp)
                    by_cases hce : c = k
                    · subst hce
                      go_wp2
                      go_ret2
                      exact ⟨_, L, false, rfl, by rw [hLl]; exact hbas5.oL, ⟨HL.out.up, HL.out.lt, HL.out.lead⟩, by simp only [Bool.false_eq_true, false_iff]; exact HND.out, hbel5⟩
                    · have hceb : ((c : Int) == (k : Int)) = false := by rw [beq_eq_false_iff_ne]; omega
                      obtain ⟨g, hac, hg1, hg2, hfz, hcx⟩ := hOc.at_ hp
                      subst hac
                      obtain ⟨x, HX⟩ : ∃ x, Hid (C.getD p 0 = x) := ⟨_, rfl⟩
                      rw [HX.out] at hcx hxb
                      have hnx2 : nm x ≠ 0 := by rw [← HX.out]; exact hnx
                      obtain ⟨u, HU⟩ : ∃ u, Hid (iv x = u) := ⟨_, rfl⟩
                      have hub := iv_bd x
                      go_wp2_with (first | (go_at_call 11; refine (rInv _ _ (by omega) (by omega) hnx2).mono ?_; rintro e w' ⟨rfl, hw'⟩; have hw' := hw'.symm; subst hw'; rw [HU.out]) | fail)
                      rw [HU.out] at hub
                      go_loopw [18] (fun i wr => ∃ (z : Nat) (D : List Int), z ≤ q ∧ i = .int .i64 z ∧ Oc wr wo.heap.size (some ⟨g, 0, none⟩) q cc D ∧ Hid (Sc C u z D) ∧ Below wo.heap.size wo wr) (fun i _ => q - (intOf i).toNat)
                      case atStart => exact ⟨0, C, Nat.zero_le _, rfl, hOc, sc_start _ _ hOc.bd, hb2⟩
                      case round =>
                        clear hOc hb2 hbas5 hbel5
                        obtain ⟨z, D, hz, rfl, hOd, HS, hb3⟩ := hrel
                        have hlD := hOd.len
                        by_cases hzq : z < q
                        · obtain ⟨g', hg', _, _, hfz2, hcy⟩ := hOd.at_ hzq
                          simp only [Option.some.injEq, Addr.mk.injEq, and_true] at hg'
                          subst hg'
                          have hyb := hOd.nbd z
                          obtain ⟨y, HY⟩ : ∃ y, Hid (D.getD z 0 = y) := ⟨_, rfl⟩
                          rw [HY.out] at hcy hyb
                          have HY2 : Hid (C.getD z 0 = y) := by rw [← HY.out, HS.out.at_ z (by omega), if_neg (by omega)]; exact rfl
                          have hOd2 := hOd.set (k := z) rfl (nm_bd (y * u))
                          have HS2 : Hid (Sc C u (z + 1) (D.set z (nm (y * u)))) := sc_step HS.out (by omega) (by rw [HY2.out])
                          have hb4 := hb3.setCell (p := ⟨g, z, none⟩) hg1 (.int .u64 (nm (y * u)))
                          clear hOd HS hb3
                          go_wp2_with (first | (go_at_call 18; refine (rMul _ _ _ (by omega) (by omega) (by omega) (by omega)).mono ?_; rintro e w' ⟨rfl, hw'⟩; have hw' := hw'.symm; subst hw') | fail)
                          go_roundw
                          case rel => exact ⟨z + 1, _, by omega, by go_num, hOd2, HS2, hb4⟩
                          case measure => simp [intOf]; omega
                        · have hzq2 : z = q := by omega
                          subst hzq2
                          have hbasr := hbas.below hb3
                          have hbelr : Below w.heap.size w wr := hbel.trans (hb3.mono hs0)
                          have hsr := hb3.size
                          obtain ⟨g', hg', _, hglt, _, _⟩ := hOd.at_ hp
                          simp only [Option.some.injEq, Addr.mk.injEq, and_true] at hg'
                          subst hg'
                          have hL0 : (Value.slice aL t cL).ownBlock ≠ some g := fun e => by have := (hbas.oL.lt g e).2; omega
                          have hB0 : (Value.slice aB t cB).ownBlock ≠ some g := fun e => by have := (hbas.oB.lt g e).2; omega
                          have hA0 : (Value.slice aA t cA).ownBlock ≠ some g := fun e => by have := (hbas.oA.lt g e).2; omega
                          have hrdD := hOd.rd
                          have HL2 : Hid (LeI (mat rs) z (c + 1) (BB ++ [D]) (at_ ++ [p]) (L ++ [c])) := le_lead HL.out HC2.out hp hnx hlD fun i hi => by
                            show nm (D.getD i 0) = nm (C.getD i 0 * iv (C.getD p 0))
                            rw [HS.out.at_ i (by omega), if_pos hi, nm_nm, HX.out, HU.out]
                          have hlow : w.heap.size ≤ wr.heap.size := hbelr.size
                          have hgw : w.heap.size ≤ g := by omega
                          clear hOd HS hb3 hbas hbel HC2 HL hnx hnx2
                          go_wp2_with (first | (at_builtin; refine wpList_appV Try.underlying46 infoV rfl (by decide) wr rfl _ _ rfl w.heap.size (.slice aB t cB) t bs (by rfl) hbasr.oB (.slice (some ⟨g, 0, none⟩) z cc) rfl (by rfl) (by omega) (by omega) ?_; intro vB' w6 s1 g1 b1; have oA6 := own_kept hbasr.oA g1 (fun k hk e => hbasr.dBA k e hk); have oL6 := own_kept hbasr.oL g1 hbasr.dLB; have z6 := g1.size) | (at_builtin; refine wpList_appV Try.underlying51 infoI rfl (by decide) w6 rfl _ _ rfl w.heap.size (.slice aA t cA) t (ins at_) (by rfl) oA6 (.int .i64 p) rfl (by rfl) (by omega) (by omega) ?_; intro vA' w7 s2 g2 b2; have oL7 := own_kept oL6 g2 hbasr.dLA; have z7 := g2.size) | (at_builtin; refine wpList_appV Try.underlying51 infoI rfl (by decide) w7 rfl _ _ rfl w.heap.size (.slice aL t cL) t (ins L) (by rfl) oL7 (.int .i64 c) rfl (by rfl) (by omega) (by omega) ?_; intro vL' w8 s3 g3 b3))
                          rw [ins_snoc] at s2 s3
                          have hbas8 := hbasr.add hgw hL0 hB0 hA0 hrdD hglt s1 g1 b1 s2 g2 b2 s3 g3 b3
                          have hbel8 : Below w.heap.size w w8 := ((hbelr.grown g1 hlow (fun k hk => (hbasr.oB.lt k hk).1)).grown g2 (by omega) (fun k hk => (hbasr.oA.lt k hk).1)).grown g3 (by omega) (fun k hk => (hbasr.oL.lt k hk).1)
                          clear s1 s2 s3 g1 g2 g3 b1 b2 b3 oA6 oL6 oL7 hbasr hbelr hrdD
                          go_wp2
                          go_roundw
                          case rel => exact ⟨c + 1, t + 1, L ++ [c], at_ ++ [p], _, BB ++ [D], by omega, by omega, by go_num, hbas8, HL2, .inl (by omega), hbel8⟩
                          case measure => simp [intOf]; omega
    · have hck2 : c = k + 1 := by omega
      have hd : dep (mat rs) n k := HD.out.resolve_left (by omega)
      have hnl : ¬ c ≤ k := hck
      go_wp2
      go_ret2
      refine ⟨_, L, true, rfl, by rw [hLl]; exact hbas.oL, ⟨HL.out.up, fun j hj => ?_, fun j hj => HL.out.lead j (by omega)⟩, by simp [hd], hbel⟩
      have h1 := HL.out.lt j hj
      by_cases e : j = k
      · subst e
        exact absurd hd ((HL.out.lead j h1).1 hj)
      · omega
theorem mem_getN {L : List Nat} {i : Nat} (h : i ∈ L) : ∃ q, q < L.length ∧ L.getD q 0 = i := by
  obtain ⟨q, hq, e⟩ := List.getElem_of_mem h
  exact ⟨q, hq, by rw [List.getD_eq_getElem?_getD, List.getElem?_eq_getElem hq]; exact e⟩

theorem cIndex (a : Option Addr) (m c base : Nat) (L : List Nat) (i : Nat) (w : World) (h : w.ownsRow base 3 1 (.slice a m c) m (ins L)) (hi : i ∈ L) (hm : m ≤ 1000) :
    Calls Try.prog 59 #[.slice a m c, .int .i64 i] w fun e w' => ∃ q : Nat, e = .returned (.int .i64 q) ∧ w' = w := by
  have hl : L.length = m := by have := h.1; rw [ins_len] at this; omega
  obtain ⟨q0, hq0, eq0⟩ := mem_getN hi
  have HQ0 : Hid (L.getD q0 0 = i) := eq0
  clear eq0
  go_enter Try.func59, Try.ntmps59
  go_wp2
  go_loopw [8] (fun x wr => ∃ t : Nat, t ≤ m ∧ x = .int .i64 t ∧ Hid (∀ j, j < t → L.getD j 0 ≠ i) ∧ wr = w) (fun x _ => m - (intOf x).toNat)
  case atStart => exact ⟨0, Nat.zero_le _, rfl, fun j hj => by omega, rfl⟩
  case round =>
    obtain ⟨t, ht, rfl, HN, hw'⟩ := hrel
    have hw' := hw'.symm
    subst hw'
    by_cases htm : t < m
    · obtain ⟨g, rfl, hg1, hg2, hc⟩ := ins_at h htm
      obtain ⟨y, HY⟩ : ∃ y, Hid (L.getD t 0 = y) := ⟨_, rfl⟩
      rw [HY.out] at hc
      by_cases hy : i = y
      · have hyb : ((i : Int) == (y : Int)) = true := by rw [beq_iff_eq]; omega
        clear hy
        go_wp2
        go_ret
        exact ⟨⟨t, rfl⟩, rfl⟩
      · have hyb : ((i : Int) == (y : Int)) = false := by rw [beq_eq_false_iff_ne]; omega
        have HN2 : Hid (∀ j, j < t + 1 → L.getD j 0 ≠ i) := fun j hj => by
          by_cases e : j = t
          · rw [e, HY.out]; exact fun e2 => hy e2.symm
          · exact HN.out j (by omega)
        clear hy
        go_wp2
        go_roundw
        case rel => exact ⟨t + 1, by omega, by go_num, HN2, by trivial⟩
        case measure => simp [intOf]; omega
    · exact absurd HQ0.out (HN.out q0 (by omega))

theorem cContains (a : Option Addr) (m c base : Nat) (L : List Nat) (i : Nat) (w : World) (h : w.ownsRow base 3 1 (.slice a m c) m (ins L)) (hi : i ∈ L) (hm : m ≤ 1000) :
    Calls Try.prog 39 #[.slice a m c, .int .i64 i] w fun e w' => e = .returned (.bool true) ∧ w' = w := by
  go_enter Try.func39, Try.ntmps39
  go_wp2_with fail
  refine (cIndex a m c base L i w h hi hm).mono ?_
  rintro e w' ⟨q, rfl, hw'⟩
  have hw' := hw'.symm
  subst hw'
  have hq : decide ((0 : Int) ≤ (q : Int)) = true := decide_eq_true (by omega)
  go_wp2
  go_ret
  exact ⟨rfl, rfl⟩

theorem solveSaysW (a : Option Addr) (n c : Nat) (rs : List (List Int)) (v : Int) (w : World) (h : RdR w a n c rs) (hv0 : -9223372036854775808 ≤ v) (hv1 : v ≤ 9223372036854775807) :
    Calls Try.prog 7 #[.slice a n c, .int .i64 v] w fun e w' => e = .returned (.bool true) ∧ Below w.heap.size w w' := by
  by_cases hc : chk rs n v = 0
  · obtain ⟨k, hkv, hk1, hk2, hn, hwid⟩ := chk_of hc
    subst hkv
    have HC : Hid (chk rs n k = 0) := hc
    have HW : Hid (∀ i, i < n → (rs.getD i []).length = k + 1) := hwid
    clear hc hwid
    go_enter Try.func7, Try.ntmps7
    go_wp2_with fail
    refine (rEqs a n c rs k w h (by omega) (by omega)).mono ?_
    rintro e w' ⟨rfl, hw'⟩
    have hw' := hw'.symm
    subst hw'
    rw [HC.out]
    go_wp2_with fail
    refine (cRank1 a n c k rs w h HC.out).mono ?_
    rintro e w1 ⟨L, rfl, hL, hLn, hb1⟩
    obtain ⟨m, HM⟩ : ∃ m, Hid (L.length = m) := ⟨_, rfl⟩
    rw [HM.out] at hLn ⊢
    go_wp2_with fail
    refine (cSolve1 a n c k rs w1 (h.below hb1) HC.out).mono ?_
    rintro e w2 ⟨hsol, hb2⟩
    have hb02 : Below w.heap.size w w2 := hb1.trans (hb2.mono hb1.size)
    rcases hsol with ⟨hnd, rfl⟩ | ⟨g, V, hd, rfl, hS, hV, hg⟩
    · go_wp2_with fail
      refine (cCheck a n c rs k w2 (h.below hb02) (by omega) (by omega)).mono ?_
      rintro e w' ⟨rfl, hw'⟩
      have hw' := hw'.symm
      subst hw'
      rw [HC.out]
      go_wp2_with fail
      refine (rLeads a n c k rs w2 (h.below hb02) HW.out (by omega) (by omega)).mono ?_
      rintro e w3 ⟨u, L2, b, rfl, hown, hL2, hbd, hb3⟩
      have hLL := lds_one hL2 hL
      subst hLL
      rw [HM.out] at hown
      obtain ⟨aL, cL, rfl, hcL⟩ := own_slice hown
      have hbf : b = false := by cases b with | false => rfl | true => exact absurd (hbd.1 rfl) hnd
      subst hbf
      have hb03 : Below w.heap.size w w3 := hb02.trans (hb3.mono hb02.size)
      clear hnd hbd hL hL2 h hb1 hb2 hb02 hb3
      go_wp2
      go_ret
      exact ⟨rfl, hb03⟩
    · go_wp2_with fail
      refine (cCheck a n c rs k w2 (h.below hb02) (by omega) (by omega)).mono ?_
      rintro e w' ⟨rfl, hw'⟩
      have hw' := hw'.symm
      subst hw'
      rw [HC.out]
      go_wp2_with fail
      refine (rLeads a n c k rs w2 (h.below hb02) HW.out (by omega) (by omega)).mono ?_
      rintro e w3 ⟨u, L2, b, rfl, hown, hL2, hbd, hb3⟩
      have hLL := lds_one hL2 hL
      subst hLL
      rw [HM.out] at hown
      obtain ⟨aL, cL, rfl, hcL⟩ := own_slice hown
      have hbf : b = true := hbd.2 hd
      subst hbf
      have hb03 : Below w.heap.size w w3 := hb02.trans (hb3.mono hb02.size)
      have hV3 : Rd w3 (some ⟨g, 0, none⟩) k k V := ((hV.below hb3 hV.lt).whole k hS.len.symm (by unfold maxLen; omega) (bd_u64 hS.bd))
      have HS : Hid (Sol (mat rs) n k V) := hS
      have HLd : Hid (Lds (mat rs) n k L2) := hL2
      have h3 := h.below hb03
      clear hS hL hL2 hbd hd hV hb1 hb2 hb02 hb3 h
      go_wp2_with fail
      refine (rHolds a n c rs (some ⟨g, 0, none⟩) k k V w3 h3 hV3 HW.out (by omega) (by omega)).mono ?_
      rintro e w4 ⟨r, rfl, hr, hb4⟩
      have hrt : r = true := hr.2 ((okrow_ns rs V k n).2 HS.out.ns)
      subst hrt
      have hb04 : Below w.heap.size w w4 := hb03.trans (hb4.mono hb03.size)
      have hV4 := hV3.below hb4
      have hown4 := own_below hown hb4
      clear h3 hb03 hb4 hV3 hr hown
      go_wp2
      go_loopw [92] (fun i wr => ∃ t : Nat, t ≤ k ∧ i = .int .i64 t ∧ wr = w4) (fun i _ => k - (intOf i).toNat)
      case atStart => exact ⟨0, Nat.zero_le _, rfl, rfl⟩
      case round =>
        obtain ⟨t, ht, rfl, hw'⟩ := hrel
        have hw' := hw'.symm
        subst hw'
        by_cases htk : t < k
        · obtain ⟨b, o, x, e, hbb, HX, hx0, hx1, hcx⟩ := hV4.one htk
          simp only [Option.some.injEq, Addr.mk.injEq, and_true] at e
          obtain ⟨rfl, rfl⟩ := e
          rw [Nat.zero_add] at hcx
          have hxb : x ≤ 2147483646 := by rw [← HX.out]; exact (getD_bd' HS.out.bd t).2
          by_cases hx : x = 0
          · have hxb2 : (x == 0) = true := by rw [beq_iff_eq]; exact hx
            subst hx
            go_wp2
            go_roundw
            case rel => exact ⟨t + 1, by omega, by go_num, by trivial⟩
            case measure => simp [intOf]; omega
          · have hxb2 : (x == 0) = false := by rw [beq_eq_false_iff_ne]; exact hx
            have htL : t ∈ L2 := (HLd.out.lead t htk).2 (HS.out.own t htk (by rw [HX.out]; exact hx))
            have hxd : decide (2147483647 ≤ x) = false := decide_eq_false (by omega)
            clear hx
            go_wp2_with (first | (go_at_call 39; refine (cContains aL m cL w2.heap.size L2 t w4 hown4 htL (by omega)).mono ?_; rintro e w' ⟨rfl, hw'⟩; have hw' := hw'.symm; subst hw') | fail)
            all_goals
              go_roundw
              case rel => exact ⟨t + 1, by omega, by go_num, by trivial⟩
              case measure => simp [intOf]; omega
        · have htk2 : t = k := by omega
          subst htk2
          go_wp2
          go_ret
          exact ⟨rfl, hb04⟩
  · obtain ⟨z, hz⟩ : ∃ z, chk rs n v = z := ⟨_, rfl⟩
    have HZ : Hid (chk rs n v = z) := hz
    have hbd := chk_bd rs n v
    have hcr := cRank0 a n c rs v w h hv0 hv1 hc
    have hcs := cSolve0 a n c rs v w h hv0 hv1 hc
    have hck := cCheck a n c rs v w h hv0 hv1
    have hce := rEqs a n c rs v w h hv0 hv1
    rw [hz] at hcr hcs hck hce hbd hc
    clear hz
    have hzb : (z == 0) = false := by rw [beq_eq_false_iff_ne]; exact hc
    go_enter Try.func7, Try.ntmps7
    go_wp2_with fail
    refine hce.mono ?_
    rintro e w' ⟨rfl, hw'⟩
    have hw' := hw'.symm
    subst hw'
    go_wp2_with fail
    refine hcr.mono ?_
    rintro e w' ⟨rfl, hw'⟩
    have hw' := hw'.symm
    subst hw'
    go_wp2_with fail
    refine hcs.mono ?_
    rintro e w' ⟨rfl, hw'⟩
    have hw' := hw'.symm
    subst hw'
    go_wp2_with fail
    refine hck.mono ?_
    rintro e w' ⟨rfl, hw'⟩
    have hw' := hw'.symm
    subst hw'
    go_wp2
    go_ret
    exact ⟨rfl, Below.refl _ _⟩
end
end Go.Proofs.Ytljlioglpaogdaa
