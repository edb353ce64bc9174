/- croftkeep.some, crofttop.some: some of the parties, none twice. · shamir.Open. -/
import Derived.Test.YtnofegdlainjaadToShamirM
import Derived.Test.YtnofegdlainjaadToOcC
import Derived.Test.YtnofegdlainjaadToOwnC
import Derived.Test.YtnofegdlainjaadToPadC
import Derived.Test.YtnofegdlainjaadToCrewC
import Derived.Test.YtnofegdlainjaadToCheckC
import Derived.Test.YtnofegdlainjaadToRefProdC
namespace Go.Proofs.Ytnofegdlainjaad
open Go.RowKit Crm

/-- Some of n parties, none twice, at most t. -/
def Som (L : List Int) (t n : Nat) : Prop := L.length ≤ t ∧ dis (fi L) L.length ∧ ∀ j, j < L.length → L.getD j 0 ≤ (n : Int)
theorem som_nil (t n : Nat) : Som [] t n := ⟨Nat.zero_le _, dis_zero _, fun j hj => by simp at hj⟩
theorem som_bd {L : List Int} {t n : Nat} (h : Som L t n) : ∀ x ∈ L, -9223372036854775808 ≤ x ∧ x ≤ 9223372036854775807 := fun x hx => by
  obtain ⟨j, hj, rfl⟩ := List.getElem_of_mem hx
  have := (h.2.1 j hj).1
  unfold fi at this
  rw [List.getD_eq_getElem?_getD, List.getElem?_eq_getElem hj] at this
  simp only [Option.getD_some] at this
  omega
theorem som_add {L : List Int} {t n q : Nat} (h : Som L t n) (hl : L.length < t) (hq : q < n) (hn : n ≤ 9) (hno : ∀ j, j < L.length → L.getD j 0 ≠ (q : Int) + 1) : Som (L ++ [(q : Int) + 1]) t n := by
  have g1 : ∀ j, j < L.length → (L ++ [(q : Int) + 1]).getD j 0 = L.getD j 0 := fun j hj => by simp [List.getElem?_append_left hj]
  have g2 : (L ++ [(q : Int) + 1]).getD L.length 0 = (q : Int) + 1 := by simp
  have hle : (L ++ [(q : Int) + 1]).length = L.length + 1 := by simp
  refine ⟨by omega, ?_, fun j hj => ?_⟩
  · rw [hle]
    refine dis_succ (x := (q : Int) + 1) (fun i hi => ?_) g2 (by omega) (by omega) (fun j hj => by show (L ++ [(q : Int) + 1]).getD j 0 ≠ _; rw [g1 j hj]; exact hno j hj)
    obtain ⟨h1, h2⟩ := h.2.1 i hi
    unfold fi at h1 h2 ⊢
    rw [g1 i hi]
    exact ⟨h1, fun j hj => by rw [g1 j (by omega)]; exact h2 j hj⟩
  · rw [hle] at hj
    by_cases e : j = L.length
    · rw [e, g2]; omega
    · rw [g1 j (by omega)]; exact h.2.2 j (by omega)

set_option maxRecDepth 100000 in
set_option maxHeartbeats 2000000 in
theorem kSome (a : Option Addr) (m c : Nat) (ps : List Int) (t n : Nat) (w : World) (h : RdI w a m c ps) (hn : 0 < n) (hn9 : n ≤ 9) (ht : t ≤ 4) :
    Calls Try.prog 36 #[.slice a m c, .int .i64 (t : Int), .int .i64 (n : Int)] w fun e w' => ∃ v L, e = .returned v ∧ w'.ownsRow w.heap.size 3 1 v L.length (zns L) ∧ Som L t n ∧ Below w.heap.size w w' := by
  have hcap := h.cap
  have hmax := h.max
  unfold maxLen at hmax
  go_enter Try.func36, Try.ntmps36
  go_wp2
  go_loopw [7, 13] (fun v i wr => ∃ (j : Nat) (L : List Int), j ≤ m ∧ i = .int .i64 j ∧ wr.ownsRow w.heap.size 3 1 v L.length (zns L) ∧ Hid (Som L t n) ∧ Below w.heap.size w wr) (fun _ i _ => m - (intOf i).toNat)
  case atStart => exact ⟨0, [], Nat.zero_le _, rfl, World.ownsRow_nil _ _ _ _, som_nil t n, Below.refl _ _⟩
  case round =>
    obtain ⟨j, L, hj, rfl, hown, HS, hbel⟩ := hrel
    have hs := hbel.size
    by_cases hlt : j < m
    · obtain ⟨b, o, x, rfl, hbb, HX, hx0, hx1, hcx⟩ := (h.below hbel).one hlt
      obtain ⟨aL, cL, rfl, hrL⟩ := RdI.own hown (som_bd HS.out)
      have hlt4 := HS.out.1
      have hcL := hrL.cap
      have hmL := hrL.max
      unfold maxLen at hmL
      obtain ⟨l, HL⟩ : ∃ l, Hid (L.length = l) := ⟨_, rfl⟩
      rw [HL.out] at hown hrL hlt4 hcL ⊢
      go_wp2_with fail
      refine (rRest x n _ hn (by omega)).mono ?_
      rintro e w1 ⟨⟨q, hq, rfl⟩, hw⟩
      have hw := hw.symm
      subst hw
      have hq1 : (1 : Int) + (q : Int) = (q : Int) + 1 := by omega
      by_cases hl : l < t
      · have hli : (l : Int) < (t : Int) := by omega
        by_cases hc : ∃ j0, j0 < l ∧ L.getD j0 0 = (q : Int) + 1
        · obtain ⟨j0, hj0, hxe⟩ := hc
          have HJ : Hid (L.getD j0 0 = (q : Int) + 1) := hxe
          clear hxe
          go_wp2_with (go_at_call 59; refine (iContT _ _ _ _ ((q : Int) + 1) _ hrL hj0 HJ.out).mono ?_; rintro e w3 ⟨rfl, hw⟩; have hw := hw.symm; subst hw)
          go_roundw
          case rel => exact ⟨j + 1, L, by omega, by go_num, by rw [HL.out]; exact hown, HS, hbel⟩
          case measure => simp [intOf]; omega
        · have HNO : Hid (∀ j0, j0 < l → L.getD j0 0 ≠ (q : Int) + 1) := fun j0 h1 h2 => hc ⟨j0, h1, h2⟩
          have HSA : Hid (Som (L ++ [(q : Int) + 1]) t n) := som_add HS.out (by rw [HL.out]; exact hl) hq hn9 (by rw [HL.out]; exact HNO.out)
          have HZN : Hid (zns L ++ [.int .i64 ((q : Int) + 1)] = zns (L ++ [(q : Int) + 1])) := zns_snoc _ _
          have HLA : Hid ((L ++ [(q : Int) + 1]).length = l + 1) := by unfold Hid; rw [List.length_append, HL.out]; rfl
          clear hc
          go_wp2_with (first | (go_at_call 59; refine (iContF _ _ _ _ ((q : Int) + 1) _ hrL HNO.out).mono ?_; rintro e w3 ⟨rfl, hw⟩; have hw := hw.symm; subst hw) | (at_builtin; refine wpList_appV Try.underlying35 infoZ rfl (by omega) _ rfl _ _ rfl w.heap.size _ _ _ rfl hown (.int .i64 ((q : Int) + 1)) rfl rfl (by omega) hs ?_; intro v8 w8 hob8 hgr8 _; rw [HZN.out] at hob8; have hB8 := hbel.grown hgr8 hs (fun j hj => (hown.lt j hj).1); clear hgr8))
          go_roundw
          case rel => exact ⟨j + 1, _, by omega, by go_num, by rw [HLA.out]; exact hob8, HSA, hB8⟩
          case measure => simp [intOf]; omega
      · have hli : ¬ ((l : Int) < (t : Int)) := by omega
        go_wp2
        go_roundw
        case rel => exact ⟨j + 1, L, by omega, by go_num, by rw [HL.out]; exact hown, HS, hbel⟩
        case measure => simp [intOf]; omega
    · have hjm : j = m := by omega
      subst hjm
      go_wp2
      go_ret
      exact ⟨_, L, rfl, hown, HS.out, hbel⟩

end Go.Proofs.Ytnofegdlainjaad

namespace Go.Proofs.Ytnofegdlainjaad
open Go.RowKit Crm

set_option maxRecDepth 100000 in
set_option maxHeartbeats 1000000 in
theorem cOpenS (a : Option Addr) (n c : Nat) (l : List (Int × Int)) (t : Int) (w : World) (h : RdS w a n c l) :
    Calls Try.prog 33 #[.int .i64 t, .slice a n c] w fun e w' => ∃ x r, e = .returned (.tuple #[.int .u64 x, .int .i64 r]) ∧ Opn l n t x r ∧ Below w.heap.size w w' := by
  go_enter Try.func33, Try.ntmps33
  go_wp2_with fail
  refine (cCheckS _ _ _ _ _ _ h).mono ?_
  rintro e w1 ⟨r, rfl, hS, hb1⟩
  by_cases hr : r = 0
  · subst hr
    have HS : Hid (She l n t 0) := hS
    obtain ⟨t0, t4, hd, htn, hn9⟩ := hS.ok
    have HD : Hid (okk l n) := dis_okk hd
    clear hd hS
    go_wp2_with fail
    refine (cThroughOK _ _ _ _ _ (h.below hb1) (by omega) HD.out).mono ?_
    rintro e w2 ⟨S, g, rfl, hls, hbs, hvs, hr2, hb2⟩
    have HO : Hid (_ ∧ _) := opn_newton HS.out hls hbs hvs
    have hb12 := hb1.trans (hb2.mono hb1.size)
    have htl := tl_le S n
    obtain ⟨T, hT⟩ : ∃ T, T = tl S n := ⟨_, rfl⟩
    rw [← hT] at hr2 HO htl ⊢
    clear hls hbs hvs hb1 hb2 hT
    by_cases hlt : (T : Int) ≤ t + 1
    · have HN : Hid (Opn l n t (nm (ev (trm S) 0)) 0) := HO.out.1 hlt
      clear HO
      go_wp2_with fail
      refine (cEvalOK _ _ _ _ _ _ hr2 (by omega) (by omega) (by omega)).mono ?_
      rintro e w3 ⟨rfl, hb3⟩
      have hb13 := hb12.trans (hb3.mono hb12.size)
      clear hb3 hr2
      go_wp2
      go_ret2
      exact ⟨_, _, rfl, HN.out, hb13⟩
    · have HN : Hid (Opn l n t 0 6) := HO.out.2 (by omega)
      clear HO
      go_wp2
      go_ret2
      exact ⟨_, _, rfl, HN.out, hb12⟩
  · have hrb : (r != 0) = true := by rw [bne_iff_ne]; exact hr
    have HS : Hid (Opn l n t 0 r) := Or.inl ⟨hS, hr, rfl⟩
    clear hr hS
    go_wp2
    go_ret2
    exact ⟨_, _, rfl, HS.out, hb1⟩
end Go.Proofs.Ytnofegdlainjaad
