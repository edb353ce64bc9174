/- (*twine.parties).both, apart. -/
import Derived.Test.YtljlioglpaogdabToTwByC
import Derived.Test.YtljlioglpaogdabToTEqC
namespace Go.Proofs.Ytljlioglpaogdab
set_option linter.unusedVariables false
set_option maxRecDepth 100000
set_option maxHeartbeats 8000000
section
open Crm Go.RowKit
theorem cBothTw (g i j : Nat) (S : List Value) (a b : Option Addr) (m k c d : Nat) (w : World) (h : BlkV w g S) (hi : S[i]? = some (.slice a m c)) (hj : S[j]? = some (.slice b k d)) (hi9 : i < 10) (hj9 : j < 10) :
    Calls Try.prog 79 #[.pointer (some ⟨g, 0, none⟩), .int .i64 i, .int .i64 j] w fun e w' => e = .returned (.bool (decide (0 < m) && decide (0 < k))) ∧ w' = w := by
  have ci := h.cell hi
  have cj := h.cell hj
  have hlt := h.lt
  by_cases hm : 0 < m
  · by_cases hk : 0 < k
    · go_enter Try.func79, Try.ntmps79
      go_wp2
      go_ret
      simp [hm, hk]
    · obtain rfl : k = 0 := by omega
      go_enter Try.func79, Try.ntmps79
      go_wp2
      go_ret
      simp
  · obtain rfl : m = 0 := by omega
    go_enter Try.func79, Try.ntmps79
    go_wp2
    go_ret
    simp

theorem cBothY (g i j : Nat) (S : List Value) (a b : Option Addr) (m k c d : Nat) (w : World) (h : BlkV w g S) (hi : S[i]? = some (.slice a m c)) (hj : S[j]? = some (.slice b k d)) (hi9 : i < 10) (hj9 : j < 10) (hm : 0 < m) (hk : 0 < k) :
    Calls Try.prog 79 #[.pointer (some ⟨g, 0, none⟩), .int .i64 i, .int .i64 j] w fun e w' => e = .returned (.bool true) ∧ w' = w := by
  refine (cBothTw g i j S a b m k c d w h hi hj hi9 hj9).mono ?_
  rintro e w' ⟨rfl, rfl⟩
  simp [hm, hk]
theorem cBothN (g i j : Nat) (S : List Value) (a b : Option Addr) (m k c d : Nat) (w : World) (h : BlkV w g S) (hi : S[i]? = some (.slice a m c)) (hj : S[j]? = some (.slice b k d)) (hi9 : i < 10) (hj9 : j < 10) (hm : m = 0 ∨ k = 0) :
    Calls Try.prog 79 #[.pointer (some ⟨g, 0, none⟩), .int .i64 i, .int .i64 j] w fun e w' => e = .returned (.bool false) ∧ w' = w := by
  refine (cBothTw g i j S a b m k c d w h hi hj hi9 hj9).mono ?_
  rintro e w' ⟨rfl, rfl⟩
  rcases hm with rfl | rfl <;> simp
theorem cTwEvalQ (a : Option Addr) (n c : Nat) (xs : List Int) (x : Int) (w : World) (h : Rd w a n c xs) (hn : n ≤ 40) (hx0 : 0 ≤ x) (hx1 : x ≤ 18446744073709551615) :
    Calls Try.prog 72 #[.slice a n c, .int .u64 x] w fun e w' => e = .returned (.tuple #[.int .u64 (nm (ev xs x)), .int .i64 0]) ∧ ∃ q, w' = w.drewN q := by
  go_enter Try.func72, Try.ntmps72
  go_wp2_with (go_at_call 90; refine (cValueQ _ _ _ _ _ _ h hx0 hx1).mono ?_; rintro e w1 ⟨rfl, q, rfl⟩)
  go_ret2
  exact ⟨rfl, q, rfl⟩
theorem cTwValueQ (a : Option Addr) (n c : Nat) (xs : List Int) (x : Nat) (w : World) (h : Rd w a n c xs) (hn : n ≤ 40) (hx : x ≤ 100) :
    Calls Try.prog 78 #[.slice a n c, .int .i64 x] w fun e w' => e = .returned (.int .u64 (nm (ev xs x))) ∧ ∃ q, w' = w.drewN q := by
  go_enter Try.func78, Try.ntmps78
  go_wp2_with fail
  refine (cTwEvalQ _ _ _ _ _ _ h hn (by omega) (by omega)).mono ?_
  rintro e w1 ⟨rfl, q, rfl⟩
  go_wp2
  go_ret
  exact ⟨rfl, q, rfl⟩
theorem BlkV.drewN {w : World} {g : Nat} {S : List Value} (h : BlkV w g S) (q : Nat) : BlkV (w.drewN q) g S := h

theorem prj_start0 {l : List (Int × List Int)} {n : Nat} (hd : dis (ta l) n) : Prj l n 0 1 [] := ⟨List.Pairwise.nil, fun a b => ⟨fun h => by simp at h, fun ⟨h1, h2, h3⟩ => by have := dif_bd hd h2; omega⟩⟩

theorem cApart (g n : Nat) (l : List (Int × List Int)) (S : List Value) (w : World) (h : BlkV w g S) (hP : Pt w l n S) :
    Calls Try.prog 51 #[.pointer (some ⟨g, 0, none⟩)] w fun e w' => ∃ v L, e = .returned v ∧ w'.ownsRow w.heap.size 51 2 v L.length (ppc L) ∧ L.length ≤ 1000 ∧ Prs l n L ∧ Below w.heap.size w w' := by
  have HK : Hid (Rwk l n) := hP.rwk
  have HP0 : Hid (Pt w l n S) := hP
  have hg := h.lt
  clear hP
  go_enter Try.func51, Try.ntmps51
  go_wp2
  go_loopw [3, 6] (fun v q wr => ∃ (i : Nat) (L : List (Int × Int)), i ≤ 10 ∧ q = .int .i64 i ∧ wr.ownsRow w.heap.size 51 2 v L.length (ppc L) ∧ L.length ≤ 10 * i ∧ Hid (Prj l n i ((i : Int) + 1) L) ∧ Below w.heap.size w wr) (fun _ q _ => 10 - (intOf q).toNat)
  case atStart => exact ⟨0, [], by omega, rfl, World.ownsRow_nil _ _ _ _, by simp, prj_start0 HK.out.dis, Below.refl _ _⟩
  case round =>
    obtain ⟨i, L, hi, rfl, hown, hLl, HP, hbel⟩ := hrel
    by_cases hi10 : i < 10
    · have hid : decide ((i : Int) < 10) = true := decide_eq_true (by omega)
      go_wp2
      go_loopw [3, 5] (fun v q wr => ∃ (j : Nat) (L : List (Int × Int)), i + 1 ≤ j ∧ j ≤ 10 ∧ q = .int .i64 j ∧ wr.ownsRow w.heap.size 51 2 v L.length (ppc L) ∧ L.length ≤ 10 * i + j ∧ Hid (Prj l n i j L) ∧ Below w.heap.size w wr) (fun _ q _ => 10 - (intOf q).toNat)
      case atStart => exact ⟨i + 1, L, by omega, by omega, by go_num, hown, by omega, by push_cast; exact HP, hbel⟩
      case round =>
        clear hown hLl HP hbel
        obtain ⟨j, L, hj1, hj, rfl, hown, hLl, HP, hbel⟩ := hrel
        have hsw := hbel.size
        by_cases hj10 : j < 10
        · have hBr := h.below hbel hg
          have HPr := HP0.out.below hbel
          obtain ⟨ai, mi, ci, hSi, hmi, hri⟩ := HPr.row i (by omega)
          obtain ⟨aj, mj, cj, hSj, hmj, hrj⟩ := HPr.row j (by omega)
          have cei := hBr.cell hSi
          have cej := hBr.cell hSj
          have hgr := hBr.lt
          rcases hri with ⟨hz, hno⟩ | ⟨r, hr, her, hm1, hrdi⟩
          · have HP2 : Hid (Prj l n i ((j : Int) + 1) L) := prj_skip HP.out (dif_none1 hno)
            have HZ : Hid (mi = 0 ∨ mj = 0) := .inl hz
            clear hno hrj hz HPr
            go_wp2_with fail
            go_quiet ((go_at_call 79; exact Calls.quiet_of_same (cBothN _ _ _ _ _ _ _ _ _ _ _ (hBr.drewN _) hSi hSj (by omega) (by omega) HZ.out)))
            all_goals
              go_wp2
              go_roundw
              case rel => exact ⟨j + 1, L, by omega, by omega, by go_num, hown, by omega, by push_cast; exact HP2, drewN_below hbel _⟩
              case measure => simp [intOf]; omega
          · rcases hrj with ⟨hz, hno⟩ | ⟨s, hs, hes, hk1, hrdj⟩
            · have HP2 : Hid (Prj l n i ((j : Int) + 1) L) := prj_skip HP.out (dif_none2 hno)
              have HZ : Hid (mi = 0 ∨ mj = 0) := .inr hz
              clear hno hz HPr her hrdi
              go_wp2_with fail
              go_quiet ((go_at_call 79; exact Calls.quiet_of_same (cBothN _ _ _ _ _ _ _ _ _ _ _ (hBr.drewN _) hSi hSj (by omega) (by omega) HZ.out)))
              all_goals
                go_wp2
                go_roundw
                case rel => exact ⟨j + 1, L, by omega, by omega, by go_num, hown, by omega, by push_cast; exact HP2, drewN_below hbel _⟩
                case measure => simp [intOf]; omega
            · have HER : Hid (ta l r = (i : Int)) := her
              have HES : Hid (ta l s = (j : Int)) := hes
              clear her hes HPr
              by_cases hev : nm (ev (tc l r) (j : Int)) = nm (ev (tc l s) (i : Int))
              · have hmb : (nm (ev (tc l r) (j : Int)) != nm (ev (tc l s) (i : Int))) = false := by rw [hev]; simp
                have HP2 : Hid (Prj l n i ((j : Int) + 1) L) := prj_skip HP.out (dif_no HK.out.dis hr hs HER.out HES.out hev)
                clear hev
                go_wp2_with fail
                go_quiet ((first | (go_at_call 79; exact Calls.quiet_of_same (cBothY _ _ _ _ _ _ _ _ _ _ _ (hBr.drewN _) hSi hSj (by omega) (by omega) (by omega) (by omega))) | (go_at_call 78; first | exact Calls.quiet_of (cTwValueQ _ _ _ _ _ _ (hrdi.drewN _) (by omega) (by omega)) | exact Calls.quiet_of (cTwValueQ _ _ _ _ _ _ (hrdj.drewN _) (by omega) (by omega)))))
                all_goals
                  go_wp2
                  go_roundw
                  case rel => exact ⟨j + 1, L, by omega, by omega, by go_num, hown, by omega, by push_cast; exact HP2, drewN_below hbel _⟩
                  case measure => simp [intOf]; omega
              · have hmb : (nm (ev (tc l r) (j : Int)) != nm (ev (tc l s) (i : Int))) = true := by rw [bne_iff_ne]; exact hev
                have HP2 : Hid (Prj l n i ((j : Int) + 1) (L ++ [((i : Int), (j : Int))])) := prj_add HP.out (by omega) (dif_yes hr hs HER.out HES.out hev)
                have HLl : Hid ((L ++ [((i : Int), (j : Int))]).length = L.length + 1) := by unfold Hid; simp
                clear hev
                go_wp2_with fail
                go_quiet ((first | (go_at_call 79; exact Calls.quiet_of_same (cBothY _ _ _ _ _ _ _ _ _ _ _ (hBr.drewN _) hSi hSj (by omega) (by omega) (by omega) (by omega))) | (go_at_call 78; first | exact Calls.quiet_of (cTwValueQ _ _ _ _ _ _ (hrdi.drewN _) (by omega) (by omega)) | exact Calls.quiet_of (cTwValueQ _ _ _ _ _ _ (hrdj.drewN _) (by omega) (by omega)))))
                have hownD : (wr.drewN nq).ownsRow w.heap.size 51 2 u3 L.length (ppc L) := hown
                have hbwD := drewN_below hbel nq
                have hsD : w.heap.size ≤ (wr.drewN nq).heap.size := hsw
                generalize wr.drewN nq = wD at *
                obtain ⟨NL, HNL⟩ : ∃ NL, Hid (L.length = NL) := ⟨_, rfl⟩
                rw [HNL.out] at hownD hLl HLl
                clear hown hbel hsw hrdi hrdj cei cej hBr hSi hSj
                go_wp2_with (at_builtin; refine wpList_app2 Try.underlying44 infoPair rfl (by omega) _ rfl _ _ rfl w.heap.size _ _ _ rfl hownD (.int .i64 i) (.int .i64 j) rfl rfl rfl (by omega) hsD ?_; intro v7 w7 hown7 hgr7 _; rw [ppc_snoc] at hown7; have hb7 := hbwD.grown hgr7 hsD (fun q hq => (hownD.lt q hq).1); clear hgr7 hownD hbwD)
                go_roundw
                case rel => exact ⟨j + 1, _, by omega, by omega, by go_num, by rw [HLl.out]; exact hown7, by rw [HLl.out]; omega, by push_cast; exact HP2, hb7⟩
                case measure => simp [intOf]; omega
        · have hj2 : j = 10 := by omega
          subst hj2
          have HP2 : Hid (Prj l n ((i : Int) + 1) ((i : Int) + 2) L) := prj_next HK.out.dis HP.out
          go_wp2
          go_roundw
          case rel => exact ⟨i + 1, L, by omega, by go_num, hown, by omega, by have := HP2.out; push_cast; rw [show (i : Int) + 1 + 1 = (i : Int) + 2 by omega]; exact this, hbel⟩
          case measure => simp [intOf]; omega
    · have hi2 : i = 10 := by omega
      subst hi2
      have HE : Hid (Prs l n L) := prj_end HK.out.dis HP.out
      go_wp2
      go_ret
      exact ⟨_, L, rfl, hown, by omega, HE.out, hbel⟩
end
end Go.Proofs.Ytljlioglpaogdab
