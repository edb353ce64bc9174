/- croftref.Sum. · croftref.In, croftref.Ats. · croftref.Dealt, croftref.Deal. -/
import Derived.Test.YtgmelcdgnjcojacToRefPolyC
import Derived.Test.YtgmelcdgnjcojacToShares
import Derived.Test.YtgmelcdgnjcojacToIntsC
import Derived.Test.YtgmelcdgnjcojacToTellsM
namespace Go.Proofs.Ytgmelcdgnjcojac
open Go.RowKit Crm

def smk (ps qs : List Int) (k : Nat) : List Int := (List.range k).map fun i => nm (ps.getD i 0 + qs.getD i 0)
theorem smk_step (ps qs : List Int) (k : Nat) {v : Int} (e : v = nm (ps.getD k 0 + qs.getD k 0)) : smk ps qs k ++ [v] = smk ps qs (k + 1) := by
  unfold smk
  rw [List.range_succ, List.map_append, e]
  rfl
theorem smk_bd (ps qs : List Int) (k : Nat) : ∀ x ∈ smk ps qs k, 0 ≤ x ∧ x ≤ 18446744073709551615 := by
  intro x hx
  obtain ⟨k, _, rfl⟩ := List.mem_map.1 hx
  have := nm_bd (ps.getD k 0 + qs.getD k 0)
  omega

theorem own_base {w : World} {B B' n : Nat} {E : TypeId} {v : Value} {xs : List Value} (h : w.ownsRow B E 1 v n xs) (hB : B' ≤ B) : w.ownsRow B' E 1 v n xs := by
  rcases h.2 with h' | ⟨g, cap, cur, e1, e2, e3⟩
  · exact ⟨h.1, Or.inl h'⟩
  · exact ⟨h.1, Or.inr ⟨g, cap, cur, e1, by omega, e3⟩⟩

set_option maxRecDepth 100000 in
set_option maxHeartbeats 1000000 in
theorem rSumO (a : Option Addr) (n c : Nat) (xs : List Int) (b : Option Addr) (m d : Nat) (ys : List Int) (w : World) (h : Rd w a n c xs) (g : Rd w b m d ys) (hn : n ≤ 1000) (hm : m ≤ 1000) :
    Calls Try.prog 89 #[.slice a n c, .slice b m d] w fun e w' => ∃ a' c', e = .returned (.slice a' (nrm (sml xs ys)).length c') ∧ w'.ownsRow w.heap.size 23 1 (.slice a' (nrm (sml xs ys)).length c') (nrm (sml xs ys)).length ((nrm (sml xs ys)).map (Value.int .u64)) ∧ Below w.heap.size w w' := by
  have hlen := h.len
  have glen := g.len
  go_enter Try.func89, Try.ntmps89
  go_wp2
  go_loopw [5, 6] (fun v i wr => ∃ k : Nat, k ≤ max n m ∧ i = .int .i64 k ∧ wr.ownsRow w.heap.size 23 1 v k ((smk xs ys k).map (Value.int .u64)) ∧ Below w.heap.size w wr) (fun _ i _ => max n m - (intOf i).toNat)
  case atStart => exact ⟨0, Nat.zero_le _, rfl, World.ownsRow_nil _ _ _ _, Below.refl _ _⟩
  case round =>
    obtain ⟨k, hk, rfl, hown, hbel⟩ := hrel
    have hs1 := hbel.size
    by_cases h1 : k < n
    · obtain ⟨b1, o1, x, rfl, hbb, HX, hx0, hx1, hcx⟩ := (h.below hbel).one h1
      have hnx := nm_bd x
      by_cases h2 : k < m
      · obtain ⟨b2, o2, y, rfl, hbb2, HY, hy0, hy1, hcy⟩ := (g.below hbel).one h2
        have HV : Hid (nm (nm x + y) = nm (xs.getD k 0 + ys.getD k 0)) := by rw [HX.out, HY.out]; exact nm_addl _ _
        go_wp2_with (first | (go_at_call 6; refine (rAdd _ _ _ (by omega) (by omega) (by omega) (by omega)).mono ?_; rintro e w' ⟨rfl, hw⟩; have hw := hw.symm; subst hw) | (at_builtin; refine wpList_app1 Try.underlying24 infoR23 _ rfl _ _ rfl w.heap.size _ _ _ rfl hown _ rfl (by omega) (by omega) ?_; intro v' w3 hown3 hbel3; rw [smk_step xs ys k HV.out] at hown3; have hbel4 := hbel.trans hbel3; clear hown hbel hbel3))
        go_roundw
        case rel => exact ⟨k + 1, by omega, by go_num, hown3, hbel4⟩
        case measure => simp [intOf]; omega
      · have HV : Hid (nm x = nm (xs.getD k 0 + ys.getD k 0)) := by rw [HX.out, getD_big (show ys.length ≤ k by omega), Int.add_zero]; exact rfl
        go_wp2_with (first | (go_at_call 6; refine (rAdd _ _ _ (by omega) (by omega) (by omega) (by omega)).mono ?_; rintro e w' ⟨rfl, hw⟩; have hw := hw.symm; subst hw) | (at_builtin; refine wpList_app1 Try.underlying24 infoR23 _ rfl _ _ rfl w.heap.size _ _ _ rfl hown _ rfl (by omega) (by omega) ?_; intro v' w3 hown3 hbel3; rw [smk_step xs ys k HV.out] at hown3; have hbel4 := hbel.trans hbel3; clear hown hbel hbel3))
        go_roundw
        case rel => exact ⟨k + 1, by omega, by go_num, hown3, hbel4⟩
        case measure => simp [intOf]; omega
    · by_cases h2 : k < m
      · obtain ⟨b2, o2, y, rfl, hbb2, HY, hy0, hy1, hcy⟩ := (g.below hbel).one h2
        have HV : Hid (nm y = nm (xs.getD k 0 + ys.getD k 0)) := by rw [HY.out, getD_big (show xs.length ≤ k by omega), Int.zero_add]; exact rfl
        go_wp2_with (first | (go_at_call 6; refine (rAdd _ _ _ (by omega) (by omega) (by omega) (by omega)).mono ?_; rintro e w' ⟨rfl, hw⟩; have hw := hw.symm; subst hw) | (at_builtin; refine wpList_app1 Try.underlying24 infoR23 _ rfl _ _ rfl w.heap.size _ _ _ rfl hown _ rfl (by omega) (by omega) ?_; intro v' w3 hown3 hbel3; rw [smk_step xs ys k HV.out] at hown3; have hbel4 := hbel.trans hbel3; clear hown hbel hbel3))
        go_roundw
        case rel => exact ⟨k + 1, by omega, by go_num, hown3, hbel4⟩
        case measure => simp [intOf]; omega
      · obtain ⟨a', c', rfl, hr, hfr⟩ := Rd.own hown (smk_bd xs ys k)
        have HE : Hid (smk xs ys k = sml xs ys) := by unfold smk sml; rw [hlen, glen, show k = max n m by omega]; exact rfl
        have HK : Hid (k = (sml xs ys).length) := by rw [sml_len, hlen, glen]; unfold Hid; omega
        go_wp2_with fail
        refine (rNormalO _ _ _ _ _ hr (by omega)).mono ?_
        rintro e w2 ⟨a2, c2, rfl, hr2, hb2⟩
        rw [HE.out] at hr2 ⊢
        rw [HK.out, ← nrm_len] at hr2 ⊢
        have hr3 := own_base hr2 hs1
        clear hr2
        go_wp2
        go_ret
        exact ⟨a2, c2, rfl, hr3, hbel.trans (hb2.mono hs1)⟩
theorem rSum (a : Option Addr) (n c : Nat) (xs : List Int) (b : Option Addr) (m d : Nat) (ys : List Int) (w : World) (h : Rd w a n c xs) (g : Rd w b m d ys) (hn : n ≤ 1000) (hm : m ≤ 1000) :
    Calls Try.prog 89 #[.slice a n c, .slice b m d] w fun e w' => ∃ a' c', e = .returned (.slice a' (nrm (sml xs ys)).length c') ∧ Rd w' a' (nrm (sml xs ys)).length c' (nrm (sml xs ys)) ∧ Below w.heap.size w w' ∧ ∀ x, a' = some x → w.heap.size ≤ x.block := by
  refine (rSumO _ _ _ _ _ _ _ _ _ h g hn hm).mono ?_
  rintro e w' ⟨a', c', rfl, hown, hb⟩
  obtain ⟨a2, c2, e2, hr, hf⟩ := Rd.own hown (nrm_bd _)
  simp only [Value.slice.injEq, true_and] at e2
  obtain ⟨rfl, rfl⟩ := e2
  exact ⟨a', c', rfl, hr, hb, hf⟩
end Go.Proofs.Ytgmelcdgnjcojac

namespace Go.Proofs.Ytgmelcdgnjcojac
open Go.RowKit Crm

set_option maxRecDepth 100000 in
theorem rInY (n lo hi : Int) (w : World) (h1 : lo ≤ n) (h2 : n ≤ hi) :
    Calls Try.prog 13 #[.int .i64 n, .int .i64 lo, .int .i64 hi] w fun e w' => e = .returned (.bool true) ∧ w' = w := by
  go_enter Try.func13, Try.ntmps13
  go_wp2
  go_ret
  exact ⟨rfl, rfl⟩
set_option maxRecDepth 100000 in
theorem rInN (n lo hi : Int) (w : World) (h : n < lo ∨ hi < n) :
    Calls Try.prog 13 #[.int .i64 n, .int .i64 lo, .int .i64 hi] w fun e w' => e = .returned (.bool false) ∧ w' = w := by
  by_cases h1 : n < lo
  · clear h
    go_enter Try.func13, Try.ntmps13
    go_wp2
    go_ret
    exact ⟨rfl, rfl⟩
  · have h2 : hi < n := by omega
    have hd : decide (n ≤ hi) = false := by simp; omega
    clear h
    go_enter Try.func13, Try.ntmps13
    go_wp2
    go_ret
    exact ⟨rfl, rfl⟩

set_option maxHeartbeats 1000000 in
set_option maxRecDepth 100000 in
theorem rAts (a : Option Addr) (n c : Nat) (l : List (Int × Int)) (w : World) (h : RdS w a n c l) (hn : n ≤ 1000) :
    Calls Try.prog 86 #[.slice a n c, .int .i64 2147483646] w fun e w' => Tells (okk l n) w e w' := by
  have hlen := h.len
  have hcap := h.cap
  have hmax := h.max
  unfold maxLen at hmax
  go_enter Try.func86, Try.ntmps86
  go_wp2
  go_loopw [5] (fun i wr => ∃ k : Nat, k ≤ n ∧ i = .int .i64 k ∧ Hid (okk l k) ∧ Below w.heap.size w wr) (fun i _ => n - (intOf i).toNat)
  case atStart => exact ⟨0, Nat.zero_le _, rfl, okk_zero l, Below.refl _ _⟩
  case round =>
    obtain ⟨k, hk, rfl, HK, hbel⟩ := hrel
    by_cases hlt : k < n
    · have hR := h.below hbel
      obtain ⟨b, o, x, y, rfl, hbb, HX, HY, hx0, hx1, hy0, hy1, hcx, hcy⟩ := hR.one hlt
      by_cases hx2 : x < 1 ∨ 2147483646 < x
      · have HN : Hid (¬ okk l n) := fun hk => by have := (hk k hlt).1; rw [HX.out] at this; omega
        have HX2 : Hid (x < 1 ∨ 2147483646 < x) := hx2
        clear hx2
        go_wp2_with (go_at_call 13; refine (rInN _ _ _ _ HX2.out).mono ?_; rintro e w' ⟨rfl, rfl⟩)
        go_ret
        exact .no HN.out hbel
      · go_wp2_with (go_at_call 13; refine (rInY _ _ _ _ (by omega) (by omega)).mono ?_; rintro e w' ⟨rfl, rfl⟩)
        go_loopw [6] (fun i wr => ∃ m : Nat, m ≤ k ∧ i = .int .i64 m ∧ Hid (∀ j, j < m → (l.getD j (0, 0)).1 ≠ x) ∧ Below w.heap.size w wr) (fun i _ => k - (intOf i).toNat)
        case atStart => exact ⟨0, Nat.zero_le _, rfl, fun j hj => by omega, hbel⟩
        case round =>
          obtain ⟨m, hm, rfl, HM, hbm⟩ := hrel
          by_cases hmk : m < k
          · have hR2 := h.below hbm
            obtain ⟨b', o', x', y', e', hbb', HX', HY', hx0', hx1', hy0', hy1', hcx', hcy'⟩ := hR2.one (show m < n by omega)
            simp only [Option.some.injEq, Addr.mk.injEq, and_true] at e'
            obtain ⟨rfl, rfl⟩ := e'
            obtain ⟨b'', o'', x'', y'', e'', _, HX'', _, _, _, _, _, hcx'', _⟩ := hR2.one hlt
            simp only [Option.some.injEq, Addr.mk.injEq, and_true] at e''
            obtain ⟨rfl, rfl⟩ := e''
            have e3 : x'' = x := HX''.out.symm.trans HX.out
            subst e3
            by_cases hxx : x' = x''
            · have HN : Hid (¬ okk l n) := fun hk => (hk k hlt).2 m hmk (by rw [HX'.out, HX.out]; exact hxx)
              have hxb : (x' == x'') = true := by rw [beq_iff_eq]; exact hxx
              clear hxx
              go_wp2
              go_region
              all_goals go_wp2
              all_goals
                go_ret
                exact .no HN.out (by first | exact hbm.drew | exact hbm.drew.drew)
            · have hxb : (x' == x'') = false := by rw [beq_eq_false_iff_ne]; exact hxx
              have HM2 : Hid (∀ j, j < m + 1 → (l.getD j (0, 0)).1 ≠ x'') := fun j hj => by
                by_cases e : j = m
                · rw [e, HX'.out]; exact hxx
                · exact HM.out j (by omega)
              clear hxx
              go_wp2
              go_region
              all_goals go_wp2
              all_goals
                go_roundw
                case rel => exact ⟨m + 1, by omega, by go_num, HM2, by first | exact hbm.drew | exact hbm.drew.drew⟩
                case measure => simp [intOf]; omega
          · have hmk' : m = k := by omega
            subst hmk'
            have HK2 : Hid (okk l (m + 1)) := okk_succ HK.out HX.out (by omega) (by omega) HM.out
            go_wp2
            go_roundw
            case rel => exact ⟨m + 1, by omega, by go_num, HK2, hbm⟩
            case measure => simp [intOf]; omega
    · have hkn : k = n := by omega
      subst hkn
      go_wp2
      go_ret
      exact .yes HK.out hbel
end Go.Proofs.Ytgmelcdgnjcojac

namespace Go.Proofs.Ytgmelcdgnjcojac
open Go.RowKit Crm

set_option maxRecDepth 100000 in
set_option maxHeartbeats 1000000 in
theorem rDealtO (s : Int) (a : Option Addr) (m c : Nat) (xs : List Int) (n : Nat) (w : World) (h : Rd w a m c xs) (hs0 : 0 ≤ s) (hs1 : s ≤ 18446744073709551615) (hm : m ≤ 4) (hn9 : n ≤ 9) :
    Calls Try.prog 64 #[.int .u64 s, .slice a m c, .int .i64 n] w fun e w' => ∃ v, e = .returned v ∧ w'.ownsRow w.heap.size 23 1 v n ((dl (s :: xs) n).map (Value.int .u64)) ∧ Below w.heap.size w w' := by
  go_enter Try.func64, Try.ntmps64
  go_wp2_with (at_builtin; refine wpList_appR Try.underlying24 info23 _ rfl _ _ rfl s hs0 hs1 a m c xs h rfl rfl (by omega) ?_; intro a1 c1 w1 hr1 hb1)
  have hs1 := hb1.size
  go_loopw [8, 9] (fun v i wr => ∃ k : Nat, k ≤ n ∧ i = .int .i64 (k + 1) ∧ wr.ownsRow w1.heap.size 23 1 v k ((dl (s :: xs) k).map (Value.int .u64)) ∧ Below w1.heap.size w1 wr) (fun _ i _ => n + 1 - (intOf i).toNat)
  case atStart => exact ⟨0, Nat.zero_le _, rfl, World.ownsRow_nil _ _ _ _, Below.refl _ _⟩
  case round =>
    obtain ⟨k, hk, rfl, hown, hbel⟩ := hrel
    have hs2 := hbel.size
    by_cases hlt : k < n
    · have HF : Hid (nm (ev (s :: xs) ((k : Int) + 1)) = dlf (s :: xs) k) := rfl
      go_wp2_with fail
      refine (rEval _ _ _ _ _ _ (hr1.below hbel) (by omega) (by omega) (by omega)).mono ?_
      rintro e w3 ⟨rfl, hw⟩
      have hw := hw.symm
      subst hw
      rw [HF.out]
      go_wp2_with (at_builtin; refine wpList_app1 Try.underlying24 info23 _ rfl _ _ rfl w1.heap.size _ _ _ rfl hown _ rfl (by omega) (by omega) ?_; intro v' w7 hown7 hbel7; rw [dl_snoc] at hown7)
      have hbel8 := hbel.trans hbel7
      go_roundw
      case rel => exact ⟨k + 1, by omega, by go_num, hown7, hbel8⟩
      case measure => simp [intOf]; omega
    · have hkn : k = n := by omega
      subst hkn
      go_wp2
      go_ret
      exact ⟨_, rfl, own_base hown hs1, hb1.trans (hbel.mono hs1)⟩
theorem rDealt (s : Int) (a : Option Addr) (m c : Nat) (xs : List Int) (n : Nat) (w : World) (h : Rd w a m c xs) (hs0 : 0 ≤ s) (hs1 : s ≤ 18446744073709551615) (hm : m ≤ 4) (hn9 : n ≤ 9) :
    Calls Try.prog 64 #[.int .u64 s, .slice a m c, .int .i64 n] w fun e w' => ∃ a' c', e = .returned (.slice a' n c') ∧ Rd w' a' n c' (dl (s :: xs) n) ∧ Below w.heap.size w w' := by
  refine (rDealtO s a m c xs n w h hs0 hs1 hm hn9).mono ?_
  rintro e w' ⟨v, rfl, hown, hb⟩
  obtain ⟨a', c', rfl, hr', _⟩ := Rd.own hown (bd_u64 (dl_bd _ _))
  exact ⟨_, _, rfl, hr', hb⟩

end Go.Proofs.Ytgmelcdgnjcojac
