/- croftref.Sum. · croftref.TwoDeal. -/
import Derived.Test.YtiegggenfdebnabToRefPolyC
import Derived.Test.YtiegggenfdebnabToPolyM2
import Derived.Test.YtiegggenfdebnabToOwnC
namespace Go.Proofs.Ytiegggenfdebnab
open Go.RowKit Crm

def smk (ps qs : List Int) (k : Nat) : List Int := (List.range k).map fun i => nm (ps.getD i 0 + qs.getD i 0)
theorem smk_step (ps qs : List Int) (k : Nat) {v : Int} (e : v = nm (ps.getD k 0 + qs.getD k 0)) : smk ps qs k ++ [v] = smk ps qs (k + 1) := by
  unfold smk
  rw [List.range_succ, List.map_append, e]
  rfl
theorem smk_bd (ps qs : List Int) (k : Nat) : ∀ x ∈ smk ps qs k, 0 ≤ x ∧ x ≤ 18446744073709551615 := by
  intro x hx
  obtain ⟨k, _, rfl⟩ := List.mem_map.1 hx
  have := nm_bd (ps.getD k 0 + qs.getD k 0)
  omega

theorem own_base {w : World} {B B' n : Nat} {E : TypeId} {v : Value} {xs : List Value} (h : w.ownsRow B E 1 v n xs) (hB : B' ≤ B) : w.ownsRow B' E 1 v n xs := by
  rcases h.2 with h' | ⟨g, cap, cur, e1, e2, e3⟩
  · exact ⟨h.1, Or.inl h'⟩
  · exact ⟨h.1, Or.inr ⟨g, cap, cur, e1, by omega, e3⟩⟩

set_option maxRecDepth 100000 in
set_option maxHeartbeats 1000000 in
theorem rSumO (a : Option Addr) (n c : Nat) (xs : List Int) (b : Option Addr) (m d : Nat) (ys : List Int) (w : World) (h : Rd w a n c xs) (g : Rd w b m d ys) (hn : n ≤ 1000) (hm : m ≤ 1000) :
    Calls Try.prog 73 #[.slice a n c, .slice b m d] w fun e w' => ∃ a' c', e = .returned (.slice a' (nrm (sml xs ys)).length c') ∧ w'.ownsRow w.heap.size 28 1 (.slice a' (nrm (sml xs ys)).length c') (nrm (sml xs ys)).length ((nrm (sml xs ys)).map (Value.int .u64)) ∧ Below w.heap.size w w' := by
  have hlen := h.len
  have glen := g.len
  go_enter Try.func73, Try.ntmps73
  go_wp2
  go_loopw [5, 6] (fun v i wr => ∃ k : Nat, k ≤ max n m ∧ i = .int .i64 k ∧ wr.ownsRow w.heap.size 28 1 v k ((smk xs ys k).map (Value.int .u64)) ∧ Below w.heap.size w wr) (fun _ i _ => max n m - (intOf i).toNat)
  case atStart => exact ⟨0, Nat.zero_le _, rfl, World.ownsRow_nil _ _ _ _, Below.refl _ _⟩
  case round =>
    obtain ⟨k, hk, rfl, hown, hbel⟩ := hrel
    have hs1 := hbel.size
    by_cases h1 : k < n
    · obtain ⟨b1, o1, x, rfl, hbb, HX, hx0, hx1, hcx⟩ := (h.below hbel).one h1
      have hnx := nm_bd x
      by_cases h2 : k < m
      · obtain ⟨b2, o2, y, rfl, hbb2, HY, hy0, hy1, hcy⟩ := (g.below hbel).one h2
        have HV : Hid (nm (nm x + y) = nm (xs.getD k 0 + ys.getD k 0)) := by rw [HX.out, HY.out]; exact nm_addl _ _
        go_wp2_with (first | (go_at_call 35; refine (rAdd _ _ _ (by omega) (by omega) (by omega) (by omega)).mono ?_; rintro e w' ⟨rfl, hw⟩; have hw := hw.symm; subst hw) | (at_builtin; refine wpList_app1 Try.underlying23 infoR28 _ rfl _ _ rfl w.heap.size _ _ _ rfl hown _ rfl (by omega) (by omega) ?_; intro v' w3 hown3 hbel3; rw [smk_step xs ys k HV.out] at hown3; have hbel4 := hbel.trans hbel3; clear hown hbel hbel3))
        go_roundw
        case rel => exact ⟨k + 1, by omega, by go_num, hown3, hbel4⟩
        case measure => simp [intOf]; omega
      · have HV : Hid (nm x = nm (xs.getD k 0 + ys.getD k 0)) := by rw [HX.out, getD_big (show ys.length ≤ k by omega), Int.add_zero]; exact rfl
        go_wp2_with (first | (go_at_call 35; refine (rAdd _ _ _ (by omega) (by omega) (by omega) (by omega)).mono ?_; rintro e w' ⟨rfl, hw⟩; have hw := hw.symm; subst hw) | (at_builtin; refine wpList_app1 Try.underlying23 infoR28 _ rfl _ _ rfl w.heap.size _ _ _ rfl hown _ rfl (by omega) (by omega) ?_; intro v' w3 hown3 hbel3; rw [smk_step xs ys k HV.out] at hown3; have hbel4 := hbel.trans hbel3; clear hown hbel hbel3))
        go_roundw
        case rel => exact ⟨k + 1, by omega, by go_num, hown3, hbel4⟩
        case measure => simp [intOf]; omega
    · by_cases h2 : k < m
      · obtain ⟨b2, o2, y, rfl, hbb2, HY, hy0, hy1, hcy⟩ := (g.below hbel).one h2
        have HV : Hid (nm y = nm (xs.getD k 0 + ys.getD k 0)) := by rw [HY.out, getD_big (show xs.length ≤ k by omega), Int.zero_add]; exact rfl
        go_wp2_with (first | (go_at_call 35; refine (rAdd _ _ _ (by omega) (by omega) (by omega) (by omega)).mono ?_; rintro e w' ⟨rfl, hw⟩; have hw := hw.symm; subst hw) | (at_builtin; refine wpList_app1 Try.underlying23 infoR28 _ rfl _ _ rfl w.heap.size _ _ _ rfl hown _ rfl (by omega) (by omega) ?_; intro v' w3 hown3 hbel3; rw [smk_step xs ys k HV.out] at hown3; have hbel4 := hbel.trans hbel3; clear hown hbel hbel3))
        go_roundw
        case rel => exact ⟨k + 1, by omega, by go_num, hown3, hbel4⟩
        case measure => simp [intOf]; omega
      · obtain ⟨a', c', rfl, hr, hfr⟩ := Rd.own hown (smk_bd xs ys k)
        have HE : Hid (smk xs ys k = sml xs ys) := by unfold smk sml; rw [hlen, glen, show k = max n m by omega]; exact rfl
        have HK : Hid (k = (sml xs ys).length) := by rw [sml_len, hlen, glen]; unfold Hid; omega
        go_wp2_with fail
        refine (rNormalO _ _ _ _ _ hr (by omega)).mono ?_
        rintro e w2 ⟨a2, c2, rfl, hr2, hb2⟩
        rw [HE.out] at hr2 ⊢
        rw [HK.out, ← nrm_len] at hr2 ⊢
        have hr3 := own_base hr2 hs1
        clear hr2
        go_wp2
        go_ret
        exact ⟨a2, c2, rfl, hr3, hbel.trans (hb2.mono hs1)⟩
theorem rSum (a : Option Addr) (n c : Nat) (xs : List Int) (b : Option Addr) (m d : Nat) (ys : List Int) (w : World) (h : Rd w a n c xs) (g : Rd w b m d ys) (hn : n ≤ 1000) (hm : m ≤ 1000) :
    Calls Try.prog 73 #[.slice a n c, .slice b m d] w fun e w' => ∃ a' c', e = .returned (.slice a' (nrm (sml xs ys)).length c') ∧ Rd w' a' (nrm (sml xs ys)).length c' (nrm (sml xs ys)) ∧ Below w.heap.size w w' ∧ ∀ x, a' = some x → w.heap.size ≤ x.block := by
  refine (rSumO _ _ _ _ _ _ _ _ _ h g hn hm).mono ?_
  rintro e w' ⟨a', c', rfl, hown, hb⟩
  obtain ⟨a2, c2, e2, hr, hf⟩ := Rd.own hown (nrm_bd _)
  simp only [Value.slice.injEq, true_and] at e2
  obtain ⟨rfl, rfl⟩ := e2
  exact ⟨a', c', rfl, hr, hb, hf⟩
end Go.Proofs.Ytiegggenfdebnab

namespace Go.Proofs.Ytiegggenfdebnab
open Go.RowKit Crm

/-- Column j of F: a polynomial in x. -/
def colA (s : Int) (ds : List Int) (t j : Nat) : List Int := (List.range (t + 1)).map fun i => A2 s ds t i j
theorem colA_len (s : Int) (ds : List Int) (t j : Nat) : (colA s ds t j).length = t + 1 := by simp [colA]
theorem colA_getD (s : Int) (ds : List Int) (t j : Nat) {i : Nat} (h : i ≤ t) : (colA s ds t j).getD i 0 = A2 s ds t i j := by simp [colA, show i < t + 1 by omega]
/-- The first k numbers of the row of the party x. -/
def rowK (s : Int) (ds : List Int) (t : Nat) (x : Int) (k : Nat) : List Int := (List.range k).map fun j => nm (ev (colA s ds t j) x)
theorem rowK_len (s : Int) (ds : List Int) (t : Nat) (x : Int) (k : Nat) : (rowK s ds t x k).length = k := by simp [rowK]
theorem rowK_getD (s : Int) (ds : List Int) (t : Nat) (x : Int) {k j : Nat} (h : j < k) : (rowK s ds t x k).getD j 0 = nm (ev (colA s ds t j) x) := by simp [rowK, h]
theorem rowK_snoc (s : Int) (ds : List Int) (t : Nat) (x : Int) (k : Nat) : rowK s ds t x k ++ [nm (ev (colA s ds t k) x)] = rowK s ds t x (k + 1) := by simp [rowK, List.range_succ]
theorem rowK_bd (s : Int) (ds : List Int) (t : Nat) (x : Int) (k : Nat) : ∀ z ∈ rowK s ds t x k, 0 ≤ z ∧ z ≤ 2147483646 := by
  intro z hz
  obtain ⟨i, _, rfl⟩ := List.mem_map.1 hz
  exact nm_bd _
/-- The rows of the first k parties. -/
def dealA (s : Int) (ds : List Int) (t k : Nat) : List (Int × List Int) := (List.range k).map fun r : Nat => ((r : Int) + 1, rowK s ds t ((r : Int) + 1) (t + 1))
theorem dealA_len (s : Int) (ds : List Int) (t k : Nat) : (dealA s ds t k).length = k := by simp [dealA]
theorem dealA_snoc (s : Int) (ds : List Int) (t k : Nat) : dealA s ds t k ++ [((k : Int) + 1, rowK s ds t ((k : Int) + 1) (t + 1))] = dealA s ds t (k + 1) := by simp [dealA, List.range_succ]
theorem dealA_getD (s : Int) (ds : List Int) (t : Nat) {k r : Nat} (h : r < k) : (dealA s ds t k).getD r (0, []) = ((r : Int) + 1, rowK s ds t ((r : Int) + 1) (t + 1)) := by simp [dealA, h]

set_option maxRecDepth 100000 in
set_option maxHeartbeats 1000000 in
theorem rTwoDeal (s : Int) (a : Option Addr) (n c : Nat) (ds : List Int) (t m : Nat) (w : World) (h : Rd w a n c ds) (hs0 : 0 ≤ s) (hs1 : s ≤ 18446744073709551615) (ht : t ≤ 4) (hn : n = (t + 1) * (t + 2) / 2 - 1) (hm : m ≤ 9) :
    Calls Try.prog 17 #[.int .u64 s, .int .i64 t, .slice a n c, .int .i64 m] w fun e w' => ∃ v L, e = .returned v ∧ LsW w' w.heap.size v L (dealA s ds t m) ∧ Below w.heap.size w w' := by
  have HNn : Hid (n = (t + 1) * (t + 2) / 2 - 1) := hn
  clear hn
  go_enter Try.func17, Try.ntmps17
  go_wp2
  go_loopw [9, 10] (fun v i wr => ∃ (k : Nat) (L : List (Int × Value)), k ≤ m ∧ i = .int .i64 ((k : Int) + 1) ∧ LsW wr w.heap.size v L (dealA s ds t k) ∧ Below w.heap.size w wr) (fun _ i _ => m + 1 - (intOf i).toNat)
  case atStart => exact ⟨0, [], Nat.zero_le _, rfl, lsw_nil _ _, Below.refl _ _⟩
  case round =>
    obtain ⟨k, L, hk, rfl, hL, hbel⟩ := hrel
    obtain ⟨wo, hwo⟩ : ∃ wo, wo = wr := ⟨_, rfl⟩
    subst hwo
    have hs1' := hbel.size
    by_cases hlt : k < m
    · have hkd : (k : Int) + 1 ≤ (m : Int) := by omega
      have hbA : Below wo.heap.size wo (wo.alloc (.cells #[.int .i64 ((k : Int) + 1), .slice none 0 0] 70)) := (Below.refl _ _).alloc (Nat.le_refl _) _
      have hbox := Box.new wo ((k : Int) + 1) (.slice none 0 0)
      go_wp2
      generalize wo.alloc (.cells #[.int .i64 ((k : Int) + 1), .slice none 0 0] 70) = wA at *
      go_loopw [12] (fun i wr => ∃ (j : Nat) (u : Value), j ≤ t + 1 ∧ i = .int .i64 j ∧ Box wr wo.heap.size ((k : Int) + 1) u ∧ wr.ownsRow wo.heap.size 28 1 u j ((rowK s ds t ((k : Int) + 1) j).map (Value.int .u64)) ∧ Below wo.heap.size wo wr) (fun i _ => t + 1 - (intOf i).toNat)
      case atStart => exact ⟨0, _, Nat.zero_le _, rfl, hbox, World.ownsRow_nil _ _ _ _, hbA⟩
      case round =>
        clear hbox hbA
        obtain ⟨j, u, hj, rfl, hbox, hown, hb2⟩ := hrel
        have hs2 := hb2.size
        have hbw := hbel.trans (hb2.mono hs1')
        by_cases hjt : j < t + 1
        · have hjd : j ≤ t := by omega
          have hrd := h.below hbw
          obtain ⟨C, HC⟩ : ∃ C, Hid (colA s ds t j = C) := ⟨_, rfl⟩
          have HCl : Hid (C.length = t + 1) := by unfold Hid; rw [← HC.out]; exact colA_len _ _ _ _
          go_wp2
          go_loop [13, 14] (fun v q => ∃ (i : Nat) (y : Int), i ≤ t + 1 ∧ q = .int .i64 i ∧ v = .int .u64 y ∧ 0 ≤ y ∧ y ≤ 2147483646 ∧ Hid (y = nm (ev (C.take i) ((k : Int) + 1)))) (fun _ q => t + 1 - (intOf q).toNat)
          case atStart => exact ⟨0, 0, Nat.zero_le _, rfl, rfl, by omega, by omega, rfl⟩
          case round =>
            obtain ⟨i, y, hi, rfl, rfl, hy0, hy1, HY⟩ := hrel
            by_cases hit : i < t + 1
            · have hA := A2_bd s ds t i j
              have hpw := pw_bd ((k : Int) + 1) i
              have hmul := nm_bd (A2 s ds t i j * pw ((k : Int) + 1) i)
              have hzz : C.getD i 0 = A2 s ds t i j := by rw [← HC.out]; exact colA_getD s ds t j (by omega)
              have hci : i < C.length := by rw [HCl.out]; exact hit
              have hy2 := evstep C ((k : Int) + 1) (y := y) (q := pw ((k : Int) + 1) i) (z := A2 s ds t i j) hci HY.out rfl hzz
              have HY2 : Hid (nm (y + nm (A2 s ds t i j * pw ((k : Int) + 1) i)) = nm (ev (C.take (i + 1)) ((k : Int) + 1))) := hy2
              clear hzz hci hy2
              go_wp2_with (first | (go_at_call 37; refine (rNumber s _ _ _ ds t i j _ hrd hs0 hs1 ht HNn.out (by omega) (by omega)).mono ?_; rintro e w' ⟨rfl, hw⟩; have hw := hw.symm; subst hw) | (go_at_call 38; refine (rPow _ _ _ (by omega) (by omega) (by omega) (by omega)).mono ?_; rintro e w' ⟨rfl, hw⟩; have hw := hw.symm; subst hw) | (go_at_call 36; refine (rMul _ _ _ (by omega) (by omega) (by omega) (by omega)).mono ?_; rintro e w' ⟨rfl, hw⟩; have hw := hw.symm; subst hw) | (go_at_call 35; refine (rAdd _ _ _ (by omega) (by omega) (by omega) (by omega)).mono ?_; rintro e w' ⟨rfl, hw⟩; have hw := hw.symm; subst hw))
              go_round
              case rel => exact ⟨i + 1, _, by omega, by go_num, rfl, (nm_bd _).1, (nm_bd _).2, HY2⟩
              case measure => simp [intOf]; omega
            · have hit2 : i = t + 1 := by omega
              subst hit2
              have HV : Hid (y = nm (ev (colA s ds t j) ((k : Int) + 1))) := by
                unfold Hid
                rw [HC.out]
                have := HY.out
                rwa [List.take_of_length_le (by rw [HCl.out]; exact Nat.le_refl _)] at this
              have HRK : Hid ((rowK s ds t ((k : Int) + 1) j).map (Value.int .u64) ++ [.int .u64 y] = (rowK s ds t ((k : Int) + 1) (j + 1)).map (Value.int .u64)) := by
                unfold Hid
                rw [← rowK_snoc, List.map_append, HV.out]; rfl
              obtain ⟨d0, d1⟩ := hbox.cells
              have hap := hbox.apart hown (by decide)
              obtain ⟨ua, uc, rfl, huc⟩ := own_slice hown
              have HAP : Hid (_ ≠ _) := hap
              have Hbox : Hid (Box wr wo.heap.size ((k : Int) + 1) (.slice ua j uc)) := hbox
              clear hap hbox
              go_wp2_with (at_builtin; refine wpList_appV Try.underlying23 infoR28 rfl (by omega) _ rfl _ _ rfl wo.heap.size _ _ _ rfl hown (.int .u64 y) rfl rfl (by omega) hs2 ?_; intro v7 w7 hown7 hgr7 _; rw [HRK.out] at hown7; obtain ⟨a7, c7, rfl, _⟩ := own_slice hown7; have hbox7 := Hbox.out.kept hgr7 HAP.out; have hb7 := hb2.grown hgr7 hs2 (fun q hq => (hown.lt q hq).1); obtain ⟨e0, e1⟩ := hbox7.cells; have ef := hbox7.frozen 1; have Hbox8 : Hid (Box (w7.setCell ⟨wo.heap.size, 1, none⟩ (.slice a7 (j + 1) c7)) wo.heap.size ((k : Int) + 1) (.slice a7 (j + 1) c7)) := hbox7.set _; have Hown8 : Hid ((w7.setCell ⟨wo.heap.size, 1, none⟩ (.slice a7 (j + 1) c7)).ownsRow wo.heap.size 28 1 (.slice a7 (j + 1) c7) (j + 1) ((rowK s ds t ((k : Int) + 1) (j + 1)).map (Value.int .u64))) := hown7.kept (grown_set w7 wo.heap.size 1 _) (.inr (hbox7.apart hown7 (by decide))); have Hb8 : Hid (Below wo.heap.size wo (w7.setCell ⟨wo.heap.size, 1, none⟩ (.slice a7 (j + 1) c7))) := hb7.setCell (p := ⟨wo.heap.size, 1, none⟩) (Nat.le_refl _) (.slice a7 (j + 1) c7); clear hgr7 hown hown7 hbox7 hb7)
              go_roundw
              case rel => exact ⟨j + 1, _, by omega, by go_num, Hbox8.out, Hown8.out, Hb8.out⟩
              case measure => simp [intOf]; omega
        · have hjt2 : j = t + 1 := by omega
          subst hjt2
          obtain ⟨d0, d1⟩ := hbox.cells
          have hL2 := hL.below hb2
          have hdl := dealA_len s ds t k
          have hrl := rowK_len s ds t ((k : Int) + 1) (t + 1)
          have hown1 := own_base hown hs1'
          have hown2 : wr.ownsRow w.heap.size 28 1 u (rowK s ds t ((k : Int) + 1) (t + 1)).length ((rowK s ds t ((k : Int) + 1) (t + 1)).map (Value.int .u64)) := by rw [hrl]; exact hown1
          obtain ⟨ua, uc, rfl, huc⟩ := own_slice hown
          have hnew := hL.new (Nat.le_refl _) hown
          have hownL := hL2.own
          rw [hdl] at hownL
          have HADD : Hid (∀ v' w', w'.ownsRow w.heap.size 70 2 v' (k + 1) (pvc L ++ [.int .i64 ((k : Int) + 1), .slice ua (t + 1) uc]) → wr.grownBy w' u9.ownBlock → LsW w' w.heap.size v' (L ++ [((k : Int) + 1, .slice ua (t + 1) uc)]) (dealA s ds t (k + 1))) := by
            intro v' w' g1 g2
            rw [← dealA_snoc]
            exact hL2.add hown2 hnew (by rw [hdl]; exact g1) g2
          have hsw := hbw.size
          clear hown hown1 hown2 hbox hL2 hdl hrl hnew
          go_wp2_with (at_builtin; refine wpList_app2 Try.underlying36 infoRow rfl (by omega) _ rfl _ _ rfl w.heap.size _ _ _ rfl hownL (.int .i64 ((k : Int) + 1)) (.slice ua (t + 1) uc) rfl rfl rfl (by omega) hsw ?_; intro v7 w7 hown7 hgr7 _; have hL7 := HADD.out v7 w7 hown7 hgr7; have hb7 := hbw.grown hgr7 hsw (fun q hq => (hownL.lt q hq).1); clear hgr7 hown7)
          go_roundw
          case rel => exact ⟨k + 1, _, by omega, by go_num, hL7, hb7⟩
          case measure => simp [intOf]; omega
    · have hkm : k = m := by omega
      subst hkm
      go_wp2
      go_ret
      exact ⟨_, L, rfl, hL, hbel⟩
end Go.Proofs.Ytiegggenfdebnab
