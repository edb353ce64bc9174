/- Rows of a dealing in two variables meet; a bent one is told: plain facts. · slices.Index and Contains of ints that came in. · croftkeep.some, crofttop.some: some of the parties, none twice. -/
import Derived.Test.YtljlioglpaogdagDoorToCheckC
import Derived.Test.YtljlioglpaogdagDoorToSubC
import Derived.Test.YtljlioglpaogdagDoorToGaussM
import Derived.Test.YtljlioglpaogdagDoorToBadM
namespace Go.Proofs.YtljlioglpaogdagDoor
set_option linter.unusedVariables false
set_option maxRecDepth 100000
set_option maxHeartbeats 8000000
section
open Crm
theorem ev_sm (x : Int) : ∀ L : List Int, ev L x = sm (fun j => L.getD j 0 * x ^ j) L.length := by
  intro L
  have h : ∀ k, k ≤ L.length → ev (L.take k) x = sm (fun j => L.getD j 0 * x ^ j) k := by
    intro k
    induction k with
    | zero => intro _; rfl
    | succ k ih => intro hk; rw [ev_take L x (by omega), ih (by omega), sm]
  have := h L.length (Nat.le_refl _)
  rwa [List.take_length] at this
/-- Rows of the dealing, whichever. -/
def OfD (s : Int) (ds : List Int) (t : Nat) (l : List (Int × List Int)) (n : Nat) : Prop := ∀ r, r < n → tc l r = rowK s ds t (ta l r) (t + 1)
theorem ofd_twf {s : Int} {ds : List Int} {t n : Nat} {l : List (Int × List Int)} (h : OfD s ds t l n) : TwF l n t (colA s ds t) :=
  ⟨fun j _ => by rw [colA_len]; exact Nat.le_refl _, fun i j hi hj => by rw [colA_getD s ds t i hj, colA_getD s ds t j hi, A2_sym],
    fun j hj r hr => by rw [h r hr, rowK_getD s ds t _ (show j < t + 1 by omega), nm_nm]⟩
theorem ofd_len {s : Int} {ds : List Int} {t n : Nat} {l : List (Int × List Int)} (h : OfD s ds t l n) {r : Nat} (hr : r < n) : (tc l r).length = t + 1 := by rw [h r hr, rowK_len]
theorem ofd_rwt {s : Int} {ds : List Int} {t n : Nat} {l : List (Int × List Int)} (h : OfD s ds t l n) (hd : dis (ta l) n) (ht : t ≤ 4) : Rwt l n t :=
  ⟨fun i hi => ⟨hd i hi, by rw [ofd_len h hi]; omega, by rw [ofd_len h hi]; omega⟩, fun i hi => ofd_len h hi⟩
/-- t + 1 rows, or more, tell the secret. -/
theorem ofd_join {s : Int} {ds : List Int} {t n : Nat} {l : List (Int × List Int)} {x r : Int} (h : OfD s ds t l n) (hd : dis (ta l) n) (ht : t ≤ 4) (hn : t < n) (hJ : Jnd l n t x r) : x = nm s ∧ r = 0 := by
  have h1 : Jnd l n t (nm ((colA s ds t 0).getD 0 0)) 0 := .inr ⟨t, rfl, ht, .inr (.inr ⟨ofd_rwt h hd ht, hn, .inl ⟨_, ofd_twf h, rfl, rfl⟩⟩)⟩
  have h2 := hJ.one h1
  rw [colA_getD s ds t 0 (Nat.zero_le _), A2_zero, nm_nm] at h2
  exact h2
theorem deal_ofd (s : Int) (ds : List Int) (t n : Nat) : OfD s ds t (dealA s ds t n) n := fun r hr => by unfold tc ta; rw [dealA_getD s ds t hr]
theorem deal_ta (s : Int) (ds : List Int) (t : Nat) {n r : Nat} (hr : r < n) : ta (dealA s ds t n) r = (r : Int) + 1 := by unfold ta; rw [dealA_getD s ds t hr]
end
section
open Crm Go.RowKit
theorem iIndexF (a : Option Addr) (n c : Nat) (ts : List Int) (x : Int) (w : World) (h : RdI w a n c ts) (hno : ∀ j, j < n → ts.getD j 0 ≠ x) :
    Calls Tryd.prog 70 #[.slice a n c, .int .i64 x] w fun e w' => e = .returned (.int .i64 (-1)) ∧ w' = w := by
  have hcap := h.cap
  have hmax := h.max
  unfold maxLen at hmax
  have HNO : Hid (∀ j, j < n → ts.getD j 0 ≠ x) := hno
  clear hno
  go_enter Tryd.func70, Tryd.ntmps70
  go_wp2
  go_loop [8] (fun i => ∃ k : Nat, k ≤ n ∧ i = .int .i64 k) (fun i => n - (intOf i).toNat)
  case atStart => exact ⟨0, Nat.zero_le _, rfl⟩
  case round =>
    obtain ⟨k, hk, rfl⟩ := hrel
    by_cases hlt : k < n
    · obtain ⟨b, o, y, rfl, hbb, HY, hy0, hy1, hcy⟩ := h.one hlt
      have hxb : (x == y) = false := by rw [beq_eq_false_iff_ne]; exact fun e => HNO.out k hlt (by rw [HY.out, e])
      go_wp2
      go_round
      case rel => exact ⟨k + 1, by omega, by go_num⟩
      case measure => simp [intOf]; omega
    · go_wp2
      go_ret
      exact ⟨rfl, rfl⟩
theorem iIndexT (a : Option Addr) (n c : Nat) (ts : List Int) (x : Int) (w : World) (h : RdI w a n c ts) {j0 : Nat} (hj : j0 < n) (hx : ts.getD j0 0 = x) :
    Calls Tryd.prog 70 #[.slice a n c, .int .i64 x] w fun e w' => (∃ r : Nat, r ≤ n ∧ e = .returned (.int .i64 r)) ∧ w' = w := by
  have hcap := h.cap
  have hmax := h.max
  unfold maxLen at hmax
  have HX : Hid (ts.getD j0 0 = x) := hx
  clear hx
  go_enter Tryd.func70, Tryd.ntmps70
  go_wp2
  go_loop [8] (fun i => ∃ k : Nat, k ≤ j0 ∧ i = .int .i64 k) (fun i => n - (intOf i).toNat)
  case atStart => exact ⟨0, Nat.zero_le _, rfl⟩
  case round =>
    obtain ⟨k, hk, rfl⟩ := hrel
    obtain ⟨b, o, y, rfl, hbb, HY, hy0, hy1, hcy⟩ := h.one (show k < n by omega)
    by_cases hxy : x = y
    · have hxb : (x == y) = true := by rw [beq_iff_eq]; exact hxy
      clear hxy
      go_wp2
      go_ret
      exact ⟨⟨k, by omega, rfl⟩, rfl⟩
    · have hxb : (x == y) = false := by rw [beq_eq_false_iff_ne]; exact hxy
      have hkj : k < j0 := by
        rcases Nat.lt_or_ge k j0 with h' | h'
        · exact h'
        · exfalso
          obtain rfl : k = j0 := by omega
          exact hxy (by rw [← HX.out, HY.out])
      clear hxy
      go_wp2
      go_round
      case rel => exact ⟨k + 1, by omega, by go_num⟩
      case measure => simp [intOf]; omega
theorem iContF (a : Option Addr) (n c : Nat) (ts : List Int) (x : Int) (w : World) (h : RdI w a n c ts) (hno : ∀ j, j < n → ts.getD j 0 ≠ x) :
    Calls Tryd.prog 34 #[.slice a n c, .int .i64 x] w fun e w' => e = .returned (.bool false) ∧ w' = w := by
  have HNO : Hid (∀ j, j < n → ts.getD j 0 ≠ x) := hno
  clear hno
  go_enter Tryd.func34, Tryd.ntmps34
  go_wp2_with (go_at_call 70; refine (iIndexF _ _ _ _ _ _ h HNO.out).mono ?_; rintro e w3 ⟨rfl, hw⟩; have hw := hw.symm; subst hw)
  go_ret
  exact ⟨rfl, rfl⟩
theorem iContT (a : Option Addr) (n c : Nat) (ts : List Int) (x : Int) (w : World) (h : RdI w a n c ts) {j0 : Nat} (hj : j0 < n) (hx : ts.getD j0 0 = x) :
    Calls Tryd.prog 34 #[.slice a n c, .int .i64 x] w fun e w' => e = .returned (.bool true) ∧ w' = w := by
  have hcap := h.cap
  have hmax := h.max
  unfold maxLen at hmax
  have HX : Hid (ts.getD j0 0 = x) := hx
  clear hx
  go_enter Tryd.func34, Tryd.ntmps34
  go_wp2_with (go_at_call 70; refine (iIndexT _ _ _ _ _ _ h hj HX.out).mono ?_; rintro e w3 ⟨⟨r, hr, rfl⟩, hw⟩; have hw := hw.symm; subst hw)
  go_ret
  exact ⟨rfl, rfl⟩
/-- Some of n parties, none twice, at most t. -/
def Som (L : List Int) (t n : Nat) : Prop := L.length ≤ t ∧ dis (fi L) L.length ∧ ∀ j, j < L.length → L.getD j 0 ≤ (n : Int)
theorem som_nil (t n : Nat) : Som [] t n := ⟨Nat.zero_le _, dis_zero _, fun j hj => by simp at hj⟩
theorem som_bd {L : List Int} {t n : Nat} (h : Som L t n) : ∀ x ∈ L, -9223372036854775808 ≤ x ∧ x ≤ 9223372036854775807 := fun x hx => by
  obtain ⟨j, hj, rfl⟩ := List.getElem_of_mem hx
  have := (h.2.1 j hj).1
  unfold fi at this
  rw [List.getD_eq_getElem?_getD, List.getElem?_eq_getElem hj] at this
  simp only [Option.getD_some] at this
  omega
theorem som_add {L : List Int} {t n q : Nat} (h : Som L t n) (hl : L.length < t) (hq : q < n) (hn : n ≤ 9) (hno : ∀ j, j < L.length → L.getD j 0 ≠ (q : Int) + 1) : Som (L ++ [(q : Int) + 1]) t n := by
  have g1 : ∀ j, j < L.length → (L ++ [(q : Int) + 1]).getD j 0 = L.getD j 0 := fun j hj => by simp [List.getElem?_append_left hj]
  have g2 : (L ++ [(q : Int) + 1]).getD L.length 0 = (q : Int) + 1 := by simp
  have hle : (L ++ [(q : Int) + 1]).length = L.length + 1 := by simp
  refine ⟨by omega, ?_, fun j hj => ?_⟩
  · rw [hle]
    refine dis_succ (x := (q : Int) + 1) (fun i hi => ?_) g2 (by omega) (by omega) (fun j hj => by show (L ++ [(q : Int) + 1]).getD j 0 ≠ _; rw [g1 j hj]; exact hno j hj)
    obtain ⟨h1, h2⟩ := h.2.1 i hi
    unfold fi at h1 h2 ⊢
    rw [g1 i hi]
    exact ⟨h1, fun j hj => by rw [g1 j (by omega)]; exact h2 j hj⟩
  · rw [hle] at hj
    by_cases e : j = L.length
    · rw [e, g2]; omega
    · rw [g1 j (by omega)]; exact h.2.2 j (by omega)

theorem tSome (a : Option Addr) (m c : Nat) (ps : List Int) (t n : Nat) (w : World) (h : RdI w a m c ps) (hn : 0 < n) (hn9 : n ≤ 9) (ht : t ≤ 4) :
    Calls Tryd.prog 33 #[.slice a m c, .int .i64 (t : Int), .int .i64 (n : Int)] w fun e w' => ∃ v L, e = .returned v ∧ w'.ownsRow w.heap.size 3 1 v L.length (zns L) ∧ Som L t n ∧ Below w.heap.size w w' := by
  have hcap := h.cap
  have hmax := h.max
  unfold maxLen at hmax
  go_enter Tryd.func33, Tryd.ntmps33
  go_wp2
  go_loopw [7, 13] (fun v i wr => ∃ (j : Nat) (L : List Int), j ≤ m ∧ i = .int .i64 j ∧ wr.ownsRow w.heap.size 3 1 v L.length (zns L) ∧ Hid (Som L t n) ∧ Below w.heap.size w wr) (fun _ i _ => m - (intOf i).toNat)
  case atStart => exact ⟨0, [], Nat.zero_le _, rfl, World.ownsRow_nil _ _ _ _, som_nil t n, Below.refl _ _⟩
  case round =>
    obtain ⟨j, L, hj, rfl, hown, HS, hbel⟩ := hrel
    have hs := hbel.size
    by_cases hlt : j < m
    · obtain ⟨b, o, x, rfl, hbb, HX, hx0, hx1, hcx⟩ := (h.below hbel).one hlt
      obtain ⟨aL, cL, rfl, hrL⟩ := RdI.own hown (som_bd HS.out)
      have hlt4 := HS.out.1
      have hcL := hrL.cap
      have hmL := hrL.max
      unfold maxLen at hmL
      obtain ⟨l, HL⟩ : ∃ l, Hid (L.length = l) := ⟨_, rfl⟩
      rw [HL.out] at hown hrL hlt4 hcL ⊢
      go_wp2_with fail
      refine (rRest x n _ hn (by omega)).mono ?_
      rintro e w1 ⟨⟨q, hq, rfl⟩, hw⟩
      have hw := hw.symm
      subst hw
      have hq1 : (1 : Int) + (q : Int) = (q : Int) + 1 := by omega
      by_cases hl : l < t
      · have hli : (l : Int) < (t : Int) := by omega
        by_cases hc : ∃ j0, j0 < l ∧ L.getD j0 0 = (q : Int) + 1
        · obtain ⟨j0, hj0, hxe⟩ := hc
          have HJ : Hid (L.getD j0 0 = (q : Int) + 1) := hxe
          clear hxe
          go_wp2_with (go_at_call 34; refine (iContT _ _ _ _ ((q : Int) + 1) _ hrL hj0 HJ.out).mono ?_; rintro e w3 ⟨rfl, hw⟩; have hw := hw.symm; subst hw)
          go_roundw
          case rel => exact ⟨j + 1, L, by omega, by go_num, by rw [HL.out]; exact hown, HS, hbel⟩
          case measure => simp [intOf]; omega
        · have HNO : Hid (∀ j0, j0 < l → L.getD j0 0 ≠ (q : Int) + 1) := fun j0 h1 h2 => hc ⟨j0, h1, h2⟩
          have HSA : Hid (Som (L ++ [(q : Int) + 1]) t n) := som_add HS.out (by rw [HL.out]; exact hl) hq hn9 (by rw [HL.out]; exact HNO.out)
          have HZN : Hid (zns L ++ [.int .i64 ((q : Int) + 1)] = zns (L ++ [(q : Int) + 1])) := zns_snoc _ _
          have HLA : Hid ((L ++ [(q : Int) + 1]).length = l + 1) := by unfold Hid; rw [List.length_append, HL.out]; rfl
          clear hc
          go_wp2_with (first | (go_at_call 34; refine (iContF _ _ _ _ ((q : Int) + 1) _ hrL HNO.out).mono ?_; rintro e w3 ⟨rfl, hw⟩; have hw := hw.symm; subst hw) | (at_builtin; refine wpList_appV Tryd.underlying24 infoZ rfl (by omega) _ rfl _ _ rfl w.heap.size _ _ _ rfl hown (.int .i64 ((q : Int) + 1)) rfl rfl (by omega) hs ?_; intro v8 w8 hob8 hgr8 _; rw [HZN.out] at hob8; have hB8 := hbel.grown hgr8 hs (fun j hj => (hown.lt j hj).1); clear hgr8))
          go_roundw
          case rel => exact ⟨j + 1, _, by omega, by go_num, by rw [HLA.out]; exact hob8, HSA, hB8⟩
          case measure => simp [intOf]; omega
      · have hli : ¬ ((l : Int) < (t : Int)) := by omega
        go_wp2
        go_roundw
        case rel => exact ⟨j + 1, L, by omega, by go_num, by rw [HL.out]; exact hown, HS, hbel⟩
        case measure => simp [intOf]; omega
    · have hjm : j = m := by omega
      subst hjm
      go_wp2
      go_ret
      exact ⟨_, L, rfl, hown, HS.out, hbel⟩
end
end Go.Proofs.YtljlioglpaogdagDoor
