/- decode.check, Decode, Open. · slices.Equal of ints. -/
import Derived.Test.YtoekicjppheemaeToFindC
import Derived.Test.YtoekicjppheemaeToMissC
import Derived.Test.YtoekicjppheemaeToCheckC
import Derived.Test.YtoekicjppheemaeToEqnC
import Derived.Test.YtoekicjppheemaeToValC
namespace Go.Proofs.Ytoekicjppheemae
open Go.RowKit Crm

/-- What check tells. -/
def Dck (l : List (Int × Int)) (n : Nat) (t e r : Int) : Prop :=
  (She l n t r ∧ r ≠ 0 ∧ r ≠ 4) ∨ (Shd l n t ∧ (e < 0 ∨ 4 < e) ∧ r = 1) ∨ (Shd l n t ∧ (0 ≤ e ∧ e ≤ 4) ∧ (n : Int) < t + 1 + 2 * e ∧ r = 4) ∨ (Shd l n t ∧ (0 ≤ e ∧ e ≤ 4) ∧ t + 1 + 2 * e ≤ (n : Int) ∧ r = 0)
theorem Dck.err {l : List (Int × Int)} {n : Nat} {t e r : Int} (h : Dck l n t e r) (hr : r ≠ 0) : Dcd l n t e [] [] r := by
  rcases h with h | ⟨h1, h2, h3⟩ | ⟨h1, h2, h3, h4⟩ | ⟨h1, h2, h3, h4⟩
  · exact .inl ⟨h, rfl, rfl⟩
  · exact .inr (.inl ⟨h1, h2, rfl, rfl, h3⟩)
  · exact .inr (.inr (.inl ⟨h1, h2, h3, rfl, rfl, h4⟩))
  · exact absurd h4 hr
theorem Dck.ok {l : List (Int × Int)} {n : Nat} {t e : Int} (h : Dck l n t e 0) : Shd l n t ∧ (0 ≤ e ∧ e ≤ 4) ∧ t + 1 + 2 * e ≤ (n : Int) := by
  rcases h with ⟨_, h, _⟩ | ⟨_, _, h3⟩ | ⟨_, _, _, h4⟩ | ⟨h1, h2, h3, h4⟩
  · exact absurd rfl h
  · omega
  · omega
  · exact ⟨h1, h2, h3⟩

theorem bdl_mem {l : List (Int × Int)} {p : List Int} {x : Int} : ∀ {n : Nat}, x ∈ bdl l p n → ∃ i, i < n ∧ (l.getD i (0, 0)).1 = x
  | 0, h => by simp [bdl] at h
  | n + 1, h => by
    rw [bdl] at h
    split at h
    · obtain ⟨i, h1, h2⟩ := bdl_mem h; exact ⟨i, by omega, h2⟩
    · rcases List.mem_append.1 h with h | h
      · obtain ⟨i, h1, h2⟩ := bdl_mem h; exact ⟨i, by omega, h2⟩
      · exact ⟨n, by omega, (List.mem_singleton.1 h).symm⟩
theorem bdl_bd {l : List (Int × Int)} {p B : List Int} {n m : Nat} (hd : dis (fa l) n) (h : OuI (bdl l p n) B m) : ∀ x ∈ B, -9223372036854775808 ≤ x ∧ x ≤ 9223372036854775807 := fun x hx => by
  obtain ⟨i, hi, e⟩ := bdl_mem (h.perm.mem_iff.1 hx)
  have := (hd i hi).1
  unfold fa at this
  omega

set_option maxRecDepth 100000 in
set_option maxHeartbeats 400000 in
theorem cDcheck (t e : Int) (a : Option Addr) (n c : Nat) (l : List (Int × Int)) (w : World) (h : RdS w a n c l) :
    Calls Try.prog 22 #[.int .i64 t, .int .i64 e, .slice a n c] w fun en w' => ∃ r, en = .returned (.int .i64 r) ∧ Dck l n t e r ∧ Below w.heap.size w w' := by
  have hcap := h.cap
  have hmax := h.max
  unfold maxLen at hmax
  go_enter Try.func22, Try.ntmps22
  go_wp2_with fail
  refine (cCheckS _ _ _ _ _ _ h).mono ?_
  rintro en w1 ⟨r, rfl, hS, hb1⟩
  by_cases hr : r = 0 ∨ r = 4
  · have HS : Hid (Shd l n t) := hS.shd hr
    have hS1 := (hS.shd hr).1
    have hr1 : (r == 1) = false := by rw [beq_eq_false_iff_ne]; omega
    have hr5 : (r == 5) = false := by rw [beq_eq_false_iff_ne]; omega
    clear hr hS
    by_cases h0 : e < 0
    · have HN : Hid (Dck l n t e 1) := .inr (.inl ⟨HS.out, .inl h0, rfl⟩)
      go_wp2
      go_ret
      exact ⟨1, rfl, HN.out, hb1⟩
    · by_cases h4 : 4 < e
      · have HN : Hid (Dck l n t e 1) := .inr (.inl ⟨HS.out, .inr h4, rfl⟩)
        go_wp2
        go_ret
        exact ⟨1, rfl, HN.out, hb1⟩
      · by_cases hn : (n : Int) < t + 1 + 2 * e
        · have HN : Hid (Dck l n t e 4) := .inr (.inr (.inl ⟨HS.out, ⟨by omega, by omega⟩, hn, rfl⟩))
          go_wp2
          go_ret
          exact ⟨4, rfl, HN.out, hb1⟩
        · have HN : Hid (Dck l n t e 0) := .inr (.inr (.inr ⟨HS.out, ⟨by omega, by omega⟩, by omega, rfl⟩))
          go_wp2
          go_ret
          exact ⟨0, rfl, HN.out, hb1⟩
  · have HN : Hid (Dck l n t e r) := .inl ⟨hS, fun e => hr (.inl e), fun e => hr (.inr e)⟩
    have hr2 : r = 1 ∨ r = 5 := by
      rcases hS with ⟨_, h2⟩ | ⟨_, _, h2⟩ | ⟨_, _, _, h2⟩ | ⟨_, _, _, h2⟩ <;> omega
    clear hr hS
    rcases hr2 with rfl | rfl
    · go_wp2
      go_ret
      exact ⟨1, rfl, HN.out, hb1⟩
    · go_wp2
      go_ret
      exact ⟨5, rfl, HN.out, hb1⟩

/-- What Decode answers. -/
def Dcs (l : List (Int × Int)) (n : Nat) (t e : Int) (w : World) (en : Ending) (w' : World) : Prop :=
  ∃ (P B : List Int) (r : Int) (a1 : Option Addr) (k1 c1 : Nat) (a2 : Option Addr) (k2 c2 : Nat), en = .returned (.tuple #[.slice a1 k1 c1, .slice a2 k2 c2, .int .i64 r]) ∧ Dcd l n t e P B r ∧ Rd w' a1 k1 c1 P ∧ RdI w' a2 k2 c2 B ∧ Below w.heap.size w w'
theorem nil_rdI (w : World) : RdI w none 0 0 [] := ⟨rfl, Nat.le_refl _, Nat.zero_le _, by simp, fun _ => rfl, by simp⟩

set_option maxRecDepth 100000 in
set_option maxHeartbeats 1000000 in
theorem cDecode (t e : Int) (a : Option Addr) (n c : Nat) (l : List (Int × Int)) (w : World) (h : RdS w a n c l) :
    Calls Try.prog 16 #[.int .i64 t, .int .i64 e, .slice a n c] w fun en w' => Dcs l n t e w en w' := by
  go_enter Try.func16, Try.ntmps16
  go_wp2_with fail
  refine (cDcheck _ _ _ _ _ _ _ h).mono ?_
  rintro en w1 ⟨r, rfl, hC, hb1⟩
  by_cases hr : r = 0
  · subst hr
    obtain ⟨hS, he, hn⟩ := hC.ok
    have ht := hS.1
    have HD : Hid (dis (fa l) n) := hS.2
    have HS : Hid (Shd l n t) := hS
    clear hC hS
    obtain ⟨k, rfl⟩ : ∃ k : Nat, t = k := ⟨t.toNat, by omega⟩
    obtain ⟨d, rfl⟩ : ∃ d : Nat, e = d := ⟨e.toNat, by omega⟩
    go_wp2_with fail
    refine (cFind _ _ _ _ _ _ _ (h.below hb1) HD.out (by omega) (by omega)).mono ?_
    rintro en w2 ⟨⟨g, Q, rfl, hrQ, hF⟩ | ⟨rfl, hF⟩, hb2⟩
    · have HF : Hid (Few l n k d Q) := hF
      have hb12 := hb1.trans (hb2.mono hb1.size)
      clear hF hb1 hb2
      go_wp2_with fail
      refine (cMisses _ _ _ _ _ _ _ _ _ hrQ (h.below hb12) (by omega) HD.out).mono ?_
      rintro en w3 ⟨B, ab, cb, rfl, hown, hO, hb3⟩
      have hl := h.len
      have HE : Hid (bdl l (pdn Q (k + 1)) n = bdl l Q n) := by
        unfold Hid
        rw [← hl]
        refine bdl_same (nrm_ext fun i => ?_) l
        by_cases hi : i < k + 1
        · rw [pdn_getD Q hi, nm_nm]
        · have := HF.out.1
          rw [getD_big (by rw [pdn_len]; omega), getD_big (show Q.length ≤ i by omega)]
      rw [HE.out] at hown hO ⊢
      have HDc : Hid (Dcd l n k d (pdn Q (k + 1)) B 0) := .inr (.inr (.inr (.inl ⟨HS.out, he, hn, ⟨Q, HF.out, by congr 1, hO⟩, rfl⟩)))
      obtain ⟨a2, c2, e2, hrB⟩ := RdI.own hown (bdl_bd HD.out hO)
      simp only [Value.slice.injEq, true_and] at e2
      obtain ⟨rfl, rfl⟩ := e2
      have hrQ3 := hrQ.below hb3
      have hb13 := hb12.trans (hb3.mono hb12.size)
      obtain ⟨NB, HNB⟩ : ∃ NB, Hid ((bdl l Q n).length = NB) := ⟨_, rfl⟩
      rw [HNB.out] at hrB ⊢
      clear hO hown hb3 hb12 hrQ
      go_wp2
      go_ret3
      exact ⟨_, B, 0, _, _, _, _, _, _, rfl, HDc.out, hrQ3, hrB, hb13⟩
    · have HDc : Hid (Dcd l n k d [] [] 6) := .inr (.inr (.inr (.inr ⟨HS.out, he, hn, hF, rfl, rfl, rfl⟩)))
      clear hF
      go_wp2
      go_ret3
      exact ⟨_, _, 6, _, _, _, _, _, _, rfl, HDc.out, nil_rd _, nil_rdI _, hb1.trans (hb2.mono hb1.size)⟩
  · have hrb : (r != 0) = true := by rw [bne_iff_ne]; exact hr
    have HDc : Hid (Dcd l n t e [] [] r) := hC.err hr
    clear hr hC
    go_wp2
    go_ret3
    exact ⟨_, _, r, _, _, _, _, _, _, rfl, HDc.out, nil_rd _, nil_rdI _, hb1⟩

/-- What Open answers. -/
def Ros (l : List (Int × Int)) (n : Nat) (t : Int) (w : World) (en : Ending) (w' : World) : Prop :=
  ∃ (x : Int) (B : List Int) (r : Int) (a2 : Option Addr) (k2 c2 : Nat), en = .returned (.tuple #[.int .u64 x, .slice a2 k2 c2, .int .i64 r]) ∧ Rob l n t x B r ∧ RdI w' a2 k2 c2 B ∧ Below w.heap.size w w'
theorem dcd_head {l : List (Int × Int)} {n : Nat} {t e : Int} {P B : List Int} (h : Dcd l n t e P B 0) : 0 < P.length ∧ ∀ x ∈ P, 0 ≤ x ∧ x ≤ 2147483646 := by
  rcases h with ⟨⟨_, h, _⟩, _⟩ | ⟨_, _, _, _, h⟩ | ⟨_, _, _, _, _, h⟩ | ⟨h1, _, _, ⟨p, _, rfl, _⟩, _⟩ | ⟨_, _, _, _, _, _, h⟩
  · exact absurd rfl h
  · omega
  · omega
  · have := h1.1
    exact ⟨by rw [pdn_len]; omega, pdn_bd _ _⟩
  · omega

set_option maxRecDepth 100000 in
set_option maxHeartbeats 1000000 in
theorem cOpenD (t : Int) (a : Option Addr) (n c : Nat) (l : List (Int × Int)) (w : World) (h : RdS w a n c l) :
    Calls Try.prog 4 #[.int .i64 t, .slice a n c] w fun en w' => Ros l n t w en w' := by
  go_enter Try.func4, Try.ntmps4
  go_wp2_with fail
  refine (cCheckS _ _ _ _ _ _ h).mono ?_
  rintro en w1 ⟨r, rfl, hS, hb1⟩
  by_cases hr : r = 0
  · subst hr
    have HS : Hid (She l n t 0) := hS
    obtain ⟨t0, t4, hd, htn, hn9⟩ := hS.ok
    clear hd hS
    have HM : Hid (((n : Int) - t - 1) / 2 = mayb n t) := by unfold Hid mayb; omega
    have hd2 : 0 ≤ ((n : Int) - t - 1) / 2 := by omega
    have hd3 : ((n : Int) - t - 1) / 2 ≤ 4 := by omega
    go_wp2_with fail
    refine (cDecode _ _ _ _ _ _ _ (h.below hb1)).mono ?_
    rintro en w2 ⟨P, B, s, a1, k1, c1, a2, k2, c2, rfl, hD, hrP, hrB, hb2⟩
    rw [HM.out] at hD
    have hb12 := hb1.trans (hb2.mono hb1.size)
    by_cases hs : s = 0
    · subst hs
      have HD : Hid (Dcd l n t (mayb n t) P B 0) := hD
      obtain ⟨hPl, hPb⟩ := dcd_head hD
      have hk1 := hrP.len
      obtain ⟨b, o, x, rfl, hbb, HX, hx0, hx1, hcx⟩ := hrP.one (show 0 < k1 by omega)
      rw [Nat.add_zero] at hcx
      have hk0 : (0 : Int) < (k1 : Int) := by omega
      have HN : Hid (Rob l n t x B 0) := .inr ⟨HS.out, P, B, 0, HD.out, .inr ⟨rfl, HX.out.symm, rfl, rfl⟩⟩
      clear hD hPb hb1 hb2
      go_wp2
      go_ret3
      exact ⟨x, B, 0, _, _, _, rfl, HN.out, hrB, hb12⟩
    · have hsb : (s != 0) = true := by rw [bne_iff_ne]; exact hs
      have HN : Hid (Rob l n t 0 [] s) := .inr ⟨HS.out, P, B, s, hD, .inl ⟨hs, rfl, rfl, rfl⟩⟩
      clear hD hs hb1 hb2
      go_wp2
      go_ret3
      exact ⟨0, [], s, _, _, _, rfl, HN.out, nil_rdI _, hb12⟩
  · have hrb : (r != 0) = true := by rw [bne_iff_ne]; exact hr
    have HN : Hid (Rob l n t 0 [] r) := .inl ⟨hS, hr, rfl, rfl⟩
    clear hr hS
    go_wp2
    go_ret3
    exact ⟨0, [], r, _, _, _, rfl, HN.out, nil_rdI _, hb1⟩
end Go.Proofs.Ytoekicjppheemae

namespace Go.Proofs.Ytoekicjppheemae
open Go.RowKit Crm

set_option maxRecDepth 100000 in
theorem zEqual (a : Option Addr) (n c : Nat) (xs : List Int) (b : Option Addr) (m d : Nat) (ys : List Int) (w : World) (h : RdI w a n c xs) (g : RdI w b m d ys) :
    Calls Try.prog 5 #[.slice a n c, .slice b m d] w fun e w' => e = .returned (.bool (xs == ys)) ∧ Below w.heap.size w w' := by
  have hm := h.max
  have hcap := h.cap
  have hlen := h.len
  have gm := g.max
  have gcap := g.cap
  have glen := g.len
  unfold maxLen at hm gm
  by_cases hnm : n = m
  · subst hnm
    go_enter Try.func5, Try.ntmps5
    go_wp2
    go_loopw [13] (fun i wr => ∃ k : Nat, k ≤ n ∧ i = .int .i64 k ∧ Hid (xs.take k = ys.take k) ∧ Below w.heap.size w wr) (fun i _ => n - (intOf i).toNat)
    case atStart => exact ⟨0, Nat.zero_le _, rfl, rfl, Below.refl _ _⟩
    case round =>
      obtain ⟨k, hk, rfl, HT, hbel⟩ := hrel
      by_cases hlt : k < n
      · obtain ⟨b1, o1, x, rfl, hb1, HX, hx0, hx1, hc1⟩ := (h.below hbel).one hlt
        obtain ⟨b2, o2, y, rfl, hb2, HY, hy0, hy1, hc2⟩ := (g.below hbel).one hlt
        by_cases hxy : x = y
        · subst hxy
          go_wp2
          go_region
          all_goals go_wp2
          all_goals
            go_roundw
            case rel => exact ⟨k + 1, by omega, by go_num, take_eq (by omega) (by omega) HT.out (HX.out.trans HY.out.symm), by first | exact hbel.drew | exact hbel.drew.drew⟩
            case measure => simp [intOf]; omega
        · have hxb : (x != y) = true := by rw [bne_iff_ne]; exact hxy
          go_wp2
          have HE : Hid ((xs == ys) = false) := by
            refine beq_eq_false_iff_ne.2 fun e => hxy ?_
            rw [← HX.out, ← HY.out, e]
          go_region
          all_goals go_wp2
          all_goals
            go_ret
            rw [HE.out]
            exact ⟨rfl, by first | exact hbel.drew | exact hbel.drew.drew⟩
      · have HE : Hid ((xs == ys) = true) := by
          refine beq_iff_eq.2 ?_
          have := HT.out
          rwa [List.take_of_length_le (by omega), List.take_of_length_le (by omega)] at this
        go_wp2
        go_ret
        rw [HE.out]
        exact ⟨rfl, hbel⟩
  · have hb : ((n : Int) != (m : Int)) = true := by rw [bne_iff_ne]; omega
    go_enter Try.func5, Try.ntmps5
    have HE : Hid ((xs == ys) = false) := beq_eq_false_iff_ne.2 fun e => hnm (by rw [← hlen, ← glen, e])
    go_wp2
    go_ret
    rw [HE.out]
    exact ⟨rfl, Below.refl _ _⟩

/-- Two slices that read the same are equal. -/
theorem zSame (a : Option Addr) (n c : Nat) (xs : List Int) (b : Option Addr) (m d : Nat) (w : World) (h : RdI w a n c xs) (g : RdI w b m d xs) :
    Calls Try.prog 5 #[.slice a n c, .slice b m d] w fun e w' => e = .returned (.bool true) ∧ Below w.heap.size w w' := by
  refine (zEqual _ _ _ _ _ _ _ _ _ h g).mono ?_
  rintro e w' ⟨rfl, hb⟩
  exact ⟨by rw [beq_self_eq_true], hb⟩
end Go.Proofs.Ytoekicjppheemae
