/- shamir.Check. · decode.check, Decode, Open. -/
import Derived.Test.YtoekicjppheemabToJoinC
import Derived.Test.YtoekicjppheemabToFindC
namespace Go.Proofs.Ytoekicjppheemab
open Go.RowKit Crm

/-- M marks who has come. -/
structure Mk (f : Nat → Int) (k : Nat) (M : List Bool) : Prop where
  len : M.length = 10
  mark : ∀ p : Nat, 1 ≤ p → p ≤ 9 → (M.getD p false = true ↔ ∃ j, j < k ∧ f j = (p : Int))
  dis : dis f k
theorem mk_start (f : Nat → Int) : Mk f 0 (List.replicate 10 false) := by
  refine ⟨rfl, fun p _ h9 => ?_, dis_zero f⟩
  have : (List.replicate 10 false).getD p false = false := by
    rw [List.getD_eq_getElem?_getD, List.getElem?_replicate]; split <;> rfl
  rw [this]
  constructor
  · intro h; cases h
  · rintro ⟨j, hj, _⟩; omega
theorem mk_step {f : Nat → Int} {k : Nat} {M : List Bool} {p : Nat} (h : Mk f k M) (hp : f k = (p : Int)) (h1 : 1 ≤ p) (h9 : p ≤ 9) (hm : M.getD p false = false) : Mk f (k + 1) (M.set p true) := by
  have hno : ∀ j, j < k → f j ≠ (p : Int) := fun j hj e => by
    have := (h.mark p h1 h9).2 ⟨j, hj, e⟩
    rw [hm] at this; cases this
  refine ⟨by rw [List.length_set]; exact h.len, fun q q1 q9 => ?_, dis_succ h.dis hp (by omega) (by omega) hno⟩
  have hl := h.len
  by_cases e : q = p
  · subst e
    have : (M.set q true).getD q false = true := by simp [show q < M.length by omega]
    rw [this]
    exact ⟨fun _ => ⟨k, by omega, hp⟩, fun _ => rfl⟩
  · have : (M.set p true).getD q false = M.getD q false := by
      simp [show ¬ p = q from fun e' => e e'.symm]
    rw [this, h.mark q q1 q9]
    constructor
    · rintro ⟨j, hj, e⟩; exact ⟨j, by omega, e⟩
    · rintro ⟨j, hj, e'⟩
      by_cases ej : j = k
      · subst ej; rw [hp] at e'; omega
      · exact ⟨j, by omega, e'⟩
theorem mk_twice {f : Nat → Int} {k n : Nat} {M : List Bool} {p : Nat} (h : Mk f k M) (hk : k < n) (hp : f k = (p : Int)) (h1 : 1 ≤ p) (h9 : p ≤ 9) (hm : M.getD p false = true) : ¬ Go.Proofs.Ytoekicjppheemab.dis f n := fun hd => by
  obtain ⟨j, hj, e⟩ := (h.mark p h1 h9).1 hm
  exact (hd k hk).2 j hj (by rw [e, hp])
theorem mk_out {f : Nat → Int} {k n : Nat} {x : Int} (hk : k < n) (hx : f k = x) (h : x < 1 ∨ 9 < x) : ¬ Go.Proofs.Ytoekicjppheemab.dis f n := fun hd => by
  have := (hd k hk).1
  omega

set_option maxRecDepth 100000 in
theorem cCheckA (a : Option Addr) (n c : Nat) (t : Int) (w : World) (h : t < 0 ∨ 4 < t) :
    Calls Try.prog 16 #[.int .i64 t, .slice a n c] w fun e w' => e = .returned (.int .i64 1) ∧ w' = w := by
  by_cases h1 : t < 0
  · clear h
    go_enter Try.func16, Try.ntmps16
    go_wp2
    go_ret
    exact ⟨rfl, rfl⟩
  · have h2 : 4 < t := by omega
    clear h
    go_enter Try.func16, Try.ntmps16
    go_wp2
    go_ret
    exact ⟨rfl, rfl⟩

set_option maxRecDepth 100000 in
set_option maxHeartbeats 1000000 in
theorem cCheckB (a : Option Addr) (n c : Nat) (l : List (Int × Int)) (t : Int) (w : World) (h : RdS w a n c l) (ht0 : 0 ≤ t) (ht4 : t ≤ 4) :
    Calls Try.prog 16 #[.int .i64 t, .slice a n c] w fun e w' => ∃ r, e = .returned (.int .i64 r) ∧ She l n t r ∧ Below w.heap.size w w' := by
  have hcap := h.cap
  have hmax := h.max
  unfold maxLen at hmax
  go_enter Try.func16, Try.ntmps16
  go_wp2
  go_loopw [16] (fun i wr => ∃ (k : Nat) (M : List Bool), k ≤ n ∧ i = .int .i64 k ∧ Hid (Mk (fa l) k M) ∧ BlkB wr w.heap.size M ∧ Below w.heap.size w wr) (fun i _ => n - (intOf i).toNat)
  case atStart => exact ⟨0, _, Nat.zero_le _, rfl, mk_start _, heap_alloc_new w _, (Below.refl _ _).alloc (Nat.le_refl _) _⟩
  case round =>
    obtain ⟨k, M, hk, rfl, HM, hB, hbel⟩ := hrel
    have hs1 := hbel.size
    have hlM := HM.out.len
    by_cases hlt : k < n
    · obtain ⟨b, o, x, y, rfl, hbb, HX, HY, hx0, hx1, hy0, hy1, hcx, hcy⟩ := (h.below hbel).one hlt
      have hcA0 := cell_alloc0 wr (.int .i64 x) (.int .u64 y) 41
      have hB2 : BlkB (wr.alloc (.cells #[.int .i64 x, .int .u64 y] 41)) w.heap.size M := hB.below ((Below.refl _ _).alloc (Nat.le_refl _) _) hB.lt
      have hbel2 := hbel.alloc hs1 (.cells #[.int .i64 x, .int .u64 y] 41)
      go_wp2_with fail
      generalize wr.alloc (.cells #[.int .i64 x, .int .u64 y] 41) = W at *
      clear hcx hcy hB hbel
      by_cases hx : x < 1 ∨ 9 < x
      · have HN : Hid (She l n t 5) := Or.inr (Or.inl ⟨⟨ht0, ht4⟩, mk_out hlt HX.out hx, rfl⟩)
        refine (cJoinO _ _ _ hx).mono ?_
        rintro e w' ⟨rfl, hw⟩
        have hw := hw.symm
        subst hw
        clear hx
        go_wp2
        go_ret
        exact ⟨5, rfl, HN.out, hbel2⟩
      · obtain ⟨p, rfl⟩ : ∃ p : Nat, x = p := ⟨x.toNat, by omega⟩
        cases hm : M.getD p false with
        | true =>
          have HN : Hid (She l n t 5) := Or.inr (Or.inl ⟨⟨ht0, ht4⟩, mk_twice HM.out hlt HX.out (by omega) (by omega) hm, rfl⟩)
          refine (cJoinN _ _ _ _ hB2 hlM (by omega) (by omega) hm).mono ?_
          rintro e w' ⟨rfl, hw⟩
          have hw := hw.symm
          subst hw
          clear hm
          go_wp2
          go_ret
          exact ⟨5, rfl, HN.out, hbel2⟩
        | false =>
          have HM2 : Hid (Mk (fa l) (k + 1) (M.set p true)) := mk_step HM.out HX.out (by omega) (by omega) hm
          refine (cJoinY _ _ _ _ hB2 hlM (by omega) (by omega) hm).mono ?_
          rintro e w' ⟨rfl, rfl⟩
          have hB3 := hB2.set p true
          have hbel3 := below_grown hbel2 (grown_set W w.heap.size p (.bool true)) (Nat.le_refl _)
          generalize W.setCell ⟨w.heap.size, p, none⟩ (.bool true) = W3 at *
          clear hm
          go_wp2
          go_roundw
          case rel => exact ⟨k + 1, _, by omega, by go_num, HM2, hB3, hbel3⟩
          case measure => simp [intOf]; omega
    · have hkn : k = n := by omega
      subst hkn
      by_cases hkt : (k : Int) ≤ t
      · have HN : Hid (She l k t 4) := Or.inr (Or.inr (Or.inl ⟨⟨ht0, ht4⟩, HM.out.dis, hkt, rfl⟩))
        go_wp2
        go_ret
        exact ⟨4, rfl, HN.out, hbel⟩
      · have HN : Hid (She l k t 0) := Or.inr (Or.inr (Or.inr ⟨⟨ht0, ht4⟩, HM.out.dis, by omega, rfl⟩))
        go_wp2
        go_ret
        exact ⟨0, rfl, HN.out, hbel⟩

theorem cCheckS (a : Option Addr) (n c : Nat) (l : List (Int × Int)) (t : Int) (w : World) (h : RdS w a n c l) :
    Calls Try.prog 16 #[.int .i64 t, .slice a n c] w fun e w' => ∃ r, e = .returned (.int .i64 r) ∧ She l n t r ∧ Below w.heap.size w w' := by
  by_cases ht : t < 0 ∨ 4 < t
  · refine (cCheckA _ _ _ _ _ ht).mono ?_
    rintro e w' ⟨rfl, rfl⟩
    exact ⟨1, rfl, Or.inl ⟨ht, rfl⟩, Below.refl _ _⟩
  · exact cCheckB _ _ _ _ _ _ h (by omega) (by omega)
end Go.Proofs.Ytoekicjppheemab

namespace Go.Proofs.Ytoekicjppheemab
open Go.RowKit Crm

/-- What check tells. -/
def Dck (l : List (Int × Int)) (n : Nat) (t e r : Int) : Prop :=
  (She l n t r ∧ r ≠ 0 ∧ r ≠ 4) ∨ (Shd l n t ∧ (e < 0 ∨ 4 < e) ∧ r = 1) ∨ (Shd l n t ∧ (0 ≤ e ∧ e ≤ 4) ∧ (n : Int) < t + 1 + 2 * e ∧ r = 4) ∨ (Shd l n t ∧ (0 ≤ e ∧ e ≤ 4) ∧ t + 1 + 2 * e ≤ (n : Int) ∧ r = 0)
theorem Dck.err {l : List (Int × Int)} {n : Nat} {t e r : Int} (h : Dck l n t e r) (hr : r ≠ 0) : Dcd l n t e [] [] r := by
  rcases h with h | ⟨h1, h2, h3⟩ | ⟨h1, h2, h3, h4⟩ | ⟨h1, h2, h3, h4⟩
  · exact .inl ⟨h, rfl, rfl⟩
  · exact .inr (.inl ⟨h1, h2, rfl, rfl, h3⟩)
  · exact .inr (.inr (.inl ⟨h1, h2, h3, rfl, rfl, h4⟩))
  · exact absurd h4 hr
theorem Dck.ok {l : List (Int × Int)} {n : Nat} {t e : Int} (h : Dck l n t e 0) : Shd l n t ∧ (0 ≤ e ∧ e ≤ 4) ∧ t + 1 + 2 * e ≤ (n : Int) := by
  rcases h with ⟨_, h, _⟩ | ⟨_, _, h3⟩ | ⟨_, _, _, h4⟩ | ⟨h1, h2, h3, h4⟩
  · exact absurd rfl h
  · omega
  · omega
  · exact ⟨h1, h2, h3⟩

theorem bdl_mem {l : List (Int × Int)} {p : List Int} {x : Int} : ∀ {n : Nat}, x ∈ bdl l p n → ∃ i, i < n ∧ (l.getD i (0, 0)).1 = x
  | 0, h => by simp [bdl] at h
  | n + 1, h => by
    rw [bdl] at h
    split at h
    · obtain ⟨i, h1, h2⟩ := bdl_mem h; exact ⟨i, by omega, h2⟩
    · rcases List.mem_append.1 h with h | h
      · obtain ⟨i, h1, h2⟩ := bdl_mem h; exact ⟨i, by omega, h2⟩
      · exact ⟨n, by omega, (List.mem_singleton.1 h).symm⟩
theorem bdl_bd {l : List (Int × Int)} {p B : List Int} {n m : Nat} (hd : dis (fa l) n) (h : OuI (bdl l p n) B m) : ∀ x ∈ B, -9223372036854775808 ≤ x ∧ x ≤ 9223372036854775807 := fun x hx => by
  obtain ⟨i, hi, e⟩ := bdl_mem (h.perm.mem_iff.1 hx)
  have := (hd i hi).1
  unfold fa at this
  omega

set_option maxRecDepth 100000 in
set_option maxHeartbeats 400000 in
theorem cDcheck (t e : Int) (a : Option Addr) (n c : Nat) (l : List (Int × Int)) (w : World) (h : RdS w a n c l) :
    Calls Try.prog 10 #[.int .i64 t, .int .i64 e, .slice a n c] w fun en w' => ∃ r, en = .returned (.int .i64 r) ∧ Dck l n t e r ∧ Below w.heap.size w w' := by
  have hcap := h.cap
  have hmax := h.max
  unfold maxLen at hmax
  go_enter Try.func10, Try.ntmps10
  go_wp2_with fail
  refine (cCheckS _ _ _ _ _ _ h).mono ?_
  rintro en w1 ⟨r, rfl, hS, hb1⟩
  by_cases hr : r = 0 ∨ r = 4
  · have HS : Hid (Shd l n t) := hS.shd hr
    have hS1 := (hS.shd hr).1
    have hr1 : (r == 1) = false := by rw [beq_eq_false_iff_ne]; omega
    have hr5 : (r == 5) = false := by rw [beq_eq_false_iff_ne]; omega
    clear hr hS
    by_cases h0 : e < 0
    · have HN : Hid (Dck l n t e 1) := .inr (.inl ⟨HS.out, .inl h0, rfl⟩)
      go_wp2
      go_ret
      exact ⟨1, rfl, HN.out, hb1⟩
    · by_cases h4 : 4 < e
      · have HN : Hid (Dck l n t e 1) := .inr (.inl ⟨HS.out, .inr h4, rfl⟩)
        go_wp2
        go_ret
        exact ⟨1, rfl, HN.out, hb1⟩
      · by_cases hn : (n : Int) < t + 1 + 2 * e
        · have HN : Hid (Dck l n t e 4) := .inr (.inr (.inl ⟨HS.out, ⟨by omega, by omega⟩, hn, rfl⟩))
          go_wp2
          go_ret
          exact ⟨4, rfl, HN.out, hb1⟩
        · have HN : Hid (Dck l n t e 0) := .inr (.inr (.inr ⟨HS.out, ⟨by omega, by omega⟩, by omega, rfl⟩))
          go_wp2
          go_ret
          exact ⟨0, rfl, HN.out, hb1⟩
  · have HN : Hid (Dck l n t e r) := .inl ⟨hS, fun e => hr (.inl e), fun e => hr (.inr e)⟩
    have hr2 : r = 1 ∨ r = 5 := by
      rcases hS with ⟨_, h2⟩ | ⟨_, _, h2⟩ | ⟨_, _, _, h2⟩ | ⟨_, _, _, h2⟩ <;> omega
    clear hr hS
    rcases hr2 with rfl | rfl
    · go_wp2
      go_ret
      exact ⟨1, rfl, HN.out, hb1⟩
    · go_wp2
      go_ret
      exact ⟨5, rfl, HN.out, hb1⟩

/-- What Decode answers. -/
def Dcs (l : List (Int × Int)) (n : Nat) (t e : Int) (w : World) (en : Ending) (w' : World) : Prop :=
  ∃ (P B : List Int) (r : Int) (a1 : Option Addr) (k1 c1 : Nat) (a2 : Option Addr) (k2 c2 : Nat), en = .returned (.tuple #[.slice a1 k1 c1, .slice a2 k2 c2, .int .i64 r]) ∧ Dcd l n t e P B r ∧ Rd w' a1 k1 c1 P ∧ RdI w' a2 k2 c2 B ∧ Below w.heap.size w w'
theorem nil_rdI (w : World) : RdI w none 0 0 [] := ⟨rfl, Nat.le_refl _, Nat.zero_le _, by simp, fun _ => rfl, by simp⟩

set_option maxRecDepth 100000 in
set_option maxHeartbeats 1000000 in
theorem cDecode (t e : Int) (a : Option Addr) (n c : Nat) (l : List (Int × Int)) (w : World) (h : RdS w a n c l) :
    Calls Try.prog 4 #[.int .i64 t, .int .i64 e, .slice a n c] w fun en w' => Dcs l n t e w en w' := by
  go_enter Try.func4, Try.ntmps4
  go_wp2_with fail
  refine (cDcheck _ _ _ _ _ _ _ h).mono ?_
  rintro en w1 ⟨r, rfl, hC, hb1⟩
  by_cases hr : r = 0
  · subst hr
    obtain ⟨hS, he, hn⟩ := hC.ok
    have ht := hS.1
    have HD : Hid (dis (fa l) n) := hS.2
    have HS : Hid (Shd l n t) := hS
    clear hC hS
    obtain ⟨k, rfl⟩ : ∃ k : Nat, t = k := ⟨t.toNat, by omega⟩
    obtain ⟨d, rfl⟩ : ∃ d : Nat, e = d := ⟨e.toNat, by omega⟩
    go_wp2_with fail
    refine (cFind _ _ _ _ _ _ _ (h.below hb1) HD.out (by omega) (by omega)).mono ?_
    rintro en w2 ⟨⟨g, Q, rfl, hrQ, hF⟩ | ⟨rfl, hF⟩, hb2⟩
    · have HF : Hid (Few l n k d Q) := hF
      have hb12 := hb1.trans (hb2.mono hb1.size)
      clear hF hb1 hb2
      go_wp2_with fail
      refine (cMisses _ _ _ _ _ _ _ _ _ hrQ (h.below hb12) (by omega) HD.out).mono ?_
      rintro en w3 ⟨B, ab, cb, rfl, hown, hO, hb3⟩
      have hl := h.len
      have HE : Hid (bdl l (pdn Q (k + 1)) n = bdl l Q n) := by
        unfold Hid
        rw [← hl]
        refine bdl_same (nrm_ext fun i => ?_) l
        by_cases hi : i < k + 1
        · rw [pdn_getD Q hi, nm_nm]
        · have := HF.out.1
          rw [getD_big (by rw [pdn_len]; omega), getD_big (show Q.length ≤ i by omega)]
      rw [HE.out] at hown hO ⊢
      have HDc : Hid (Dcd l n k d (pdn Q (k + 1)) B 0) := .inr (.inr (.inr (.inl ⟨HS.out, he, hn, ⟨Q, HF.out, by congr 1, hO⟩, rfl⟩)))
      obtain ⟨a2, c2, e2, hrB⟩ := RdI.own hown (bdl_bd HD.out hO)
      simp only [Value.slice.injEq, true_and] at e2
      obtain ⟨rfl, rfl⟩ := e2
      have hrQ3 := hrQ.below hb3
      have hb13 := hb12.trans (hb3.mono hb12.size)
      obtain ⟨NB, HNB⟩ : ∃ NB, Hid ((bdl l Q n).length = NB) := ⟨_, rfl⟩
      rw [HNB.out] at hrB ⊢
      clear hO hown hb3 hb12 hrQ
      go_wp2
      go_ret3
      exact ⟨_, B, 0, _, _, _, _, _, _, rfl, HDc.out, hrQ3, hrB, hb13⟩
    · have HDc : Hid (Dcd l n k d [] [] 6) := .inr (.inr (.inr (.inr ⟨HS.out, he, hn, hF, rfl, rfl, rfl⟩)))
      clear hF
      go_wp2
      go_ret3
      exact ⟨_, _, 6, _, _, _, _, _, _, rfl, HDc.out, nil_rd _, nil_rdI _, hb1.trans (hb2.mono hb1.size)⟩
  · have hrb : (r != 0) = true := by rw [bne_iff_ne]; exact hr
    have HDc : Hid (Dcd l n t e [] [] r) := hC.err hr
    clear hr hC
    go_wp2
    go_ret3
    exact ⟨_, _, r, _, _, _, _, _, _, rfl, HDc.out, nil_rd _, nil_rdI _, hb1⟩

/-- What Open answers. -/
def Ros (l : List (Int × Int)) (n : Nat) (t : Int) (w : World) (en : Ending) (w' : World) : Prop :=
  ∃ (x : Int) (B : List Int) (r : Int) (a2 : Option Addr) (k2 c2 : Nat), en = .returned (.tuple #[.int .u64 x, .slice a2 k2 c2, .int .i64 r]) ∧ Rob l n t x B r ∧ RdI w' a2 k2 c2 B ∧ Below w.heap.size w w'
theorem dcd_head {l : List (Int × Int)} {n : Nat} {t e : Int} {P B : List Int} (h : Dcd l n t e P B 0) : 0 < P.length ∧ ∀ x ∈ P, 0 ≤ x ∧ x ≤ 2147483646 := by
  rcases h with ⟨⟨_, h, _⟩, _⟩ | ⟨_, _, _, _, h⟩ | ⟨_, _, _, _, _, h⟩ | ⟨h1, _, _, ⟨p, _, rfl, _⟩, _⟩ | ⟨_, _, _, _, _, _, h⟩
  · exact absurd rfl h
  · omega
  · omega
  · have := h1.1
    exact ⟨by rw [pdn_len]; omega, pdn_bd _ _⟩
  · omega

set_option maxRecDepth 100000 in
set_option maxHeartbeats 1000000 in
theorem cOpenD (t : Int) (a : Option Addr) (n c : Nat) (l : List (Int × Int)) (w : World) (h : RdS w a n c l) :
    Calls Try.prog 6 #[.int .i64 t, .slice a n c] w fun en w' => Ros l n t w en w' := by
  go_enter Try.func6, Try.ntmps6
  go_wp2_with fail
  refine (cCheckS _ _ _ _ _ _ h).mono ?_
  rintro en w1 ⟨r, rfl, hS, hb1⟩
  by_cases hr : r = 0
  · subst hr
    have HS : Hid (She l n t 0) := hS
    obtain ⟨t0, t4, hd, htn, hn9⟩ := hS.ok
    clear hd hS
    have HM : Hid (((n : Int) - t - 1) / 2 = mayb n t) := by unfold Hid mayb; omega
    have hd2 : 0 ≤ ((n : Int) - t - 1) / 2 := by omega
    have hd3 : ((n : Int) - t - 1) / 2 ≤ 4 := by omega
    go_wp2_with fail
    refine (cDecode _ _ _ _ _ _ _ (h.below hb1)).mono ?_
    rintro en w2 ⟨P, B, s, a1, k1, c1, a2, k2, c2, rfl, hD, hrP, hrB, hb2⟩
    rw [HM.out] at hD
    have hb12 := hb1.trans (hb2.mono hb1.size)
    by_cases hs : s = 0
    · subst hs
      have HD : Hid (Dcd l n t (mayb n t) P B 0) := hD
      obtain ⟨hPl, hPb⟩ := dcd_head hD
      have hk1 := hrP.len
      obtain ⟨b, o, x, rfl, hbb, HX, hx0, hx1, hcx⟩ := hrP.one (show 0 < k1 by omega)
      rw [Nat.add_zero] at hcx
      have hk0 : (0 : Int) < (k1 : Int) := by omega
      have HN : Hid (Rob l n t x B 0) := .inr ⟨HS.out, P, B, 0, HD.out, .inr ⟨rfl, HX.out.symm, rfl, rfl⟩⟩
      clear hD hPb hb1 hb2
      go_wp2
      go_ret3
      exact ⟨x, B, 0, _, _, _, rfl, HN.out, hrB, hb12⟩
    · have hsb : (s != 0) = true := by rw [bne_iff_ne]; exact hs
      have HN : Hid (Rob l n t 0 [] s) := .inr ⟨HS.out, P, B, s, hD, .inl ⟨hs, rfl, rfl, rfl⟩⟩
      clear hD hs hb1 hb2
      go_wp2
      go_ret3
      exact ⟨0, [], s, _, _, _, rfl, HN.out, nil_rdI _, hb12⟩
  · have hrb : (r != 0) = true := by rw [bne_iff_ne]; exact hr
    have HN : Hid (Rob l n t 0 [] r) := .inl ⟨hS, hr, rfl, rfl⟩
    clear hr hS
    go_wp2
    go_ret3
    exact ⟨0, [], r, _, _, _, rfl, HN.out, nil_rdI _, hb1⟩
end Go.Proofs.Ytoekicjppheemab
