/- solve.Check. · solve.Rank, solve.Solve. -/
import Derived.Test.YtoekicjppheemaeProg
import Derived.Test.YtoekicjppheemaeToRestC
import Derived.Test.YtoekicjppheemaeToRedC
namespace Go.Proofs.Ytoekicjppheemae
open Go.RowKit Crm

/-- What is wrong with n rows as equations for v variables. -/
def chk (rs : List (List Int)) (n : Nat) (v : Int) : Int := if v < 1 ∨ 20 < v then 1 else if 20 < n then 2 else if ∀ i, i < n → ((rs.getD i []).length : Int) = v + 1 then 0 else 5
theorem chk_arg {rs : List (List Int)} {n : Nat} {v : Int} (h : v < 1 ∨ 20 < v) : chk rs n v = 1 := if_pos h
theorem chk_large {rs : List (List Int)} {n : Nat} {v : Int} (h : ¬ (v < 1 ∨ 20 < v)) (h2 : 20 < n) : chk rs n v = 2 := by unfold chk; rw [if_neg h, if_pos h2]
theorem chk_form {rs : List (List Int)} {n : Nat} {v : Int} (h : ¬ (v < 1 ∨ 20 < v)) (h2 : ¬ 20 < n) {k : Nat} (hk : k < n) (h3 : ¬ ((rs.getD k []).length : Int) = v + 1) : chk rs n v = 5 := by
  unfold chk; rw [if_neg h, if_neg h2, if_neg fun hh => h3 (hh k hk)]
theorem chk_ok {rs : List (List Int)} {n : Nat} {v : Int} (h : ¬ (v < 1 ∨ 20 < v)) (h2 : ¬ 20 < n) (h3 : ∀ i, i < n → ((rs.getD i []).length : Int) = v + 1) : chk rs n v = 0 := by
  unfold chk; rw [if_neg h, if_neg h2, if_pos h3]
theorem chk_of {rs : List (List Int)} {n : Nat} {v : Int} (h : chk rs n v = 0) : ∃ k : Nat, v = k ∧ 1 ≤ k ∧ k ≤ 20 ∧ n ≤ 20 ∧ ∀ i, i < n → (rs.getD i []).length = k + 1 := by
  unfold chk at h
  by_cases h1 : v < 1 ∨ 20 < v
  · rw [if_pos h1] at h; omega
  · by_cases h2 : 20 < n
    · rw [if_neg h1, if_pos h2] at h; omega
    · by_cases h3 : ∀ i, i < n → ((rs.getD i []).length : Int) = v + 1
      · exact ⟨v.toNat, by omega, by omega, by omega, by omega, fun i hi => by have := h3 i hi; omega⟩
      · rw [if_neg h1, if_neg h2, if_neg h3] at h; omega
theorem chk_bd (rs : List (List Int)) (n : Nat) (v : Int) : 0 ≤ chk rs n v ∧ chk rs n v ≤ 5 := by
  unfold chk; split
  · omega
  · split
    · omega
    · split <;> omega

set_option maxHeartbeats 400000 in
set_option maxRecDepth 100000 in
theorem cCheck (a : Option Addr) (n c : Nat) (rs : List (List Int)) (v : Int) (w : World) (h : RdR w a n c rs) (hv0 : -9223372036854775808 ≤ v) (hv1 : v ≤ 9223372036854775807) :
    Calls Try.prog 50 #[.slice a n c, .int .i64 v] w fun e w' => e = .returned (.int .i64 (chk rs n v)) ∧ w' = w := by
  have hcap := h.cap
  have hmax := h.max
  unfold maxLen at hmax
  by_cases h1 : v < 1
  · have hd : decide (v < 1) = true := decide_eq_true h1
    rw [chk_arg (.inl h1)]
    go_enter Try.func50, Try.ntmps50
    go_wp2
    go_ret
    exact ⟨rfl, rfl⟩
  · have hd : decide (v < 1) = false := decide_eq_false h1
    by_cases h2 : 20 < v
    · have hd2 : decide (20 < v) = true := decide_eq_true h2
      rw [chk_arg (.inr h2)]
      go_enter Try.func50, Try.ntmps50
      go_wp2
      go_ret
      exact ⟨rfl, rfl⟩
    · have hd2 : decide (20 < v) = false := decide_eq_false h2
      have h12 : ¬ (v < 1 ∨ 20 < v) := by omega
      by_cases h3 : 20 < n
      · rw [chk_large h12 h3]
        have h4 : (20 : Int) < (n : Int) := by omega
        go_enter Try.func50, Try.ntmps50
        go_wp2
        go_ret
        exact ⟨rfl, rfl⟩
      · go_enter Try.func50, Try.ntmps50
        go_wp2
        go_loopw [18] (fun i wr => ∃ k : Nat, k ≤ n ∧ i = .int .i64 k ∧ Hid (∀ i, i < k → ((rs.getD i []).length : Int) = v + 1) ∧ wr = w) (fun i _ => n - (intOf i).toNat)
        case atStart => exact ⟨0, Nat.zero_le _, rfl, fun i hi => by omega, rfl⟩
        case round =>
          obtain ⟨k, hk, rfl, HK, hw⟩ := hrel
          have hw := hw.symm
          subst hw
          by_cases hlt : k < n
          · obtain ⟨b, o, ai, ni, ci, row, rfl, hbb, HRow, hcr, hrow⟩ := h.one hlt
            have HL : Hid (((rs.getD k []).length : Int) = ni) := by rw [HRow.out, hrow.len]; rfl
            by_cases he : (ni : Int) = v + 1
            · have HK2 : Hid (∀ i, i < k + 1 → ((rs.getD i []).length : Int) = v + 1) := fun i hi => by
                by_cases e : i = k
                · rw [e, HL.out]; exact he
                · exact HK.out i (by omega)
              have hb : ((ni : Int) == v + 1) = true := by rw [beq_iff_eq]; exact he
              clear he
              go_wp2
              go_roundw
              case rel => exact ⟨k + 1, by omega, by go_num, HK2, by trivial⟩
              case measure => simp [intOf]; omega
            · have hb : ((ni : Int) == v + 1) = false := by rw [beq_eq_false_iff_ne]; exact he
              have HC : Hid (chk rs n v = 5) := chk_form h12 h3 hlt (by rw [HL.out]; exact he)
              clear he
              go_wp2
              go_ret
              rw [HC.out]
              exact ⟨rfl, rfl⟩
          · have hkn : k = n := by omega
            subst hkn
            have HC : Hid (chk rs k v = 0) := chk_ok h12 h3 HK.out
            go_wp2
            go_ret
            rw [HC.out]
            exact ⟨rfl, rfl⟩
end Go.Proofs.Ytoekicjppheemae

namespace Go.Proofs.Ytoekicjppheemae
open Go.RowKit Crm

/-- L: the columns that are no sums of columns ahead, going up. -/
structure Lds (M : Nat → Nat → Int) (r v : Nat) (L : List Nat) : Prop where
  up : L.Pairwise (· < ·)
  lt : ∀ j ∈ L, j < v
  lead : ∀ j, j < v → (j ∈ L ↔ ¬ dep M r j)
theorem lds_one {M : Nat → Nat → Int} {r v : Nat} {L K : List Nat} (h : Lds M r v L) (k : Lds M r v K) : L = K :=
  up_ext h.up k.up fun x => ⟨fun hx => (k.lead x (h.lt x hx)).2 ((h.lead x (h.lt x hx)).1 hx), fun hx => (h.lead x (k.lt x hx)).2 ((k.lead x (k.lt x hx)).1 hx)⟩
theorem rr_lds {M A : Nat → Nat → Int} {r w c : Nat} {L : List Nat} (h : RrI M A r w c L) : Lds M r c L := ⟨h.up, h.lt, h.lead⟩
theorem rest_start {rs : List (List Int)} {M : Nat → List Int} {n W : Nat} (h : ∀ i j, i < n → j < W → (M i).getD j 0 = nm (mat rs i j)) : RrI (mat rs) (mt M) n W 0 [] :=
  rr_start fun i j hi hj => by show nm ((M i).getD j 0) = _; rw [h i j hi hj]; exact nm_nm _

set_option maxRecDepth 100000 in
theorem cSolve0 (a : Option Addr) (n c : Nat) (rs : List (List Int)) (v : Int) (w : World) (h : RdR w a n c rs) (hv0 : -9223372036854775808 ≤ v) (hv1 : v ≤ 9223372036854775807) (hc : chk rs n v ≠ 0) :
    Calls Try.prog 38 #[.slice a n c, .int .i64 v] w fun e w' => e = .returned (.tuple #[.slice none 0 0, .int .i64 (chk rs n v)]) ∧ w' = w := by
  obtain ⟨z, hz⟩ : ∃ z, chk rs n v = z := ⟨_, rfl⟩
  have hbd := chk_bd rs n v
  have HZ : Hid (chk rs n v = z) := hz
  rw [hz] at hc hbd ⊢
  clear hz
  have hb : (z == 0) = false := by rw [beq_eq_false_iff_ne]; exact hc
  go_enter Try.func38, Try.ntmps38
  go_wp2_with (go_at_call 50; refine (cCheck _ _ _ rs _ _ h hv0 hv1).mono ?_; rintro e w' ⟨rfl, hw⟩; have hw := hw.symm; subst hw; rw [HZ.out])
  go_ret2
  exact ⟨rfl, rfl⟩

/-- What Solve answers at equations that are well formed. -/
def Solved (M : Nat → Nat → Int) (n k : Nat) (w : World) (e : Ending) (w' : World) : Prop :=
  ((¬ dep M n k ∧ e = .returned (.tuple #[.slice none 0 0, .int .i64 4])) ∨ (∃ g V, dep M n k ∧ e = .returned (.tuple #[.slice (some ⟨g, 0, none⟩) k k, .int .i64 0]) ∧ Sol M n k V ∧ Blk w' g V ∧ w.heap.size ≤ g)) ∧ Below w.heap.size w w'

set_option maxHeartbeats 1000000 in
set_option maxRecDepth 100000 in
theorem cSolve1 (a : Option Addr) (n c k : Nat) (rs : List (List Int)) (w : World) (h : RdR w a n c rs) (hc : chk rs n k = 0) :
    Calls Try.prog 38 #[.slice a n c, .int .i64 k] w fun e w' => Solved (mat rs) n k w e w' := by
  obtain ⟨i0, hi, hz0, hz1, hz2⟩ := info_parts infoU
  obtain ⟨k', hk, hk1, hk2, hn, hwid⟩ := chk_of hc
  have hk' : k' = k := by omega
  subst hk'
  have HC : Hid (chk rs n k' = 0) := hc
  clear hc hk
  go_enter Try.func38, Try.ntmps38
  go_wp2_with fail
  refine (cCheck _ _ _ rs _ _ h (by omega) (by omega)).mono ?_
  rintro e w' ⟨rfl, hw'⟩
  have hw' := hw'.symm
  subst hw'
  rw [HC.out]
  go_wp2_with fail
  refine (cRests _ _ _ (k' + 1) rs _ h hwid (by omega) (by omega)).mono ?_
  rintro e w1 ⟨G, M, rfl, hM, hMv, hb1⟩
  go_wp2_with fail
  refine (cReduce n k' _ _ _ G M (mat rs) _ hM (rest_start hMv) (by omega) (by omega)).mono ?_
  rintro e w2 ⟨u, L, G2, N, rfl, hown, hN, hR, hf⟩
  obtain ⟨q, HQ⟩ : ∃ q, Hid (L.length = q) := ⟨_, rfl⟩
  rw [HQ.out] at hown
  have hqn : q ≤ n := by rw [← HQ.out]; exact hR.kr
  obtain ⟨au, cu, rfl, hcu⟩ := own_slice hown
  have hb2 : Below w.heap.size w w2 := hb1.trans (hf.below (by have := hb1.size; omega))
  have HR : Hid (RrI (mat rs) (mt N) n (k' + 1) k' L) := hR
  obtain ⟨hi2, Hhi⟩ : ∃ x, Hid (w1.heap.size = x) := ⟨_, rfl⟩
  rw [Hhi.out] at hN hown
  have hlw := hb2.size
  clear hR hf hM hMv hb1 h
  -- the rows behind those of the columns that lead
  go_wp2
  all_goals
    go_loopw [30] (fun i wr => ∃ m : Nat, m ≤ n - q ∧ i = .int .i64 m ∧ Hid (∀ i, q ≤ i → i < q + m → (N i).getD k' 0 = 0) ∧ wr = w2) (fun i _ => (n - q) - (intOf i).toNat)
    case atStart => exact ⟨0, Nat.zero_le _, rfl, fun i h1 h2 => by omega, rfl⟩
    case round =>
      obtain ⟨m, hm, rfl, HZ, hw'⟩ := hrel
      have hw' := hw'.symm
      subst hw'
      by_cases hlt : m < n - q
      · first
        | (exfalso; omega)
        | (skip
           have hnq : ¬ n = q := by omega
           have hqm : q + m < n := by omega
           have hcl := hN.cell hqm
           have hcn := hN.num hqm (show k' < k' + 1 by omega)
           have hnb := hN.nbd hqm k'
           obtain ⟨x, HX⟩ : ∃ x, Hid ((N (q + m)).getD k' 0 = x) := ⟨_, rfl⟩
           rw [HX.out] at hcn hnb
           by_cases hx : x = 0
           · have HZ2 : Hid (∀ i, q ≤ i → i < q + (m + 1) → (N i).getD k' 0 = 0) := fun i h1 h2 => by
               by_cases e : i = q + m
               · rw [e, HX.out, hx]
               · exact HZ.out i h1 (by omega)
             subst hx
             go_wp2
             go_roundw
             case rel => exact ⟨m + 1, by omega, by go_num, HZ2, by trivial⟩
             case measure => simp [intOf]; omega
           · have hxb : (x == 0) = false := by rw [beq_eq_false_iff_ne]; exact hx
             have HD : Hid (¬ dep (mat rs) n k') := fun hd => by
               have h1 := (rr_dep HR.out (by omega)).2 hd (q + m) (by rw [HQ.out]; omega) hqm
               have h2 : nm ((N (q + m)).getD k' 0) = 0 := h1
               rw [HX.out, nm_small (by omega) (by omega)] at h2
               exact hx h2
             clear hx
             go_wp2
             go_ret2
             exact ⟨.inl ⟨HD.out, rfl⟩, hb2⟩)
      · have hmn : m = n - q := by omega
        have HZ2 : Hid (∀ i, L.length ≤ i → i < n → nm (mt N i k') = 0) := fun i h1 h2 => by
          rw [HQ.out] at h1
          show nm ((N i).getD k' 0) = 0
          rw [HZ.out i h1 (by omega)]; rfl
        have HD : Hid (dep (mat rs) n k') := (rr_dep HR.out (by omega)).1 HZ2.out
        obtain ⟨wo, hwo⟩ : ∃ wo, wo = w2 := ⟨_, rfl⟩
        subst hwo
        clear HZ
        have hmm : ¬ ((m : Int) < ((n - q : Nat) : Int)) := by omega
        go_wp2_with (at_make; refine wpList_make_full _ rfl _ _ 23 rfl wo.heap.size 22 i0 (.int .u64 0) 1 Try.underlying23 hi hz0 hz1 .i64 .i64 _ _ k' rfl rfl (by omega) (by omega) (by rw [hz2]; omega) (by unfold maxLen; omega) (Nat.le_refl _) ?_; intro w3 hown3 hgrow)
        have hb3 : Blk w3 wo.heap.size (List.replicate k' 0) := Blk.made hown3
        have hbel3 : Below wo.heap.size wo w3 := (Below.refl _ _).grown hgrow (Nat.le_refl _) (by simp)
        have hbw3 := hb2.trans (hbel3.mono hlw)
        have hN3 := hN.below (hbel3.mono hN.hw)
        have hs2 := hN.hw
        clear hown3 hgrow hN hb2
        go_loopw [44] (fun i wr => ∃ (m : Nat) (V : List Int), m ≤ q ∧ i = .int .i64 m ∧ V.length = k' ∧ Hid (∀ x ∈ V, 0 ≤ x ∧ x ≤ 2147483646) ∧ Hid (∀ j, j < k' → V.getD j 0 = tell (mt N) L k' m j) ∧ Blk wr wo.heap.size V ∧ w3.grownBy wr (some wo.heap.size)) (fun i _ => q - (intOf i).toNat)
        case atStart => exact ⟨0, _, Nat.zero_le _, rfl, by simp, fun x hx => by rw [List.eq_of_mem_replicate hx]; omega, fun j hj => by simp [tell, sm, hj], hb3, World.grownBy.refl _ _⟩
        case round =>
          obtain ⟨t, V, ht, rfl, hlV, HB, HV, hV, hg⟩ := hrel
          by_cases htq : t < q
          · obtain ⟨gu, rfl, hgu1, hgu2, hcu0⟩ := ins_at hown htq
            have htn : t < n := by omega
            have hLt : L.getD t 0 < k' := HR.out.lt _ (getN_mem (by rw [HQ.out]; exact htq))
            obtain ⟨col, HCol⟩ : ∃ col, Hid (L.getD t 0 = col) := ⟨_, rfl⟩
            rw [HCol.out] at hcu0 hLt
            have hcu1 : wr.cell? ⟨gu, t, none⟩ = some (.int .i64 (col : Int)) := hg.cell (by rw [hbel3.cell hgu2]; exact hcu0) (by simp; omega)
            have hN4 := hN3.cell htn
            have hc1 : wr.cell? ⟨w.heap.size, t, none⟩ = some (.slice (some ⟨G2 t, 0, none⟩) (k' + 1) (k' + 1)) := hg.cell hN4 (by simp; have := hN3.gb; omega)
            have hN5 := hN3.num htn (show k' < k' + 1 by omega)
            have hc2 : wr.cell? ⟨G2 t, k', none⟩ = some (.int .u64 ((N t).getD k' 0)) := hg.cell hN5 (by simp; have := hN3.rng t htn; omega)
            have hxb := hN3.nbd htn k'
            obtain ⟨x, HX⟩ : ∃ x, Hid ((N t).getD k' 0 = x) := ⟨_, rfl⟩
            rw [HX.out] at hc2 hxb
            have hcV := hV.cell (i := col) (by omega)
            have hfV := hV.frozen col
            have hV2 := hV.set col x
            have hg2 := grown_trans hg (grown_set wr wo.heap.size col (.int .u64 x))
            have HB2 : Hid (∀ y ∈ V.set col x, 0 ≤ y ∧ y ≤ 2147483646) := set_bd HB.out hxb
            have HV2 : Hid (∀ j, j < k' → (V.set col x).getD j 0 = tell (mt N) L k' (t + 1) j) := fun j hj => by
              rw [tell_succ HR.out.up (by rw [HQ.out]; exact htq), getD_set, HCol.out]
              by_cases e : col = j
              · rw [if_pos ⟨e, by omega⟩, if_pos e, ← HX.out]; rfl
              · rw [if_neg (fun hh => e hh.1), if_neg e]; exact HV.out j hj
            have hlV2 : (V.set col x).length = k' := by rw [List.length_set]; exact hlV
            clear HB HV hV hg hN4 hN5 hcu0 hN3 hown
            go_wp2
            go_roundw
            case rel => exact ⟨t + 1, _, by omega, by go_num, hlV2, HB2, HV2, hV2, hg2⟩
            case measure => simp [intOf]; omega
          · have htq2 : t = q := by omega
            subst htq2
            have HS : Hid (Sol (mat rs) n k' V) := rr_sol HR.out HZ2.out hlV HB.out (by rw [HQ.out]; exact HV.out)
            go_wp2
            go_ret2
            exact ⟨.inr ⟨_, V, HD.out, rfl, HS.out, hV, hlw⟩, below_grown hbw3 hg hlw⟩
end Go.Proofs.Ytoekicjppheemae
