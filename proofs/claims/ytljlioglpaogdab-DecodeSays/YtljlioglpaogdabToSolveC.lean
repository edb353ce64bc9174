/- solve.reduce. · solve.Rank, solve.Solve. -/
import Derived.Test.YtljlioglpaogdabToRestC
import Derived.Test.YtljlioglpaogdabToRows2
import Derived.Test.YtljlioglpaogdabGaussR
import Derived.Test.YtljlioglpaogdabToJoinC
namespace Go.Proofs.Ytljlioglpaogdab
set_option linter.unusedVariables false
set_option maxRecDepth 100000
set_option maxHeartbeats 8000000
section
open Crm Go.RowKit
theorem infoI : (Try.prog.info? 3).map (fun i => (i.zero, i.size, i.bytes)) = some (some (.int .i64 0), 1, 8) := by kernel_rfl

/-- The numbers by row and column. -/
def mtv (M : Nat → List Int) (i j : Nat) : Int := (M i).getD j 0

/-- From the rows ahead of i, but row k, row k has been taken so often that column c is 0. -/
def El (n W k c i : Nat) (M N : Nat → List Int) : Prop :=
  ∀ r j, r < n → j < W → (N r).getD j 0 = if r < i ∧ r ≠ k then nm ((M r).getD j 0 - (M r).getD c 0 * (M k).getD j 0) else (M r).getD j 0
theorem el_start (n W k c : Nat) (M : Nat → List Int) : El n W k c 0 M M := fun r j _ _ => by rw [if_neg (by omega)]
theorem el_skip {n W k c : Nat} {M N : Nat → List Int} (h : El n W k c k M N) : El n W k c (k + 1) M N := fun r j hr hj => by
  rw [h r j hr hj]
  by_cases e : r < k
  · rw [if_pos ⟨e, by omega⟩, if_pos ⟨by omega, by omega⟩]
  · rw [if_neg (by omega), if_neg (by omega)]
theorem el_step {n W k c i : Nat} {M N : Nat → List Int} {A : List Int} (h : El n W k c i M N) (hi : i < n) (hk : k < n) (hne : i ≠ k) (hc : c < W) (hl : (N i).length = W) (hT : Tk (N i) (N k) ((N i).getD c 0) W A) : El n W k c (i + 1) M (fun r => if r = i then A else N r) := fun r j hr hj => by
  show ((if r = i then A else N r) : List Int).getD j 0 = _
  by_cases e : r = i
  · subst e
    rw [if_pos rfl, if_pos ⟨by omega, hne⟩, hT.at_ j (by omega), if_pos hj, h r j hr hj, h k j hk hj, h r c hr hc, if_neg (by omega), if_neg (by omega), if_neg (by omega)]
  · rw [if_neg e, h r j hr hj]
    by_cases e2 : r < i ∧ r ≠ k
    · rw [if_pos e2, if_pos ⟨by omega, e2.2⟩]
    · rw [if_neg e2, if_neg (by omega)]

theorem cReduce (n v lo hi gl : Nat) (G : Nat → Nat) (M : Nat → List Int) (M0 : Nat → Nat → Int) (w : World) (h : Mx w lo hi gl n (v + 1) G M) (hr : RrI M0 (mtv M) n (v + 1) 0 []) (hv : v ≤ 100) (hn : n ≤ 1000) :
    Calls Try.prog 87 #[.slice (some ⟨gl, 0, none⟩) n n, .int .i64 v] w fun e w' => ∃ u L G' N, e = .returned u ∧ w'.ownsRow w.heap.size 3 1 u L.length (ins L) ∧ Mx w' lo hi gl n (v + 1) G' N ∧ RrI M0 (mtv N) n (v + 1) v L ∧ Fr lo hi w w' := by
  have hsz := h.hw
  have hlo := h.gb
  go_enter Try.func87, Try.ntmps87
  go_wp2
  go_loopw [5, 10] (fun u i wr => ∃ (c : Nat) (L : List Nat) (G' : Nat → Nat) (N : Nat → List Int), c ≤ v ∧ i = .int .i64 c ∧ wr.ownsRow w.heap.size 3 1 u L.length (ins L) ∧ Mx wr lo hi gl n (v + 1) G' N ∧ Hid (RrI M0 (mtv N) n (v + 1) c L) ∧ Fr lo hi w wr) (fun _ i _ => v - (intOf i).toNat)
  case atStart => exact ⟨0, [], G, M, Nat.zero_le _, rfl, World.ownsRow_nil _ _ _ _, h, hr, Fr.refl _ _ _⟩
  case round =>
    obtain ⟨c, L, G1, N, hcv, rfl, hown, hN, HR, hfr⟩ := hrel
    obtain ⟨wo, hwo⟩ : ∃ wo, wo = wr := ⟨_, rfl⟩
    subst hwo
    obtain ⟨k, HK⟩ : ∃ k, Hid (L.length = k) := ⟨_, rfl⟩
    have hkn : k ≤ n := by rw [← HK.out]; exact HR.out.kr
    rw [HK.out] at hown
    obtain ⟨a5, c5, rfl, hc5⟩ := own_slice hown
    by_cases hlt : c < v
    · have hX : Mx wo lo hi gl (k + (n - k)) (v + 1) G1 N := by rw [show k + (n - k) = n by omega]; exact hN
      by_cases hkn2 : k < n
      · have hne : ¬ n = k := by omega
        go_wp2_with (first | (go_at_call 103; refine (cLead _ k (n - k) c (v + 1) lo hi gl G1 N wo hX (fun _ => rfl) (by omega) (by omega) (by omega)).mono ?_; rintro e w1 (⟨rfl, hw, hz⟩ | ⟨p, G2, N2, rfl, hp1, hp2, hpx, hN2, hled, hf2⟩)) | fail)
        · have hw := hw.symm
          subst hw
          have HR2 : Hid (RrI M0 (mtv N) n (v + 1) (c + 1) L) := rr_skip HR.out (by omega) fun i h1 h2 => by
            rw [HK.out] at h1
            show nm ((N i).getD c 0) = 0
            rw [hz i h1 (by omega)]; rfl
          go_wp2
          go_roundw
          case rel => exact ⟨c + 1, L, G1, N, by omega, by go_num, by rw [HK.out]; exact hown, hN, HR2, hfr⟩
          case measure => simp [intOf]; omega
        · rw [show k + (n - k) = n by omega] at hN2 hled hp2
          have hown2 := hf2.own hsz hown
          have hfr2 := hfr.trans hf2
          have hsz2 := hN2.hw
          clear hown hf2 hfr hX hN
          go_wp2
          go_loopw [23] (fun i wr => ∃ (q : Nat) (N3 : Nat → List Int), q ≤ n ∧ i = .int .i64 q ∧ Mx wr lo hi gl n (v + 1) G2 N3 ∧ Hid (El n (v + 1) k c q N2 N3) ∧ Fr lo hi w1 wr) (fun i _ => n - (intOf i).toNat)
          case atStart => exact ⟨0, N2, Nat.zero_le _, rfl, hN2, el_start _ _ _ _ _, Fr.refl _ _ _⟩
          case round =>
            obtain ⟨q, N3, hq, rfl, hN3, HE, hf3⟩ := hrel
            by_cases hqn : q < n
            · by_cases hqk : q = k
              · subst hqk
                go_wp2
                go_roundw
                case rel => exact ⟨q + 1, N3, by omega, by go_num, hN3, el_skip HE.out, hf3⟩
                case measure => simp [intOf]; omega
              · have hcq := hN3.cell hqn
                have hck := hN3.cell hkn2
                have hnq := hN3.num hqn (show c < v + 1 by omega)
                have hbq := hN3.nbd hqn c
                have hrk := hN3.rd hkn2 (by unfold maxLen; omega)
                have hbk := hN3.row q hqn
                have hwq := hN3.wid q hqn
                have hbd := hN3.bd q hqn
                have hneg : G2 k ≠ G2 q := fun e => hqk (hN3.inj _ _ hkn2 hqn e).symm
                obtain ⟨x, HX⟩ : ∃ x, Hid ((N3 q).getD c 0 = x) := ⟨_, rfl⟩
                rw [HX.out] at hnq hbq
                have hqk2 : ((q : Int) == (k : Int)) = false := by rw [beq_eq_false_iff_ne]; omega
                have hput : ∀ (w4 : World) (A : List Int), Tk (N3 q) (N3 k) x (v + 1) A → Blk w4 (G2 q) A → wr.drew.grownBy w4 (some (G2 q)) → ∃ N4, Mx w4 lo hi gl n (v + 1) G2 N4 ∧ Hid (El n (v + 1) k c (q + 1) N2 N4) ∧ Fr lo hi w1 w4 := fun w4 A hT hA hg4 =>
                  ⟨_, hN3.drew.put hqn hg4 hA (by rw [hT.len]; exact hwq) hT.bd, el_step HE.out hqn hkn2 hqk (by omega) hwq (by rw [HX.out]; exact hT), hf3.drew.trans (Fr.grown hg4 (hN3.rng q hqn).1 (hN3.rng q hqn).2.1)⟩
                have hq1 : q + 1 ≤ n := by omega
                obtain ⟨ga, HGA⟩ : ∃ ga, ga = G2 q := ⟨_, rfl⟩
                obtain ⟨gb, HGB⟩ : ∃ gb, gb = G2 k := ⟨_, rfl⟩
                rw [← HGA] at hcq hnq hbk hneg hput
                rw [← HGB] at hck hrk hneg
                clear hN3 HE hf3 hled hpx HR hfr2 hown2 hN2 HGA HGB HX h hr hlo hqn
                go_wp2
                go_region_with (first | (go_at_call 104; refine (cTake ga (v + 1) (N3 q) (some ⟨gb, 0, none⟩) (v + 1) (N3 k) x _ (by exact hbk) hbd hrk.drew (by intro y hy; obtain rfl := Option.some.inj hy; exact hneg) hwq (by omega) (by omega) (by omega)).mono ?_; rintro e w4 ⟨A, rfl, hT, hA, hg4⟩))
                all_goals
                  obtain ⟨N4, hN4, HE4, hf4⟩ := hput _ _ hT hA hg4
                  clear hput hg4 hA hT
                  go_wp2
                  go_roundw
                  case rel => exact ⟨q + 1, N4, hq1, by go_num, hN4, HE4, hf4⟩
                  case measure => simp [intOf]; omega
            · have hqn2 : q = n := by omega
              subst hqn2
              have hown3 := hf3.own hsz hown2
              have hfr3 := hfr2.trans hf3
              have HR2 : Hid (RrI M0 (mtv N3) q (v + 1) (c + 1) (L ++ [c])) := by
                have h1 : ∀ i j, i < q → j < v + 1 → nm (mtv N2 i j) = nm (if i = L.length then mtv N p j * iv (mtv N p c) else if i = p then mtv N L.length j else mtv N i j) := fun i j hi hj => by
                  show nm ((N2 i).getD j 0) = _
                  rw [hled i j hi hj, HK.out]
                  split
                  · exact nm_nm _
                  · split <;> rfl
                have h2 : ∀ i j, i < q → j < v + 1 → nm (mtv N3 i j) = nm (if i = L.length then mtv N2 L.length j else mtv N2 i j - mtv N2 i c * mtv N2 L.length j) := fun i j hi hj => by
                  show nm ((N3 i).getD j 0) = _
                  rw [HE.out i j hi hj, HK.out]
                  by_cases e : i = k
                  · rw [if_neg (by omega), if_pos e, e]; rfl
                  · rw [if_pos ⟨hi, e⟩, if_neg e]; exact nm_nm _
                exact rr_lead HR.out (by omega) (by rw [HK.out]; exact hp1) hp2 hpx h1 h2
              have hs3 := hN3.hw
              have hs4 := hfr3.size
              clear HE hown2 hf3 hfr2 hN2
              go_wp2_with (first | (at_builtin; refine wpList_appV Try.underlying24 infoI rfl (by decide) wr rfl _ _ rfl w.heap.size (.slice a5 k c5) k (ins L) (by rfl) hown3 (.int .i64 c) rfl (by rfl) (by omega) (by omega) ?_; intro v' w5 hown5 hg5 _) | fail)
              rw [ins_snoc] at hown5
              have hfr5 := hfr3.own_grown hg5 fun k hk => (hown3.lt k hk).1
              have hb5 : Below hi wr w5 := (Below.refl _ _).grown hg5 (by omega) (fun k hk => by have := (hown3.lt k hk).1; omega)
              have hN5 := hN3.below hb5
              have hll : (L ++ [c]).length = k + 1 := by rw [List.length_append, HK.out]; rfl
              go_wp2
              go_roundw
              case rel => exact ⟨c + 1, L ++ [c], G2, N3, by omega, by go_num, by rw [hll]; exact hown5, hN5, HR2, hfr5⟩
              case measure => simp [intOf]; omega
      · have hke : k = n := by omega
        subst hke
        go_wp2_with (first | (go_at_call 103; refine (cLead _ k 0 c (v + 1) lo hi gl G1 N wo hN (fun h => absurd h (by omega)) (by omega) (by omega) (by omega)).mono ?_; rintro e w1 (⟨rfl, hw, hz⟩ | ⟨p, G2, N2, rfl, hp1, hp2, hpx, hN2, hled, hf2⟩)) | fail)
        · have hw := hw.symm
          subst hw
          have HR2 : Hid (RrI M0 (mtv N) k (v + 1) (c + 1) L) := rr_skip HR.out (by omega) fun i h1 h2 => by
            rw [HK.out] at h1
            omega
          go_wp2
          go_roundw
          case rel => exact ⟨c + 1, L, G1, N, by omega, by go_num, by rw [HK.out]; exact hown, hN, HR2, hfr⟩
          case measure => simp [intOf]; omega
        · exfalso; omega
    · have hcv2 : c = v := by omega
      subst hcv2
      go_wp2
      go_ret
      exact ⟨_, L, G1, N, rfl, by rw [HK.out]; exact hown, hN, HR.out, hfr⟩
theorem rest_start {rs : List (List Int)} {M : Nat → List Int} {n W : Nat} (h : ∀ i j, i < n → j < W → (M i).getD j 0 = nm (mat rs i j)) : RrI (mat rs) (mtv M) n W 0 [] :=
  rr_start fun i j hi hj => by show nm ((M i).getD j 0) = _; rw [h i j hi hj]; exact nm_nm _

/-- What Solve answers at equations that are well formed. -/
def Solved (M : Nat → Nat → Int) (n k : Nat) (w : World) (e : Ending) (w' : World) : Prop :=
  ((¬ dep M n k ∧ e = .returned (.tuple #[.slice none 0 0, .int .i64 4])) ∨ (∃ g V, dep M n k ∧ e = .returned (.tuple #[.slice (some ⟨g, 0, none⟩) k k, .int .i64 0]) ∧ Sol M n k V ∧ Blk w' g V ∧ w.heap.size ≤ g)) ∧ Below w.heap.size w w'

theorem cSolve1 (a : Option Addr) (n c k : Nat) (rs : List (List Int)) (w : World) (h : RdR w a n c rs) (hc : chk rs n k = 0) :
    Calls Try.prog 69 #[.slice a n c, .int .i64 k] w fun e w' => Solved (mat rs) n k w e w' := by
  obtain ⟨i0, hi, hz0, hz1, hz2⟩ := info_parts infoU
  obtain ⟨k', hk, hk1, hk2, hn, hwid⟩ := chk_of hc
  have hk' : k' = k := by omega
  subst hk'
  have HC : Hid (chk rs n k' = 0) := hc
  clear hc hk
  go_enter Try.func69, Try.ntmps69
  go_wp2_with fail
  refine (cCheck _ _ _ rs _ _ h (by omega) (by omega)).mono ?_
  rintro e w' ⟨rfl, hw'⟩
  have hw' := hw'.symm
  subst hw'
  rw [HC.out]
  go_wp2_with fail
  refine (cRests _ _ _ (k' + 1) rs _ h hwid (by omega) (by omega)).mono ?_
  rintro e w1 ⟨G, M, rfl, hM, hMv, hb1⟩
  go_wp2_with fail
  refine (cReduce n k' _ _ _ G M (mat rs) _ hM (rest_start hMv) (by omega) (by omega)).mono ?_
  rintro e w2 ⟨u, L, G2, N, rfl, hown, hN, hR, hf⟩
  obtain ⟨q, HQ⟩ : ∃ q, Hid (L.length = q) := ⟨_, rfl⟩
  rw [HQ.out] at hown
  have hqn : q ≤ n := by rw [← HQ.out]; exact hR.kr
  obtain ⟨au, cu, rfl, hcu⟩ := own_slice hown
  have hb2 : Below w.heap.size w w2 := hb1.trans (hf.below (by have := hb1.size; omega))
  have HR : Hid (RrI (mat rs) (mtv N) n (k' + 1) k' L) := hR
  obtain ⟨hi2, Hhi⟩ : ∃ x, Hid (w1.heap.size = x) := ⟨_, rfl⟩
  rw [Hhi.out] at hN hown
  have hlw := hb2.size
  clear hR hf hM hMv hb1 h
  -- the rows behind those of the columns that lead
  go_wp2
  all_goals
    go_loopw [30] (fun i wr => ∃ m : Nat, m ≤ n - q ∧ i = .int .i64 m ∧ Hid (∀ i, q ≤ i → i < q + m → (N i).getD k' 0 = 0) ∧ wr = w2) (fun i _ => (n - q) - (intOf i).toNat)
    case atStart => exact ⟨0, Nat.zero_le _, rfl, fun i h1 h2 => by omega, rfl⟩
    case round =>
      obtain ⟨m, hm, rfl, HZ, hw'⟩ := hrel
      have hw' := hw'.symm
      subst hw'
      by_cases hlt : m < n - q
      · first
        | (exfalso; omega)
        | (skip
           have hnq : ¬ n = q := by omega
           have hqm : q + m < n := by omega
           have hcl := hN.cell hqm
           have hcn := hN.num hqm (show k' < k' + 1 by omega)
           have hnb := hN.nbd hqm k'
           obtain ⟨x, HX⟩ : ∃ x, Hid ((N (q + m)).getD k' 0 = x) := ⟨_, rfl⟩
           rw [HX.out] at hcn hnb
           by_cases hx : x = 0
           · have HZ2 : Hid (∀ i, q ≤ i → i < q + (m + 1) → (N i).getD k' 0 = 0) := fun i h1 h2 => by
               by_cases e : i = q + m
               · rw [e, HX.out, hx]
               · exact HZ.out i h1 (by omega)
             subst hx
             go_wp2
             go_roundw
             case rel => exact ⟨m + 1, by omega, by go_num, HZ2, by trivial⟩
             case measure => simp [intOf]; omega
           · have hxb : (x == 0) = false := by rw [beq_eq_false_iff_ne]; exact hx
             have HD : Hid (¬ dep (mat rs) n k') := fun hd => by
               have h1 := (rr_dep HR.out (by omega)).2 hd (q + m) (by rw [HQ.out]; omega) hqm
               have h2 : nm ((N (q + m)).getD k' 0) = 0 := h1
               rw [HX.out, nm_small (by omega) (by omega)] at h2
               exact hx h2
             clear hx
             go_wp2
             go_ret2
             exact ⟨.inl ⟨HD.out, rfl⟩, hb2⟩)
      · have hmn : m = n - q := by omega
        have HZ2 : Hid (∀ i, L.length ≤ i → i < n → nm (mtv N i k') = 0) := fun i h1 h2 => by
          rw [HQ.out] at h1
          show nm ((N i).getD k' 0) = 0
          rw [HZ.out i h1 (by omega)]; rfl
        have HD : Hid (dep (mat rs) n k') := (rr_dep HR.out (by omega)).1 HZ2.out
        obtain ⟨wo, hwo⟩ : ∃ wo, wo = w2 := ⟨_, rfl⟩
        subst hwo
        clear HZ
        have hmm : ¬ ((m : Int) < ((n - q : Nat) : Int)) := by omega
        go_wp2_with (at_make; refine wpList_make_full _ rfl _ _ 23 rfl wo.heap.size 28 i0 (.int .u64 0) 1 Try.underlying23 hi hz0 hz1 .i64 .i64 _ _ k' rfl rfl (by omega) (by omega) (by rw [hz2]; omega) (by unfold maxLen; omega) (Nat.le_refl _) ?_; intro w3 hown3 hgrow)
        have hb3 : Blk w3 wo.heap.size (List.replicate k' 0) := Blk.made hown3
        have hbel3 : Below wo.heap.size wo w3 := (Below.refl _ _).grown hgrow (Nat.le_refl _) (by simp)
        have hbw3 := hb2.trans (hbel3.mono hlw)
        have hN3 := hN.below (hbel3.mono hN.hw)
        have hs2 := hN.hw
        clear hown3 hgrow hN hb2
        go_loopw [44] (fun i wr => ∃ (m : Nat) (V : List Int), m ≤ q ∧ i = .int .i64 m ∧ V.length = k' ∧ Hid (∀ x ∈ V, 0 ≤ x ∧ x ≤ 2147483646) ∧ Hid (∀ j, j < k' → V.getD j 0 = tell (mtv N) L k' m j) ∧ Blk wr wo.heap.size V ∧ w3.grownBy wr (some wo.heap.size)) (fun i _ => q - (intOf i).toNat)
        case atStart => exact ⟨0, _, Nat.zero_le _, rfl, by simp, fun x hx => by rw [List.eq_of_mem_replicate hx]; omega, fun j hj => by simp [tell, sm, hj], hb3, World.grownBy.refl _ _⟩
        case round =>
          obtain ⟨t, V, ht, rfl, hlV, HB, HV, hV, hg⟩ := hrel
          by_cases htq : t < q
          · obtain ⟨gu, rfl, hgu1, hgu2, hcu0⟩ := ins_at hown htq
            have htn : t < n := by omega
            have hLt : L.getD t 0 < k' := HR.out.lt _ (getN_mem (by rw [HQ.out]; exact htq))
            obtain ⟨col, HCol⟩ : ∃ col, Hid (L.getD t 0 = col) := ⟨_, rfl⟩
            rw [HCol.out] at hcu0 hLt
            have hcu1 : wr.cell? ⟨gu, t, none⟩ = some (.int .i64 (col : Int)) := hg.cell (by rw [hbel3.cell hgu2]; exact hcu0) (by simp; omega)
            have hN4 := hN3.cell htn
            have hc1 : wr.cell? ⟨w.heap.size, t, none⟩ = some (.slice (some ⟨G2 t, 0, none⟩) (k' + 1) (k' + 1)) := hg.cell hN4 (by simp; have := hN3.gb; omega)
            have hN5 := hN3.num htn (show k' < k' + 1 by omega)
            have hc2 : wr.cell? ⟨G2 t, k', none⟩ = some (.int .u64 ((N t).getD k' 0)) := hg.cell hN5 (by simp; have := hN3.rng t htn; omega)
            have hxb := hN3.nbd htn k'
            obtain ⟨x, HX⟩ : ∃ x, Hid ((N t).getD k' 0 = x) := ⟨_, rfl⟩
            rw [HX.out] at hc2 hxb
            have hcV := hV.cell (i := col) (by omega)
            have hfV := hV.frozen col
            have hV2 := hV.set col x
            have hg2 := grown_trans hg (grown_set wr wo.heap.size col (.int .u64 x))
            have HB2 : Hid (∀ y ∈ V.set col x, 0 ≤ y ∧ y ≤ 2147483646) := set_bd HB.out hxb
            have HV2 : Hid (∀ j, j < k' → (V.set col x).getD j 0 = tell (mtv N) L k' (t + 1) j) := fun j hj => by
              rw [tell_succ HR.out.up (by rw [HQ.out]; exact htq), getD_set, HCol.out]
              by_cases e : col = j
              · rw [if_pos ⟨e, by omega⟩, if_pos e, ← HX.out]; rfl
              · rw [if_neg (fun hh => e hh.1), if_neg e]; exact HV.out j hj
            have hlV2 : (V.set col x).length = k' := by rw [List.length_set]; exact hlV
            clear HB HV hV hg hN4 hN5 hcu0 hN3 hown
            go_wp2
            go_roundw
            case rel => exact ⟨t + 1, _, by omega, by go_num, hlV2, HB2, HV2, hV2, hg2⟩
            case measure => simp [intOf]; omega
          · have htq2 : t = q := by omega
            subst htq2
            have HS : Hid (Sol (mat rs) n k' V) := rr_sol HR.out HZ2.out hlV HB.out (by rw [HQ.out]; exact HV.out)
            go_wp2
            go_ret2
            exact ⟨.inr ⟨_, V, HD.out, rfl, HS.out, hV, hlw⟩, below_grown hbw3 hg hlw⟩
end
end Go.Proofs.Ytljlioglpaogdab
