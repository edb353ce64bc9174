/- solve.lead. · solve.reduce. · solve.Check. -/
import Derived.Test.YtoifklkdfgfbdagDoorToRestC
import Derived.BigRegion
import Derived.Test.YtoifklkdfgfbdagDoorToIntsC
import Derived.Test.YtoifklkdfgfbdagDoorToEqnC
import Derived.Test.YtoifklkdfgfbdagDoorProg
import Derived.Test.YtoifklkdfgfbdagDoorToRows2
namespace Go.Proofs.YtoifklkdfgfbdagDoor
open Go.RowKit Crm

/-- What lead does once it has found row p for the column c: row p is made 1 there, and changes places with row k. -/
def Led (n W k p c : Nat) (M N : Nat → List Int) : Prop :=
  ∀ i j, i < n → j < W → (N i).getD j 0 = if i = k then nm ((M p).getD j 0 * iv ((M p).getD c 0)) else if i = p then (M k).getD j 0 else (M i).getD j 0

set_option maxHeartbeats 1000000 in
set_option maxRecDepth 100000 in
theorem cLead (a : Option Addr) (k m c W lo hi gl : Nat) (G : Nat → Nat) (M : Nat → List Int) (w : World) (h : Mx w lo hi gl (k + m) W G M) (ha : 0 < m → a = some ⟨gl, k, none⟩) (hc : c < W) (hW : W ≤ 1000) (hm : m ≤ 1000) :
    Calls Tryd.prog 96 #[.slice a m m, .int .i64 c] w fun e w' => (e = .returned (.bool false) ∧ w' = w ∧ ∀ i, k ≤ i → i < k + m → (M i).getD c 0 = 0) ∨
      (∃ p G' N, e = .returned (.bool true) ∧ k ≤ p ∧ p < k + m ∧ nm ((M p).getD c 0) ≠ 0 ∧ Mx w' lo hi gl (k + m) W G' N ∧ Led (k + m) W k p c M N ∧ Fr lo hi w w') := by
  go_enter Tryd.func96, Tryd.ntmps96
  go_wp2
  go_loopw [12] (fun i wr => ∃ q : Nat, q ≤ m ∧ i = .int .i64 q ∧ Hid (∀ i, k ≤ i → i < k + q → (M i).getD c 0 = 0) ∧ wr = w) (fun i _ => m - (intOf i).toNat)
  case atStart => exact ⟨0, Nat.zero_le _, rfl, fun i h1 h2 => by omega, rfl⟩
  case round =>
    obtain ⟨q, hq, rfl, HZ, hw⟩ := hrel
    have hw := hw.symm
    subst hw
    obtain ⟨wo, hwo⟩ : ∃ wo, wo = w := ⟨_, rfl⟩
    subst hwo
    by_cases hlt : q < m
    · have ha' := ha (by omega)
      subst ha'
      have hkq : k + q < k + m := by omega
      have hcl := h.cell hkq
      have hcn := h.num hkq hc
      have hnb := h.nbd hkq c
      obtain ⟨x, HX⟩ : ∃ x, Hid ((M (k + q)).getD c 0 = x) := ⟨_, rfl⟩
      rw [HX.out] at hcn hnb
      have hbk := h.row _ hkq
      have hwd := h.wid _ hkq
      obtain ⟨g, HG⟩ : ∃ g, Hid (G (k + q) = g) := ⟨_, rfl⟩
      rw [HG.out] at hcl hcn hbk
      by_cases hx : nm x = 0
      · have HZ2 : Hid (∀ i, k ≤ i → i < k + (q + 1) → (M i).getD c 0 = 0) := fun i h1 h2 => by
          by_cases e : i = k + q
          · rw [e, HX.out, ← hx, nm_small (by omega) (by omega)]
          · exact HZ.out i h1 (by omega)
        go_wp2_with (first | (go_at_call 76; refine (fInv0 _ _ (by omega) (by omega) hx).mono ?_; rintro e w' ⟨rfl, hw⟩; have hw := hw.symm; subst hw) | fail)
        go_roundw
        case rel => exact ⟨q + 1, by omega, by go_num, HZ2, by trivial⟩
        case measure => simp [intOf]; omega
      · have hivb := iv_bd x
        obtain ⟨u, HU⟩ : ∃ u, Hid (iv x = u) := ⟨_, rfl⟩
        go_wp2_with (first | (go_at_call 76; refine (fInv1 _ _ (by omega) (by omega) hx).mono ?_; rintro e w' ⟨rfl, hw⟩; have hw := hw.symm; subst hw; rw [HU.out]) | fail)
        rw [HU.out] at hivb
        go_loopw [29] (fun i wr => ∃ (j : Nat) (A : List Int), j ≤ W ∧ i = .int .i64 j ∧ Hid (Sc (M (k + q)) u j A) ∧ Blk wr g A ∧ wo.grownBy wr (some g)) (fun i _ => W - (intOf i).toNat)
        case atStart => exact ⟨0, _, Nat.zero_le _, rfl, sc_start _ _ (h.bd _ hkq), hbk, World.grownBy.refl _ _⟩
        case round =>
          obtain ⟨j, A, hj, rfl, HS, hblk, hgr⟩ := hrel
          have hlA : A.length = W := by rw [HS.out.len]; exact hwd
          by_cases hjw : j < W
          · have hcell := hblk.cell (i := j) (by omega)
            have hfz := hblk.frozen j
            obtain ⟨y, hy⟩ : ∃ y, y = A.getD j 0 := ⟨_, rfl⟩
            have HY : Hid (y = (M (k + q)).getD j 0) := by rw [hy, HS.out.at_ _ (by omega), if_neg (by omega)]; exact rfl
            have hyb : 0 ≤ y ∧ y ≤ 2147483646 := by rw [hy]; exact getD_bd' HS.out.bd _
            rw [← hy] at hcell
            clear hy
            have HS2 : Hid (Sc (M (k + q)) u (j + 1) (A.set j (nm (y * u)))) := sc_step HS.out (by omega) (by rw [HY.out])
            have Hb2 := hblk.set j (nm (y * u))
            have Hg2 := grown_trans hgr (grown_set wr g j (.int .u64 (nm (y * u))))
            go_wp2_with (first | (go_at_call 42; refine (fMul _ _ _ (by omega) (by omega) (by omega) (by omega)).mono ?_; rintro e w' ⟨rfl, hw⟩; have hw := hw.symm; subst hw) | fail)
            go_roundw
            case rel => exact ⟨j + 1, _, by omega, by go_num, HS2, Hb2, Hg2⟩
            case measure => simp [intOf]; omega
          · have hjw2 : j = W := by omega
            subst hjw2
            have hM2 : Mx wr lo hi gl (k + m) j G (fun i => if i = k + q then A else M i) := h.put hkq (by rw [HG.out]; exact hgr) (by rw [HG.out]; exact hblk) hlA HS.out.bd
            have hfr := Fr.grown hgr (by rw [← HG.out]; exact (h.rng _ hkq).1) (by rw [← HG.out]; exact (h.rng _ hkq).2.1)
            have hk1 : k < k + m := by omega
            have hm0 : 0 < m := by omega
            have hc1 := hM2.cell hk1
            have hc2 := hM2.cell hkq
            rw [HG.out] at hc2
            have hf1 := hM2.frozen k
            have hf2 := hM2.frozen (k + q)
            have hsw := hM2.swap hk1 hkq
            have hfs := hfr.trans (fr_set2 wr h.gb.1 h.gb.2 k (k + q) (.slice (some ⟨G (k + q), 0, none⟩) j j) (.slice (some ⟨G k, 0, none⟩) j j))
            rw [HG.out] at hsw hfs
            obtain ⟨v', hv'⟩ := cell?_setCell_some (w := wr) (p := ⟨gl, k, none⟩) (x := .slice (some ⟨g, 0, none⟩) j j) (q := ⟨gl, k + q, none⟩) (v := .slice (some ⟨g, 0, none⟩) j j) hc2
            have HL : Hid (Led (k + m) j k (k + q) c M (fun i => (fun i => if i = k + q then A else M i) (if i = k then k + q else if i = k + q then k else i))) := fun i t hi ht => by
              show ((if (if i = k then k + q else if i = k + q then k else i) = k + q then A else M (if i = k then k + q else if i = k + q then k else i)) : List Int).getD t 0 = _
              by_cases e1 : i = k
              · rw [if_pos e1, if_pos rfl, if_pos e1, HS.out.at_ t (by omega), if_pos ht, HX.out, HU.out]
              · by_cases e2 : i = k + q
                · rw [if_neg e1, if_pos e2, if_neg (by omega), if_neg e1, if_pos e2]
                · rw [if_neg e1, if_neg e2, if_neg e2, if_neg e1, if_neg e2]
            have hx2 : nm ((M (k + q)).getD c 0) ≠ 0 := by rw [HX.out]; exact hx
            clear HZ HS hblk hgr hbk h hM2 hfr hcn hcl
            go_wp2
            go_region
            all_goals
              go_wp2
              go_ret
              exact .inr ⟨k + q, _, _, rfl, by omega, hkq, hx2, hsw.drew, HL.out, hfs.drew⟩
    · have hkl : q = m := by omega
      subst hkl
      go_wp2
      go_ret
      exact .inl ⟨rfl, rfl, HZ.out⟩
end Go.Proofs.YtoifklkdfgfbdagDoor

namespace Go.Proofs.YtoifklkdfgfbdagDoor
open Go.RowKit Crm

theorem infoI : (Tryd.prog.info? 3).map (fun i => (i.zero, i.size, i.bytes)) = some (some (.int .i64 0), 1, 8) := by kernel_rfl

/-- The numbers by row and column. -/
def mt (M : Nat → List Int) (i j : Nat) : Int := (M i).getD j 0

/-- From the rows ahead of i, but row k, row k has been taken so often that column c is 0. -/
def El (n W k c i : Nat) (M N : Nat → List Int) : Prop :=
  ∀ r j, r < n → j < W → (N r).getD j 0 = if r < i ∧ r ≠ k then nm ((M r).getD j 0 - (M r).getD c 0 * (M k).getD j 0) else (M r).getD j 0
theorem el_start (n W k c : Nat) (M : Nat → List Int) : El n W k c 0 M M := fun r j _ _ => by rw [if_neg (by omega)]
theorem el_skip {n W k c : Nat} {M N : Nat → List Int} (h : El n W k c k M N) : El n W k c (k + 1) M N := fun r j hr hj => by
  rw [h r j hr hj]
  by_cases e : r < k
  · rw [if_pos ⟨e, by omega⟩, if_pos ⟨by omega, by omega⟩]
  · rw [if_neg (by omega), if_neg (by omega)]
theorem el_step {n W k c i : Nat} {M N : Nat → List Int} {A : List Int} (h : El n W k c i M N) (hi : i < n) (hk : k < n) (hne : i ≠ k) (hc : c < W) (hl : (N i).length = W) (hT : Tk (N i) (N k) ((N i).getD c 0) W A) : El n W k c (i + 1) M (fun r => if r = i then A else N r) := fun r j hr hj => by
  show ((if r = i then A else N r) : List Int).getD j 0 = _
  by_cases e : r = i
  · subst e
    rw [if_pos rfl, if_pos ⟨by omega, hne⟩, hT.at_ j (by omega), if_pos hj, h r j hr hj, h k j hk hj, h r c hr hc, if_neg (by omega), if_neg (by omega), if_neg (by omega)]
  · rw [if_neg e, h r j hr hj]
    by_cases e2 : r < i ∧ r ≠ k
    · rw [if_pos e2, if_pos ⟨by omega, e2.2⟩]
    · rw [if_neg e2, if_neg (by omega)]

set_option maxHeartbeats 2000000 in
set_option maxRecDepth 100000 in
theorem cReduce (n v lo hi gl : Nat) (G : Nat → Nat) (M : Nat → List Int) (M0 : Nat → Nat → Int) (w : World) (h : Mx w lo hi gl n (v + 1) G M) (hr : RrI M0 (mt M) n (v + 1) 0 []) (hv : v ≤ 100) (hn : n ≤ 1000) :
    Calls Tryd.prog 92 #[.slice (some ⟨gl, 0, none⟩) n n, .int .i64 v] w fun e w' => ∃ u L G' N, e = .returned u ∧ w'.ownsRow w.heap.size 3 1 u L.length (ins L) ∧ Mx w' lo hi gl n (v + 1) G' N ∧ RrI M0 (mt N) n (v + 1) v L ∧ Fr lo hi w w' := by
  have hsz := h.hw
  have hlo := h.gb
  go_enter Tryd.func92, Tryd.ntmps92
  go_wp2
  go_loopw [5, 10] (fun u i wr => ∃ (c : Nat) (L : List Nat) (G' : Nat → Nat) (N : Nat → List Int), c ≤ v ∧ i = .int .i64 c ∧ wr.ownsRow w.heap.size 3 1 u L.length (ins L) ∧ Mx wr lo hi gl n (v + 1) G' N ∧ Hid (RrI M0 (mt N) n (v + 1) c L) ∧ Fr lo hi w wr) (fun _ i _ => v - (intOf i).toNat)
  case atStart => exact ⟨0, [], G, M, Nat.zero_le _, rfl, World.ownsRow_nil _ _ _ _, h, hr, Fr.refl _ _ _⟩
  case round =>
    obtain ⟨c, L, G1, N, hcv, rfl, hown, hN, HR, hfr⟩ := hrel
    obtain ⟨wo, hwo⟩ : ∃ wo, wo = wr := ⟨_, rfl⟩
    subst hwo
    obtain ⟨k, HK⟩ : ∃ k, Hid (L.length = k) := ⟨_, rfl⟩
    have hkn : k ≤ n := by rw [← HK.out]; exact HR.out.kr
    rw [HK.out] at hown
    obtain ⟨a5, c5, rfl, hc5⟩ := own_slice hown
    by_cases hlt : c < v
    · have hX : Mx wo lo hi gl (k + (n - k)) (v + 1) G1 N := by rw [show k + (n - k) = n by omega]; exact hN
      by_cases hkn2 : k < n
      · have hne : ¬ n = k := by omega
        go_wp2_with (first | (go_at_call 96; refine (cLead _ k (n - k) c (v + 1) lo hi gl G1 N wo hX (fun _ => rfl) (by omega) (by omega) (by omega)).mono ?_; rintro e w1 (⟨rfl, hw, hz⟩ | ⟨p, G2, N2, rfl, hp1, hp2, hpx, hN2, hled, hf2⟩)) | fail)
        · have hw := hw.symm
          subst hw
          have HR2 : Hid (RrI M0 (mt N) n (v + 1) (c + 1) L) := rr_skip HR.out (by omega) fun i h1 h2 => by
            rw [HK.out] at h1
            show nm ((N i).getD c 0) = 0
            rw [hz i h1 (by omega)]; rfl
          go_wp2
          go_roundw
          case rel => exact ⟨c + 1, L, G1, N, by omega, by go_num, by rw [HK.out]; exact hown, hN, HR2, hfr⟩
          case measure => simp [intOf]; omega
        · rw [show k + (n - k) = n by omega] at hN2 hled hp2
          have hown2 := hf2.own hsz hown
          have hfr2 := hfr.trans hf2
          have hsz2 := hN2.hw
          clear hown hf2 hfr hX hN
          go_wp2
          go_loopw [23] (fun i wr => ∃ (q : Nat) (N3 : Nat → List Int), q ≤ n ∧ i = .int .i64 q ∧ Mx wr lo hi gl n (v + 1) G2 N3 ∧ Hid (El n (v + 1) k c q N2 N3) ∧ Fr lo hi w1 wr) (fun i _ => n - (intOf i).toNat)
          case atStart => exact ⟨0, N2, Nat.zero_le _, rfl, hN2, el_start _ _ _ _ _, Fr.refl _ _ _⟩
          case round =>
            obtain ⟨q, N3, hq, rfl, hN3, HE, hf3⟩ := hrel
            by_cases hqn : q < n
            · by_cases hqk : q = k
              · subst hqk
                go_wp2
                go_roundw
                case rel => exact ⟨q + 1, N3, by omega, by go_num, hN3, el_skip HE.out, hf3⟩
                case measure => simp [intOf]; omega
              · have hcq := hN3.cell hqn
                have hck := hN3.cell hkn2
                have hnq := hN3.num hqn (show c < v + 1 by omega)
                have hbq := hN3.nbd hqn c
                have hrk := hN3.rd hkn2 (by unfold maxLen; omega)
                have hbk := hN3.row q hqn
                have hwq := hN3.wid q hqn
                have hbd := hN3.bd q hqn
                have hneg : G2 k ≠ G2 q := fun e => hqk (hN3.inj _ _ hkn2 hqn e).symm
                obtain ⟨x, HX⟩ : ∃ x, Hid ((N3 q).getD c 0 = x) := ⟨_, rfl⟩
                rw [HX.out] at hnq hbq
                have hqk2 : ((q : Int) == (k : Int)) = false := by rw [beq_eq_false_iff_ne]; omega
                have hput : ∀ (w4 : World) (A : List Int), Tk (N3 q) (N3 k) x (v + 1) A → Blk w4 (G2 q) A → wr.drew.grownBy w4 (some (G2 q)) → ∃ N4, Mx w4 lo hi gl n (v + 1) G2 N4 ∧ Hid (El n (v + 1) k c (q + 1) N2 N4) ∧ Fr lo hi w1 w4 := fun w4 A hT hA hg4 =>
                  ⟨_, hN3.drew.put hqn hg4 hA (by rw [hT.len]; exact hwq) hT.bd, el_step HE.out hqn hkn2 hqk (by omega) hwq (by rw [HX.out]; exact hT), hf3.drew.trans (Fr.grown hg4 (hN3.rng q hqn).1 (hN3.rng q hqn).2.1)⟩
                have hq1 : q + 1 ≤ n := by omega
                obtain ⟨ga, HGA⟩ : ∃ ga, ga = G2 q := ⟨_, rfl⟩
                obtain ⟨gb, HGB⟩ : ∃ gb, gb = G2 k := ⟨_, rfl⟩
                rw [← HGA] at hcq hnq hbk hneg hput
                rw [← HGB] at hck hrk hneg
                clear hN3 HE hf3 hled hpx HR hfr2 hown2 hN2 HGA HGB HX h hr hlo hqn
                go_wp2
                go_region_with (first | (go_at_call 97; refine (cTake ga (v + 1) (N3 q) (some ⟨gb, 0, none⟩) (v + 1) (N3 k) x _ (by exact hbk) hbd hrk.drew (by intro y hy; obtain rfl := Option.some.inj hy; exact hneg) hwq (by omega) (by omega) (by omega)).mono ?_; rintro e w4 ⟨A, rfl, hT, hA, hg4⟩))
                all_goals
                  obtain ⟨N4, hN4, HE4, hf4⟩ := hput _ _ hT hA hg4
                  clear hput hg4 hA hT
                  go_wp2
                  go_roundw
                  case rel => exact ⟨q + 1, N4, hq1, by go_num, hN4, HE4, hf4⟩
                  case measure => simp [intOf]; omega
            · have hqn2 : q = n := by omega
              subst hqn2
              have hown3 := hf3.own hsz hown2
              have hfr3 := hfr2.trans hf3
              have HR2 : Hid (RrI M0 (mt N3) q (v + 1) (c + 1) (L ++ [c])) := by
                have h1 : ∀ i j, i < q → j < v + 1 → nm (mt N2 i j) = nm (if i = L.length then mt N p j * iv (mt N p c) else if i = p then mt N L.length j else mt N i j) := fun i j hi hj => by
                  show nm ((N2 i).getD j 0) = _
                  rw [hled i j hi hj, HK.out]
                  split
                  · exact nm_nm _
                  · split <;> rfl
                have h2 : ∀ i j, i < q → j < v + 1 → nm (mt N3 i j) = nm (if i = L.length then mt N2 L.length j else mt N2 i j - mt N2 i c * mt N2 L.length j) := fun i j hi hj => by
                  show nm ((N3 i).getD j 0) = _
                  rw [HE.out i j hi hj, HK.out]
                  by_cases e : i = k
                  · rw [if_neg (by omega), if_pos e, e]; rfl
                  · rw [if_pos ⟨hi, e⟩, if_neg e]; exact nm_nm _
                exact rr_lead HR.out (by omega) (by rw [HK.out]; exact hp1) hp2 hpx h1 h2
              have hs3 := hN3.hw
              have hs4 := hfr3.size
              clear HE hown2 hf3 hfr2 hN2
              go_wp2_with (first | (at_builtin; refine wpList_appV Tryd.underlying24 infoI rfl (by decide) wr rfl _ _ rfl w.heap.size (.slice a5 k c5) k (ins L) (by rfl) hown3 (.int .i64 c) rfl (by rfl) (by omega) (by omega) ?_; intro v' w5 hown5 hg5 _) | fail)
              rw [ins_snoc] at hown5
              have hfr5 := hfr3.own_grown hg5 fun k hk => (hown3.lt k hk).1
              have hb5 : Below hi wr w5 := (Below.refl _ _).grown hg5 (by omega) (fun k hk => by have := (hown3.lt k hk).1; omega)
              have hN5 := hN3.below hb5
              have hll : (L ++ [c]).length = k + 1 := by rw [List.length_append, HK.out]; rfl
              go_wp2
              go_roundw
              case rel => exact ⟨c + 1, L ++ [c], G2, N3, by omega, by go_num, by rw [hll]; exact hown5, hN5, HR2, hfr5⟩
              case measure => simp [intOf]; omega
      · have hke : k = n := by omega
        subst hke
        go_wp2_with (first | (go_at_call 96; refine (cLead _ k 0 c (v + 1) lo hi gl G1 N wo hN (fun h => absurd h (by omega)) (by omega) (by omega) (by omega)).mono ?_; rintro e w1 (⟨rfl, hw, hz⟩ | ⟨p, G2, N2, rfl, hp1, hp2, hpx, hN2, hled, hf2⟩)) | fail)
        · have hw := hw.symm
          subst hw
          have HR2 : Hid (RrI M0 (mt N) k (v + 1) (c + 1) L) := rr_skip HR.out (by omega) fun i h1 h2 => by
            rw [HK.out] at h1
            omega
          go_wp2
          go_roundw
          case rel => exact ⟨c + 1, L, G1, N, by omega, by go_num, by rw [HK.out]; exact hown, hN, HR2, hfr⟩
          case measure => simp [intOf]; omega
        · exfalso; omega
    · have hcv2 : c = v := by omega
      subst hcv2
      go_wp2
      go_ret
      exact ⟨_, L, G1, N, rfl, by rw [HK.out]; exact hown, hN, HR.out, hfr⟩
end Go.Proofs.YtoifklkdfgfbdagDoor

namespace Go.Proofs.YtoifklkdfgfbdagDoor
open Go.RowKit Crm

/-- What is wrong with n rows as equations for v variables. -/
def chk (rs : List (List Int)) (n : Nat) (v : Int) : Int := if v < 1 ∨ 20 < v then 1 else if 20 < n then 2 else if ∀ i, i < n → ((rs.getD i []).length : Int) = v + 1 then 0 else 5
theorem chk_arg {rs : List (List Int)} {n : Nat} {v : Int} (h : v < 1 ∨ 20 < v) : chk rs n v = 1 := if_pos h
theorem chk_large {rs : List (List Int)} {n : Nat} {v : Int} (h : ¬ (v < 1 ∨ 20 < v)) (h2 : 20 < n) : chk rs n v = 2 := by unfold chk; rw [if_neg h, if_pos h2]
theorem chk_form {rs : List (List Int)} {n : Nat} {v : Int} (h : ¬ (v < 1 ∨ 20 < v)) (h2 : ¬ 20 < n) {k : Nat} (hk : k < n) (h3 : ¬ ((rs.getD k []).length : Int) = v + 1) : chk rs n v = 5 := by
  unfold chk; rw [if_neg h, if_neg h2, if_neg fun hh => h3 (hh k hk)]
theorem chk_ok {rs : List (List Int)} {n : Nat} {v : Int} (h : ¬ (v < 1 ∨ 20 < v)) (h2 : ¬ 20 < n) (h3 : ∀ i, i < n → ((rs.getD i []).length : Int) = v + 1) : chk rs n v = 0 := by
  unfold chk; rw [if_neg h, if_neg h2, if_pos h3]
theorem chk_of {rs : List (List Int)} {n : Nat} {v : Int} (h : chk rs n v = 0) : ∃ k : Nat, v = k ∧ 1 ≤ k ∧ k ≤ 20 ∧ n ≤ 20 ∧ ∀ i, i < n → (rs.getD i []).length = k + 1 := by
  unfold chk at h
  by_cases h1 : v < 1 ∨ 20 < v
  · rw [if_pos h1] at h; omega
  · by_cases h2 : 20 < n
    · rw [if_neg h1, if_pos h2] at h; omega
    · by_cases h3 : ∀ i, i < n → ((rs.getD i []).length : Int) = v + 1
      · exact ⟨v.toNat, by omega, by omega, by omega, by omega, fun i hi => by have := h3 i hi; omega⟩
      · rw [if_neg h1, if_neg h2, if_neg h3] at h; omega
theorem chk_bd (rs : List (List Int)) (n : Nat) (v : Int) : 0 ≤ chk rs n v ∧ chk rs n v ≤ 5 := by
  unfold chk; split
  · omega
  · split
    · omega
    · split <;> omega

set_option maxHeartbeats 400000 in
set_option maxRecDepth 100000 in
theorem cCheck (a : Option Addr) (n c : Nat) (rs : List (List Int)) (v : Int) (w : World) (h : RdR w a n c rs) (hv0 : -9223372036854775808 ≤ v) (hv1 : v ≤ 9223372036854775807) :
    Calls Tryd.prog 90 #[.slice a n c, .int .i64 v] w fun e w' => e = .returned (.int .i64 (chk rs n v)) ∧ w' = w := by
  have hcap := h.cap
  have hmax := h.max
  unfold maxLen at hmax
  by_cases h1 : v < 1
  · have hd : decide (v < 1) = true := decide_eq_true h1
    rw [chk_arg (.inl h1)]
    go_enter Tryd.func90, Tryd.ntmps90
    go_wp2
    go_ret
    exact ⟨rfl, rfl⟩
  · have hd : decide (v < 1) = false := decide_eq_false h1
    by_cases h2 : 20 < v
    · have hd2 : decide (20 < v) = true := decide_eq_true h2
      rw [chk_arg (.inr h2)]
      go_enter Tryd.func90, Tryd.ntmps90
      go_wp2
      go_ret
      exact ⟨rfl, rfl⟩
    · have hd2 : decide (20 < v) = false := decide_eq_false h2
      have h12 : ¬ (v < 1 ∨ 20 < v) := by omega
      by_cases h3 : 20 < n
      · rw [chk_large h12 h3]
        have h4 : (20 : Int) < (n : Int) := by omega
        go_enter Tryd.func90, Tryd.ntmps90
        go_wp2
        go_ret
        exact ⟨rfl, rfl⟩
      · go_enter Tryd.func90, Tryd.ntmps90
        go_wp2
        go_loopw [18] (fun i wr => ∃ k : Nat, k ≤ n ∧ i = .int .i64 k ∧ Hid (∀ i, i < k → ((rs.getD i []).length : Int) = v + 1) ∧ wr = w) (fun i _ => n - (intOf i).toNat)
        case atStart => exact ⟨0, Nat.zero_le _, rfl, fun i hi => by omega, rfl⟩
        case round =>
          obtain ⟨k, hk, rfl, HK, hw⟩ := hrel
          have hw := hw.symm
          subst hw
          by_cases hlt : k < n
          · obtain ⟨b, o, ai, ni, ci, row, rfl, hbb, HRow, hcr, hrow⟩ := h.one hlt
            have HL : Hid (((rs.getD k []).length : Int) = ni) := by rw [HRow.out, hrow.len]; rfl
            by_cases he : (ni : Int) = v + 1
            · have HK2 : Hid (∀ i, i < k + 1 → ((rs.getD i []).length : Int) = v + 1) := fun i hi => by
                by_cases e : i = k
                · rw [e, HL.out]; exact he
                · exact HK.out i (by omega)
              have hb : ((ni : Int) == v + 1) = true := by rw [beq_iff_eq]; exact he
              clear he
              go_wp2
              go_roundw
              case rel => exact ⟨k + 1, by omega, by go_num, HK2, by trivial⟩
              case measure => simp [intOf]; omega
            · have hb : ((ni : Int) == v + 1) = false := by rw [beq_eq_false_iff_ne]; exact he
              have HC : Hid (chk rs n v = 5) := chk_form h12 h3 hlt (by rw [HL.out]; exact he)
              clear he
              go_wp2
              go_ret
              rw [HC.out]
              exact ⟨rfl, rfl⟩
          · have hkn : k = n := by omega
            subst hkn
            have HC : Hid (chk rs k v = 0) := chk_ok h12 h3 HK.out
            go_wp2
            go_ret
            rw [HC.out]
            exact ⟨rfl, rfl⟩
end Go.Proofs.YtoifklkdfgfbdagDoor
