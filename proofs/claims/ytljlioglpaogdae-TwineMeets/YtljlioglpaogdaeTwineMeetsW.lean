/- The walk of croftkeep.TwineMeets. -/
import Derived.Test.YtljlioglpaogdaeToTwinedC
import Derived.Test.YtljlioglpaogdaeToPickC
import Derived.Test.YtljlioglpaogdaeToCrewC
import Derived.Test.YtljlioglpaogdaeToTJoinM
import Derived.Deep.DeepCutAuto
namespace Go.Proofs.Ytljlioglpaogdae
set_option linter.unusedVariables false
set_option maxRecDepth 100000
set_option maxHeartbeats 8000000
section
open Crm Go.RowKit
/-- Some of the rows that lay there before. -/
structure LsR (w0 w : World) (v : Value) (L : List (Int × Value)) (l : List (Int × List Int)) : Prop where
  own : w.ownsRow w0.heap.size 55 2 v l.length (pvc L)
  len : L.length = l.length
  at_ : ∀ i, i < l.length → (L.getD i (0, .slice none 0 0)).1 = ta l i
  row : ∀ i, i < l.length → ∃ a c, (L.getD i (0, .slice none 0 0)).2 = .slice a (tc l i).length c ∧ Rd w0 a (tc l i).length c (tc l i)
  bel : Below w0.heap.size w0 w
theorem lsr_nil (w : World) : LsR w w (.slice none 0 0) [] [] := ⟨World.ownsRow_nil _ _ _ _, rfl, fun i hi => by simp at hi, fun i hi => by simp at hi, Below.refl _ _⟩
theorem LsR.add {w0 w w' : World} {v v' : Value} {L : List (Int × Value)} {l : List (Int × List Int)} {x : Int} {row : List Int} {a : Option Addr} {n c : Nat} (h : LsR w0 w v L l) (hr : Rd w0 a n c row)
    (ho : w'.ownsRow w0.heap.size 55 2 v' (l.length + 1) (pvc L ++ [.int .i64 x, .slice a n c])) (hb : Below w0.heap.size w0 w') : LsR w0 w' v' (L ++ [(x, .slice a n c)]) (l ++ [(x, row)]) := by
  have hl := h.len
  have hn := hr.len
  have gl : ∀ i, i < l.length → (l ++ [(x, row)]).getD i (0, []) = l.getD i (0, []) := fun i hi => by simp [List.getElem?_append_left hi]
  have gL : ∀ i, i < l.length → (L ++ [(x, Value.slice a n c)]).getD i (0, .slice none 0 0) = L.getD i (0, .slice none 0 0) := fun i hi => by simp [List.getElem?_append_left (show i < L.length by omega)]
  have gl' : (l ++ [(x, row)]).getD l.length (0, []) = (x, row) := by simp
  have gL' : (L ++ [(x, Value.slice a n c)]).getD l.length (0, .slice none 0 0) = (x, .slice a n c) := by rw [← hl]; simp
  refine ⟨by rw [pvc_snoc]; simpa using ho, by simp [hl], fun i hi => ?_, fun i hi => ?_, hb⟩
  · have hi2 : i < l.length + 1 := by simpa using hi
    unfold ta
    by_cases e : i = l.length
    · subst e; rw [gl', gL']
    · rw [gl i (by omega), gL i (by omega)]; exact h.at_ i (by omega)
  · have hi2 : i < l.length + 1 := by simpa using hi
    unfold tc
    by_cases e : i = l.length
    · subst e; rw [gl', gL']; simp only; rw [hn]; exact ⟨a, c, rfl, hr⟩
    · rw [gl i (by omega), gL i (by omega)]; exact h.row i (by omega)
theorem LsR.rdW {w0 w : World} {v : Value} {L : List (Int × Value)} {l : List (Int × List Int)} {n : Nat} (h : LsR w0 w v L l) (hn : l.length = n) (hb : ∀ i, i < n → -9223372036854775808 ≤ ta l i ∧ ta l i ≤ 9223372036854775807) : ∃ a c, v = .slice a n c ∧ RdW w a n c l := by
  subst hn
  rcases h.own.2 with ⟨rfl, e0⟩ | ⟨g, cap, cur, rfl, hb', hg, h1, h2, hs, ht⟩
  · exact ⟨none, 0, by rw [e0], rfl, by omega, Nat.zero_le _, fun _ => rfl, hb, by simp⟩
  · refine ⟨_, _, rfl, rfl, h1, h2, by simp, hb, fun x hx i hi => ?_⟩
    obtain rfl := Option.some.inj hx
    have hl := h.len
    have hp := pvc_get L i (by omega)
    have e0 := h.own.cells (g := g) rfl _ _ hp.1
    have e1 := h.own.cells (g := g) rfl _ _ hp.2
    obtain ⟨ai, ci, ev, hr⟩ := h.row i hi
    rw [h.at_ i hi] at e0
    rw [ev] at e1
    exact ⟨e0, ai, ci, e1, hr.below h.bel⟩

/-- Whoever is picked out of all parties: none twice. -/
theorem pick_dis {out rem : List (Int × Int)} {xs : List Int} {m : Nat} (hm : m ≤ 9) (hp : (out ++ rem).Perm (shl xs m)) : dis (fa out) out.length ∧ ∀ j, j < out.length → ∃ i : Nat, i < m ∧ fa out j = (i : Int) + 1 := by
  have hl := shl_len xs m
  have hd : dis (fa (shl xs m)) m := fun i hi => by
    have e : ∀ q, q < m → fa (shl xs m) q = (q : Int) + 1 := fun q hq => by unfold fa; rw [shl_getD xs hq]
    rw [e i hi]
    exact ⟨⟨by omega, by omega⟩, fun j hj => by rw [e j (by omega)]; omega⟩
  have hd2 := dis_perm hl hp hd
  have hle : out.length ≤ m := by have := hp.length_eq; rw [hl, List.length_append] at this; omega
  have e : ∀ j, j < out.length → fa (out ++ rem) j = fa out j := fun j hj => by unfold fa; simp [List.getElem?_append_left hj]
  refine ⟨fun i hi => ?_, fun j hj => ?_⟩
  · have := hd2 i (by omega)
    rw [e i hi] at this
    refine ⟨this.1, fun j hj => ?_⟩
    have h2 := this.2 j hj
    rwa [e j (by omega)] at h2
  · have hmem : out.getD j (0, 0) ∈ shl xs m := by
      refine hp.mem_iff.1 (List.mem_append_left _ ?_)
      have e2 : out.getD j (0, 0) = out[j] := by simp [List.getElem?_eq_getElem hj]
      rw [e2]; exact List.getElem_mem hj
    obtain ⟨i, hi, e3⟩ := List.mem_map.1 hmem
    refine ⟨i, List.mem_range.1 hi, ?_⟩
    unfold fa
    rw [← e3]

/-- The rows of those who are picked. -/
def pkr (s : Int) (ds : List Int) (t : Nat) (out : List (Int × Int)) (j : Nat) : List (Int × List Int) := (List.range j).map fun q => (fa out q, rowK s ds t (fa out q) (t + 1))
theorem pkr_len (s : Int) (ds : List Int) (t : Nat) (out : List (Int × Int)) (j : Nat) : (pkr s ds t out j).length = j := by simp [pkr]
theorem pkr_snoc (s : Int) (ds : List Int) (t : Nat) (out : List (Int × Int)) (j : Nat) {x : Int} {row : List Int} (hx : fa out j = x) (hr : row = rowK s ds t x (t + 1)) : pkr s ds t out j ++ [(x, row)] = pkr s ds t out (j + 1) := by rw [hr, ← hx]; simp [pkr, List.range_succ]
theorem pkr_ta (s : Int) (ds : List Int) (t : Nat) (out : List (Int × Int)) {j q : Nat} (h : q < j) : ta (pkr s ds t out j) q = fa out q := by unfold ta; simp [pkr, h]
theorem pkr_ofd (s : Int) (ds : List Int) (t : Nat) (out : List (Int × Int)) (j : Nat) : OfD s ds t (pkr s ds t out j) j := fun q hq => by rw [pkr_ta s ds t out hq]; unfold tc; simp [pkr, hq]
theorem pkr_dis {s : Int} {ds : List Int} {t : Nat} {out : List (Int × Int)} {j : Nat} (h : dis (fa out) j) : dis (ta (pkr s ds t out j)) j := fun i hi => by
  rw [pkr_ta s ds t out hi]
  exact ⟨(h i hi).1, fun q hq => by rw [pkr_ta s ds t out (show q < j by omega)]; exact (h i hi).2 q hq⟩

theorem twineMeetsW (s : Int) (a0 : Option Addr) (n0 c0 : Nat) (xs : List Int) (t n : Int) (a1 : Option Addr) (n1 c1 : Nat) (ps : List Int) (w : World) (hs0 : 0 ≤ s) (hs1 : s ≤ 18446744073709551615) (h0 : Rd w a0 n0 c0 xs) (h1 : RdI w a1 n1 c1 ps) :
    Calls Try.prog 4 #[.int .u64 s, .slice a0 n0 c0, .int .i64 t, .int .i64 n, .slice a1 n1 c1] w fun e w' => e = .returned (.bool true) ∧ Below w.heap.size w w' := by
  obtain ⟨i0, hi, hz0, hz1, hz2⟩ := info_parts infoU
  go_enter Try.func4, Try.ntmps4
  go_wp2_with fail
  refine (kTwined _).mono ?_
  rintro e w1 ⟨rfl, hw1⟩
  go_wp2_with fail
  refine (kCrew _ _ _).mono ?_
  rintro e w2 ⟨⟨k, m, rfl, hk, hkm, hm⟩, hw⟩
  have hw := hw.symm
  subst hw
  go_wp2_with fail
  refine (cTwNeed k _).mono ?_
  rintro e w2 ⟨hN, hb2⟩
  obtain rfl : e = .returned (.tuple #[.int .i64 (need2 k : Nat), .int .i64 0]) := by
    rcases hN with ⟨h', _⟩ | ⟨k', e1, _, e2⟩
    · omega
    · obtain rfl : k = k' := by omega
      exact e2
  clear hN
  have hn14 := need2_bd hk
  obtain ⟨N, HN⟩ : ∃ N, Hid (need2 k = N) := ⟨_, rfl⟩
  rw [HN.out] at hn14 ⊢
  have hw2 := hw1.trans (hb2.mono hw1.size)
  clear hw1 hb2
  go_wp2_with fail
  refine (kFilledL _ _ _ _ N _ (h0.below hw2) (by omega)).mono ?_
  rintro e w3 ⟨g3, rfl, hr3, hb3⟩
  generalize padded xs N = P at hr3
  have hw3 := hw2.trans (hb3.mono hw2.size)
  clear hw2 hb3 h0
  go_wp2_with fail
  refine (cTwDeal s k _ _ _ P m _ hr3 hs0 hs1).mono ?_
  rintro e w4 ⟨⟨hno, rfl⟩ | ⟨k', q, v, L, hD, hq, rfl, hL⟩, hb4⟩
  · exact absurd ⟨rfl, hk, HN.out.symm, by omega, by omega⟩ (hno k)
  · obtain rfl : k = k' := by have := hD.1; omega
    obtain rfl : m = q := by omega
    obtain ⟨al, cl, rfl, hrl⟩ := deal_rd hL (by omega)
    have hw4 := hw3.trans (hb4.mono hw3.size)
    clear hD hq hL hr3 hb4 hw3
    go_wp2_with fail
    refine (cTwPairs _ _ _ _ _ hrl).mono ?_
    rintro e w5 ⟨hP, hb5⟩
    obtain ⟨ap, cp, rfl⟩ : ∃ ap cp, e = .returned (.tuple #[.slice ap 0 cp, .int .i64 0]) := by
      rcases hP with ⟨hno, _⟩ | ⟨_, ap, kp, cp, Lp, rfl, hrp, hPr⟩
      · exact absurd (ofd_rwt (deal_ofd s P k m) (deal_dis s P k hm) hk).1 hno
      · have := ofd_pairs (deal_ofd s P k m) hPr
        subst this
        obtain rfl : kp = 0 := by have := hrp.len; simpa using this.symm
        exact ⟨ap, cp, rfl⟩
    have hw5 := hw4.trans (hb5.mono hw4.size)
    have hrl := hrl.below hb5
    clear hP hb5 hw4
    go_wp2_with (at_make; refine wpList_make_full _ rfl _ _ 23 rfl w5.heap.size 22 i0 (.int .u64 0) 1 Try.underlying23 hi hz0 hz1 .i64 .i64 _ _ m rfl rfl (by omega) (by omega) (by rw [hz2]; omega) (by unfold maxLen; omega) (Nat.le_refl _) ?_; intro w6 hown hgrow)
    have hB6 : Blk w6 w5.heap.size (List.replicate m 0) := Blk.made hown
    have hb6 : Below w5.heap.size w5 w6 := (Below.refl _ _).grown hgrow (Nat.le_refl _) (by simp)
    have hr6 : Rd w6 (some ⟨w5.heap.size, 0, none⟩) m m (List.replicate m 0) := hB6.whole m (by simp) (by unfold maxLen; omega) (fun x hx => by rw [List.eq_of_mem_replicate hx]; omega)
    have hw6 := hw5.trans (hb6.mono hw5.size)
    have hrl := hrl.below hb6
    clear hown hgrow hB6 hb6 hw5
    refine (kShares _ _ _ _ _ hr6 hm).mono ?_
    rintro e w7 ⟨v7, rfl, hown7, hb7⟩
    have hw7 := hw6.trans (hb7.mono hw6.size)
    have hrl := hrl.below hb7
    have hll := shl_len (List.replicate m 0) m
    clear hr6 hb7 hw6
    obtain ⟨K, HK⟩ : ∃ K, Hid (K = k + 1) := ⟨_, rfl⟩
    have hKI : (k : Int) + 1 = (K : Int) := by have := HK.out; omega
    have hK5 : K ≤ 5 := by have := HK.out; omega
    have hKm : K ≤ m := by have := HK.out; omega
    have hK0 : 0 < K := by have := HK.out; omega
    go_wp2_with fail
    refine (kPicked _ m _ _ _ _ _ _ K _ hown7 hll (by omega) hm hKm (fun p hp => by
      obtain ⟨i, hi, rfl⟩ := List.mem_map.1 hp
      have := List.mem_range.1 hi
      refine ⟨⟨by simp only; omega, by simp only; omega⟩, ?_⟩
      simp only
      rw [zeros_getD]; omega) (h1.below hw7)).mono ?_
    rintro e w8 ⟨out, rem, v8, rfl, hlo, hperm, hown8, hb8⟩
    have HPD : Hid (dis (fa out) K ∧ ∀ j, j < K → ∃ i : Nat, i < m ∧ fa out j = (i : Int) + 1) := by have := pick_dis hm hperm; rw [hlo] at this; exact this
    have hbd : ∀ j, j < K → (-9223372036854775808 ≤ (out.getD j (0, 0)).1 ∧ (out.getD j (0, 0)).1 ≤ 9223372036854775807) ∧ 0 ≤ (out.getD j (0, 0)).2 ∧ (out.getD j (0, 0)).2 ≤ 18446744073709551615 := fun j hj => by
      have h2 := (HPD.out.1 j hj).1
      have hmem : out.getD j (0, 0) ∈ shl (List.replicate m 0) m := by
        refine hperm.mem_iff.1 (List.mem_append_left _ ?_)
        have e2 : out.getD j (0, 0) = out[j]'(by omega) := by simp [List.getElem?_eq_getElem (show j < out.length by omega)]
        rw [e2]; exact List.getElem_mem _
      obtain ⟨i, _, e3⟩ := List.mem_map.1 hmem
      have e4 : (out.getD j (0, 0)).2 = 0 := by rw [← e3]; simp only; rw [zeros_getD]
      unfold fa at h2
      omega
    obtain ⟨a8, c8, rfl, hR8⟩ := RdS.own hown8 hlo hbd
    have hw8 := hw7.trans (hb8.mono hw7.size)
    have hrl := hrl.below hb8
    clear hown7 hown8 hb8 hw7 hbd hperm hll
    go_wp2
    go_loopw [17, 73] (fun v i wr => ∃ (j : Nat) (Lj : List (Int × Value)), j ≤ K ∧ i = .int .i64 j ∧ LsR w8 wr v Lj (pkr s P k out j)) (fun _ i _ => K - (intOf i).toNat)
    case atStart => exact ⟨0, [], Nat.zero_le _, rfl, lsr_nil _⟩
    case round =>
      obtain ⟨j, Lj, hj, rfl, hLR⟩ := hrel
      have hb9 := hLR.bel
      have hs9 := hb9.size
      by_cases hlt : j < K
      · obtain ⟨bs, os, x, y, rfl, hbbs, HX, HY, hx0, hx1, hy0, hy1, hcx, hcy⟩ := (hR8.below hb9).one hlt
        obtain ⟨i, him, hfi⟩ := HPD.out.2 j hlt
        obtain rfl : x = (i : Int) + 1 := by rw [← HX.out]; exact hfi
        obtain ⟨b2, o2, x2, ai, ni, ci, row, rfl, hbb2, HX2, HRow, _, _, hcx2, hcr2, hrow⟩ := hrl.one him
        have ex2 : x2 = (i : Int) + 1 := by rw [← HX2.out]; exact deal_ta s P k him
        subst ex2
        have HRw : Hid (row = rowK s P k ((i : Int) + 1) (k + 1)) := by
          unfold Hid
          rw [← HRow.out, deal_ofd s P k m i him, deal_ta s P k him]
        have hcA0 := cell_alloc0 wr (.int .i64 ((i : Int) + 1)) (.int .u64 y) 29
        have hbA : Below wr.heap.size wr (wr.alloc (.cells #[.int .i64 ((i : Int) + 1), .int .u64 y] 29)) := (Below.refl _ _).alloc (Nat.le_refl _) _
        have hbA9 := hb9.trans (hbA.mono hs9)
        have hsA := hbA9.size
        have hcxA : (wr.alloc (.cells #[.int .i64 ((i : Int) + 1), .int .u64 y] 29)).cell? ⟨b2, o2 + i * 2, none⟩ = some (.int .i64 ((i : Int) + 1)) := by rw [hbA9.cell hbb2]; exact hcx2
        have hcrA : (wr.alloc (.cells #[.int .i64 ((i : Int) + 1), .int .u64 y] 29)).cell? ⟨b2, o2 + i * 2 + 1, none⟩ = some (.slice ai ni ci) := by rw [hbA9.cell hbb2]; exact hcr2
        have hpl := pkr_len s P k out j
        have hownA := own_below2 hLR.own hbA
        rw [hpl] at hownA
        have HADD : Hid (∀ v' w', w'.ownsRow w8.heap.size 55 2 v' (j + 1) (pvc Lj ++ [.int .i64 ((i : Int) + 1), .slice ai ni ci]) → Below w8.heap.size w8 w' → LsR w8 w' v' (Lj ++ [((i : Int) + 1, .slice ai ni ci)]) (pkr s P k out (j + 1))) := by
          intro v' w' g1 g2
          rw [← pkr_snoc s P k out j (x := (i : Int) + 1) (row := row) hfi HRw.out]
          exact hLR.add hrow (by rw [hpl]; exact g1) g2
        have him2 : (i : Int) < (m : Int) := by omega
        clear hLR hrow hcx2 hcr2 hbA hb9 hpl hfi
        go_upto_region 13 with fail
        generalize wr.alloc (.cells #[.int .i64 ((i : Int) + 1), .int .u64 y] 29) = wA at *
        go_wp2_with (at_builtin; refine wpList_app2 Try.underlying47 infoRow rfl (by omega) _ rfl _ _ rfl w8.heap.size _ _ _ rfl hownA (.int .i64 ((i : Int) + 1)) (.slice ai ni ci) rfl rfl rfl (by omega) hsA ?_; intro v9 w9 hown9 hgr9 _; have hb10 := hbA9.grown hgr9 hsA (fun q hq => (hownA.lt q hq).1); have hL9 := HADD.out v9 w9 hown9 hb10; clear hgr9 hown9 hb10)
        go_roundw
        case rel => exact ⟨j + 1, _, by omega, by go_num, hL9⟩
        case measure => simp [intOf]; omega
      · have hjK : j = K := by omega
        subst hjK
        obtain ⟨a9, c9, rfl, hr9⟩ := hLR.rdW (pkr_len s P k out j) (fun i hi => by rw [pkr_ta s P k out hi]; have := (HPD.out.1 i hi).1; omega)
        have hrl9 := hrl.below hLR.bel
        have hw9 := hw8.trans (hLR.bel.mono hw8.size)
        clear hLR hR8 hrl hw8
        go_wp2_with fail
        refine (cTwJoin _ _ _ _ _ _ hr9).mono ?_
        rintro e w10 ⟨x, r, rfl, hJ, hb10⟩
        obtain ⟨rfl, rfl⟩ := ofd_join (pkr_ofd s P k out j) (pkr_dis HPD.out.1) hk (by have := HK.out; omega) hJ
        have hw10 := hw9.trans (hb10.mono hw9.size)
        have hrl10 := hrl9.below hb10
        clear hJ hb10 hr9 hrl9 hw9
        go_wp2_with fail
        refine (cTwJoin _ _ _ _ _ _ hrl10).mono ?_
        rintro e w11 ⟨x, r, rfl, hJ, hb11⟩
        obtain ⟨rfl, rfl⟩ := ofd_join (deal_ofd s P k m) (deal_dis s P k hm) hk (by omega) hJ
        have hw11 := hw10.trans (hb11.mono hw10.size)
        have hns := nm_bd s
        clear hJ hb11 hrl10 hw10
        go_wp2_with (go_at_call 16; refine (fNorm _ _ (by omega) (by omega)).mono ?_; rintro e w' ⟨rfl, hw⟩; have hw := hw.symm; subst hw)
        go_ret
        exact ⟨rfl, hw11⟩
end
end Go.Proofs.Ytljlioglpaogdae
