/- croftref.Join: plain facts. · poly.Through. · croftref.Product. -/
import Derived.Test.YtgmelcdgnjcojagDoorToBadM
import Derived.Test.YtgmelcdgnjcojagDoorToRDecM
import Derived.Test.YtgmelcdgnjcojagDoorToNewtonM
import Derived.Test.YtgmelcdgnjcojagDoorToPlacedC
import Derived.Test.YtgmelcdgnjcojagDoorToFaceC
import Derived.Deep.QuietTactic
import Derived.BigQuiet
import Derived.Test.YtgmelcdgnjcojagDoorToRefPolyC
namespace Go.Proofs.YtgmelcdgnjcojagDoor
open Crm

/-- Number j of each row, as shares. -/
def colS (l : List (Int × List Int)) (j n : Nat) : List (Int × Int) := (List.range n).map fun r => (ta l r, (tc l r).getD j 0)
theorem colS_len (l : List (Int × List Int)) (j n : Nat) : (colS l j n).length = n := by simp [colS]
theorem colS_getD (l : List (Int × List Int)) (j : Nat) {n r : Nat} (h : r < n) : (colS l j n).getD r (0, 0) = (ta l r, (tc l r).getD j 0) := by simp [colS, h]
theorem colS_snoc (l : List (Int × List Int)) (j n : Nat) {x y : Int} (hx : ta l n = x) (hy : (tc l n).getD j 0 = y) : colS l j n ++ [(x, y)] = colS l j (n + 1) := by rw [← hx, ← hy]; simp [colS, List.range_succ]
theorem colS_dis {l : List (Int × List Int)} {n : Nat} (h : dis (ta l) n) (j : Nat) : dis (fa (colS l j n)) n := fun i hi => by
  have e : ∀ q, q < n → fa (colS l j n) q = ta l q := fun q hq => by unfold fa; rw [colS_getD l j hq]
  rw [e i hi]
  exact ⟨(h i hi).1, fun q hq => by rw [e q (by omega)]; exact (h i hi).2 q hq⟩
theorem colS_hs {l : List (Int × List Int)} {j n m : Nat} {p : List Int} (hm : m ≤ n) : Hs (colS l j n) m p ↔ ∀ r, r < m → nm (ev p (ta l r)) = nm ((tc l r).getD j 0) := by
  constructor
  · intro h r hr
    have := h r hr
    rwa [colS_getD l j (by omega)] at this
  · intro h r hr
    rw [colS_getD l j (by omega)]
    exact h r hr
/-- A column that no polynomial of t + 1 numbers has. -/
theorem col_no {l : List (Int × List Int)} {n t j : Nat} {p : List Int} (hd : dis (ta l) n) (hn : t < n) (hj : j ≤ t) (hp : p.length ≤ t + 1) (hH : Hs (colS l j n) (t + 1) p) (hb : (bdl (colS l j n) p n).length ≠ 0) : ∀ G, ¬ TwF l n t G := fun G hG => hb <| by
  rw [bdl_nil]
  have h1 : Hs (colS l j n) n (G j) := (colS_hs (Nat.le_refl _)).2 (hG.val j hj)
  have h2 := hs_one (l := colS l j n) (n := t + 1) (dis_okk (dis_le (colS_dis hd j) (by omega))) hH (fun r hr => h1 r (by omega)) hp (hG.le j hj)
  intro r hr
  rw [ev_one h2]
  exact h1 r hr
/-- The first k columns. -/
structure Cls (l : List (Int × List Int)) (n t k : Nat) (F : List (List Int)) : Prop where
  len : F.length = k
  wid : ∀ q, q < k → (F.getD q []).length = t + 1
  bd : ∀ q, q < k → ∀ x ∈ F.getD q [], 0 ≤ x ∧ x ≤ 2147483646
  val : ∀ q, q < k → ∀ r, r < n → nm (ev (F.getD q []) (ta l r)) = nm ((tc l r).getD q 0)
theorem cls_nil (l : List (Int × List Int)) (n t : Nat) : Cls l n t 0 [] := ⟨rfl, fun q hq => by omega, fun q hq => by omega, fun q hq => by omega⟩
theorem cls_add {l : List (Int × List Int)} {n t k : Nat} {F : List (List Int)} {p : List Int} (h : Cls l n t k F) (hp : p.length ≤ t + 1) (hb : (bdl (colS l k n) p n).length = 0) : Cls l n t (k + 1) (F ++ [pdn p (t + 1)]) := by
  have hl := h.len
  have g1 : ∀ q, q < k → (F ++ [pdn p (t + 1)]).getD q [] = F.getD q [] := fun q hq => by simp [List.getElem?_append_left (show q < F.length by omega)]
  have g2 : (F ++ [pdn p (t + 1)]).getD k [] = pdn p (t + 1) := by rw [← hl]; simp
  have hH := (colS_hs (Nat.le_refl _)).1 ((bdl_nil _ _ _).1 hb)
  refine ⟨by simp [hl], fun q hq => ?_, fun q hq => ?_, fun q hq r hr => ?_⟩
  · by_cases e : q = k
    · rw [e, g2, pdn_len]
    · rw [g1 q (by omega)]; exact h.wid q (by omega)
  · by_cases e : q = k
    · rw [e, g2]; exact pdn_bd _ _
    · rw [g1 q (by omega)]; exact h.bd q (by omega)
  · by_cases e : q = k
    · rw [e, g2, ← hH r hr]
      refine ev_congr _ _ _ fun i => ?_
      by_cases hi : i < t + 1
      · rw [pdn_getD p hi, nm_nm]
      · rw [getD_big (by rw [pdn_len]; omega), getD_big (show p.length ≤ i by omega)]
    · rw [g1 q (by omega)]; exact h.val q (by omega) r hr
/-- Column i's number j. -/
def cn (F : List (List Int)) (i j : Nat) : Int := (F.getD i []).getD j 0
theorem cls_no {l : List (Int × List Int)} {n t i j : Nat} {F : List (List Int)} (hd : dis (ta l) n) (hn : t < n) (h : Cls l n t (t + 1) F) (hi : i ≤ t) (hj : j ≤ t) (hne : cn F i j ≠ cn F j i) : ∀ G, ¬ TwF l n t G := fun G hG => hne <| by
  have e : ∀ a b, a ≤ t → b ≤ t → cn F a b = nm ((G a).getD b 0) := fun a b ha hb => by
    have h1 := col_one hd hn (by rw [h.wid a (by omega)]; exact Nat.le_refl _) (hG.le a ha) (fun r hr => by rw [h.val a (by omega) r hr, hG.val a ha r hr])
    have h2 := getD_bd' (h.bd a (by omega)) b
    unfold cn
    rw [← nm_small h2.1 h2.2, ← nrm_getD, h1, nrm_getD]
  rw [e i j hi hj, e j i hj hi]
  exact hG.sym i j hi hj
theorem cls_yes {l : List (Int × List Int)} {n t : Nat} {F : List (List Int)} (h : Cls l n t (t + 1) F) (hs : ∀ i j, i ≤ t → j < i → cn F i j = cn F j i) : TwF l n t (fun j => F.getD j []) ∧ cn F 0 0 = nm ((F.getD 0 []).getD 0 0) := by
  refine ⟨⟨fun j hj => by rw [h.wid j (by omega)]; exact Nat.le_refl _, fun i j hi hj => ?_, fun j hj r hr => h.val j (by omega) r hr⟩, ?_⟩
  · rcases Nat.lt_trichotomy i j with h1 | h1 | h1
    · have := hs j i hj h1
      unfold cn at this
      rw [this]
    · rw [h1]
    · have := hs i j hi h1
      unfold cn at this
      rw [this]
  · have h2 := getD_bd' (h.bd 0 (by omega)) 0
    unfold cn
    rw [nm_small h2.1 h2.2]
end Go.Proofs.YtgmelcdgnjcojagDoor

namespace Go.Proofs.YtgmelcdgnjcojagDoor
open Go.RowKit Crm

set_option maxRecDepth 100000 in
theorem cThroughL (a : Option Addr) (n c : Nat) (w : World) (hm : n ≤ 9223372036854775807) (hn : 40 < n) :
    Calls Tryd.prog 75 #[.slice a n c] w fun e w' => e = .returned (.tuple #[.slice none 0 0, .int .i64 2]) ∧ w' = w := by
  go_enter Tryd.func75, Tryd.ntmps75
  go_wp2
  go_ret2
  exact ⟨rfl, rfl⟩

set_option maxRecDepth 100000 in
theorem cThroughN (a : Option Addr) (n c : Nat) (l : List (Int × Int)) (w : World) (h : RdS w a n c l) (hn : n ≤ 40) (ho : ¬ okk l n) :
    Calls Tryd.prog 75 #[.slice a n c] w fun e w' => e = .returned (.tuple #[.slice none 0 0, .int .i64 5]) ∧ Below w.heap.size w w' := by
  have HO : Hid (¬ okk l n) := ho
  clear ho
  go_enter Tryd.func75, Tryd.ntmps75
  go_wp2_with fail
  refine (cPlaced _ _ _ _ _ h (by omega)).mono ?_
  rintro e w1 ⟨r, rfl, hr, hb⟩
  obtain rfl : r = false := by cases r with | false => rfl | true => exact absurd (hr.1 rfl) HO.out
  clear hr
  go_wp2
  go_ret2
  exact ⟨rfl, hb⟩

/-- A row that a list's text lays. -/
theorem Blk.lit1 (w : World) (x : Int) : Blk (w.alloc (.cells #[.int .u64 x] 34)) w.heap.size [x] := heap_alloc_new w _
theorem Blk.lit2 (w : World) (x y : Int) : Blk (w.alloc (.cells #[.int .u64 x, .int .u64 y] 34)) w.heap.size [x, y] := heap_alloc_new w _

set_option maxRecDepth 100000 in
set_option maxHeartbeats 1000000 in
theorem cThroughOK (a : Option Addr) (n c : Nat) (l : List (Int × Int)) (w : World) (h : RdS w a n c l) (hn : n ≤ 40) (ho : okk l n) :
    Calls Tryd.prog 75 #[.slice a n c] w fun e w' => ∃ S g, e = .returned (.tuple #[.slice (some ⟨g, 0, none⟩) (tl S n) n, .int .i64 0]) ∧ S.length = n ∧ (∀ x ∈ S, 0 ≤ x ∧ x ≤ 2147483646) ∧
      (∀ j, j < n → nm (ev S (l.getD j (0, 0)).1) = nm (l.getD j (0, 0)).2) ∧ Rd w' (some ⟨g, 0, none⟩) (tl S n) n (trm S) ∧ Below w.heap.size w w' := by
  obtain ⟨i0, hi, hz0, hz1, hz2⟩ := info_parts info34
  have HO : Hid (okk l n) := ho
  clear ho
  have hlen := h.len
  go_enter Tryd.func75, Tryd.ntmps75
  go_wp2_with fail
  refine (cPlaced _ _ _ _ _ h (by omega)).mono ?_
  rintro e w1 ⟨r, rfl, hr, hb1⟩
  obtain rfl : r = true := hr.2 HO.out
  clear hr
  have hs1 := hb1.size
  go_wp2_with (at_make; refine wpList_make_full _ rfl _ _ 22 rfl w1.heap.size 34 i0 (.int .u64 0) 1 Tryd.underlying22 hi hz0 hz1 .i64 .i64 _ _ n rfl rfl (by omega) (by omega) (by rw [hz2]; omega) (by unfold maxLen; omega) (Nat.le_refl _) ?_; intro w2 hown hgrow)
  have hB2 : Blk w2 w1.heap.size (List.replicate n 0) := Blk.made hown
  have hb2 : Below w1.heap.size w1 w2 := (Below.refl _ _).grown hgrow (Nat.le_refl _) (by simp)
  have hb12 : Below w.heap.size w w2 := hb1.trans (hb2.mono hs1)
  clear hown hgrow
  obtain ⟨g1, hg1⟩ : ∃ g1, g1 = w1.heap.size := ⟨_, rfl⟩
  rw [← hg1] at hB2 hs1 ⊢
  clear hg1 hb2 hb1
  have hgl := hB2.lt
  go_loopw [5, 24] (fun z i wr => ∃ (k : Nat) (S Z : List Int) (gz : Nat), k ≤ n ∧ i = .int .i64 k ∧ z = .slice (some ⟨gz, 0, none⟩) (k + 1) (k + 1) ∧ Hid (NwI l n k S Z) ∧ Blk wr g1 S ∧ Blk wr gz Z ∧ gz ≠ g1 ∧ Below w.heap.size w wr) (fun _ i _ => n - (intOf i).toNat)
  case atStart => exact ⟨0, _, _, _, Nat.zero_le _, rfl, rfl, nw_start l n, hB2.below ((Below.refl _ _).alloc (Nat.le_refl _) _) hgl, Blk.lit1 _ _, by omega, hb12.alloc (hb12.size) _⟩
  case round =>
    obtain ⟨k, S, Z, gz, hk, rfl, rfl, HI, hbs, hbz, hne, hbel⟩ := hrel
    have hls := HI.out.ls
    have hlz := HI.out.lz
    have HBS : Hid (∀ x ∈ S, 0 ≤ x ∧ x ≤ 2147483646) := HI.out.bs
    have HBZ : Hid (∀ x ∈ Z, 0 ≤ x ∧ x ≤ 2147483646) := HI.out.bz
    by_cases hlt : k < n
    · obtain ⟨b, o, x, y, rfl, hbb, HX, HY, hx0, hx1, hy0, hy1, hcx, hcy⟩ := (h.below hbel).one hlt
      have hxo := (HO.out k hlt).1
      rw [HX.out] at hxo
      have hxo1 := hxo.1
      have hxo2 := hxo.2
      have HE : Hid (nm (nm (ev Z x)) ≠ 0) := by rw [nm_nm, ← HX.out]; exact HI.out.z1 k (Nat.le_refl _) hlt
      have hnS := nm_bd (ev S x)
      have hnZ := nm_bd (ev Z x)
      have hnL := nm_bd (y - nm (ev S x))
      have hiv := iv_bd (nm (ev Z x))
      have hnX := nm_bd (-x)
      have hbA : Below wr.heap.size wr (wr.alloc (.cells #[.int .i64 x, .int .u64 y] 68)) := (Below.refl _ _).alloc (Nat.le_refl _) _
      have hcA0 := cell_alloc0 wr (.int .i64 x) (.int .u64 y) 68
      have hcA1 := cell_alloc1 wr (.int .i64 x) (.int .u64 y) 68
      go_wp2
      generalize hW : wr.alloc (.cells #[.int .i64 x, .int .u64 y] 68) = W at *
      clear hW
      have hbelW : Below w.heap.size w W := hbel.trans (hbA.mono hbel.size)
      have hbsW := hbs.below hbA hbs.lt
      have hbzW := hbz.below hbA hbz.lt
      have rS : Rd W (some ⟨g1, 0, none⟩) n n S := hbsW.whole n hls.symm (by unfold maxLen; omega) (bd_u64 HBS.out)
      have rZ : Rd W (some ⟨gz, 0, none⟩) (k + 1) (k + 1) Z := hbzW.whole (k + 1) hlz.symm (by unfold maxLen; omega) (bd_u64 HBZ.out)
      clear hbA hbs hbz hbel hcx hcy
      go_quiet ((first | (go_at_call 84; exact Calls.quiet_of (cValueQ _ _ _ _ _ _ (rS.drewN _) (by omega) (by omega))) | (go_at_call 59; exact Calls.quiet_of_same (fSub _ _ _ (by omega) (by omega) (by omega) (by omega)))))
      go_wp2_with fail
      refine (cValueQ _ _ _ _ _ _ (rZ.drewN _) (by omega) (by omega)).mono ?_
      rintro e w3 ⟨rfl, q3, rfl⟩
      go_wp2_with fail
      refine (fInv1 _ _ (by omega) (by omega) HE.out).mono ?_
      rintro e w3 ⟨rfl, rfl⟩
      obtain ⟨t, HT⟩ : ∃ t, Hid (t = nm (nm (y - nm (ev S x)) * iv (nm (ev Z x)))) := ⟨_, rfl⟩
      have hnt : 0 ≤ t ∧ t ≤ 2147483646 := by rw [HT.out]; exact nm_bd _
      have HI2 : Hid (NwI l n (k + 1) (addAt S 0 Z t (k + 1)) (cvl Z [nm (-x), 1])) := nw_step HI.out hlt HO.out HX.out HY.out HT.out
      go_wp2_with (go_at_call 49; refine (fMul _ _ _ (by omega) (by omega) (by omega) (by omega)).mono ?_; rintro e w3 ⟨he, rfl⟩; rw [← HT.out] at he; subst he)
      refine (cAddTimes _ _ _ _ _ _ _ _ _ _ _ (by exact hbsW) (bd_u64 HBS.out) (rZ.drewN _) (fun x hx => by obtain rfl := Option.some.inj hx; exact hne) (by omega) (by omega) (by omega) (by omega) (by omega)).mono ?_
      rintro e w4 ⟨rfl, hb4, hg4⟩
      have hz4 : Blk w4 gz Z := Blk.grown (by exact hbzW) hg4 (by simpa using hne)
      have hbel4 : Below w.heap.size w w4 := below_grown (drewN_below hbelW _) hg4 hs1
      have hbB : Below w4.heap.size w4 (w4.alloc (.cells #[.int .u64 (nm (-x)), .int .u64 1] 34)) := (Below.refl _ _).alloc (Nat.le_refl _) _
      have hp4 := Blk.lit2 w4 (nm (-x)) 1
      clear hbelW hbsW hbzW rS rZ hg4 hcA0 hcA1
      go_wp2_with (go_at_call 59; refine (fSub _ _ _ (by omega) (by omega) (by omega) (by omega)).mono ?_; rintro e w3 ⟨rfl, hw⟩; have hw := hw.symm; subst hw)
      generalize hW5 : w4.alloc (.cells #[.int .u64 (nm (-x)), .int .u64 1] 34) = W5 at *
      have hs5 : w4.heap.size < W5.heap.size := hp4.lt
      clear hW5
      have hbel5 : Below w.heap.size w W5 := hbel4.trans (hbB.mono hbel4.size)
      have hz5 := hz4.below hbB hz4.lt
      have hb5 := hb4.below hbB hb4.lt
      have hl5 := hb5.lt
      have rZ5 : Rd W5 (some ⟨gz, 0, none⟩) (k + 1) (k + 1) Z := hz5.whole (k + 1) hlz.symm (by unfold maxLen; omega) (bd_u64 HBZ.out)
      have rP5 : Rd W5 (some ⟨w4.heap.size, 0, none⟩) 2 2 [nm (-x), 1] := hp4.whole 2 rfl (by unfold maxLen; omega) (by
        intro u hu
        simp only [List.mem_cons, List.not_mem_nil, or_false] at hu
        rcases hu with rfl | rfl <;> omega)
      refine (cProduct _ _ _ _ _ _ _ _ _ rZ5 rP5 (by omega) (by omega) (by omega) (by omega)).mono ?_
      rintro e w6 ⟨rfl, hb6, hbel6⟩
      have hs6 := hb5.below hbel6 hb5.lt
      have hbel7 := hbel5.trans (hbel6.mono hbel5.size)
      clear hbel6 hbel5 hz5 hb5 rZ5 rP5 hp4 hz4 hb4 hbB hbel4
      go_wp2
      go_roundw
      case rel => exact ⟨k + 1, _, _, _, by omega, by go_num, rfl, HI2, hs6, hb6, by omega, hbel7⟩
      case measure => simp [intOf]; omega
    · have hkn : k = n := by omega
      subst hkn
      have rS : Rd wr (some ⟨g1, 0, none⟩) k k S := hbs.whole k hls.symm (by unfold maxLen; omega) (bd_u64 HBS.out)
      go_wp2_with (go_at_call 88; refine (cTrim _ _ _ _ _ rS).mono ?_; rintro e w' ⟨rfl, hw⟩; have hw := hw.symm; subst hw)
      go_ret2
      refine ⟨S, g1, rfl, hls, HBS.out, HI.out.s, ?_, hbel⟩
      have ht := tl_le S k
      have := hbs.rd 0 (tl S k) k ht (by unfold maxLen; omega) (by omega) (bd_u64 HBS.out)
      rw [List.drop_zero] at this
      have e : trm S = S.take (tl S k) := by unfold trm; rw [hls]
      rw [e]
      exact this
end Go.Proofs.YtgmelcdgnjcojagDoor

namespace Go.Proofs.YtgmelcdgnjcojagDoor
open Go.RowKit Crm

/-- The first k numbers of the product. -/
def cvk (ps qs : List Int) (k : Nat) : List Int := (List.range k).map fun q => nm (pc ps qs q ps.length)
theorem cvk_step (ps qs : List Int) (k : Nat) {v : Int} (e : v = nm (pc ps qs k ps.length)) : cvk ps qs k ++ [v] = cvk ps qs (k + 1) := by
  unfold cvk
  rw [List.range_succ, List.map_append, e]
  rfl
theorem cvk_bd (ps qs : List Int) (k : Nat) : ∀ x ∈ cvk ps qs k, 0 ≤ x ∧ x ≤ 18446744073709551615 := by
  intro x hx
  obtain ⟨k, _, rfl⟩ := List.mem_map.1 hx
  have := nm_bd (pc ps qs k ps.length)
  omega
/-- Behind the k-th number nothing is added. -/
theorem pc_more (ps qs : List Int) (k : Nat) : ∀ d, pc ps qs k (k + 1 + d) = pc ps qs k (k + 1)
  | 0 => rfl
  | d + 1 => by
    show pc ps qs k (k + 1 + d) + tm ps qs k (k + 1 + d) = _
    rw [pc_more ps qs k d, tm, if_neg (by omega), Int.add_zero]
theorem pc_end (ps qs : List Int) (k i : Nat) (h : i = k + 1 ∨ i = ps.length) (hi : i ≤ ps.length) (hk : i ≤ k + 1) : pc ps qs k i = pc ps qs k ps.length := by
  rcases h with rfl | rfl
  · have := pc_more ps qs k (ps.length - (k + 1))
    rw [show k + 1 + (ps.length - (k + 1)) = ps.length by omega] at this
    exact this.symm
  · rfl
theorem pc_hit {ps qs : List Int} {k i : Nat} {x y s : Int} (hk : i ≤ k) (hx : ps.getD i 0 = x) (hy : qs.getD (k - i) 0 = y) (hs : s = nm (pc ps qs k i)) : nm (s + nm (x * y)) = nm (pc ps qs k (i + 1)) := by
  rw [pc, tm, if_pos hk, hx, hy, hs, nm_addl, nm_addr]
theorem pc_miss {ps qs : List Int} {k i : Nat} (hk : qs.length ≤ k - i) : pc ps qs k (i + 1) = pc ps qs k i := by
  rw [pc, tm]
  have : qs.getD (k - i) 0 = 0 := by rw [List.getD_eq_getElem?_getD, List.getElem?_eq_none hk]; rfl
  split
  · rw [this, Int.mul_zero, Int.add_zero]
  · rw [Int.add_zero]

end Go.Proofs.YtgmelcdgnjcojagDoor
