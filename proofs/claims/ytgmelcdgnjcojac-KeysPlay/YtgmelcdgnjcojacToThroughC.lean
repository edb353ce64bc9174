/- croftref.Decode: plain facts: each choice of t + 1 shares. · croftref.Join: plain facts. · poly.Through. -/
import Derived.Test.YtgmelcdgnjcojacToDecodeM
import Derived.Test.YtgmelcdgnjcojacToTwM
import Derived.Test.YtgmelcdgnjcojacToNewtonM
import Derived.Test.YtgmelcdgnjcojacToRDealC
import Derived.Test.YtgmelcdgnjcojacToTellsM
import Derived.Deep.QuietTactic
import Derived.BigQuiet
namespace Go.Proofs.Ytgmelcdgnjcojac
open Crm

theorem dis_iff (l : List (Int × Int)) : dis (fa l) l.length ↔ (∀ x ∈ l, 1 ≤ x.1 ∧ x.1 ≤ 9) ∧ l.Pairwise (fun a b => a.1 ≠ b.1) := by
  have e : ∀ i (h : i < l.length), fa l i = l[i].1 := fun i h => by simp [fa, List.getElem?_eq_getElem h]
  constructor
  · intro h
    refine ⟨fun x hx => ?_, ?_⟩
    · obtain ⟨i, hi, rfl⟩ := List.getElem_of_mem hx
      have := (h i hi).1
      rwa [e i hi] at this
    · rw [List.pairwise_iff_getElem]
      intro i j hi hj hij
      have := (h j hj).2 i hij
      rwa [e i hi, e j hj] at this
  · rintro ⟨h1, h2⟩ i hi
    rw [List.pairwise_iff_getElem] at h2
    refine ⟨by rw [e i hi]; exact h1 _ (List.getElem_mem hi), fun j hj => ?_⟩
    rw [e i hi, e j (by omega)]
    exact h2 j i (by omega) hi hj
theorem dis_perm {l k : List (Int × Int)} {n : Nat} (hl : l.length = n) (hp : k.Perm l) (h : dis (fa l) n) : dis (fa k) n := by
  subst hl
  rw [← hp.length_eq, dis_iff]
  rw [dis_iff] at h
  exact ⟨fun x hx => h.1 x (hp.mem_iff.1 hx), (hp.pairwise_iff (fun h e => h e.symm)).2 h.2⟩

/-- All shares, those that are chosen first. -/
def jn (l : List (Int × Int)) (s n : Nat) : List (Int × Int) := slt l s n ++ ult l s n
theorem jn_perm {l : List (Int × Int)} {n : Nat} (hl : l.length = n) (s : Nat) : (jn l s n).Perm l := by
  have := slt_perm l s n (by omega)
  rwa [List.take_of_length_le (by omega)] at this
theorem jn_len {l : List (Int × Int)} {n : Nat} (hl : l.length = n) (s : Nat) : (jn l s n).length = n := by rw [(jn_perm hl s).length_eq, hl]
theorem jn_bdl {l : List (Int × Int)} {n : Nat} (hl : l.length = n) (s : Nat) (p : List Int) : (bdl (jn l s n) p n).Perm (bdl l p n) := by
  have := bdl_perm (jn_perm hl s) p
  rwa [jn_len hl, hl] at this
theorem slt_le (l : List (Int × Int)) (s : Nat) : ∀ k, (slt l s k).length ≤ k
  | 0 => by simp [slt]
  | k + 1 => by
    have := slt_le l s k
    rw [slt]; split
    · simp; omega
    · omega
theorem ult_le (l : List (Int × Int)) (s : Nat) : ∀ k, (slt l s k).length + (ult l s k).length = k
  | 0 => by simp [slt, ult]
  | k + 1 => by
    have := ult_le l s k
    rw [slt, ult]; split
    · simp; omega
    · simp; omega
theorem slt_bd {l : List (Int × Int)} {n : Nat} {Q : Int × Int → Prop} (h : ∀ i, i < n → Q (l.getD i (0, 0))) (s : Nat) : ∀ k, k ≤ n → ∀ x ∈ slt l s k, Q x := fun k hk x hx => by
  obtain ⟨i, hi, _, rfl⟩ := slt_mem hx
  exact h i (by omega)

/-- No choice ahead of s finds a polynomial that has all shares but e. -/
def Nope (l : List (Int × Int)) (n t e s : Nat) : Prop := ∀ u, u < s → ∀ p : List Int, (slt l u n).length = t + 1 → p.length ≤ t + 1 → (∀ x ∈ slt l u n, nm (ev p x.1) = nm x.2) → ¬ (bdl l p n).length ≤ e
theorem nope_zero (l : List (Int × Int)) (n t e : Nat) : Nope l n t e 0 := fun u hu => by omega
theorem nope_skip {l : List (Int × Int)} {n t e s : Nat} (h : Nope l n t e s) (hs : (slt l s n).length ≠ t + 1) : Nope l n t e (s + 1) := fun u hu p h1 h2 h3 => by
  by_cases he : u = s
  · subst he; exact absurd h1 hs
  · exact h u (by omega) p h1 h2 h3
theorem jn_first {l : List (Int × Int)} {s n m i : Nat} (h : (slt l s n).length = m) (hi : i < m) : (jn l s n).getD i (0, 0) ∈ slt l s n := by
  have e : (jn l s n).getD i (0, 0) = (slt l s n)[i]'(by omega) := by
    unfold jn
    simp [List.getElem?_append_left (show i < (slt l s n).length by omega), List.getElem?_eq_getElem (show i < (slt l s n).length by omega)]
  rw [e]
  exact List.getElem_mem _
theorem nope_bad {l : List (Int × Int)} {n t e s : Nat} {q : List Int} (hl : l.length = n) (hd : dis (fa l) n) (h : Nope l n t e s) (hs : (slt l s n).length = t + 1) (hq : q.length ≤ t + 1) (hH : Hs (jn l s n) (t + 1) q) (hb : e < (bdl (jn l s n) q n).length) : Nope l n t e (s + 1) := fun u hu p h1 h2 h3 => by
  by_cases he : u = s
  · subst he
    have hd2 : dis (fa (jn l u n)) n := dis_perm hl (jn_perm hl u) hd
    have hle := slt_le l u n
    have hpq : nrm p = nrm q := hs_one (l := jn l u n) (n := t + 1) (dis_okk (dis_le hd2 (by omega))) (fun i hi => h3 _ (jn_first hs hi)) hH h2 hq
    intro h4
    have h5 := (jn_bdl hl u q).length_eq
    have h6 := bdl_same hpq l
    rw [hl] at h6
    rw [h6] at h4
    omega
  · exact h u (by omega) p h1 h2 h3
theorem nope_end {l : List (Int × Int)} {n t e : Nat} (h : Nope l n t e (2 ^ n)) (hn : t + 1 + 2 * e ≤ n) : ∀ p, ¬ Few l n t e p := fun p hp => by
  have h1 := hp.1
  have h2 := hp.2
  obtain ⟨s, s1, s2, s3⟩ := choice_finds (l := l) (n := n) (m := t + 1) (p := p) (by omega)
  exact h s s1 p s2 (by omega) s3 (by omega)
/-- What the first choice that finds one tells. -/
theorem jn_found {l : List (Int × Int)} {n t e s : Nat} {q B : List Int} (hl : l.length = n) (hd : dis (fa l) n) (ht : t ≤ 4) (he : e ≤ 4) (hn : t + 1 + 2 * e ≤ n) (hq : q.length ≤ t + 1) (hb : (bdl (jn l s n) q n).length ≤ e) (hB : OuI (bdl (jn l s n) q n) B (bdl (jn l s n) q n).length) : Dcd l n t e (pdn q (t + 1)) B 0 := by
  have h5 := (jn_bdl hl s q).length_eq
  refine .inr (.inr (.inr (.inl ⟨⟨⟨by omega, by omega⟩, hd⟩, ⟨by omega, by omega⟩, by omega, ⟨q, ⟨by omega, by omega⟩, by congr 1, ?_⟩, rfl⟩)))
  rw [← h5]
  exact ⟨hB.perm.trans (jn_bdl hl s q), hB.srt⟩
/-- A polynomial with noughts behind it. -/
def pad0 (q : List Int) (j : Nat) : List Int := q ++ List.replicate (j - q.length) 0
theorem pad0_snoc {q : List Int} {j : Nat} (h : q.length ≤ j) : pad0 q j ++ [0] = pad0 q (j + 1) := by
  unfold pad0
  rw [show j + 1 - q.length = (j - q.length) + 1 by omega, List.replicate_succ', List.append_assoc]
theorem pad0_self (q : List Int) : pad0 q q.length = q := by simp [pad0]
theorem pad0_pdn {q : List Int} {m : Nat} (hb : ∀ x ∈ q, 0 ≤ x ∧ x ≤ 2147483646) (h : q.length ≤ m) : pad0 q m = pdn q m := by
  refine list_ext (by rw [pdn_len]; simp [pad0]; omega) fun i hi => ?_
  have hi2 : i < m := by simp [pad0] at hi; omega
  have hb2 := getD_bd' hb i
  rw [pdn_getD q hi2, nm_small hb2.1 hb2.2]
  unfold pad0
  by_cases hq : i < q.length
  · simp [List.getElem?_append_left hq]
  · rw [getD_big (show q.length ≤ i by omega)]
    have : (q ++ List.replicate (m - q.length) (0 : Int)).getD i 0 = (List.replicate (m - q.length) (0 : Int)).getD (i - q.length) 0 := by simp [List.getElem?_append_right (show q.length ≤ i by omega)]
    rw [this, zeros_getD]
end Go.Proofs.Ytgmelcdgnjcojac

namespace Go.Proofs.Ytgmelcdgnjcojac
open Crm

/-- Number j of each row, as shares. -/
def colS (l : List (Int × List Int)) (j n : Nat) : List (Int × Int) := (List.range n).map fun r => (ta l r, (tc l r).getD j 0)
theorem colS_len (l : List (Int × List Int)) (j n : Nat) : (colS l j n).length = n := by simp [colS]
theorem colS_getD (l : List (Int × List Int)) (j : Nat) {n r : Nat} (h : r < n) : (colS l j n).getD r (0, 0) = (ta l r, (tc l r).getD j 0) := by simp [colS, h]
theorem colS_snoc (l : List (Int × List Int)) (j n : Nat) {x y : Int} (hx : ta l n = x) (hy : (tc l n).getD j 0 = y) : colS l j n ++ [(x, y)] = colS l j (n + 1) := by rw [← hx, ← hy]; simp [colS, List.range_succ]
theorem colS_dis {l : List (Int × List Int)} {n : Nat} (h : dis (ta l) n) (j : Nat) : dis (fa (colS l j n)) n := fun i hi => by
  have e : ∀ q, q < n → fa (colS l j n) q = ta l q := fun q hq => by unfold fa; rw [colS_getD l j hq]
  rw [e i hi]
  exact ⟨(h i hi).1, fun q hq => by rw [e q (by omega)]; exact (h i hi).2 q hq⟩
theorem colS_hs {l : List (Int × List Int)} {j n m : Nat} {p : List Int} (hm : m ≤ n) : Hs (colS l j n) m p ↔ ∀ r, r < m → nm (ev p (ta l r)) = nm ((tc l r).getD j 0) := by
  constructor
  · intro h r hr
    have := h r hr
    rwa [colS_getD l j (by omega)] at this
  · intro h r hr
    rw [colS_getD l j (by omega)]
    exact h r hr
/-- A column that no polynomial of t + 1 numbers has. -/
theorem col_no {l : List (Int × List Int)} {n t j : Nat} {p : List Int} (hd : dis (ta l) n) (hn : t < n) (hj : j ≤ t) (hp : p.length ≤ t + 1) (hH : Hs (colS l j n) (t + 1) p) (hb : (bdl (colS l j n) p n).length ≠ 0) : ∀ G, ¬ TwF l n t G := fun G hG => hb <| by
  rw [bdl_nil]
  have h1 : Hs (colS l j n) n (G j) := (colS_hs (Nat.le_refl _)).2 (hG.val j hj)
  have h2 := hs_one (l := colS l j n) (n := t + 1) (dis_okk (dis_le (colS_dis hd j) (by omega))) hH (fun r hr => h1 r (by omega)) hp (hG.le j hj)
  intro r hr
  rw [ev_one h2]
  exact h1 r hr
/-- The first k columns. -/
structure Cls (l : List (Int × List Int)) (n t k : Nat) (F : List (List Int)) : Prop where
  len : F.length = k
  wid : ∀ q, q < k → (F.getD q []).length = t + 1
  bd : ∀ q, q < k → ∀ x ∈ F.getD q [], 0 ≤ x ∧ x ≤ 2147483646
  val : ∀ q, q < k → ∀ r, r < n → nm (ev (F.getD q []) (ta l r)) = nm ((tc l r).getD q 0)
theorem cls_nil (l : List (Int × List Int)) (n t : Nat) : Cls l n t 0 [] := ⟨rfl, fun q hq => by omega, fun q hq => by omega, fun q hq => by omega⟩
theorem cls_add {l : List (Int × List Int)} {n t k : Nat} {F : List (List Int)} {p : List Int} (h : Cls l n t k F) (hp : p.length ≤ t + 1) (hb : (bdl (colS l k n) p n).length = 0) : Cls l n t (k + 1) (F ++ [pdn p (t + 1)]) := by
  have hl := h.len
  have g1 : ∀ q, q < k → (F ++ [pdn p (t + 1)]).getD q [] = F.getD q [] := fun q hq => by simp [List.getElem?_append_left (show q < F.length by omega)]
  have g2 : (F ++ [pdn p (t + 1)]).getD k [] = pdn p (t + 1) := by rw [← hl]; simp
  have hH := (colS_hs (Nat.le_refl _)).1 ((bdl_nil _ _ _).1 hb)
  refine ⟨by simp [hl], fun q hq => ?_, fun q hq => ?_, fun q hq r hr => ?_⟩
  · by_cases e : q = k
    · rw [e, g2, pdn_len]
    · rw [g1 q (by omega)]; exact h.wid q (by omega)
  · by_cases e : q = k
    · rw [e, g2]; exact pdn_bd _ _
    · rw [g1 q (by omega)]; exact h.bd q (by omega)
  · by_cases e : q = k
    · rw [e, g2, ← hH r hr]
      refine ev_congr _ _ _ fun i => ?_
      by_cases hi : i < t + 1
      · rw [pdn_getD p hi, nm_nm]
      · rw [getD_big (by rw [pdn_len]; omega), getD_big (show p.length ≤ i by omega)]
    · rw [g1 q (by omega)]; exact h.val q (by omega) r hr
/-- Column i's number j. -/
def cn (F : List (List Int)) (i j : Nat) : Int := (F.getD i []).getD j 0
theorem cls_no {l : List (Int × List Int)} {n t i j : Nat} {F : List (List Int)} (hd : dis (ta l) n) (hn : t < n) (h : Cls l n t (t + 1) F) (hi : i ≤ t) (hj : j ≤ t) (hne : cn F i j ≠ cn F j i) : ∀ G, ¬ TwF l n t G := fun G hG => hne <| by
  have e : ∀ a b, a ≤ t → b ≤ t → cn F a b = nm ((G a).getD b 0) := fun a b ha hb => by
    have h1 := col_one hd hn (by rw [h.wid a (by omega)]; exact Nat.le_refl _) (hG.le a ha) (fun r hr => by rw [h.val a (by omega) r hr, hG.val a ha r hr])
    have h2 := getD_bd' (h.bd a (by omega)) b
    unfold cn
    rw [← nm_small h2.1 h2.2, ← nrm_getD, h1, nrm_getD]
  rw [e i j hi hj, e j i hj hi]
  exact hG.sym i j hi hj
theorem cls_yes {l : List (Int × List Int)} {n t : Nat} {F : List (List Int)} (h : Cls l n t (t + 1) F) (hs : ∀ i j, i ≤ t → j < i → cn F i j = cn F j i) : TwF l n t (fun j => F.getD j []) ∧ cn F 0 0 = nm ((F.getD 0 []).getD 0 0) := by
  refine ⟨⟨fun j hj => by rw [h.wid j (by omega)]; exact Nat.le_refl _, fun i j hi hj => ?_, fun j hj r hr => h.val j (by omega) r hr⟩, ?_⟩
  · rcases Nat.lt_trichotomy i j with h1 | h1 | h1
    · have := hs j i hj h1
      unfold cn at this
      rw [this]
    · rw [h1]
    · have := hs i j hi h1
      unfold cn at this
      rw [this]
  · have h2 := getD_bd' (h.bd 0 (by omega)) 0
    unfold cn
    rw [nm_small h2.1 h2.2]
end Go.Proofs.Ytgmelcdgnjcojac

namespace Go.Proofs.Ytgmelcdgnjcojac
open Go.RowKit Crm

set_option maxRecDepth 100000 in
theorem cThroughL (a : Option Addr) (n c : Nat) (w : World) (hm : n ≤ 9223372036854775807) (hn : 40 < n) :
    Calls Try.prog 71 #[.slice a n c] w fun e w' => e = .returned (.tuple #[.slice none 0 0, .int .i64 2]) ∧ w' = w := by
  go_enter Try.func71, Try.ntmps71
  go_wp2
  go_ret2
  exact ⟨rfl, rfl⟩

set_option maxRecDepth 100000 in
theorem cThroughN (a : Option Addr) (n c : Nat) (l : List (Int × Int)) (w : World) (h : RdS w a n c l) (hn : n ≤ 40) (ho : ¬ okk l n) :
    Calls Try.prog 71 #[.slice a n c] w fun e w' => e = .returned (.tuple #[.slice none 0 0, .int .i64 5]) ∧ Below w.heap.size w w' := by
  have HO : Hid (¬ okk l n) := ho
  clear ho
  go_enter Try.func71, Try.ntmps71
  go_wp2_with fail
  refine (cPlaced _ _ _ _ _ h (by omega)).mono ?_
  rintro e w1 ⟨r, rfl, hr, hb⟩
  obtain rfl : r = false := by cases r with | false => rfl | true => exact absurd (hr.1 rfl) HO.out
  clear hr
  go_wp2
  go_ret2
  exact ⟨rfl, hb⟩

/-- A row that a list's text lays. -/
theorem Blk.lit1 (w : World) (x : Int) : Blk (w.alloc (.cells #[.int .u64 x] 23)) w.heap.size [x] := heap_alloc_new w _
theorem Blk.lit2 (w : World) (x y : Int) : Blk (w.alloc (.cells #[.int .u64 x, .int .u64 y] 23)) w.heap.size [x, y] := heap_alloc_new w _

set_option maxRecDepth 100000 in
set_option maxHeartbeats 1000000 in
theorem cThroughOK (a : Option Addr) (n c : Nat) (l : List (Int × Int)) (w : World) (h : RdS w a n c l) (hn : n ≤ 40) (ho : okk l n) :
    Calls Try.prog 71 #[.slice a n c] w fun e w' => ∃ S g, e = .returned (.tuple #[.slice (some ⟨g, 0, none⟩) (tl S n) n, .int .i64 0]) ∧ S.length = n ∧ (∀ x ∈ S, 0 ≤ x ∧ x ≤ 2147483646) ∧
      (∀ j, j < n → nm (ev S (l.getD j (0, 0)).1) = nm (l.getD j (0, 0)).2) ∧ Rd w' (some ⟨g, 0, none⟩) (tl S n) n (trm S) ∧ Below w.heap.size w w' := by
  obtain ⟨i0, hi, hz0, hz1, hz2⟩ := info_parts info23
  have HO : Hid (okk l n) := ho
  clear ho
  have hlen := h.len
  go_enter Try.func71, Try.ntmps71
  go_wp2_with fail
  refine (cPlaced _ _ _ _ _ h (by omega)).mono ?_
  rintro e w1 ⟨r, rfl, hr, hb1⟩
  obtain rfl : r = true := hr.2 HO.out
  clear hr
  have hs1 := hb1.size
  go_wp2_with (at_make; refine wpList_make_full _ rfl _ _ 24 rfl w1.heap.size 23 i0 (.int .u64 0) 1 Try.underlying24 hi hz0 hz1 .i64 .i64 _ _ n rfl rfl (by omega) (by omega) (by rw [hz2]; omega) (by unfold maxLen; omega) (Nat.le_refl _) ?_; intro w2 hown hgrow)
  have hB2 : Blk w2 w1.heap.size (List.replicate n 0) := Blk.made hown
  have hb2 : Below w1.heap.size w1 w2 := (Below.refl _ _).grown hgrow (Nat.le_refl _) (by simp)
  have hb12 : Below w.heap.size w w2 := hb1.trans (hb2.mono hs1)
  clear hown hgrow
  obtain ⟨g1, hg1⟩ : ∃ g1, g1 = w1.heap.size := ⟨_, rfl⟩
  rw [← hg1] at hB2 hs1 ⊢
  clear hg1 hb2 hb1
  have hgl := hB2.lt
  go_loopw [5, 24] (fun z i wr => ∃ (k : Nat) (S Z : List Int) (gz : Nat), k ≤ n ∧ i = .int .i64 k ∧ z = .slice (some ⟨gz, 0, none⟩) (k + 1) (k + 1) ∧ Hid (NwI l n k S Z) ∧ Blk wr g1 S ∧ Blk wr gz Z ∧ gz ≠ g1 ∧ Below w.heap.size w wr) (fun _ i _ => n - (intOf i).toNat)
  case atStart => exact ⟨0, _, _, _, Nat.zero_le _, rfl, rfl, nw_start l n, hB2.below ((Below.refl _ _).alloc (Nat.le_refl _) _) hgl, Blk.lit1 _ _, by omega, hb12.alloc (hb12.size) _⟩
  case round =>
    obtain ⟨k, S, Z, gz, hk, rfl, rfl, HI, hbs, hbz, hne, hbel⟩ := hrel
    have hls := HI.out.ls
    have hlz := HI.out.lz
    have HBS : Hid (∀ x ∈ S, 0 ≤ x ∧ x ≤ 2147483646) := HI.out.bs
    have HBZ : Hid (∀ x ∈ Z, 0 ≤ x ∧ x ≤ 2147483646) := HI.out.bz
    by_cases hlt : k < n
    · obtain ⟨b, o, x, y, rfl, hbb, HX, HY, hx0, hx1, hy0, hy1, hcx, hcy⟩ := (h.below hbel).one hlt
      have hxo := (HO.out k hlt).1
      rw [HX.out] at hxo
      have hxo1 := hxo.1
      have hxo2 := hxo.2
      have HE : Hid (nm (nm (ev Z x)) ≠ 0) := by rw [nm_nm, ← HX.out]; exact HI.out.z1 k (Nat.le_refl _) hlt
      have hnS := nm_bd (ev S x)
      have hnZ := nm_bd (ev Z x)
      have hnL := nm_bd (y - nm (ev S x))
      have hiv := iv_bd (nm (ev Z x))
      have hnX := nm_bd (-x)
      have hbA : Below wr.heap.size wr (wr.alloc (.cells #[.int .i64 x, .int .u64 y] 88)) := (Below.refl _ _).alloc (Nat.le_refl _) _
      have hcA0 := cell_alloc0 wr (.int .i64 x) (.int .u64 y) 88
      have hcA1 := cell_alloc1 wr (.int .i64 x) (.int .u64 y) 88
      go_wp2
      generalize hW : wr.alloc (.cells #[.int .i64 x, .int .u64 y] 88) = W at *
      clear hW
      have hbelW : Below w.heap.size w W := hbel.trans (hbA.mono hbel.size)
      have hbsW := hbs.below hbA hbs.lt
      have hbzW := hbz.below hbA hbz.lt
      have rS : Rd W (some ⟨g1, 0, none⟩) n n S := hbsW.whole n hls.symm (by unfold maxLen; omega) (bd_u64 HBS.out)
      have rZ : Rd W (some ⟨gz, 0, none⟩) (k + 1) (k + 1) Z := hbzW.whole (k + 1) hlz.symm (by unfold maxLen; omega) (bd_u64 HBZ.out)
      clear hbA hbs hbz hbel hcx hcy
      go_quiet ((first | (go_at_call 82; exact Calls.quiet_of (cValueQ _ _ _ _ _ _ (rS.drewN _) (by omega) (by omega))) | (go_at_call 33; exact Calls.quiet_of_same (fSub _ _ _ (by omega) (by omega) (by omega) (by omega)))))
      go_wp2_with fail
      refine (cValueQ _ _ _ _ _ _ (rZ.drewN _) (by omega) (by omega)).mono ?_
      rintro e w3 ⟨rfl, q3, rfl⟩
      go_wp2_with fail
      refine (fInv1 _ _ (by omega) (by omega) HE.out).mono ?_
      rintro e w3 ⟨rfl, rfl⟩
      obtain ⟨t, HT⟩ : ∃ t, Hid (t = nm (nm (y - nm (ev S x)) * iv (nm (ev Z x)))) := ⟨_, rfl⟩
      have hnt : 0 ≤ t ∧ t ≤ 2147483646 := by rw [HT.out]; exact nm_bd _
      have HI2 : Hid (NwI l n (k + 1) (addAt S 0 Z t (k + 1)) (cvl Z [nm (-x), 1])) := nw_step HI.out hlt HO.out HX.out HY.out HT.out
      go_wp2_with (go_at_call 32; refine (fMul _ _ _ (by omega) (by omega) (by omega) (by omega)).mono ?_; rintro e w3 ⟨he, rfl⟩; rw [← HT.out] at he; subst he)
      refine (cAddTimes _ _ _ _ _ _ _ _ _ _ _ (by exact hbsW) (bd_u64 HBS.out) (rZ.drewN _) (fun x hx => by obtain rfl := Option.some.inj hx; exact hne) (by omega) (by omega) (by omega) (by omega) (by omega)).mono ?_
      rintro e w4 ⟨rfl, hb4, hg4⟩
      have hz4 : Blk w4 gz Z := Blk.grown (by exact hbzW) hg4 (by simpa using hne)
      have hbel4 : Below w.heap.size w w4 := below_grown (drewN_below hbelW _) hg4 hs1
      have hbB : Below w4.heap.size w4 (w4.alloc (.cells #[.int .u64 (nm (-x)), .int .u64 1] 23)) := (Below.refl _ _).alloc (Nat.le_refl _) _
      have hp4 := Blk.lit2 w4 (nm (-x)) 1
      clear hbelW hbsW hbzW rS rZ hg4 hcA0 hcA1
      go_wp2_with (go_at_call 33; refine (fSub _ _ _ (by omega) (by omega) (by omega) (by omega)).mono ?_; rintro e w3 ⟨rfl, hw⟩; have hw := hw.symm; subst hw)
      generalize hW5 : w4.alloc (.cells #[.int .u64 (nm (-x)), .int .u64 1] 23) = W5 at *
      have hs5 : w4.heap.size < W5.heap.size := hp4.lt
      clear hW5
      have hbel5 : Below w.heap.size w W5 := hbel4.trans (hbB.mono hbel4.size)
      have hz5 := hz4.below hbB hz4.lt
      have hb5 := hb4.below hbB hb4.lt
      have hl5 := hb5.lt
      have rZ5 : Rd W5 (some ⟨gz, 0, none⟩) (k + 1) (k + 1) Z := hz5.whole (k + 1) hlz.symm (by unfold maxLen; omega) (bd_u64 HBZ.out)
      have rP5 : Rd W5 (some ⟨w4.heap.size, 0, none⟩) 2 2 [nm (-x), 1] := hp4.whole 2 rfl (by unfold maxLen; omega) (by
        intro u hu
        simp only [List.mem_cons, List.not_mem_nil, or_false] at hu
        rcases hu with rfl | rfl <;> omega)
      refine (cProduct _ _ _ _ _ _ _ _ _ rZ5 rP5 (by omega) (by omega) (by omega) (by omega)).mono ?_
      rintro e w6 ⟨rfl, hb6, hbel6⟩
      have hs6 := hb5.below hbel6 hb5.lt
      have hbel7 := hbel5.trans (hbel6.mono hbel5.size)
      clear hbel6 hbel5 hz5 hb5 rZ5 rP5 hp4 hz4 hb4 hbB hbel4
      go_wp2
      go_roundw
      case rel => exact ⟨k + 1, _, _, _, by omega, by go_num, rfl, HI2, hs6, hb6, by omega, hbel7⟩
      case measure => simp [intOf]; omega
    · have hkn : k = n := by omega
      subst hkn
      have rS : Rd wr (some ⟨g1, 0, none⟩) k k S := hbs.whole k hls.symm (by unfold maxLen; omega) (bd_u64 HBS.out)
      go_wp2_with (go_at_call 85; refine (cTrim _ _ _ _ _ rS).mono ?_; rintro e w' ⟨rfl, hw⟩; have hw := hw.symm; subst hw)
      go_ret2
      refine ⟨S, g1, rfl, hls, HBS.out, HI.out.s, ?_, hbel⟩
      have ht := tl_le S k
      have := hbs.rd 0 (tl S k) k ht (by unfold maxLen; omega) (by omega) (bd_u64 HBS.out)
      rw [List.drop_zero] at this
      have e : trm S = S.take (tl S k) := by unfold trm; rw [hls]
      rw [e]
      exact this
end Go.Proofs.Ytgmelcdgnjcojac
