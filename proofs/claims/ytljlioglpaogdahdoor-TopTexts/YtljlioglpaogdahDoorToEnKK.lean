/- solve.rests. · Lists of rows that a law gathers. · twine.starts: lists of two-cell elements that are made and then written. · The parties' open. · The parties' reckon: a gate of which nothing is seen. · The parties' reckon: a sum. · The parties' reckon: a difference. · The parties' reckon: a product. · The parties' reckon: a multiple. · The parties' reckon: an input. · The parties' reckon: a number. -/
import Derived.Test.YtljlioglpaogdahDoorToMxC
import Derived.Test.YtljlioglpaogdahDoorToThroughC
import Derived.Test.YtljlioglpaogdahDoorToWhoseC
import Derived.Test.YtljlioglpaogdahDoorSlice
import Derived.Test.YtljlioglpaogdahDoorToGtDef
import Derived.Test.YtljlioglpaogdahDoorToCrewC
import Derived.Test.YtljlioglpaogdahDoorProg
import Derived.Test.YtljlioglpaogdahDoorToReadP
import Derived.Test.YtljlioglpaogdahDoorMath
import Derived.Deep.RegionHeld3
import Derived.Deep.AppendLies
import Derived.Deep.RegionLaw
import Derived.WalkKit
import Derived.WalkSpells
import Derived.WalkLawsBesides
import Derived.Test.YtljlioglpaogdahDoorToGateWC
namespace Go.Proofs.YtljlioglpaogdahDoor
set_option linter.unusedVariables false
set_option maxRecDepth 100000
set_option maxHeartbeats 8000000
section
open Crm Go.RowKit
/-- Of the list in row gl the first i rows are made. -/
structure Mp (w : World) (lo gl n W i : Nat) (G : Nat → Nat) (M : Nat → List Int) : Prop where
  lst : ∃ cur : Array Value, w.heap[gl]? = some (.cells cur 26 (0, 0)) ∧ cur.size = n ∧ ∀ r, r < i → cur[r]? = some (.slice (some ⟨G r, 0, none⟩) W W)
  gb : lo ≤ gl
  rng : ∀ r, r < i → lo ≤ G r ∧ G r < w.heap.size ∧ G r ≠ gl
  inj : ∀ r s, r < i → s < i → G r = G s → r = s
  row : ∀ r, r < i → Blk w (G r) (M r)
  wid : ∀ r, r < i → (M r).length = W
  bd : ∀ r, r < i → ∀ x ∈ M r, 0 ≤ x ∧ x ≤ 2147483646
theorem Mp.lt {w : World} {lo gl n W i : Nat} {G : Nat → Nat} {M : Nat → List Int} (h : Mp w lo gl n W i G M) : gl < w.heap.size := by
  obtain ⟨cur, h1, _⟩ := h.lst
  exact (Array.getElem?_eq_some_iff.1 h1).1
theorem Mp.frozen {w : World} {lo gl n W i : Nat} {G : Nat → Nat} {M : Nat → List Int} (h : Mp w lo gl n W i G M) (r : Nat) : w.frozen? ⟨gl, r, none⟩ = false := by
  obtain ⟨cur, h1, h2, h3⟩ := h.lst
  exact frozen_of_row w gl r _ _ h1
theorem Mp.grown {w : World} {lo gl n W i : Nat} {G : Nat → Nat} {M : Nat → List Int} (h : Mp w lo gl n W i G M) {w' : World} (hg : w.grownBy w' none) : Mp w' lo gl n W i G M := by
  refine ⟨?_, h.gb, fun r hr => ⟨(h.rng r hr).1, Nat.lt_of_lt_of_le (h.rng r hr).2.1 hg.size, (h.rng r hr).2.2⟩, h.inj, fun r hr => (h.row r hr).grown hg (by simp), h.wid, h.bd⟩
  obtain ⟨cur, h1, h2⟩ := h.lst
  exact ⟨cur, by rw [hg.block gl (Array.getElem?_eq_some_iff.1 h1).1 (by simp)]; exact h1, h2⟩
/-- Row i is put in its place: g, which has just been made and then been filled. -/
theorem Mp.next {w : World} {lo gl n W i : Nat} {G : Nat → Nat} {M : Nat → List Int} (h : Mp w lo gl n W i G M) {g : Nat} {w1 w2 : World} {A : List Int} (hi : i < n) (h0 : w.grownBy w1 none) (hgg : w.heap.size ≤ g) (hg1 : g < w1.heap.size) (hg2 : (w1.setCell ⟨gl, i, none⟩ (.slice (some ⟨g, 0, none⟩) W W)).grownBy w2 (some g)) (hlo : lo ≤ g) (hA : Blk w2 g A) (hl : A.length = W) (hb : ∀ x ∈ A, 0 ≤ x ∧ x ≤ 2147483646) :
    Mp w2 lo gl n W (i + 1) (fun r => if r = i then g else G r) (fun r => if r = i then A else M r) := by
  have hgl := h.lt
  have h' := h.grown h0
  have hs2 : w1.heap.size ≤ w2.heap.size := by have := hg2.size; simpa using this
  refine ⟨?_, h.gb, fun r hr => ?_, fun r s hr hs e => ?_, fun r hr => ?_, fun r hr => ?_, fun r hr => ?_⟩
  · obtain ⟨cur, h1, h2, h3⟩ := h'.lst
    refine ⟨cur.setIfInBounds i (.slice (some ⟨g, 0, none⟩) W W), ?_, by simpa using h2, fun r hr => ?_⟩
    · rw [hg2.block gl (by simpa using h'.lt) (by simp; omega)]
      exact heap_setCell_same w1 gl i _ _ _ h1
    · rw [Array.getElem?_setIfInBounds]
      by_cases e : i = r
      · subst e; simp [h2, hi]
      · rw [if_neg e, h3 r (by omega), if_neg (fun e2 => e e2.symm)]
  · by_cases e : r = i
    · simp only [if_pos e]; exact ⟨hlo, by omega, by omega⟩
    · simp only [if_neg e]
      have := h'.rng r (by omega)
      exact ⟨this.1, by omega, this.2.2⟩
  · by_cases e1 : r = i
    · by_cases e2 : s = i
      · omega
      · simp only [if_pos e1, if_neg e2] at e
        have := h.rng s (by omega); omega
    · by_cases e2 : s = i
      · simp only [if_neg e1, if_pos e2] at e
        have := h.rng r (by omega); omega
      · simp only [if_neg e1, if_neg e2] at e
        exact h.inj r s (by omega) (by omega) e
  · by_cases e : r = i
    · simp only [if_pos e]; exact hA
    · simp only [if_neg e]
      have hr2 := h.rng r (by omega)
      have hb1 := h'.row r (by omega)
      unfold Blk at hb1 ⊢
      rw [hg2.block _ (by simp; have := h'.rng r (by omega); omega) (by simp; omega), heap_setCell_other _ _ _ _ (by simpa using hr2.2.2)]
      exact hb1
  · by_cases e : r = i
    · simp only [if_pos e]; exact hl
    · simp only [if_neg e]; exact h.wid r (by omega)
  · by_cases e : r = i
    · simp only [if_pos e]; exact hb
    · simp only [if_neg e]; exact h.bd r (by omega)
end
section
open Go.RowKit
structure Lst (w : World) (B m W : Nat) (v : Value) (bs : List Value) (BB : List (List Int)) : Prop where
  own : w.ownsRow B 26 1 v m bs
  lb : BB.length = m
  row : ∀ q, q < m → ∃ g c, bs[q]? = some (.slice (some ⟨g, 0, none⟩) W c) ∧ g < w.heap.size ∧ v.ownBlock ≠ some g ∧ (BB.getD q []).length = W ∧ Rd w (some ⟨g, 0, none⟩) W c (BB.getD q [])

theorem Lst.below {w : World} {B m W : Nat} {v : Value} {bs : List Value} {BB : List (List Int)} (h : Lst w B m W v bs BB) {w' : World} (hb : Below w.heap.size w w') : Lst w' B m W v bs BB :=
  ⟨own_below h.own hb, h.lb, fun q hq => by
    obtain ⟨g, c, h1, h2, h3, h4, h5⟩ := h.row q hq
    exact ⟨g, c, h1, Nat.lt_of_lt_of_le h2 hb.size, h3, h4, h5.below hb⟩⟩
theorem Lst.len {w : World} {B m W : Nat} {v : Value} {bs : List Value} {BB : List (List Int)} (h : Lst w B m W v bs BB) : bs.length = m := by simpa using h.own.1
theorem Lst.wid {w : World} {B m W : Nat} {v : Value} {bs : List Value} {BB : List (List Int)} (h : Lst w B m W v bs BB) {q : Nat} (hq : q < m) : (BB.getD q []).length = W := by
  obtain ⟨g, c, _, _, _, h4, _⟩ := h.row q hq
  exact h4
/-- It reads as its rows. -/
theorem Lst.rdR {w : World} {B m W : Nat} {v : Value} {bs : List Value} {BB : List (List Int)} (h : Lst w B m W v bs BB) (hm : m ≤ 1000) : ∃ a c, v = .slice a m c ∧ RdR w a m c BB := by
  rcases h.own.2 with ⟨rfl, rfl⟩ | ⟨g, cap, cur, rfl, hb, hg, h1, h2, hs, ht⟩
  · exact ⟨none, 0, rfl, h.lb, Nat.le_refl _, Nat.zero_le _, fun _ => rfl, by simp⟩
  · refine ⟨_, _, rfl, h.lb, h1, h2, by simp, fun x hx i hi => ?_⟩
    obtain rfl := Option.some.inj hx
    obtain ⟨g', c', e1, e2, e3, e4, e5⟩ := h.row i hi
    refine ⟨some ⟨g', 0, none⟩, c', ?_, by rw [e4]; exact e5⟩
    rw [e4]
    exact h.own.cells (g := g) rfl i _ e1
/-- One more row. -/
theorem Lst.add {w : World} {B m W : Nat} {v : Value} {bs : List Value} {BB : List (List Int)} (h : Lst w B m W v bs BB) {w1 : World} {v' : Value} {g0 c0 : Nat} {row : List Int} (hr : Rd w (some ⟨g0, 0, none⟩) W c0 row) (hg0 : g0 < w.heap.size) (hne : v.ownBlock ≠ some g0)
    (s1 : w1.ownsRow B 26 1 v' (m + 1) (bs ++ [.slice (some ⟨g0, 0, none⟩) W c0])) (g1 : w.grownBy w1 v.ownBlock) (b1 : v'.ownBlock = v.ownBlock ∨ ∃ k, v'.ownBlock = some k ∧ w.heap.size ≤ k) :
    Lst w1 B (m + 1) W v' (bs ++ [.slice (some ⟨g0, 0, none⟩) W c0]) (BB ++ [row]) := by
  have hz := g1.size
  have hlb := h.lb
  have hlen := h.len
  have keep : ∀ g, g < w.heap.size → v.ownBlock ≠ some g → v'.ownBlock ≠ some g := fun g hg hn e => by
    rcases b1 with e1 | ⟨k, e1, hk⟩
    · exact hn (e1 ▸ e)
    · rw [e1] at e; obtain rfl := Option.some.inj e; omega
  refine ⟨s1, by simp [hlb], fun q hq => ?_⟩
  by_cases e : q < m
  · obtain ⟨g, c, h1, h2, h3, h4, h5⟩ := h.row q e
    have e2 : (BB ++ [row]).getD q [] = BB.getD q [] := by simp [List.getElem?_append_left (show q < BB.length by omega)]
    refine ⟨g, c, by rw [List.getElem?_append_left (by omega)]; exact h1, by omega, keep g h2 h3, by rw [e2]; exact h4, ?_⟩
    rw [e2]
    exact h5.grown g1 fun x hx => by obtain rfl := Option.some.inj hx; exact fun e3 => h3 e3.symm
  · have hq2 : q = m := by omega
    have e2 : (BB ++ [row]).getD q [] = row := by rw [hq2, ← hlb]; simp
    refine ⟨g0, c0, by rw [hq2, ← hlen]; simp, by omega, keep g0 hg0 hne, by rw [e2]; exact hr.len, ?_⟩
    rw [e2]
    exact hr.grown g1 fun x hx => by obtain rfl := Option.some.inj hx; exact fun e3 => hne e3.symm
end
section
open Crm Go.RowKit
theorem made2 (u v : Value) : ∀ n, (madeCells #[u, v] (n * 2)).toList = (List.replicate n ()).flatMap fun _ => [u, v]
  | 0 => by simp [madeCells]
  | n + 1 => by
    have h : ∀ m, (madeCells #[u, v] m).toList = (List.range m).map fun i => (#[u, v] : Array Value)[i % 2]! := fun m => by simp [madeCells]
    have ih := made2 u v n
    have e : (n + 1) * 2 = n * 2 + 1 + 1 := by omega
    rw [h] at ih
    rw [h, e, List.range_succ, List.range_succ, List.map_append, List.map_append, ih, List.replicate_succ', List.flatMap_append]
    have e0 : n * 2 % 2 = 0 := by omega
    have e1 : (n * 2 + 1) % 2 = 1 := by omega
    simp [e0, e1]
theorem made2_shc (n : Nat) : (madeCells (Value.agg #[.int .i64 0, .int .u64 0]).cells (n * 2)).toList = shc (List.replicate n (0, 0)) := by
  have e : (Value.agg #[.int .i64 0, .int .u64 0]).cells = #[.int .i64 0, .int .u64 0] := rfl
  rw [e, made2]
  induction n with
  | zero => rfl
  | succ n ih => rw [List.replicate_succ, List.replicate_succ, List.flatMap_cons, ih]; rfl
theorem shc_set2 : ∀ (l : List (Int × Int)) (q : Nat) (x z : Int), ((shc l).set (q * 2) (.int .i64 x)).set (q * 2 + 1) (.int .u64 z) = shc (l.set q (x, z))
  | [], q, x, z => by simp [shc]
  | p :: l, 0, x, z => rfl
  | p :: l, q + 1, x, z => by
    have := shc_set2 l q x z
    have e1 : (q + 1) * 2 = q * 2 + 1 + 1 := by omega
    rw [e1]
    show _ :: _ :: ((shc l).set (q * 2) (.int .i64 x)).set (q * 2 + 1) (.int .u64 z) = _
    rw [this]
    rfl
/-- A list of shares that is filled from its beginning on. -/
def fils (f : Nat → Int × Int) (n k : Nat) : List (Int × Int) := (List.range n).map fun i => if i < k then f i else (0, 0)
theorem fils_len (f : Nat → Int × Int) (n k : Nat) : (fils f n k).length = n := by simp [fils]
theorem fils_zero (f : Nat → Int × Int) (n : Nat) : List.replicate n (0, 0) = fils f n 0 := by
  apply List.ext_getElem?
  intro i
  by_cases hi : i < n
  · simp [fils, hi]
  · simp [fils, hi]
theorem fils_set {f : Nat → Int × Int} {n k : Nat} (v : Int × Int) (hv : v = f k) : (fils f n k).set k v = fils f n (k + 1) := by
  apply List.ext_getElem?
  intro i
  rw [List.getElem?_set]
  by_cases hi : i < n
  · by_cases e : k = i
    · subst e; simp [fils, hi, hv]
    · have : (i < k + 1) = (i < k) := by apply propext; omega
      simp [fils, hi, e, this]
  · by_cases e : k = i
    · subst e; simp [fils, hi]
    · simp [fils, hi, e]
theorem fils_full (f : Nat → Int × Int) (n : Nat) : fils f n n = (List.range n).map f := by
  unfold fils
  refine List.map_congr_left fun i hi => ?_
  rw [if_pos (List.mem_range.1 hi)]
/-- A list of other elements has turned. -/
theorem PSt.other {w wr w' : World} {gp gs n t : Nat} {vi vd : Value} {Ls : List Value} {S : List (List Int)} {vW : Value} {LW : List Value} {W : List (List Int)} {lo hi B z k : Nat} {E : TypeId} {v : Value} {xs : List Value} (h : PSt w wr gp gs n t vi vd Ls S vW LW W lo hi) (ho : wr.ownsRow B E z v k xs) (hE1 : E ≠ 42) (hE2 : E ≠ 26) (hE3 : E ≠ 66) (hB : w.heap.size ≤ B) (hg : wr.grownBy w' v.ownBlock) : PSt w w' gp gs n t vi vd Ls S vW LW W lo hi := by
  have hs := h.sen
  exact ⟨⟨hs.seen.grown hg (own_apart ho hs.seen.own hE2) (fun i hi => own_apart ho (hs.seen.row i hi) hE1), hs.len, hs.wires.grown hg (own_apart ho hs.wires.own hE2) (fun i hi => own_apart ho (hs.wires.row i hi) hE1), hs.apt, hs.out, hs.far, hs.gl, Nat.le_trans hs.hi hg.size, hs.bel.grown hg hs.bel.size (fun q hq => Nat.le_trans hB (ho.lt q hq).1)⟩, h.box.grown hg (h.box.off' ho hE3), h.low⟩
theorem own_belowE {w w' : World} {base n z : Nat} {E : TypeId} {v : Value} {xs : List Value} (h : w.ownsRow base E z v n xs) (hb : Below w.heap.size w w') : w'.ownsRow base E z v n xs :=
  h.kept (grown_below hb none) (by cases hv : v.ownBlock with
    | none => exact .inl rfl
    | some b => exact .inr (by simp))
theorem eSU : (91 : TypeId) ≠ 42 := by decide
theorem eSV : (91 : TypeId) ≠ 26 := by decide
theorem eSP : (91 : TypeId) ≠ 66 := by decide
/-- Rows that lie in a span stay. -/
def Kept (lo hi : Nat) (w w' : World) : Prop := ∀ (B2 z k : Nat) (E : TypeId) (v : Value) (xs : List Value), w.ownsRow B2 E z v k xs → Btw lo hi v → w'.ownsRow B2 E z v k xs
theorem Kept.trans {lo hi : Nat} {a b c : World} (h : Kept lo hi a b) (k : Kept lo hi b c) : Kept lo hi a c := fun B2 z q E v xs hx hv => k B2 z q E v xs (h B2 z q E v xs hx hv) hv
theorem kept_below {lo hi : Nat} {w w' : World} (hb : Below w.heap.size w w') : Kept lo hi w w' := fun _ _ _ _ _ _ hx _ => own_belowE hx hb
theorem kept_off {lo hi g : Nat} {w w' : World} (hg : w.grownBy w' (some g)) (h : hi ≤ g) : Kept lo hi w w' := fun _ _ _ _ v _ hx hv => hx.kept hg (by
  cases hb : v.ownBlock with
  | none => exact .inl rfl
  | some b =>
    right
    intro e
    have := hv b hb
    have := Option.some.inj e
    omega)

theorem eOpen {G : List Gt} {n t : Nat} {ins ds : List Int} {w W0 : World} {gp gs N po lo hh c : Nat} {vi vd vW : Value} {Ls LW : List Value} {a : Option Addr} {S : Nat → List Int} (h : PSt w W0 gp gs n t vi vd Ls (sgx S (fun _ => ew G n t ins ds po) n 0) vW LW (ewr G n t ins ds N) lo hh)
    (hpo : po < N) (ea : LW.getD po (.slice none 0 0) = .slice a n c) (hG : okG G N) (hS : ∀ j, (S j).length ≤ 5000) (hn : 2 * t + 1 ≤ n) (hn9 : n ≤ 9) :
    Calls Tryd.prog 24 #[.pointer (some ⟨gp, 0, none⟩), .slice a n c] W0 fun e w' => e = .returned (.int .u64 (wi G ins po)) ∧ (∃ Ls', PSt w w' gp gs n t vi vd Ls' (sgx S (fun _ => ew G n t ins ds po) n n) vW LW (ewr G n t ins ds N) lo hh) ∧ Kept lo hh W0 w' := by
  obtain ⟨i0, hi0, hz0, hz1, hz2⟩ := info_parts infoSh
  obtain ⟨P, hPl, hPe, hPv⟩ := ew_poly (ins := ins) (ds := ds) hG hn hn9 po hpo
  have HPl : Hid (P.length ≤ t + 1) := hPl
  have HPe : Hid (ew G n t ins ds po = dl P n) := hPe
  have HPv : Hid (nm (ev P 0) = wi G ins po) := hPv
  have HS : Hid (∀ j, (S j).length ≤ 5000) := hS
  have r0 := h.row hpo ea
  have hcap := r0.cap
  have hmax := r0.max
  unfold maxLen at hmax
  have hhi := h.sen.hi
  have hww := h.sen.bel.size
  obtain ⟨F, HF⟩ : ∃ F : Nat → Int × Int, Hid ((fun r : Nat => ((r : Int) + 1, (ew G n t ins ds po).getD r 0)) = F) := ⟨_, rfl⟩
  clear hPl hPe hPv hS hG r0
  go_enter Tryd.func24, Tryd.ntmps24
  go_wp2_with (at_make; refine wpList_make_full _ rfl _ _ 89 rfl W0.heap.size 91 i0 (.agg #[.int .i64 0, .int .u64 0]) 2 Tryd.underlying89 hi0 hz0 hz1 .i64 .i64 _ _ n rfl rfl (by omega) (by omega) (by rw [hz2]; omega) (by unfold maxLen; omega) (Nat.le_refl _) ?_; intro w1 hown hgrow; rw [made2_shc, fils_zero F] at hown; have hb1 : Below W0.heap.size W0 w1 := (Below.refl _ _).grown hgrow (Nat.le_refl _) (by simp); clear hgrow)
  have hP1 := h.below hb1
  have hP2 := h.fresh (by omega) hb1
  have HK1 : Hid (Kept lo hh W0 w1) := kept_below hb1
  have HBs : Hid (Btw W0.heap.size w1.heap.size (.slice (some ⟨W0.heap.size, 0, none⟩) n n)) := fun b hb => hown.lt b hb
  obtain ⟨H1, HH1⟩ : ∃ H1, Hid (w1.heap.size = H1) := ⟨_, rfl⟩
  rw [HH1.out] at hP2 HBs
  clear hb1 h
  go_loopw [15] (fun s wq => ∃ (k : Nat) (Ls : List Value), k ≤ n ∧ s = .int .i64 k ∧ PSt w wq gp gs n t vi vd Ls (sgx S (fun _ => ew G n t ins ds po) n k) vW LW (ewr G n t ins ds N) lo hh ∧ PSt w wq gp gs n t vi vd Ls (sgx S (fun _ => ew G n t ins ds po) n k) vW LW (ewr G n t ins ds N) W0.heap.size H1 ∧ wq.ownsRow W0.heap.size 91 2 (.slice (some ⟨W0.heap.size, 0, none⟩) n n) n (shc (fils F n k)) ∧ Hid (Kept lo hh W0 wq)) (fun s _ => n - (intOf s).toNat)
  case atStart => exact ⟨0, Ls, Nat.zero_le _, rfl, hP1, hP2, hown, HK1⟩
  case round =>
    clear hP1 hP2 hown HK1
    obtain ⟨k, Ls, hk, rfl, hP, hP2, hown, HK⟩ := hrel
    by_cases hkn : k < n
    · have r6 := hP.row hpo ea
      obtain ⟨b6, o6, y, rfl, hb6, HY, hy0, hy1, hcy⟩ := r6.one hkn
      have hFk : ((k : Int) + 1, y) = F k := by rw [← HF.out]; show _ = ((k : Int) + 1, _); rw [HY.out]
      obtain ⟨d0, d1⟩ := sh_cell hown (fils_len F n k) hkn
      have ef0 := own_frozen2 hown (k * 2)
      have ef1 := own_frozen2 hown (k * 2 + 1)
      have hgl := (own_at2 hown (by omega)).choose_spec
      have hgW : W0.heap.size < wr.heap.size := (hown.lt _ rfl).2
      have hown8 := own_set2 (own_set2 hown (k * 2) (.int .i64 ((k : Int) + 1))) (k * 2 + 1) (.int .u64 y)
      rw [shc_set2, fils_set ((k : Int) + 1, y) hFk] at hown8
      have hgB : wr.grownBy ((wr.setCell ⟨W0.heap.size, k * 2, none⟩ (.int .i64 ((k : Int) + 1))).setCell ⟨W0.heap.size, k * 2 + 1, none⟩ (.int .u64 y)) (some W0.heap.size) := grown_trans (grown_set _ _ _ _) (grown_set _ _ _ _)
      have hPB := hP.other hown eSU eSV eSP hww hgB
      have hPB2 := hP2.other hown eSU eSV eSP hww hgB
      have HKB : Hid (Kept lo hh W0 ((wr.setCell ⟨W0.heap.size, k * 2, none⟩ (.int .i64 ((k : Int) + 1))).setCell ⟨W0.heap.size, k * 2 + 1, none⟩ (.int .u64 y))) := HK.out.trans (kept_off hgB hhi)
      clear hP hP2 hown hgB hgl HK
      go_upto_region 6 with fail
      generalize (wr.setCell ⟨W0.heap.size, k * 2, none⟩ (.int .i64 ((k : Int) + 1))).setCell ⟨W0.heap.size, k * 2 + 1, none⟩ (.int .u64 y) = wB at *
      clear d0 d1 ef0 ef1 hcy hb6 r6
      go_wp2_with fail
      refine (eSee hPB hkn (hPB.row hpo ea) (by omega) (by omega) (HS.out k)).mono ?_
      rintro e w8 ⟨rfl, hs⟩
      obtain ⟨⟨Ls', hP', hP2'⟩, hkeep, hkeep2⟩ := hPB.seen2 hPB2 hkn hs
      have ho' := hkeep2 _ _ _ _ _ _ hown8 HBs.out
      have HK' : Hid (Kept lo hh W0 w8) := HKB.out.trans hkeep
      clear hPB hPB2 hown8 HKB hs hkeep hkeep2
      go_wp2
      go_roundw
      case rel => exact ⟨k + 1, Ls', by omega, by go_num, hP', hP2', ho', HK'⟩
      case measure => simp [intOf]; omega
    · have hkn2 : k = n := by omega
      subst hkn2
      rw [fils_full, ← HF.out] at hown
      have hown2 : wr.ownsRow W0.heap.size 91 2 (.slice (some ⟨W0.heap.size, 0, none⟩) k k) k (shc (shl (ew G k t ins ds po) k)) := hown
      obtain ⟨a7, c7, e7, hR⟩ := RdS.own hown2 (shl_len _ _) (fun i hi => by
        rw [shl_getD _ hi]
        have := getD_bd (bd_u64 (ew_bd G k t ins ds po)) i
        exact ⟨⟨by simp only; omega, by simp only; omega⟩, this⟩)
      simp only [Value.slice.injEq, true_and] at e7
      obtain ⟨rfl, rfl⟩ := e7
      obtain ⟨_, f1, _, _, _, _⟩ := hP.box.cells
      have hlp := hP.box.lt
      clear hown hown2 hP2
      go_wp2_with fail
      refine (cOpenS _ _ _ _ _ _ hR).mono ?_
      rintro e w9 ⟨x, r, rfl, hO, hb9⟩
      obtain ⟨rfl, rfl⟩ := shl_open hn9 (show t ≤ 4 by omega) (by omega) HPl.out (fun i hi => by rw [HPe.out, dl_getD P hi]; rfl) hO
      rw [HPv.out]
      have hP9 := hP.below hb9
      have HK9 : Hid (Kept lo hh W0 w9) := HK.out.trans (kept_below hb9)
      clear hP hO hb9 hR f1 hlp
      go_wp2
      go_ret
      exact ⟨rfl, ⟨Ls, hP9⟩, HK9.out⟩
/-- A gate of which nothing is seen. -/
theorem PSt.quiet {G : List Gt} {n t : Nat} {ins ds : List Int} {w wr w' : World} {gp gs i q d lo hi : Nat} {vi vd vW u : Value} {Ls LW : List Value} (h : PSt w wr gp gs n t vi vd Ls (sgl G n t ins ds i) vW LW (ewr G n t ins ds i) lo hi) (hvi : Lft w ins q (ci G i) vi) (hvd : Lft w ds d (dwn G n t i) vd) (hn : 0 < n) (hb : Below wr.heap.size wr w') (h1 : (gt G i).k ≠ 1) (h5 : (gt G i).k ≠ 5)
    (ho : w'.ownsRow wr.heap.size 42 1 u n ((ew G n t ins ds i).map (Value.int .u64))) : Pgt G n t ins ds q d w gp gs i vW LW u w' := by
  have hS := h.fresh hn hb
  rw [← sgl_same h1 h5] at hS
  refine ⟨vi, vd, Ls, _, _, hS, by rw [ci_no h1]; exact hvi, ?_, own_baseV ho h.sen.bel.size, fun b hb => ho.lt b hb, fun p b hb => (h.sen.wires.blk p b hb).2⟩
  rw [dwn, if_neg h1, if_neg h5, Nat.add_zero]
  exact hvd
/-- A wire, where it lies. -/
theorem PSt.wire {G : List Gt} {n t : Nat} {ins ds : List Int} {w wr : World} {gp gs i lo hi p cW : Nat} {vi vd : Value} {aW : Option Addr} {Ls : List Value} {S : List (List Int)} {LW : List Value} (h : PSt w wr gp gs n t vi vd Ls S (.slice aW i cW) LW (ewr G n t ins ds i) lo hi) (hp : p < i) :
    ∃ gW a c, aW = some ⟨gW, 0, none⟩ ∧ gW < wr.heap.size ∧ wr.cell? ⟨gW, p, none⟩ = some (.slice a n c) ∧ LW.getD p (.slice none 0 0) = .slice a n c ∧ Rd wr a n c (ew G n t ins ds p) := by
  have ho := h.sen.wires.own
  rw [ewr_len] at ho
  obtain ⟨gW, u, rfl, _, _, _, _⟩ := own_at ho hp
  obtain ⟨e1, _, e3⟩ := h.sen.wires.cell (ewr_len G n t ins ds i) hp
  obtain ⟨a, c, e4, hr⟩ := h.sen.wires.one (ewr_len G n t ins ds i) hp (by rw [ewr_getD G n t ins ds hp]; exact bd_u64 (ew_bd _ _ _ _ _ _))
  rw [ewr_getD G n t ins ds hp, ew_len] at e4 hr
  exact ⟨gW, a, c, rfl, e3, by rw [e1, e4], e4, hr⟩
theorem eRkAdd {G : List Gt} {n t : Nat} {ins ds : List Int} {w wr : World} {gp gs i q d lo hh cW pa pb : Nat} {vi vd : Value} {aW : Option Addr} {Ls LW : List Value} {z : Int} (h : PSt w wr gp gs n t vi vd Ls (sgl G n t ins ds i) (.slice aW i cW) LW (ewr G n t ins ds i) lo hh)
    (hvi : Lft w ins q (ci G i) vi) (hvd : Lft w ds d (dwn G n t i) vd) (HGi : Hid (gt G i = ⟨3, pa, pb, z⟩)) (hpa : pa < i) (hpb : pb < i) (hn : 2 * t + 1 ≤ n) (hn9 : n ≤ 9) :
    Calls Tryd.prog 23 #[.pointer (some ⟨gp, 0, none⟩), .agg #[.int .i64 3, .int .i64 (pa : Int), .int .i64 (pb : Int), .int .u64 z]] wr fun e w' => ∃ u, e = .returned u ∧ Pgt G n t ins ds q d w gp gs i (.slice aW i cW) LW u w' := by
  have hbA : Below wr.heap.size wr (wr.alloc (.cells #[.int .i64 3, .int .i64 (pa : Int), .int .i64 (pb : Int), .int .u64 z] 52)) := (Below.refl _ _).alloc (Nat.le_refl _) _
  obtain ⟨q1, q2, q3, q4⟩ := gate_box wr 3 pa pb z 52
  have hltA : wr.heap.size < (wr.alloc (.cells #[.int .i64 3, .int .i64 (pa : Int), .int .i64 (pb : Int), .int .u64 z] 52)).heap.size := by simp
  have hPA := h.below hbA
  obtain ⟨gW, a1, c1, rfl, hgW, e1, _, r1⟩ := hPA.wire hpa
  obtain ⟨gW', a2, c2, e', _, e2, _, r2⟩ := hPA.wire hpb
  simp only [Option.some.injEq, Addr.mk.injEq, and_true] at e'
  subst e'
  obtain ⟨_, _, _, _, f4, _⟩ := hPA.box.cells
  have hlp := hPA.box.lt
  have HE : Hid (ew G n t ins ds i = mxl (ew G n t ins ds pa) (ew G n t ins ds pb) 1 1 0 n) := ew_add (by rw [HGi.out]) (by rw [HGi.out]) hpa (by rw [HGi.out]) hpb
  have HW2 : Hid (Wr2 n n) := ⟨⟨by omega, hn9⟩, rfl⟩
  have hpa0 : (0 : Int) ≤ (pa : Int) := by omega
  have hpai : (pa : Int) < (i : Int) := by omega
  have hpb0 : (0 : Int) ≤ (pb : Int) := by omega
  have hpbi : (pb : Int) < (i : Int) := by omega
  go_enter Tryd.func23, Tryd.ntmps23
  go_upto_region 7 with fail
  generalize wr.alloc (.cells #[.int .i64 3, .int .i64 (pa : Int), .int .i64 (pb : Int), .int .u64 z] 52) = W at *
  have HF : Hid (∀ u w', w'.ownsRow W.drew.heap.size 42 1 u n ((mxl (ew G n t ins ds pa) (ew G n t ins ds pb) 1 1 0 n).map (Value.int .u64)) → Below W.drew.heap.size W.drew w' → Pgt G n t ins ds q d w gp gs i (.slice (some ⟨gW, 0, none⟩) i cW) LW u w') := fun u w' ho hb => by
    rw [← HE.out] at ho
    exact hPA.drew.quiet hvi hvd (by omega) hb (by rw [HGi.out]; simp) (by rw [HGi.out]; simp) ho
  clear h hPA
  have HALL : Hid (∀ w', Below W.drew.heap.size W.drew w' → w'.cell? ⟨gp, 4, none⟩ = some (.slice (some ⟨gW, 0, none⟩) i cW) ∧ w'.cell? ⟨wr.heap.size, 1, none⟩ = some (.int .i64 (pa : Int)) ∧ w'.cell? ⟨wr.heap.size, 2, none⟩ = some (.int .i64 (pb : Int)) ∧ w'.cell? ⟨gW, pa, none⟩ = some (.slice a1 n c1) ∧ w'.cell? ⟨gW, pb, none⟩ = some (.slice a2 n c2) ∧ gp < w'.heap.size ∧ wr.heap.size < w'.heap.size ∧ gW < w'.heap.size) := fun w' hb => ⟨by rw [hb.cell hlp]; exact f4, by rw [hb.cell hltA]; exact q2, by rw [hb.cell hltA]; exact q3, by rw [hb.cell hgW]; exact e1, by rw [hb.cell hgW]; exact e2, Nat.lt_of_lt_of_le hlp hb.size, Nat.lt_of_lt_of_le hltA hb.size, Nat.lt_of_lt_of_le hgW hb.size⟩
  go_region_held3 (fun w' => w'.cell? ⟨gp, 4, none⟩ = some (.slice (some ⟨gW, 0, none⟩) i cW) ∧ w'.cell? ⟨wr.heap.size, 1, none⟩ = some (.int .i64 (pa : Int)) ∧ w'.cell? ⟨wr.heap.size, 2, none⟩ = some (.int .i64 (pb : Int)) ∧ w'.cell? ⟨gW, pa, none⟩ = some (.slice a1 n c1) ∧ w'.cell? ⟨gW, pb, none⟩ = some (.slice a2 n c2)) (go_keep) (first | (go_at_call 37; refine (cGAdd a1 n c1 _ a2 n c2 _ _ r1.drew r2.drew).mono ?_; rintro en w3 ⟨⟨hno, _⟩ | ⟨_, u, rfl, ho⟩, hb3⟩; exact absurd HW2.out hno; have HP := HF.out u w3 ho hb3; obtain ⟨j4, j1, j2, j5, j6, j7, j8, j9⟩ := HALL.out w3 hb3; clear ho hb3))
  all_goals
    go_wp2
    go_ret
    exact ⟨u, rfl, HP⟩
theorem eRkSub {G : List Gt} {n t : Nat} {ins ds : List Int} {w wr : World} {gp gs i q d lo hh cW pa pb : Nat} {vi vd : Value} {aW : Option Addr} {Ls LW : List Value} {z : Int} (h : PSt w wr gp gs n t vi vd Ls (sgl G n t ins ds i) (.slice aW i cW) LW (ewr G n t ins ds i) lo hh)
    (hvi : Lft w ins q (ci G i) vi) (hvd : Lft w ds d (dwn G n t i) vd) (HGi : Hid (gt G i = ⟨4, pa, pb, z⟩)) (hpa : pa < i) (hpb : pb < i) (hn : 2 * t + 1 ≤ n) (hn9 : n ≤ 9) :
    Calls Tryd.prog 23 #[.pointer (some ⟨gp, 0, none⟩), .agg #[.int .i64 4, .int .i64 (pa : Int), .int .i64 (pb : Int), .int .u64 z]] wr fun e w' => ∃ u, e = .returned u ∧ Pgt G n t ins ds q d w gp gs i (.slice aW i cW) LW u w' := by
  have hbA : Below wr.heap.size wr (wr.alloc (.cells #[.int .i64 4, .int .i64 (pa : Int), .int .i64 (pb : Int), .int .u64 z] 52)) := (Below.refl _ _).alloc (Nat.le_refl _) _
  obtain ⟨q1, q2, q3, q4⟩ := gate_box wr 4 pa pb z 52
  have hltA : wr.heap.size < (wr.alloc (.cells #[.int .i64 4, .int .i64 (pa : Int), .int .i64 (pb : Int), .int .u64 z] 52)).heap.size := by simp
  have hPA := h.below hbA
  obtain ⟨gW, a1, c1, rfl, hgW, e1, _, r1⟩ := hPA.wire hpa
  obtain ⟨gW', a2, c2, e', _, e2, _, r2⟩ := hPA.wire hpb
  simp only [Option.some.injEq, Addr.mk.injEq, and_true] at e'
  subst e'
  obtain ⟨_, _, _, _, f4, _⟩ := hPA.box.cells
  have hlp := hPA.box.lt
  have HE : Hid (ew G n t ins ds i = mxl (ew G n t ins ds pa) (ew G n t ins ds pb) 1 2147483646 0 n) := ew_sub (by rw [HGi.out]) (by rw [HGi.out]) hpa (by rw [HGi.out]) hpb
  have HW2 : Hid (Wr2 n n) := ⟨⟨by omega, hn9⟩, rfl⟩
  have hpa0 : (0 : Int) ≤ (pa : Int) := by omega
  have hpai : (pa : Int) < (i : Int) := by omega
  have hpb0 : (0 : Int) ≤ (pb : Int) := by omega
  have hpbi : (pb : Int) < (i : Int) := by omega
  go_enter Tryd.func23, Tryd.ntmps23
  go_upto_region 9 with fail
  generalize wr.alloc (.cells #[.int .i64 4, .int .i64 (pa : Int), .int .i64 (pb : Int), .int .u64 z] 52) = W at *
  have HF : Hid (∀ u w', w'.ownsRow W.drew.heap.size 42 1 u n ((mxl (ew G n t ins ds pa) (ew G n t ins ds pb) 1 2147483646 0 n).map (Value.int .u64)) → Below W.drew.heap.size W.drew w' → Pgt G n t ins ds q d w gp gs i (.slice (some ⟨gW, 0, none⟩) i cW) LW u w') := fun u w' ho hb => by
    rw [← HE.out] at ho
    exact hPA.drew.quiet hvi hvd (by omega) hb (by rw [HGi.out]; simp) (by rw [HGi.out]; simp) ho
  clear h hPA
  have HALL : Hid (∀ w', Below W.drew.heap.size W.drew w' → w'.cell? ⟨gp, 4, none⟩ = some (.slice (some ⟨gW, 0, none⟩) i cW) ∧ w'.cell? ⟨wr.heap.size, 1, none⟩ = some (.int .i64 (pa : Int)) ∧ w'.cell? ⟨wr.heap.size, 2, none⟩ = some (.int .i64 (pb : Int)) ∧ w'.cell? ⟨gW, pa, none⟩ = some (.slice a1 n c1) ∧ w'.cell? ⟨gW, pb, none⟩ = some (.slice a2 n c2) ∧ gp < w'.heap.size ∧ wr.heap.size < w'.heap.size ∧ gW < w'.heap.size) := fun w' hb => ⟨by rw [hb.cell hlp]; exact f4, by rw [hb.cell hltA]; exact q2, by rw [hb.cell hltA]; exact q3, by rw [hb.cell hgW]; exact e1, by rw [hb.cell hgW]; exact e2, Nat.lt_of_lt_of_le hlp hb.size, Nat.lt_of_lt_of_le hltA hb.size, Nat.lt_of_lt_of_le hgW hb.size⟩
  go_region_held3 (fun w' => w'.cell? ⟨gp, 4, none⟩ = some (.slice (some ⟨gW, 0, none⟩) i cW) ∧ w'.cell? ⟨wr.heap.size, 1, none⟩ = some (.int .i64 (pa : Int)) ∧ w'.cell? ⟨wr.heap.size, 2, none⟩ = some (.int .i64 (pb : Int)) ∧ w'.cell? ⟨gW, pa, none⟩ = some (.slice a1 n c1) ∧ w'.cell? ⟨gW, pb, none⟩ = some (.slice a2 n c2)) (go_keep) (first | (go_at_call 38; refine (cGSub a1 n c1 _ a2 n c2 _ _ r1.drew r2.drew).mono ?_; rintro en w3 ⟨⟨hno, _⟩ | ⟨_, u, rfl, ho⟩, hb3⟩; exact absurd HW2.out hno; have HP := HF.out u w3 ho hb3; obtain ⟨j4, j1, j2, j5, j6, j7, j8, j9⟩ := HALL.out w3 hb3; clear ho hb3))
  all_goals
    go_wp2
    go_ret
    exact ⟨u, rfl, HP⟩
theorem eRkMul {G : List Gt} {n t : Nat} {ins ds : List Int} {w wr : World} {gp gs i N q d lo hh cW pa pb : Nat} {vi vd : Value} {aW : Option Addr} {Ls LW : List Value} {z : Int} (h : PSt w wr gp gs n t vi vd Ls (sgl G n t ins ds i) (.slice aW i cW) LW (ewr G n t ins ds i) lo hh)
    (hvi : Lft w ins q (ci G i) vi) (hvd : Lft w ds d (dwn G n t i) vd) (HGi : Hid (gt G i = ⟨5, pa, pb, z⟩)) (hpa : pa < i) (hpb : pb < i) (hi : i < N) (hN : N ≤ 30) (hd : d = dwn G n t N) (hn : 2 * t + 1 ≤ n) (hn9 : n ≤ 9) :
    Calls Tryd.prog 23 #[.pointer (some ⟨gp, 0, none⟩), .agg #[.int .i64 5, .int .i64 (pa : Int), .int .i64 (pb : Int), .int .u64 z]] wr fun e w' => ∃ u, e = .returned u ∧ Pgt G n t ins ds q d w gp gs i (.slice aW i cW) LW u w' := by
  have hbA : Below wr.heap.size wr (wr.alloc (.cells #[.int .i64 5, .int .i64 (pa : Int), .int .i64 (pb : Int), .int .u64 z] 52)) := (Below.refl _ _).alloc (Nat.le_refl _) _
  obtain ⟨q1, q2, q3, q4⟩ := gate_box wr 5 pa pb z 52
  have hltA : wr.heap.size < (wr.alloc (.cells #[.int .i64 5, .int .i64 (pa : Int), .int .i64 (pb : Int), .int .u64 z] 52)).heap.size := by simp
  have hPA := h.below hbA
  obtain ⟨gW, a1, c1, rfl, hgW, e1, l1, r1⟩ := hPA.wire hpa
  obtain ⟨gW', a2, c2, e', _, e2, l2, r2⟩ := hPA.wire hpb
  simp only [Option.some.injEq, Addr.mk.injEq, and_true] at e'
  subst e'
  have hgx : (wr.alloc (.cells #[.int .i64 5, .int .i64 (pa : Int), .int .i64 (pb : Int), .int .u64 z] 52)).heap[wr.heap.size]? = some (.cells #[.int .i64 5, .int .i64 (pa : Int), .int .i64 (pb : Int), .int .u64 z] 52 (0, 0)) := heap_alloc_new wr _
  obtain ⟨_, _, _, _, f4, _⟩ := hPA.box.cells
  have hlp := hPA.box.lt
  have hpa0 : (0 : Int) ≤ (pa : Int) := by omega
  have hpai : (pa : Int) < (i : Int) := by omega
  have hpb0 : (0 : Int) ≤ (pb : Int) := by omega
  have hpbi : (pb : Int) < (i : Int) := by omega
  go_enter Tryd.func23, Tryd.ntmps23
  go_upto_region 11 with fail
  generalize wr.alloc (.cells #[.int .i64 5, .int .i64 (pa : Int), .int .i64 (pb : Int), .int .u64 z] 52) = W at *
  have hPAD := hPA.drew
  have HALL : Hid (∀ u w', Pgt G n t ins ds q d w gp gs i (.slice (some ⟨gW, 0, none⟩) i cW) LW u w' → w'.heap[wr.heap.size]? = some (.cells #[.int .i64 5, .int .i64 (pa : Int), .int .i64 (pb : Int), .int .u64 z] 52 (0, 0)) → w'.cell? ⟨gp, 4, none⟩ = some (.slice (some ⟨gW, 0, none⟩) i cW) ∧ w'.cell? ⟨wr.heap.size, 1, none⟩ = some (.int .i64 (pa : Int)) ∧ w'.cell? ⟨wr.heap.size, 2, none⟩ = some (.int .i64 (pb : Int)) ∧ w'.cell? ⟨gW, pa, none⟩ = some (.slice a1 n c1) ∧ w'.cell? ⟨gW, pb, none⟩ = some (.slice a2 n c2)) := fun u w' hp hx => by
    obtain ⟨vi', vd', Ls', lo', hi', hP', _⟩ := hp
    obtain ⟨g1, b1, d1, ee1, _, k1, m1, _⟩ := hP'.wire hpa
    obtain ⟨g2, b2, d2, ee2, _, k2, m2, _⟩ := hP'.wire hpb
    simp only [Option.some.injEq, Addr.mk.injEq, and_true] at ee1 ee2
    subst ee1 ee2
    rw [l1] at m1
    rw [l2] at m2
    refine ⟨hP'.box.cells.2.2.2.2.1, ?_, ?_, by rw [k1, m1], by rw [k2, m2]⟩
    · rw [cell_of_row w' _ 1 _ _ (0, 0) hx]; rfl
    · rw [cell_of_row w' _ 2 _ _ (0, 0) hx]; rfl
  clear h hPA r1 r2
  go_region_held3 (fun w' => w'.cell? ⟨gp, 4, none⟩ = some (.slice (some ⟨gW, 0, none⟩) i cW) ∧ w'.cell? ⟨wr.heap.size, 1, none⟩ = some (.int .i64 (pa : Int)) ∧ w'.cell? ⟨wr.heap.size, 2, none⟩ = some (.int .i64 (pb : Int)) ∧ w'.cell? ⟨gW, pa, none⟩ = some (.slice a1 n c1) ∧ w'.cell? ⟨gW, pb, none⟩ = some (.slice a2 n c2)) (go_keep) (first | (go_at_call 39; refine (eMultiply (pa := pa) (pb := pb) hPAD hvi hvd (by rw [HGi.out]) (by rw [HGi.out]) hpa (by rw [HGi.out]) hpb l1 l2 hi hN hd hn hn9 hgx (by decide) (by decide) (by decide)).mono ?_; rintro en w3 ⟨u, rfl, HP, hgx3⟩; obtain ⟨j4, j1, j2, j5, j6⟩ := HALL.out u w3 HP hgx3; clear hgx3))
  all_goals
    go_wp2
    go_ret
    exact ⟨u, rfl, HP⟩
theorem eRkScale {G : List Gt} {n t : Nat} {ins ds : List Int} {w wr : World} {gp gs i q d lo hh cW pa : Nat} {vi vd : Value} {aW : Option Addr} {Ls LW : List Value} {y z : Int} (h : PSt w wr gp gs n t vi vd Ls (sgl G n t ins ds i) (.slice aW i cW) LW (ewr G n t ins ds i) lo hh)
    (hvi : Lft w ins q (ci G i) vi) (hvd : Lft w ds d (dwn G n t i) vd) (HGi : Hid (gt G i = ⟨6, pa, y, z⟩)) (hpa : pa < i) (hz0 : 0 ≤ z) (hz1 : z ≤ 18446744073709551615) (hn : 2 * t + 1 ≤ n) (hn9 : n ≤ 9) :
    Calls Tryd.prog 23 #[.pointer (some ⟨gp, 0, none⟩), .agg #[.int .i64 6, .int .i64 (pa : Int), .int .i64 y, .int .u64 z]] wr fun e w' => ∃ u, e = .returned u ∧ Pgt G n t ins ds q d w gp gs i (.slice aW i cW) LW u w' := by
  have hbA : Below wr.heap.size wr (wr.alloc (.cells #[.int .i64 6, .int .i64 (pa : Int), .int .i64 y, .int .u64 z] 52)) := (Below.refl _ _).alloc (Nat.le_refl _) _
  obtain ⟨q1, q2, q3, q4⟩ := gate_box wr 6 pa y z 52
  have hltA : wr.heap.size < (wr.alloc (.cells #[.int .i64 6, .int .i64 (pa : Int), .int .i64 y, .int .u64 z] 52)).heap.size := by simp
  have hPA := h.below hbA
  obtain ⟨gW, a1, c1, rfl, hgW, e1, _, r1⟩ := hPA.wire hpa
  obtain ⟨_, _, _, _, f4, _⟩ := hPA.box.cells
  have hlp := hPA.box.lt
  have HE : Hid (ew G n t ins ds i = mxl (ew G n t ins ds pa) (ew G n t ins ds pa) z 0 0 n) := by unfold Hid; rw [ew_scale (by rw [HGi.out]) (by rw [HGi.out]) hpa, HGi.out]
  have HW2 : Hid (Wr1 n) := ⟨by omega, hn9⟩
  have hpa0 : (0 : Int) ≤ (pa : Int) := by omega
  have hpai : (pa : Int) < (i : Int) := by omega
  go_enter Tryd.func23, Tryd.ntmps23
  go_upto_region 13 with fail
  generalize wr.alloc (.cells #[.int .i64 6, .int .i64 (pa : Int), .int .i64 y, .int .u64 z] 52) = W at *
  have HF : Hid (∀ u w', w'.ownsRow W.drew.heap.size 42 1 u n ((mxl (ew G n t ins ds pa) (ew G n t ins ds pa) z 0 0 n).map (Value.int .u64)) → Below W.drew.heap.size W.drew w' → Pgt G n t ins ds q d w gp gs i (.slice (some ⟨gW, 0, none⟩) i cW) LW u w') := fun u w' ho hb => by
    rw [← HE.out] at ho
    exact hPA.drew.quiet hvi hvd (by omega) hb (by rw [HGi.out]; simp) (by rw [HGi.out]; simp) ho
  clear h hPA
  have HALL : Hid (∀ w', Below W.drew.heap.size W.drew w' → w'.cell? ⟨gp, 4, none⟩ = some (.slice (some ⟨gW, 0, none⟩) i cW) ∧ w'.cell? ⟨wr.heap.size, 1, none⟩ = some (.int .i64 (pa : Int)) ∧ w'.cell? ⟨wr.heap.size, 3, none⟩ = some (.int .u64 z) ∧ w'.cell? ⟨gW, pa, none⟩ = some (.slice a1 n c1) ∧ gp < w'.heap.size ∧ wr.heap.size < w'.heap.size ∧ gW < w'.heap.size) := fun w' hb => ⟨by rw [hb.cell hlp]; exact f4, by rw [hb.cell hltA]; exact q2, by rw [hb.cell hltA]; exact q4, by rw [hb.cell hgW]; exact e1, Nat.lt_of_lt_of_le hlp hb.size, Nat.lt_of_lt_of_le hltA hb.size, Nat.lt_of_lt_of_le hgW hb.size⟩
  go_region_held3 (fun w' => w'.cell? ⟨gp, 4, none⟩ = some (.slice (some ⟨gW, 0, none⟩) i cW) ∧ w'.cell? ⟨wr.heap.size, 1, none⟩ = some (.int .i64 (pa : Int)) ∧ w'.cell? ⟨wr.heap.size, 3, none⟩ = some (.int .u64 z) ∧ w'.cell? ⟨gW, pa, none⟩ = some (.slice a1 n c1)) (go_keep) (first | (go_at_call 40; refine (cGScale a1 n c1 _ z _ r1.drew hz0 hz1).mono ?_; rintro en w3 ⟨⟨hno, _⟩ | ⟨_, u, rfl, ho⟩, hb3⟩; exact absurd HW2.out hno; have HP := HF.out u w3 ho hb3; obtain ⟨j4, j1, j2, j5, j7, j8, j9⟩ := HALL.out w3 hb3; clear ho hb3))
  all_goals
    go_wp2
    go_ret
    exact ⟨u, rfl, HP⟩
theorem eRkInput {G : List Gt} {n t : Nat} {ins ds : List Int} {w wr : World} {gp gs i q d N lo hh : Nat} {vi vd vW : Value} {Ls LW : List Value} {x y z : Int} (h : PSt w wr gp gs n t vi vd Ls (sgl G n t ins ds i) vW LW (ewr G n t ins ds i) lo hh)
    (hvi : Lft w ins q (ci G i) vi) (hvd : Lft w ds d (dwn G n t i) vd) (HGi : Hid (gt G i = ⟨1, x, y, z⟩)) (hi : i < N) (hN : N ≤ 30) (hq : q = ci G N) (hd : d = dwn G n t N) (hn : 2 * t + 1 ≤ n) (hn9 : n ≤ 9) :
    Calls Tryd.prog 23 #[.pointer (some ⟨gp, 0, none⟩), .agg #[.int .i64 1, .int .i64 x, .int .i64 y, .int .u64 z]] wr fun e w' => ∃ u, e = .returned u ∧ Pgt G n t ins ds q d w gp gs i vW LW u w' := by
  have hbA : Below wr.heap.size wr (wr.alloc (.cells #[.int .i64 1, .int .i64 x, .int .i64 y, .int .u64 z] 52)) := (Below.refl _ _).alloc (Nat.le_refl _) _
  obtain ⟨q1, q2, q3, q4⟩ := gate_box wr 1 x y z 52
  have hltA : wr.heap.size < (wr.alloc (.cells #[.int .i64 1, .int .i64 x, .int .i64 y, .int .u64 z] 52)).heap.size := by simp
  have hPA := h.below hbA
  clear h q2 q3 q4
  go_enter Tryd.func23, Tryd.ntmps23
  go_upto_region 3 with fail
  generalize wr.alloc (.cells #[.int .i64 1, .int .i64 x, .int .i64 y, .int .u64 z] 52) = W at *
  go_wp2_with fail
  refine (eDeal hPA hvi hvd (by rw [HGi.out]) hi hN hq hd hn hn9).mono ?_
  rintro en w3 ⟨u, rfl, HP⟩
  clear hPA
  go_wp2
  go_ret
  exact ⟨u, rfl, HP⟩
theorem eRkConst {G : List Gt} {n t : Nat} {ins ds : List Int} {w wr : World} {gp gs i q d lo hh : Nat} {vi vd vW : Value} {Ls LW : List Value} {x y z : Int} (h : PSt w wr gp gs n t vi vd Ls (sgl G n t ins ds i) vW LW (ewr G n t ins ds i) lo hh)
    (hvi : Lft w ins q (ci G i) vi) (hvd : Lft w ds d (dwn G n t i) vd) (HGi : Hid (gt G i = ⟨2, x, y, z⟩)) (hz0 : 0 ≤ z) (hz1 : z ≤ 18446744073709551615) (hn : 2 * t + 1 ≤ n) (hn9 : n ≤ 9) :
    Calls Tryd.prog 23 #[.pointer (some ⟨gp, 0, none⟩), .agg #[.int .i64 2, .int .i64 x, .int .i64 y, .int .u64 z]] wr fun e w' => ∃ u, e = .returned u ∧ Pgt G n t ins ds q d w gp gs i vW LW u w' := by
  have hbA : Below wr.heap.size wr (wr.alloc (.cells #[.int .i64 2, .int .i64 x, .int .i64 y, .int .u64 z] 52)) := (Below.refl _ _).alloc (Nat.le_refl _) _
  obtain ⟨q1, q2, q3, q4⟩ := gate_box wr 2 x y z 52
  have hltA : wr.heap.size < (wr.alloc (.cells #[.int .i64 2, .int .i64 x, .int .i64 y, .int .u64 z] 52)).heap.size := by simp
  have hPA := h.below hbA
  obtain ⟨f0, _, _, _, _, _⟩ := hPA.box.cells
  have hlp := hPA.box.lt
  have HE : Hid (ew G n t ins ds i = List.replicate n (nm z)) := by unfold Hid; rw [ew_const (by rw [HGi.out]), HGi.out]
  have hnb := nm_bd z
  go_enter Tryd.func23, Tryd.ntmps23
  go_upto_region 5 with fail
  generalize wr.alloc (.cells #[.int .i64 2, .int .i64 x, .int .i64 y, .int .u64 z] 52) = W at *
  have hb1 : Below W.heap.size W (W.alloc (.cells #[.int .u64 (nm z)] 42)) := (Below.refl _ _).alloc (Nat.le_refl _) _
  have hPB := (hPA.below hb1).drew
  have hl1 : W.heap.size ≤ (W.alloc (.cells #[.int .u64 (nm z)] 42)).drew.heap.size := hb1.size
  have HF : Hid (∀ u w', w'.ownsRow (W.alloc (.cells #[.int .u64 (nm z)] 42)).drew.heap.size 42 1 u n ((List.replicate n (nm z)).map (Value.int .u64)) → Below (W.alloc (.cells #[.int .u64 (nm z)] 42)).drew.heap.size (W.alloc (.cells #[.int .u64 (nm z)] 42)).drew w' → Pgt G n t ins ds q d w gp gs i vW LW u w' ∧ w'.cell? ⟨gp, 0, none⟩ = some (.int .i64 (n : Int)) ∧ w'.cell? ⟨wr.heap.size, 3, none⟩ = some (.int .u64 z)) := fun u w' ho hb => by
    rw [← HE.out] at ho
    refine ⟨hPB.quiet hvi hvd (by omega) hb (by rw [HGi.out]; simp) (by rw [HGi.out]; simp) ho, ?_, ?_⟩
    · rw [hb.cell (Nat.lt_of_lt_of_le hlp hl1)]
      exact hPB.box.cells.1
    · rw [hb.cell (Nat.lt_of_lt_of_le hltA hl1)]
      show (W.alloc _).cell? _ = _
      rw [hb1.cell hltA]
      exact q4
  have HR : Hid (Rd (W.alloc (.cells #[.int .u64 (nm z)] 42)).drew (some ⟨W.heap.size, 0, none⟩) 1 1 [nm z]) := (rd_lit1 W ⟨hnb.1, by have := hnb.2; omega⟩).drew
  have hn1 : 1 ≤ n := by omega
  clear h hPA hPB
  go_region_held3 (fun w' => w'.cell? ⟨gp, 0, none⟩ = some (.int .i64 (n : Int)) ∧ w'.cell? ⟨wr.heap.size, 3, none⟩ = some (.int .u64 z)) (go_keep) (first | (go_at_call 29; refine (fNorm z _ hz0 hz1).mono ?_; rintro en w3 ⟨rfl, hw⟩; have hw := hw.symm; subst hw) | (go_at_call 36; refine (zRepeat (some ⟨W.heap.size, 0, none⟩) 1 (nm z) n _ HR.out hn1 hn9).mono ?_; rintro en w5 ⟨u, rfl, ho, hb5⟩; obtain ⟨HP, j0, j3⟩ := HF.out u w5 ho hb5; clear ho hb5))
  all_goals
    go_wp2
    go_ret
    exact ⟨u, rfl, HP⟩
end
end Go.Proofs.YtljlioglpaogdahDoor
