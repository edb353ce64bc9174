/- croftref.Join. · twine.starts: lists of two-cell elements that are made and then written. · The parties' open. -/
import Derived.Test.YtgmelcdgnjcojagDoorToTJoinM
import Derived.Test.YtgmelcdgnjcojagDoorToSortC
import Derived.Test.YtgmelcdgnjcojagDoorToMxC
import Derived.Test.YtgmelcdgnjcojagDoorToLsV
import Derived.Test.YtgmelcdgnjcojagDoorToLstC
import Derived.Deep.AppendLies
import Derived.Deep.RegionLaw
import Derived.Deep.RegionHeld3
import Derived.Test.YtgmelcdgnjcojagDoorToTRows
namespace Go.Proofs.YtgmelcdgnjcojagDoor
open Go.RowKit Crm

/-- A slice of shares that the call itself gathers, and one share more: a step of a region that draws. -/
theorem step_appS {P : Program} {T E : TypeId} (hT : P.underlying T = some (.slice E)) (info : (P.info? E).map (fun i => (i.zero, i.size, i.bytes)) = some (some (.agg #[.int .i64 0, .int .u64 0]), 2, 16))
    (w : World) {w1 : World} {ops : Array Oper} {o : Oper} {a : Act} {K : Act → World → Prop} {Q : Exit → Act → World → Prop} {F : Prop} (hgd : o.guard = none) (s x : Operand)
    (ho : o.op = .call { callee := .builtin .append, args := #[s, x], argTypes := #[T, T] })
    (base : Nat) (v : Value) (n : Nat) (l : List (Int × Int)) (hs : a.eval s = v) (hown : w.ownsRow base E 2 v n (shc l)) (p q : Int) (hx : a.eval x = .slice (some ⟨w.heap.size, 0, none⟩) 1 1)
    (hw1 : w1 = w.alloc (.cells #[.int .i64 p, .int .u64 q] E)) (hn : n ≤ 1000000) (hbase : base ≤ w.heap.size)
    (h : ∀ v' w', w'.ownsRow base E 2 v' (n + 1) (shc (l ++ [(p, q)])) → Below base w w' → K (a.put o.dst v') w') :
    if Region.wanted o (yielded ops a.tmps) = true then Oper.wp P o a w1 K Q else F := by
  subst hw1
  obtain ⟨i0, hi, hz0, hz1, hz2⟩ := info_parts info
  refine step_append_lies _ hgd s x T ho base E i0 (.agg #[.int .i64 0, .int .u64 0]) 2 16 hT hi hz0 hz1 hz2 rfl (by decide) v n _ hs (hown.alloc _) ⟨w.heap.size, 0, none⟩ 1 1 [.int .i64 p, .int .u64 q] hx rfl ?_ ?_ (by decide) (by unfold maxLen; omega) (by omega) (by simp; omega) _ rfl ?_
  · intro j u hj
    match j, hj with
    | 0, hj => simp at hj; subst hj; rw [Addr.add_lit]; exact cell_alloc0 _ _ _ _
    | 1, hj => simp at hj; subst hj; rw [Addr.add_lit]; exact cell_alloc1 _ _ _ _
  · intro u hu; simp at hu; rcases hu with rfl | rfl <;> rfl
  · intro g cap w' hown' hgrow _ _
    refine h _ w' (by rw [shc_snoc]; exact hown') ?_
    exact ((Below.refl _ _).alloc hbase _).grown hgrow (by simp; omega) (fun k hk => (hown.lt k hk).1)

theorem RdW.nbd {w : World} {a : Option Addr} {n c : Nat} {l : List (Int × List Int)} (h : RdW w a n c l) {i : Nat} (hi : i < n) : ∀ x ∈ tc l i, 0 ≤ x ∧ x ≤ 18446744073709551615 := by
  obtain ⟨b, o, x, ai, ni, ci, row, _, _, _, HRow, _, _, _, _, hrow⟩ := h.one hi
  rw [HRow.out]; exact hrow.bd

/-- What Join answers. -/
def Jns (l : List (Int × List Int)) (n : Nat) (t : Int) (w : World) (e : Ending) (w' : World) : Prop := ∃ x r, e = .returned (.tuple #[.int .u64 x, .int .i64 r]) ∧ Jnd l n t x r ∧ Below w.heap.size w w'

end Go.Proofs.YtgmelcdgnjcojagDoor

namespace Go.Proofs.YtgmelcdgnjcojagDoor
open Go.RowKit Crm

theorem made2 (u v : Value) : ∀ n, (madeCells #[u, v] (n * 2)).toList = (List.replicate n ()).flatMap fun _ => [u, v]
  | 0 => by simp [madeCells]
  | n + 1 => by
    have h : ∀ m, (madeCells #[u, v] m).toList = (List.range m).map fun i => (#[u, v] : Array Value)[i % 2]! := fun m => by simp [madeCells]
    have ih := made2 u v n
    have e : (n + 1) * 2 = n * 2 + 1 + 1 := by omega
    rw [h] at ih
    rw [h, e, List.range_succ, List.range_succ, List.map_append, List.map_append, ih, List.replicate_succ', List.flatMap_append]
    have e0 : n * 2 % 2 = 0 := by omega
    have e1 : (n * 2 + 1) % 2 = 1 := by omega
    simp [e0, e1]
theorem made2_shc (n : Nat) : (madeCells (Value.agg #[.int .i64 0, .int .u64 0]).cells (n * 2)).toList = shc (List.replicate n (0, 0)) := by
  have e : (Value.agg #[.int .i64 0, .int .u64 0]).cells = #[.int .i64 0, .int .u64 0] := rfl
  rw [e, made2]
  induction n with
  | zero => rfl
  | succ n ih => rw [List.replicate_succ, List.replicate_succ, List.flatMap_cons, ih]; rfl
theorem shc_set2 : ∀ (l : List (Int × Int)) (q : Nat) (x z : Int), ((shc l).set (q * 2) (.int .i64 x)).set (q * 2 + 1) (.int .u64 z) = shc (l.set q (x, z))
  | [], q, x, z => by simp [shc]
  | p :: l, 0, x, z => rfl
  | p :: l, q + 1, x, z => by
    have := shc_set2 l q x z
    have e1 : (q + 1) * 2 = q * 2 + 1 + 1 := by omega
    rw [e1]
    show _ :: _ :: ((shc l).set (q * 2) (.int .i64 x)).set (q * 2 + 1) (.int .u64 z) = _
    rw [this]
    rfl
/-- A list of shares that is filled from its beginning on. -/
def fils (f : Nat → Int × Int) (n k : Nat) : List (Int × Int) := (List.range n).map fun i => if i < k then f i else (0, 0)
theorem fils_len (f : Nat → Int × Int) (n k : Nat) : (fils f n k).length = n := by simp [fils]
theorem fils_zero (f : Nat → Int × Int) (n : Nat) : List.replicate n (0, 0) = fils f n 0 := by
  apply List.ext_getElem?
  intro i
  by_cases hi : i < n
  · simp [fils, hi]
  · simp [fils, hi]
theorem fils_set {f : Nat → Int × Int} {n k : Nat} (v : Int × Int) (hv : v = f k) : (fils f n k).set k v = fils f n (k + 1) := by
  apply List.ext_getElem?
  intro i
  rw [List.getElem?_set]
  by_cases hi : i < n
  · by_cases e : k = i
    · subst e; simp [fils, hi, hv]
    · have : (i < k + 1) = (i < k) := by apply propext; omega
      simp [fils, hi, e, this]
  · by_cases e : k = i
    · subst e; simp [fils, hi]
    · simp [fils, hi, e]
theorem fils_full (f : Nat → Int × Int) (n : Nat) : fils f n n = (List.range n).map f := by
  unfold fils
  refine List.map_congr_left fun i hi => ?_
  rw [if_pos (List.mem_range.1 hi)]

set_option maxRecDepth 100000 in
set_option maxHeartbeats 1000000 in
theorem cStarts (a : Option Addr) (n c : Nat) (l : List (Int × List Int)) (w : World) (h : RdW w a n c l) (hn : n ≤ 9) (hw : ∀ i, i < n → 1 ≤ (tc l i).length) :
    Calls Tryd.prog 79 #[.slice a n c] w fun e w' => ∃ b d, e = .returned (.slice b n d) ∧ RdS w' b n d (colS l 0 n) ∧ Below w.heap.size w w' := by
  obtain ⟨i0, hi, hz0, hz1, hz2⟩ := info_parts infoSh
  have HW : Hid (∀ i, i < n → 1 ≤ (tc l i).length) := hw
  have hcap := h.cap
  clear hw
  go_enter Tryd.func79, Tryd.ntmps79
  go_wp2_with (at_make; refine wpList_make_full _ rfl _ _ 66 rfl w.heap.size 68 i0 (.agg #[.int .i64 0, .int .u64 0]) 2 Tryd.underlying66 hi hz0 hz1 .i64 .i64 _ _ n rfl rfl (by omega) (by omega) (by rw [hz2]; omega) (by unfold maxLen; omega) (Nat.le_refl _) ?_; intro w1 hown hgrow; rw [made2_shc, fils_zero (fun r => (ta l r, (tc l r).getD 0 0))] at hown; have hb1 : Below w.heap.size w w1 := (Below.refl _ _).grown hgrow (Nat.le_refl _) (by simp); clear hgrow)
  obtain ⟨F, HF⟩ : ∃ F : Nat → Int × Int, Hid ((fun r => (ta l r, (tc l r).getD 0 0)) = F) := ⟨_, rfl⟩
  rw [HF.out] at hown
  go_loopw [11] (fun i wr => ∃ k : Nat, k ≤ n ∧ i = .int .i64 k ∧ wr.ownsRow w.heap.size 68 2 (.slice (some ⟨w.heap.size, 0, none⟩) n n) n (shc (fils F n k)) ∧ Below w.heap.size w wr) (fun i _ => n - (intOf i).toNat)
  case atStart => exact ⟨0, Nat.zero_le _, rfl, hown, hb1⟩
  case round =>
    clear hown hb1
    obtain ⟨k, hk, rfl, hown, hbel⟩ := hrel
    have hs1 := hbel.size
    by_cases hlt : k < n
    · obtain ⟨b, o, x, ai, ni, ci, row, rfl, hbb, HX, HRow, hx0, hx1, hcx, hcr, hrow⟩ := (h.below hbel).one hlt
      have hni : 1 ≤ ni := by have := HW.out k hlt; rw [HRow.out, hrow.len] at this; exact this
      have hbA0 : Below wr.heap.size wr (wr.alloc (.cells #[.int .i64 x, .slice ai ni ci] 80)) := (Below.refl _ _).alloc (Nat.le_refl _) _
      have hbA := hbel.trans (hbA0.mono hs1)
      have hownA := own_below2 hown hbA0
      have hcA0 := cell_alloc0 wr (.int .i64 x) (.slice ai ni ci) 80
      have hcA1 := cell_alloc1 wr (.int .i64 x) (.slice ai ni ci) 80
      obtain ⟨b2, o2, y, rfl, hbb2, HY, hy0, hy1, hcy⟩ := (hrow.below hbA0).one (show 0 < ni by omega)
      have hFk : (x, y) = F k := by rw [← HF.out]; show (x, y) = (ta l k, (tc l k).getD 0 0); rw [HX.out, HRow.out, HY.out]
      obtain ⟨d0, d1⟩ := sh_cell hownA (fils_len F n k) hlt
      have ef0 := own_frozen2 hownA (k * 2)
      have ef1 := own_frozen2 hownA (k * 2 + 1)
      have hown8 := own_set2 (own_set2 hownA (k * 2) (.int .i64 x)) (k * 2 + 1) (.int .u64 y)
      rw [shc_set2, fils_set (x, y) hFk] at hown8
      have Hown8 : Hid (World.ownsRow _ _ _ _ _ _ _) := hown8
      have Hb8 : Hid (Below _ _ _) := (hbA.setCell (p := ⟨w.heap.size, k * 2, none⟩) (Nat.le_refl _) (.int .i64 x)).setCell (p := ⟨w.heap.size, k * 2 + 1, none⟩) (Nat.le_refl _) (.int .u64 y)
      rw [Nat.add_zero] at hcy
      have hn0 : 0 < ni := hni
      have hbb2' : b2 < (wr.alloc (.cells #[.int .i64 x, .slice (some ⟨b2, o2, none⟩) ni ci] 80)).heap.size := hbb2
      clear hown hownA hown8 hFk hbA0 hbb2
      go_wp2
      generalize wr.alloc (.cells #[.int .i64 x, .slice (some ⟨b2, o2, none⟩) ni ci] 80) = W at *
      clear hcx hcr hrow
      go_region
      all_goals
        have hown9 : World.ownsRow _ _ _ _ _ _ _ := Hown8.out
        have hb9 := Hb8.out.drew
        clear hbA hcA0 hcA1 hcy d0 d1 ef0 ef1 Hown8 Hb8
        go_wp2
        go_roundw
        case rel => exact ⟨k + 1, by omega, by go_num, hown9, hb9⟩
        case measure => simp [intOf]; omega
    · have hkn : k = n := by omega
      subst hkn
      obtain ⟨b, d, e, hr⟩ := RdS.own hown (fils_len F k k) (fun r hr => by
        rw [fils_full, ← HF.out]
        have h1 := h.bd r hr
        have h2 := getD_bd (h.nbd hr) 0
        simp only [List.getD_eq_getElem?_getD, List.getElem?_map, List.getElem?_range hr, Option.map_some, Option.getD_some]
        exact ⟨h1, h2⟩)
      rw [fils_full, ← HF.out] at hr
      simp only [Value.slice.injEq, true_and] at e
      obtain ⟨rfl, rfl⟩ := e
      have hr2 : RdS wr (some ⟨w.heap.size, 0, none⟩) k k (colS l 0 k) := hr
      clear hr hown
      go_wp2
      go_ret
      exact ⟨_, _, rfl, hr2, hbel⟩
end Go.Proofs.YtgmelcdgnjcojagDoor

namespace Go.Proofs.YtgmelcdgnjcojagDoor
open Go.RowKit Crm

/-- A list of other elements has turned. -/
theorem PSt.other {w wr w' : World} {gp gs n t : Nat} {vi vd : Value} {Ls : List Value} {S : List (List Int)} {vW : Value} {LW : List Value} {W : List (List Int)} {lo hi B z k : Nat} {E : TypeId} {v : Value} {xs : List Value} (h : PSt w wr gp gs n t vi vd Ls S vW LW W lo hi) (ho : wr.ownsRow B E z v k xs) (hE1 : E ≠ 34) (hE2 : E ≠ 22) (hE3 : E ≠ 113) (hB : w.heap.size ≤ B) (hg : wr.grownBy w' v.ownBlock) : PSt w w' gp gs n t vi vd Ls S vW LW W lo hi := by
  have hs := h.sen
  exact ⟨⟨hs.seen.grown hg (own_apart ho hs.seen.own hE2) (fun i hi => own_apart ho (hs.seen.row i hi) hE1), hs.len, hs.wires.grown hg (own_apart ho hs.wires.own hE2) (fun i hi => own_apart ho (hs.wires.row i hi) hE1), hs.apt, hs.out, hs.far, hs.gl, Nat.le_trans hs.hi hg.size, hs.bel.grown hg hs.bel.size (fun q hq => Nat.le_trans hB (ho.lt q hq).1)⟩, h.box.grown hg (h.box.off' ho hE3), h.low⟩
theorem own_belowE {w w' : World} {base n z : Nat} {E : TypeId} {v : Value} {xs : List Value} (h : w.ownsRow base E z v n xs) (hb : Below w.heap.size w w') : w'.ownsRow base E z v n xs :=
  h.kept (grown_below hb none) (by cases hv : v.ownBlock with
    | none => exact .inl rfl
    | some b => exact .inr (by simp))
theorem eSU : (68 : TypeId) ≠ 34 := by decide
theorem eSV : (68 : TypeId) ≠ 22 := by decide
theorem eSP : (68 : TypeId) ≠ 113 := by decide
/-- Rows that lie in a span stay. -/
def Kept (lo hi : Nat) (w w' : World) : Prop := ∀ (B2 z k : Nat) (E : TypeId) (v : Value) (xs : List Value), w.ownsRow B2 E z v k xs → Btw lo hi v → w'.ownsRow B2 E z v k xs
theorem Kept.trans {lo hi : Nat} {a b c : World} (h : Kept lo hi a b) (k : Kept lo hi b c) : Kept lo hi a c := fun B2 z q E v xs hx hv => k B2 z q E v xs (h B2 z q E v xs hx hv) hv
theorem kept_below {lo hi : Nat} {w w' : World} (hb : Below w.heap.size w w') : Kept lo hi w w' := fun _ _ _ _ _ _ hx _ => own_belowE hx hb
theorem kept_off {lo hi g : Nat} {w w' : World} (hg : w.grownBy w' (some g)) (h : hi ≤ g) : Kept lo hi w w' := fun _ _ _ _ v _ hx hv => hx.kept hg (by
  cases hb : v.ownBlock with
  | none => exact .inl rfl
  | some b =>
    right
    intro e
    have := hv b hb
    have := Option.some.inj e
    omega)

set_option maxRecDepth 100000 in
set_option maxHeartbeats 4000000 in
theorem eOpen {G : List Gt} {n t : Nat} {ins ds : List Int} {w W0 : World} {gp gs N po lo hh c : Nat} {vi vd vW : Value} {Ls LW : List Value} {a : Option Addr} {S : Nat → List Int} (h : PSt w W0 gp gs n t vi vd Ls (sgx S (fun _ => ew G n t ins ds po) n 0) vW LW (ewr G n t ins ds N) lo hh)
    (hpo : po < N) (ea : LW.getD po (.slice none 0 0) = .slice a n c) (hG : okG G N) (hS : ∀ j, (S j).length ≤ 5000) (hn : 2 * t + 1 ≤ n) (hn9 : n ≤ 9) :
    Calls Tryd.prog 66 #[.pointer (some ⟨gp, 0, none⟩), .slice a n c] W0 fun e w' => e = .returned (.int .u64 (wi G ins po)) ∧ (∃ Ls', PSt w w' gp gs n t vi vd Ls' (sgx S (fun _ => ew G n t ins ds po) n n) vW LW (ewr G n t ins ds N) lo hh) ∧ Kept lo hh W0 w' := by
  obtain ⟨i0, hi0, hz0, hz1, hz2⟩ := info_parts infoSh
  obtain ⟨P, hPl, hPe, hPv⟩ := ew_poly (ins := ins) (ds := ds) hG hn hn9 po hpo
  have HPl : Hid (P.length ≤ t + 1) := hPl
  have HPe : Hid (ew G n t ins ds po = dl P n) := hPe
  have HPv : Hid (nm (ev P 0) = wi G ins po) := hPv
  have HS : Hid (∀ j, (S j).length ≤ 5000) := hS
  have r0 := h.row hpo ea
  have hcap := r0.cap
  have hmax := r0.max
  unfold maxLen at hmax
  have hhi := h.sen.hi
  have hww := h.sen.bel.size
  obtain ⟨F, HF⟩ : ∃ F : Nat → Int × Int, Hid ((fun r : Nat => ((r : Int) + 1, (ew G n t ins ds po).getD r 0)) = F) := ⟨_, rfl⟩
  clear hPl hPe hPv hS hG r0
  go_enter Tryd.func66, Tryd.ntmps66
  go_wp2_with (at_make; refine wpList_make_full _ rfl _ _ 66 rfl W0.heap.size 68 i0 (.agg #[.int .i64 0, .int .u64 0]) 2 Tryd.underlying66 hi0 hz0 hz1 .i64 .i64 _ _ n rfl rfl (by omega) (by omega) (by rw [hz2]; omega) (by unfold maxLen; omega) (Nat.le_refl _) ?_; intro w1 hown hgrow; rw [made2_shc, fils_zero F] at hown; have hb1 : Below W0.heap.size W0 w1 := (Below.refl _ _).grown hgrow (Nat.le_refl _) (by simp); clear hgrow)
  have hP1 := h.below hb1
  have hP2 := h.fresh (by omega) hb1
  have HK1 : Hid (Kept lo hh W0 w1) := kept_below hb1
  have HBs : Hid (Btw W0.heap.size w1.heap.size (.slice (some ⟨W0.heap.size, 0, none⟩) n n)) := fun b hb => hown.lt b hb
  obtain ⟨H1, HH1⟩ : ∃ H1, Hid (w1.heap.size = H1) := ⟨_, rfl⟩
  rw [HH1.out] at hP2 HBs
  clear hb1 h
  go_loopw [15] (fun s wq => ∃ (k : Nat) (Ls : List Value), k ≤ n ∧ s = .int .i64 k ∧ PSt w wq gp gs n t vi vd Ls (sgx S (fun _ => ew G n t ins ds po) n k) vW LW (ewr G n t ins ds N) lo hh ∧ PSt w wq gp gs n t vi vd Ls (sgx S (fun _ => ew G n t ins ds po) n k) vW LW (ewr G n t ins ds N) W0.heap.size H1 ∧ wq.ownsRow W0.heap.size 68 2 (.slice (some ⟨W0.heap.size, 0, none⟩) n n) n (shc (fils F n k)) ∧ Hid (Kept lo hh W0 wq)) (fun s _ => n - (intOf s).toNat)
  case atStart => exact ⟨0, Ls, Nat.zero_le _, rfl, hP1, hP2, hown, HK1⟩
  case round =>
    clear hP1 hP2 hown HK1
    obtain ⟨k, Ls, hk, rfl, hP, hP2, hown, HK⟩ := hrel
    by_cases hkn : k < n
    · have r6 := hP.row hpo ea
      obtain ⟨b6, o6, y, rfl, hb6, HY, hy0, hy1, hcy⟩ := r6.one hkn
      have hFk : ((k : Int) + 1, y) = F k := by rw [← HF.out]; show _ = ((k : Int) + 1, _); rw [HY.out]
      obtain ⟨d0, d1⟩ := sh_cell hown (fils_len F n k) hkn
      have ef0 := own_frozen2 hown (k * 2)
      have ef1 := own_frozen2 hown (k * 2 + 1)
      have hgl := (own_at2 hown (by omega)).choose_spec
      have hgW : W0.heap.size < wr.heap.size := (hown.lt _ rfl).2
      have hown8 := own_set2 (own_set2 hown (k * 2) (.int .i64 ((k : Int) + 1))) (k * 2 + 1) (.int .u64 y)
      rw [shc_set2, fils_set ((k : Int) + 1, y) hFk] at hown8
      have hgB : wr.grownBy ((wr.setCell ⟨W0.heap.size, k * 2, none⟩ (.int .i64 ((k : Int) + 1))).setCell ⟨W0.heap.size, k * 2 + 1, none⟩ (.int .u64 y)) (some W0.heap.size) := grown_trans (grown_set _ _ _ _) (grown_set _ _ _ _)
      have hPB := hP.other hown eSU eSV eSP hww hgB
      have hPB2 := hP2.other hown eSU eSV eSP hww hgB
      have HKB : Hid (Kept lo hh W0 ((wr.setCell ⟨W0.heap.size, k * 2, none⟩ (.int .i64 ((k : Int) + 1))).setCell ⟨W0.heap.size, k * 2 + 1, none⟩ (.int .u64 y))) := HK.out.trans (kept_off hgB hhi)
      clear hP hP2 hown hgB hgl HK
      go_upto_region 6 with fail
      generalize (wr.setCell ⟨W0.heap.size, k * 2, none⟩ (.int .i64 ((k : Int) + 1))).setCell ⟨W0.heap.size, k * 2 + 1, none⟩ (.int .u64 y) = wB at *
      clear d0 d1 ef0 ef1 hcy hb6 r6
      go_wp2_with fail
      refine (eSee hPB hkn (hPB.row hpo ea) (by omega) (by omega) (HS.out k)).mono ?_
      rintro e w8 ⟨rfl, hs⟩
      obtain ⟨⟨Ls', hP', hP2'⟩, hkeep, hkeep2⟩ := hPB.seen2 hPB2 hkn hs
      have ho' := hkeep2 _ _ _ _ _ _ hown8 HBs.out
      have HK' : Hid (Kept lo hh W0 w8) := HKB.out.trans hkeep
      clear hPB hPB2 hown8 HKB hs hkeep hkeep2
      go_wp2
      go_roundw
      case rel => exact ⟨k + 1, Ls', by omega, by go_num, hP', hP2', ho', HK'⟩
      case measure => simp [intOf]; omega
    · have hkn2 : k = n := by omega
      subst hkn2
      rw [fils_full, ← HF.out] at hown
      have hown2 : wr.ownsRow W0.heap.size 68 2 (.slice (some ⟨W0.heap.size, 0, none⟩) k k) k (shc (shl (ew G k t ins ds po) k)) := hown
      obtain ⟨a7, c7, e7, hR⟩ := RdS.own hown2 (shl_len _ _) (fun i hi => by
        rw [shl_getD _ hi]
        have := getD_bd (bd_u64 (ew_bd G k t ins ds po)) i
        exact ⟨⟨by simp only; omega, by simp only; omega⟩, this⟩)
      simp only [Value.slice.injEq, true_and] at e7
      obtain ⟨rfl, rfl⟩ := e7
      obtain ⟨_, f1, _, _, _, _⟩ := hP.box.cells
      have hlp := hP.box.lt
      clear hown hown2 hP2
      go_wp2_with fail
      refine (cOpenS _ _ _ _ _ _ hR).mono ?_
      rintro e w9 ⟨x, r, rfl, hO, hb9⟩
      obtain ⟨rfl, rfl⟩ := shl_open hn9 (show t ≤ 4 by omega) (by omega) HPl.out (fun i hi => by rw [HPe.out, dl_getD P hi]; rfl) hO
      rw [HPv.out]
      have hP9 := hP.below hb9
      have HK9 : Hid (Kept lo hh W0 w9) := HK.out.trans (kept_below hb9)
      clear hP hO hb9 hR f1 hlp
      go_wp2
      go_ret
      exact ⟨rfl, ⟨Ls, hP9⟩, HK9.out⟩
end Go.Proofs.YtgmelcdgnjcojagDoor
