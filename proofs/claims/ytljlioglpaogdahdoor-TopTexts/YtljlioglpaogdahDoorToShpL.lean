/- crofttop.said. · crofttop.crew, filled. · What a right circuit lets be known. · Circuits that are told alike reckon alike: plain facts. · slices.EqualFunc of lists of lists, as crofttop.TopTexts asks it. · The walk of crofttop.TopTexts. · Package-level variables that start-up lays: any part of their list. · Package-level variables that start-up lays: what the walks ask of them. · circuit.shapes lie as the text lays them. -/
import Derived.Test.YtljlioglpaogdahDoorToTopTinyC
import Derived.Test.YtljlioglpaogdahDoorToCrewC
import Derived.Test.YtljlioglpaogdahDoorToThroughC
import Derived.Test.YtljlioglpaogdahDoorToCktP
import Derived.Test.YtljlioglpaogdahDoorToWhoseC
import Derived.Deep.RegionWith
import Derived.Deep.RegionHeld3
import Derived.Test.YtljlioglpaogdahDoorRows
import Derived.ProofKit
import Derived.LaidMore
import Derived.OpenShut
import Derived.Stop.LaidErr
import Derived.Test.YtljlioglpaogdahDoorToGRightC
import Derived.Lib.LaidTab
namespace Go.Proofs.YtljlioglpaogdahDoor
set_option linter.unusedVariables false
set_option maxRecDepth 100000
set_option maxHeartbeats 8000000
section
open Crm Go.RowKit
theorem lit_rd {w : World} {gb : Nat} {xs : List Int} {n : Nat} {E : TypeId} {z : Nat × Nat} (h : w.heap[gb]? = some (.cells (xs.map (Value.int .u64)).toArray E z)) (hl : xs.length = n) (hn : n ≤ 1000) (hb : ∀ x ∈ xs, 0 ≤ x ∧ x ≤ 18446744073709551615) : Rd w (some ⟨gb, 0, none⟩) n n xs := by
  refine ⟨hl, Nat.le_refl _, by unfold maxLen; omega, hb, by simp, fun x hx i hi => ?_⟩
  obtain rfl := Option.some.inj hx
  rw [Addr.add_lit, Nat.zero_add, cell_of_row w _ _ _ _ z h]
  simp [show i < xs.length by omega]
theorem tnyT_ok : Cke tnyT [3] 4 1 0 := by
  refine .inr ⟨⟨by decide, by decide⟩, .inr ⟨⟨by decide, by decide⟩, .inr ⟨⟨fun i hi => ?_, fun i hi => ?_⟩, rfl⟩⟩⟩
  · have : i = 0 ∨ i = 1 ∨ i = 2 ∨ i = 3 := by omega
    rcases this with rfl | rfl | rfl | rfl <;> (unfold okg; decide)
  · obtain rfl : i = 0 := by omega
    decide
theorem tnyT_run : Ere tnyT [3] 4 1 3 1 2 2 0 := .inr ⟨.inr ⟨tnyT_ok, .inr ⟨⟨by decide, by decide, by decide, by decide⟩, rfl⟩⟩, .inr ⟨by decide, .inr ⟨by decide, rfl⟩⟩⟩
theorem tnyT_out : otl tnyT [3] [5, 6] 1 = [21] := by decide
theorem tnyT_see : (snl tnyT [3] 3 1 [5, 6] [1, 2] 4 1).getD 1 [] = [7, 10, 26, 31, 36] := by decide

theorem tSaid (w : World) (hS : Shp w) :
    Calls Tryd.prog 4 #[] w fun e w' => e = .returned (.bool true) ∧ Below w.heap.size w w' := by
  go_enter Tryd.func4, Tryd.ntmps4
  go_wp2_with fail
  refine (tTiny _).mono ?_
  rintro e w1 ⟨ta, tb, rfl, hg1, ho1, hb1⟩
  go_wp2_with fail
  have hb2 : Below w1.heap.size w1 (w1.alloc (.cells #[.int .u64 5, .int .u64 6] 42)) := (Below.refl _ _).alloc (Nat.le_refl _) _
  have hx : Rd (w1.alloc (.cells #[.int .u64 5, .int .u64 6] 42)) (some ⟨w1.heap.size, 0, none⟩) 2 2 [5, 6] := lit_rd (xs := [5, 6]) (heap_alloc_new w1 _) rfl (by omega) (by decide)
  have hs2 : (w1.alloc (.cells #[.int .u64 5, .int .u64 6] 42)).heap.size = w1.heap.size + 1 := by simp
  generalize w1.alloc (.cells #[.int .u64 5, .int .u64 6] 42) = w2 at *
  rw [← hs2]
  have hb3' : Below w2.heap.size w2 (w2.alloc (.cells #[.int .u64 1, .int .u64 2] 42)) := (Below.refl _ _).alloc (Nat.le_refl _) _
  have hy : Rd (w2.alloc (.cells #[.int .u64 1, .int .u64 2] 42)) (some ⟨w2.heap.size, 0, none⟩) 2 2 [1, 2] := lit_rd (xs := [1, 2]) (heap_alloc_new w2 _) rfl (by omega) (by decide)
  generalize w2.alloc (.cells #[.int .u64 1, .int .u64 2] 42) = w3 at *
  have hb3 := hb2.trans (hb3'.mono hb2.size)
  refine (eRun _ _ _ _ _ _ _ _ 3 1 _ _ _ _ _ _ _ _ _ (hg1.below hb3) (ho1.below hb3) (hx.below hb3') hy (by omega) (by omega) (hS.below (hb1.trans (hb3.mono hb1.size)))).mono ?_
  rintro e w4 ⟨⟨r3, hr3, hE3, _⟩ | ⟨_, a7, c7, b7, k7, rfl, hr7, hr8⟩, hb4'⟩
  · exact absurd (hE3.one tnyT_run) hr3
  rw [tnyT_out] at hr7
  have e3 : (3 : Int).toNat = 3 := rfl
  have e1 : (1 : Int).toNat = 1 := rfl
  rw [e3, e1] at hr8
  rw [e3]
  obtain ⟨b, o, ai, ni, ci, row, rfl, hbl, HR, hc, hrow⟩ := hr8.one (k := 1) (by omega)
  have hrr := HR.out
  rw [tnyT_see] at hrr
  subst hrr
  obtain rfl : 5 = ni := hrow.len
  have hb4 := hb1.trans ((hb3.trans (hb4'.mono hb3.size)).mono hb1.size)
  have hk7 := hr8.cap
  have hm7 := hr8.max
  unfold maxLen at hm7
  clear hr8 hb1 hb2 hb3 hb3' hb4' hg1 ho1 hx hy hs2 HR e3 e1
  go_wp2_with fail
  have hb5' : Below w4.heap.size w4 (w4.alloc (.cells #[.int .u64 21] 42)) := (Below.refl _ _).alloc (Nat.le_refl _) _
  have hx5 : Rd (w4.alloc (.cells #[.int .u64 21] 42)) (some ⟨w4.heap.size, 0, none⟩) 1 1 [21] := lit_rd (xs := [21]) (heap_alloc_new w4 _) rfl (by omega) (by decide)
  generalize w4.alloc (.cells #[.int .u64 21] 42) = w5 at *
  refine (cSame _ _ _ _ _ _ _ _ (hr7.below hb5') hx5).mono ?_
  rintro e w6 ⟨rfl, hb6'⟩
  have hb46 := hb5'.trans (hb6'.mono hb5'.size)
  have hb6 := hb4.trans (hb46.mono hb4.size)
  have hrow6 := hrow.below hb46
  have hc6 : w6.cell? ⟨b, o + 1, none⟩ = some (.slice ai 5 ci) := by rw [hb46.cell hbl]; exact hc
  clear hb4 hb5' hb6' hx5 hr7 hrow hc
  go_wp2_with fail
  have hb7' : Below w6.heap.size w6 (w6.alloc (.cells #[.int .u64 7, .int .u64 10, .int .u64 26, .int .u64 31, .int .u64 36] 42)) := (Below.refl _ _).alloc (Nat.le_refl _) _
  have hx7 : Rd (w6.alloc (.cells #[.int .u64 7, .int .u64 10, .int .u64 26, .int .u64 31, .int .u64 36] 42)) (some ⟨w6.heap.size, 0, none⟩) 5 5 [7, 10, 26, 31, 36] := lit_rd (xs := [7, 10, 26, 31, 36]) (heap_alloc_new w6 _) rfl (by omega) (by decide)
  generalize w6.alloc (.cells #[.int .u64 7, .int .u64 10, .int .u64 26, .int .u64 31, .int .u64 36] 42) = w7 at *
  refine (cSame _ _ _ _ _ _ _ _ (hrow6.below hb7') hx7).mono ?_
  rintro e w8 ⟨rfl, hb8'⟩
  have hb8 := hb6.trans ((hb7'.trans (hb8'.mono hb7'.size)).mono hb6.size)
  clear hb7' hx7 hb8' hb6
  go_wp2
  go_ret
  exact ⟨rfl, hb8⟩
theorem tFilledG (a : Option Addr) (n c : Nat) (xs : List Int) (k : Nat) (w : World) (h : Rd w a n c xs) (hk : k ≤ 2000) :
    Calls Tryd.prog 10 #[.slice a n c, .int .i64 k] w fun e w' => e = .returned (.slice (some ⟨w.heap.size, 0, none⟩) k k) ∧ Rd w' (some ⟨w.heap.size, 0, none⟩) k k (padded xs k) ∧ Below w.heap.size w w' := by
  obtain ⟨i0, hi, hz0, hz1, hz2⟩ := info_parts info42
  obtain ⟨P, HP⟩ : ∃ P, Hid (padded xs k = P) := ⟨_, rfl⟩
  have HPl : Hid (P.length = k) := by unfold Hid; rw [← HP.out]; exact padded_len xs k
  have HPb : Hid (∀ x ∈ P, 0 ≤ x ∧ x ≤ 18446744073709551615) := by unfold Hid; rw [← HP.out]; exact padded_bd h.bd k
  rw [HP.out]
  obtain ⟨cs, HCS⟩ : ∃ cs, Hid ((xs.take k).map (Value.int .u64) = cs) := ⟨_, rfl⟩
  obtain ⟨cu, HCU⟩ : ∃ cu, Hid ((List.replicate k (0 : Int)).map (Value.int .u64) = cu) := ⟨_, rfl⟩
  have hrl := h.len
  have hcl := copy_len (k := k) hrl
  have h1c := one_ints (xs.take k)
  have hsrcs := fun w' (hh : Rd w' a n c xs) => copy_src hh k
  have HSPL : Hid (Go.splice cu 0 cs = P.map (Value.int .u64)) := by unfold Hid; rw [← HCU.out, ← HCS.out, ← HP.out]; exact padded_splice xs k
  have hcul : cu.length = k := by rw [← HCU.out]; simp
  rw [HCS.out] at hcl h1c hsrcs
  have hcl2 : cs.length ≤ k := by rw [hcl]; exact Nat.min_le_right _ _
  go_enter Tryd.func10, Tryd.ntmps10
  go_wp2_with (first | (at_make; refine wpList_make_full _ rfl _ _ 26 rfl w.heap.size 42 i0 (.int .u64 0) 1 Tryd.underlying26 hi hz0 hz1 .i64 .i64 _ _ k rfl rfl (by omega) (by omega) (by rw [hz2]; omega) (by unfold maxLen; omega) (Nat.le_refl _) ?_; intro w3 hown hgrow; have hb3 : Blk w3 w.heap.size (List.replicate k 0) := Blk.made hown; have hbel3 : Below w.heap.size w w3 := (Below.refl _ _).grown hgrow (Nat.le_refl _) (by simp); have hrow3 := h.below hbel3; unfold Blk at hb3; rw [HCU.out] at hb3; clear hown hgrow) | (refine wpList_copy_splice rfl _ _ 26 26 rfl 42 Tryd.underlying26 (by rw [hi, Option.map_some, hz1]) (some ⟨w.heap.size, 0, none⟩) a k k n c (by rfl) (by rfl) w.heap.size 0 cu 42 hb3 cs hcl (fun hp => ⟨rfl, hsrcs w3 hrow3 hp⟩) (by omega) h1c w.heap.size w hbel3 (Nat.le_refl _) ?_; intro w4 HC4 hbel4))
  have hb4 : Blk w4 w.heap.size P := by unfold Blk; rw [← HSPL.out]; exact HC4.out
  have hr4 : Rd w4 (some ⟨w.heap.size, 0, none⟩) k k P := hb4.whole k HPl.out.symm (by unfold maxLen; omega) HPb.out
  clear HC4 hb3 hbel3 hrow3 hsrcs hcl h1c HCS HCU hcul hcl2 HSPL hb4
  go_wp2
  go_ret
  exact ⟨rfl, hr4, hbel4⟩

theorem tFilled (a : Option Addr) (n c : Nat) (xs : List Int) (k : Nat) (w : World) (h : Rd w a n c xs) (hk : k ≤ 2000) :
    Calls Tryd.prog 10 #[.slice a n c, .int .i64 k] w fun e w' => ∃ g, e = .returned (.slice (some ⟨g, 0, none⟩) k k) ∧ Rd w' (some ⟨g, 0, none⟩) k k (padded xs k) ∧ Below w.heap.size w w' :=
  (tFilledG a n c xs k w h hk).mono fun _ _ ⟨h1, h2, h3⟩ => ⟨_, h1, h2, h3⟩
end
section
open Crm
/-- What a right circuit lets be known. -/
theorem Nde.facts {G : List Gt} {O : List Int} {N m : Nat} {n t : Int} (h : Nde G O N m n t 0) : Cke G O N m 0 ∧ ∃ n' t' : Nat, n = n' ∧ t = t' ∧ 2 * t' + 1 ≤ n' ∧ n' ≤ 9 ∧ t' ≤ 4 := by
  obtain ⟨c1, o1, o2, o3, _⟩ := h.ok
  exact ⟨c1, n.toNat, t.toNat, by omega, by omega, by omega, by omega, by omega⟩
/-- Gates that are alike, but for numbers that have one rest. -/
def Alk (A B : List Gt) (N : Nat) : Prop := ∀ i, i < N → (gt A i).k = (gt B i).k ∧ (gt A i).a = (gt B i).a ∧ (gt A i).b = (gt B i).b ∧ nm (gt A i).n = nm (gt B i).n
theorem Alk.whl {A B : List Gt} {N : Nat} (h : Alk A B N) : ∀ i, i ≤ N → whl A i = whl B i
  | 0, _ => rfl
  | i + 1, hi => by
    obtain ⟨h1, h2, _, _⟩ := h i (by omega)
    show (if (gt A i).k = 1 then Go.Proofs.YtljlioglpaogdahDoor.whl A i ++ [(gt A i).a] else Go.Proofs.YtljlioglpaogdahDoor.whl A i) = (if (gt B i).k = 1 then Go.Proofs.YtljlioglpaogdahDoor.whl B i ++ [(gt B i).a] else Go.Proofs.YtljlioglpaogdahDoor.whl B i)
    rw [h1, h2, Alk.whl h i (by omega)]
theorem Alk.ci {A B : List Gt} {N : Nat} (h : Alk A B N) {i : Nat} (hi : i ≤ N) : ci A i = ci B i := by unfold Go.Proofs.YtljlioglpaogdahDoor.ci; rw [h.whl i hi]
theorem Alk.dwn {A B : List Gt} {N : Nat} (h : Alk A B N) (n t : Nat) : ∀ i, i ≤ N → dwn A n t i = dwn B n t i
  | 0, _ => rfl
  | i + 1, hi => by
    obtain ⟨h1, _, _, _⟩ := h i (by omega)
    rw [Go.Proofs.YtljlioglpaogdahDoor.dwn, Go.Proofs.YtljlioglpaogdahDoor.dwn, h1, Alk.dwn h n t i (by omega)]
theorem Alk.gv {A B : List Gt} {N : Nat} (h : Alk A B N) (W : List Int) (q : Int) {i : Nat} (hi : i < N) : gv W q (gt A i) = gv W q (gt B i) := by
  obtain ⟨h1, h2, h3, h4⟩ := h i hi
  unfold Go.Proofs.YtljlioglpaogdahDoor.gv
  rw [h1, h2, h3, h4]
  have e : nm (W.getD (gt B i).a.toNat 0 * (gt A i).n) = nm (W.getD (gt B i).a.toNat 0 * (gt B i).n) := by rw [← nm_mulr, h4, nm_mulr]
  rw [e]
theorem Alk.wv {A B : List Gt} {N : Nat} (h : Alk A B N) (ins : List Int) : ∀ i, i ≤ N → wv A ins i = wv B ins i
  | 0, _ => rfl
  | i + 1, hi => by
    rw [Go.Proofs.YtljlioglpaogdahDoor.wv, Go.Proofs.YtljlioglpaogdahDoor.wv, Alk.wv h ins i (by omega), h.ci (show i ≤ N by omega), h.gv _ _ (show i < N by omega)]
theorem Alk.wi {A B : List Gt} {N : Nat} (h : Alk A B N) (ins : List Int) {i : Nat} (hi : i < N) : wi A ins i = wi B ins i := by
  unfold Go.Proofs.YtljlioglpaogdahDoor.wi
  rw [h.wv ins i (by omega), h.ci (show i ≤ N by omega), h.gv _ _ hi]
theorem Alk.otl {A B : List Gt} {N m : Nat} {O : List Int} (h : Alk A B N) (ins : List Int) (hO : okO O N m) : otl A O ins m = otl B O ins m := by
  unfold Go.Proofs.YtljlioglpaogdahDoor.otl
  refine List.map_congr_left fun j hj => h.wi ins ?_
  have := hO j (List.mem_range.1 hj)
  omega
theorem mxl_alk {x y : List Int} {a a' b c : Int} {n : Nat} (h : nm a = nm a') : mxl x y a b c n = mxl x y a' b c n := by
  unfold mxl
  refine List.map_congr_left fun i _ => ?_
  unfold nm at h ⊢
  rw [Int.add_assoc, Int.add_assoc, Int.add_emod, Int.mul_emod, h, ← Int.mul_emod, ← Int.add_emod]
theorem Alk.esh {A B : List Gt} {N : Nat} (h : Alk A B N) (n t : Nat) (ins ds : List Int) (W : List (List Int)) {i : Nat} (hi : i < N) : esh A n t ins ds W i = esh B n t ins ds W i := by
  obtain ⟨h1, h2, h3, h4⟩ := h i hi
  unfold Go.Proofs.YtljlioglpaogdahDoor.esh edr
  rw [h1, h2, h3, h4, h.ci (show i ≤ N by omega), h.dwn n t i (by omega), mxl_alk h4]
theorem Alk.ewr {A B : List Gt} {N : Nat} (h : Alk A B N) (n t : Nat) (ins ds : List Int) : ∀ i, i ≤ N → ewr A n t ins ds i = ewr B n t ins ds i
  | 0, _ => rfl
  | i + 1, hi => by rw [Go.Proofs.YtljlioglpaogdahDoor.ewr, Go.Proofs.YtljlioglpaogdahDoor.ewr, Alk.ewr h n t ins ds i (by omega), h.esh n t ins ds _ (show i < N by omega)]
theorem Alk.ew {A B : List Gt} {N : Nat} (h : Alk A B N) (n t : Nat) (ins ds : List Int) {i : Nat} (hi : i < N) : ew A n t ins ds i = ew B n t ins ds i := by
  unfold Go.Proofs.YtljlioglpaogdahDoor.ew
  rw [h.ewr n t ins ds i (by omega), h.esh n t ins ds _ hi]
theorem Alk.esn {A B : List Gt} {N : Nat} (h : Alk A B N) (hG : okG B N) (n t : Nat) (ins ds : List Int) {i : Nat} (hi : i < N) (j : Nat) : esn A n t ins ds i j = esn B n t ins ds i j := by
  obtain ⟨h1, h2, h3, _⟩ := h i hi
  unfold Go.Proofs.YtljlioglpaogdahDoor.esn edr
  rw [h1, h2, h3, h.ew n t ins ds hi, h.dwn n t i (by omega)]
  by_cases e1 : (gt B i).k = 1
  · rw [if_pos e1, if_pos e1]
  · rw [if_neg e1, if_neg e1]
    by_cases e5 : (gt B i).k = 5
    · rw [if_pos e5, if_pos e5]
      rcases hG i hi with ⟨k, _⟩ | ⟨k, _⟩ | ⟨k, _⟩ | ⟨_, k1, k2, _⟩
      · omega
      · omega
      · omega
      · rw [h.ew n t ins ds (show (gt B i).a.toNat < N by omega), h.ew n t ins ds (show (gt B i).b.toNat < N by omega)]
    · rw [if_neg e5, if_neg e5]
theorem flatMap_eq {α β : Type} {f g : α → List β} : ∀ {l : List α}, (∀ x ∈ l, f x = g x) → l.flatMap f = l.flatMap g
  | [], _ => rfl
  | x :: l, h => by rw [List.flatMap_cons, List.flatMap_cons, h x (by simp), flatMap_eq fun y hy => h y (by simp [hy])]
theorem Alk.snl {A B : List Gt} {N m : Nat} {O : List Int} (h : Alk A B N) (hG : okG B N) (hO : okO O N m) (n t : Nat) (ins ds : List Int) : snl A O n t ins ds N m = snl B O n t ins ds N m := by
  unfold Go.Proofs.YtljlioglpaogdahDoor.snl sno sng
  refine List.map_congr_left fun j _ => ?_
  congr 1
  · exact flatMap_eq fun i hi => h.esn hG n t ins ds (List.mem_range.1 hi) j
  · refine flatMap_eq fun o ho => h.ew n t ins ds ?_
    have := hO o (List.mem_range.1 ho)
    omega
theorem Alk.okG {A B : List Gt} {N : Nat} (h : Alk A B N) (hG : okG B N) (hz : ∀ i, i < N → ((gt B i).n = 0 → (gt A i).n = 0)) : okG A N := fun i hi => by
  obtain ⟨h1, h2, h3, _⟩ := h i hi
  unfold okg
  rw [h1, h2, h3]
  rcases hG i hi with ⟨k1, k2, k3, k4⟩ | k | k | ⟨k1, k2, k3, k4⟩
  · exact .inl ⟨k1, k2, k3, hz i hi k4⟩
  · exact .inr (.inl k)
  · exact .inr (.inr (.inl k))
  · exact .inr (.inr (.inr ⟨k1, k2, k3, hz i hi k4⟩))
/-- The circuit that is read again is alike. -/
theorem alk_nm (G : List Gt) (N : Nat) : Alk ((nmG G N).map nmg) G N := fun i hi => by
  rw [gt_map, nmG_gt G hi]
  exact ⟨rfl, rfl, rfl, by show nm (nm (nm _)) = _; rw [nm_nm, nm_nm]⟩
theorem alk_run {G : List Gt} {O : List Int} {N m q d : Nat} {n t : Int} (h : Ere G O N m n t q d 0) : Ere ((nmG G N).map nmg) O N m n t q d 0 := by
  have ha := alk_nm G N
  rcases h with ⟨h1, _⟩ | ⟨h1, h2⟩
  · exact absurd rfl h1
  obtain ⟨c1, c2⟩ := h1.ok
  obtain ⟨k1, k2, k3, k4⟩ := c1.ok
  have hG : okG ((nmG G N).map nmg) N := Alk.okG ha k3 fun i hi e => by
    rw [gt_map, nmG_gt G hi]
    show nm (nm (gt G i).n) = 0
    rw [e]
    rfl
  refine .inr ⟨.inr ⟨.inr ⟨⟨by omega, by omega⟩, .inr ⟨⟨k1.2, k2.2⟩, .inr ⟨⟨hG, k4⟩, rfl⟩⟩⟩, .inr ⟨⟨c2.1, c2.2.1, c2.2.2.1, by rw [ha.whl N (Nat.le_refl _)]; exact c2.2.2.2⟩, rfl⟩⟩, ?_⟩
  rw [ha.ci (Nat.le_refl N), ha.dwn _ _ N (Nat.le_refl _)]
  exact h2
/-- The text of nothing is no circuit's. -/
theorem par_mt : Par ⟨#[]⟩ [] [] 0 1 := by
  refine .inr ⟨by decide, .inr ⟨[], [], ?_, .inr ⟨?_, rfl, .inl ⟨.inl rfl, rfl⟩, .inl ⟨by decide, rfl, rfl⟩⟩⟩⟩
  · exact ⟨rfl, rfl⟩
  · rfl
end
section
open Crm Go.RowKit
theorem tSame1 (a : Option Addr) (n c : Nat) (b : Option Addr) (m d : Nat) (xs : List Int) (w : World) (h : Rd w a n c xs) (g : Rd w b m d xs) :
    Calls Tryd.prog 13 #[.slice a n c, .slice b m d] w fun e w' => e = .returned (.bool true) ∧ Below w.heap.size w w' := by
  go_enter Tryd.func13, Tryd.ntmps13
  go_wp2_with fail
  refine (cSame _ _ _ _ _ _ _ _ h g).mono ?_
  rintro e w1 ⟨rfl, hb1⟩
  go_wp2
  go_ret
  exact ⟨rfl, hb1⟩

theorem tEqualFunc (a : Option Addr) (n c : Nat) (b : Option Addr) (d : Nat) (l : List (List Int)) (w : World) (h : RdR w a n c l) (g : RdR w b n d l) :
    Calls Tryd.prog 12 #[.slice a n c, .slice b n d, .func (.func 13) #[] #[]] w fun e w' => e = .returned (.bool true) ∧ Below w.heap.size w w' := by
  have hcap := h.cap
  have hmax := h.max
  unfold maxLen at hmax
  go_enter Tryd.func12, Tryd.ntmps12
  go_wp2
  go_loopw [17] (fun i wr => ∃ k : Nat, k ≤ n ∧ i = .int .i64 k ∧ Below w.heap.size w wr) (fun i _ => n - (intOf i).toNat)
  case atStart => exact ⟨0, Nat.zero_le _, rfl, Below.refl _ _⟩
  case round =>
    obtain ⟨k, hk, rfl, hbel⟩ := hrel
    have hs1 := hbel.size
    by_cases hlt : k < n
    · obtain ⟨b1, o1, a1, n1, c1, row, rfl, hbb, HRow, hcr, hrow⟩ := (h.below hbel).one hlt
      obtain ⟨b2, o2, a2, n2, c2, row2, rfl, hbb2, HRow2, hcr2, hrow2⟩ := (g.below hbel).one hlt
      obtain rfl : row = row2 := HRow.out.symm.trans HRow2.out
      clear HRow HRow2
      go_wp2_with fail
      refine (tSame1 _ _ _ _ _ _ _ _ hrow hrow2).mono ?_
      rintro e w3 ⟨rfl, hb3⟩
      have hw3 := hbel.trans (hb3.mono hs1)
      clear hrow hrow2 hbel hb3
      go_wp2
      go_roundw
      case rel => exact ⟨k + 1, by omega, by go_num, hw3⟩
      case measure => simp [intOf]; omega
    · have hkn : k = n := by omega
      subst hkn
      go_wp2
      go_ret
      exact ⟨rfl, hbel⟩
theorem topTextsW (ag : Option Addr) (N cg : Nat) (G : List Gt) (ao : Option Addr) (m co : Nat) (O : List Int) (n t : Int) (ai : Option Addr) (q ca : Nat) (ins : List Int) (ad : Option Addr) (d cd : Nat) (ds : List Int) (w : World) (h : RdG w ag N cg G) (g : RdI w ao m co O) (hn0 : -9223372036854775808 ≤ n) (hn1 : n ≤ 9223372036854775807) (ht0 : -9223372036854775808 ≤ t) (ht1 : t ≤ 9223372036854775807) (ih : Rd w ai q ca ins) (dh : Rd w ad d cd ds) (hT : Tabs w) (hS : Shp w) :
    Calls Tryd.prog 3 #[.agg #[.slice ag N cg, .slice ao m co], .int .i64 n, .int .i64 t, .slice ai q ca, .slice ad d cd] w fun e w' => e = .returned (.bool true) ∧ Below w.heap.size w w' := by
  have hn : -9223372036854775808 ≤ n ∧ n ≤ 9223372036854775807 := ⟨hn0, hn1⟩
  have ht : -9223372036854775808 ≤ t ∧ t ≤ 9223372036854775807 := ⟨ht0, ht1⟩
  clear hn0 hn1 ht0 ht1
  have hOl := g.len
  have HOl : Hid (O.length = m) := hOl
  clear hOl
  have hC0 := CBox.new w ag N cg ao m co
  have hb0 : Below w.heap.size w (w.alloc (.cells #[.slice ag N cg, .slice ao m co] 25)) := (Below.refl _ _).alloc (Nat.le_refl _) _
  go_enter Tryd.func3, Tryd.ntmps3
  go_wp2_with fail
  generalize w.alloc (.cells #[.slice ag N cg, .slice ao m co] 25) = w0 at *
  refine (tSaid _ (hS.below hb0)).mono ?_
  rintro e w1 ⟨rfl, hb1'⟩
  have hb1 := hb0.trans (hb1'.mono hb0.size)
  have hC1 := hC0.below hb1' hC0.lt
  obtain ⟨d0, d1⟩ := hC1.cells
  clear hC0 hb1' hb0
  go_wp2_with fail
  refine (cPrint _ _ _ _ _ _ _ _ _ (h.below hb1) (g.below hb1) (hT.below hb1) (hS.below hb1)).mono ?_
  rintro e w2 ⟨⟨r, hr, hE, rfl⟩ | ⟨hE, rfl⟩, hb2'⟩
  · have hb2 := hb1.trans (hb2'.mono hb1.size)
    clear hb1 hC1 hb2' d0 d1 hE
    go_wp2_with fail
    refine (cParse ⟨#[]⟩ w2 (by decide) (hS.below hb2)).mono ?_
    rintro e w3 ⟨ag', cg', ao', co', at', r', G', O', rfl, hP', _, _, hb3'⟩
    obtain ⟨rfl, rfl, rfl, rfl⟩ := hP'.one par_mt
    have hb3 := (hb2.trans (hb3'.mono hb2.size)).alloc (hb2.trans (hb3'.mono hb2.size)).size (.cells #[.slice ag' 0 cg', .slice ao' 0 co'] 25)
    clear hb2 hb3' hP'
    go_wp2
    go_ret
    exact ⟨rfl, hb3⟩
  have HK : Hid (Cke G O N m 0) := hE
  have htl := text_le hE
  obtain ⟨T, HTe⟩ : ∃ T, Hid (otx (gtx G N) O m = T) := ⟨_, rfl⟩
  rw [HTe.out] at htl ⊢
  have hb2 := hb1.trans (hb2'.mono hb1.size)
  have hC2 := hC1.below hb2' hC1.lt
  clear hb1 hC1 hb2' d0 d1 hE
  go_wp2_with fail
  refine (cParse T w2 (by omega) (hS.below hb2)).mono ?_
  rintro e w3 ⟨ag', cg', ao', co', at', r', G', O', rfl, hP', ho', hi', hb3'⟩
  obtain ⟨x1, x2, x3, x4⟩ := hP'.one (by rw [← HTe.out]; exact par_text HK.out HOl.out)
  have x2 := x2.symm
  subst x1 x2 x3 x4
  obtain ⟨b1, b2⟩ := hP'.gbd
  have hGx := RdG.ownA ho' (gcs_len4 _) (gbd_nm b1)
  have hIx := RdI.ownA hi' b2
  rw [nmG_len] at hGx
  rw [HOl.out] at hIx
  rw [nmG_len, HOl.out]
  have hb3 := hb2.trans (hb3'.mono hb2.size)
  have hC3 := hC2.below hb3' hC2.lt
  obtain ⟨hX, hbA⟩ := cbox_put w3 ag' N cg' ao' m co'
  clear hb2 hC2 hb3' hP' ho' hi' b1 b2 HTe htl
  go_upto_region 5 with fail
  generalize w3.alloc (.cells #[.slice ag' N cg', .slice ao' m co'] 25) = w4 at *
  have hb4 := hb3.trans (hbA.mono hb3.size)
  have hC4 := hC3.below hbA hC3.lt
  have hGx4 := hGx.below hbA
  have hIx4 := hIx.below hbA
  obtain ⟨d0, d1⟩ := hC4.cells
  have dl := hC4.lt
  clear hb3 hC3 hbA hGx hIx
  go_wp2_with fail
  refine (eNeed _ _ _ _ _ _ _ _ _ _ _ (h.below hb4) (g.below hb4) hn ht (hS.below hb4)).mono ?_
  rintro e w5 ⟨⟨r, hr, hE, rfl⟩ | ⟨hE, rfl⟩, hb5'⟩
  · have hb5 := hb4.trans (hb5'.mono hb4.size)
    clear hE hb4 hC4 hb5' d0 d1 dl hX hGx4 hIx4
    go_wp2
    go_ret
    exact ⟨rfl, hb5⟩
  have HE : Hid (Nde G O N m n t 0) := hE
  obtain ⟨c1, n, t, rfl, rfl, o1, o2, o3⟩ := hE.facts
  have hN := c1.ok.1
  have HWB : Hid (∀ x ∈ whl G N, -9223372036854775808 ≤ x ∧ x ≤ 9223372036854775807) := whl_bd (fun i hi => (h.bd i hi).2.1) N (Nat.le_refl _)
  have hdl := dwn_le G (n := n) (t := t) (by omega) (by omega) N
  have hcl := ci_le G N
  rw [Int.toNat_natCast, Int.toNat_natCast] at *
  have hb5 := hb4.trans (hb5'.mono hb4.size)
  have hC5 := hC4.below hb5' hC4.lt
  have hX5 := hX.below hb5' hX.lt
  have hGx5 := hGx4.below hb5'
  have hIx5 := hIx4.below hb5'
  obtain ⟨e0, e1⟩ := hC5.cells
  obtain ⟨D, HD⟩ : ∃ D, Hid (dwn G n t N = D) := ⟨_, rfl⟩
  obtain ⟨l, HL⟩ : ∃ l, Hid (ci G N = l) := ⟨_, rfl⟩
  rw [HD.out] at hdl ⊢
  rw [HL.out] at hcl
  have HQ : Hid (Ere G O N m n t l D 0) := .inr ⟨HE.out, .inr ⟨HL.out.symm, .inr ⟨HD.out.symm, rfl⟩⟩⟩
  have HQx : Hid (Ere ((nmG G N).map nmg) O N m n t l D 0) := alk_run HQ.out
  have HOT : Hid (∀ xs, otl ((nmG G N).map nmg) O xs m = otl G O xs m) := fun xs => (alk_nm G N).otl xs HK.out.ok.2.2.2
  have HSN : Hid (∀ xs ys, snl ((nmG G N).map nmg) O n t xs ys N m = snl G O n t xs ys N m) := fun xs ys => (alk_nm G N).snl HK.out.ok.2.2.1 HK.out.ok.2.2.2 n t xs ys
  clear hE c1 hb4 hC4 hb5' d0 d1 dl hX hGx4 hIx4
  go_wp2_with fail
  refine (cInputs _ _ _ _ _ _ _ _ _ (h.below hb5) (g.below hb5) (hS.below hb5)).mono ?_
  rintro e w6 ⟨⟨r2, hr2, hE, _⟩ | ⟨_, v5, rfl, ho5⟩, hb6'⟩
  · exact absurd (hE.one HK.out) hr2
  rw [HL.out] at ho5
  obtain ⟨a5, c5, rfl, hr5⟩ := RdI.own ho5 HWB.out
  have hc5 := hr5.cap
  have hm5 := hr5.max
  unfold maxLen at hm5
  have hb6 := hb5.trans (hb6'.mono hb5.size)
  have hC6 := hC5.below hb6' hC5.lt
  have hX6 := hX5.below hb6' hX5.lt
  have hGx6 := hGx5.below hb6'
  have hIx6 := hIx5.below hb6'
  obtain ⟨f0, f1⟩ := hC6.cells
  obtain ⟨f2, f3⟩ := hX6.cells
  have fl := hC6.lt
  have fx := hX6.lt
  clear hb5 hC5 hX5 hGx5 hIx5 hb6' e0 e1 ho5 hr5
  have HALL : Hid (∀ w', Below w6.heap.size w6 w' → w'.cell? ⟨w.heap.size, 0, none⟩ = some (.slice ag N cg) ∧ w'.cell? ⟨w.heap.size, 1, none⟩ = some (.slice ao m co) ∧ w'.cell? ⟨w3.heap.size, 0, none⟩ = some (.slice ag' N cg') ∧ w'.cell? ⟨w3.heap.size, 1, none⟩ = some (.slice ao' m co') ∧ w.heap.size < w'.heap.size ∧ w3.heap.size < w'.heap.size) := fun w' hb => ⟨(hC6.below hb fl).cells.1, (hC6.below hb fl).cells.2, (hX6.below hb fx).cells.1, (hX6.below hb fx).cells.2, (hC6.below hb fl).lt, (hX6.below hb fx).lt⟩
  have HRD : Hid (∀ w', Below w6.heap.size w6 w' → (RdG w' ag N cg G ∧ RdI w' ao m co O) ∧ (RdG w' ag' N cg' ((nmG G N).map nmg) ∧ RdI w' ao' m co' O) ∧ Rd w' ai q ca ins ∧ Rd w' ad d cd ds ∧ Shp w') := fun w' hb => ⟨⟨(h.below hb6).below hb, (g.below hb6).below hb⟩, ⟨hGx6.below hb, hIx6.below hb⟩, (ih.below hb6).below hb, (dh.below hb6).below hb, (hS.below hb6).below hb⟩
  have hcur : Below w6.heap.size w6 w6.drew := (Below.refl _ _).drew
  go_upto_region 11 with fail
  go_region_held3 (fun w' => w'.cell? ⟨w.heap.size, 0, none⟩ = some (.slice ag N cg) ∧ w'.cell? ⟨w.heap.size, 1, none⟩ = some (.slice ao m co)) (go_keep) (first | (go_at_call_of 10 (Value.slice ai q ca); refine (tFilled _ _ _ _ l _ (HRD.out _ hcur).2.2.1 (by omega)).mono ?_; rintro en w7 ⟨gx, rfl, hx, hb⟩; have hcur := hcur.trans (hb.mono hcur.size); (try have hd := hd.below hb); obtain ⟨i0, i1, i2, i3, i4, i5⟩ := HALL.out _ hcur; clear hb) | (go_at_call_of 10 (Value.slice ad d cd); refine (tFilled _ _ _ _ D _ (HRD.out _ hcur).2.2.2.1 (by omega)).mono ?_; rintro en w8 ⟨gd, rfl, hd, hb⟩; have hcur := hcur.trans (hb.mono hcur.size); (try have hx := hx.below hb); obtain ⟨j0, j1, j2, j3, j4, j5⟩ := HALL.out _ hcur; clear hb) | (go_at_call 9; refine (eRun _ _ _ _ _ _ _ _ n t _ _ _ _ _ _ _ _ _ (HRD.out _ hcur).1.1 (HRD.out _ hcur).1.2 hx hd hn ht (HRD.out _ hcur).2.2.2.2).mono ?_; rintro en w9 ⟨⟨r3, hr3, hE3, _⟩ | ⟨_, a7, c7, b7, k7, rfl, hr7, hs7⟩, hb⟩; exact absurd (hE3.one HQ.out) hr3; have hcur := hcur.trans (hb.mono hcur.size); obtain ⟨k0, k1, k2, k3, k4, k5⟩ := HALL.out _ hcur; clear hb))
  all_goals
    rw [Int.toNat_natCast, Int.toNat_natCast] at hs7
    have hcurD := hcur.drew
    have hsec : Below w9.heap.size w9 w9.drew := (Below.refl _ _).drew
    clear hx hd i0 i1 i2 i3 i4 i5 j0 j1 j2 j3 j4 j5
    go_upto_region 12 with fail
    go_region_held3 (fun w' => w'.cell? ⟨w3.heap.size, 0, none⟩ = some (.slice ag' N cg') ∧ w'.cell? ⟨w3.heap.size, 1, none⟩ = some (.slice ao' m co')) (go_keep) (first | (go_at_call_of 10 (Value.slice ai q ca); refine (tFilled _ _ _ _ l _ (HRD.out _ hcurD).2.2.1 (by omega)).mono ?_; rintro en wa ⟨gx, rfl, hx, hb⟩; have hcurD := hcurD.trans (hb.mono hcurD.size); have hsec := hsec.trans (hb.mono hsec.size); (try have hd := hd.below hb); obtain ⟨i0, i1, i2, i3, i4, i5⟩ := HALL.out _ hcurD; clear hb) | (go_at_call_of 10 (Value.slice ad d cd); refine (tFilled _ _ _ _ D _ (HRD.out _ hcurD).2.2.2.1 (by omega)).mono ?_; rintro en wb ⟨gd, rfl, hd, hb⟩; have hcurD := hcurD.trans (hb.mono hcurD.size); have hsec := hsec.trans (hb.mono hsec.size); (try have hx := hx.below hb); obtain ⟨j0, j1, j2, j3, j4, j5⟩ := HALL.out _ hcurD; clear hb) | (go_at_call 9; refine (eRun _ _ _ _ _ _ _ _ n t _ _ _ _ _ _ _ _ _ (HRD.out _ hcurD).2.1.1 (HRD.out _ hcurD).2.1.2 hx hd hn ht (HRD.out _ hcurD).2.2.2.2).mono ?_; rintro en wd ⟨⟨r3, hr3, hE3, _⟩ | ⟨_, a9, c9, b9, k9, rfl, hr9, hs9⟩, hb⟩; exact absurd (hE3.one HQx.out) hr3; have hcurD := hcurD.trans (hb.mono hcurD.size); have hsec := hsec.trans (hb.mono hsec.size); obtain ⟨l0, l1, l2, l3, l4, l5⟩ := HALL.out _ hcurD; clear hb))
    all_goals
      rw [Int.toNat_natCast, Int.toNat_natCast, HSN.out] at hs9
      rw [HOT.out] at hr9
      have hb7 := hb6.trans (hcurD.mono hb6.size)
      have hr7 := hr7.below hsec
      have hs7 := hs7.below hsec
      clear hb6 HALL HRD hcur hcurD hx hd i0 i1 i2 i3 i4 i5 j0 j1 j2 j3 j4 j5 k0 k1 k2 k3 k4 k5 l0 l1 l2 l3 l4 l5 hsec
      go_wp2_with fail
      refine (cSame _ _ _ _ _ _ _ _ hr7 hr9).mono ?_
      rintro e we ⟨rfl, hb8'⟩
      have hb8 := hb7.trans (hb8'.mono hb7.size)
      have hs7 := hs7.below hb8'
      have hs9 := hs9.below hb8'
      clear hb7 hb8' hr7 hr9
      go_wp2_with fail
      refine (tEqualFunc _ _ _ _ _ _ _ hs7 hs9).mono ?_
      rintro e wf ⟨rfl, hb9'⟩
      have hb9 := hb8.trans (hb9'.mono hb8.size)
      clear hb8 hb9' hs7 hs9
      go_wp2
      go_ret
      exact ⟨rfl, hb9⟩
end
section
open Go.ChangeAt Go.ChangeShapes Go.RowKit Go.WideShapes
/-- A list that is met is met from any place on. -/
theorem laid_drop {P : Program} {W : World} : ∀ {l : List (String × DataW Unit)} (k : Nat), laidMet P l W → laidMet P (l.drop k) W
  | l, 0, h => by simpa using h
  | [], k + 1, h => by simpa using h
  | x :: l, k + 1, h => by rw [List.drop_succ_cons]; exact laid_drop k h.tail
end
section
open Crm Go.ChangeAt Go.ChangeShapes Go.RowKit Go.WideShapes
theorem gPow : Tryd.prog.globalNamed "internal/strconv.uint64pow10" = some 2 := by kernel_rfl
theorem tPow : (Tryd.prog.globals[2]?).map (·.type) = some 142 := by kernel_rfl
theorem cellsPow : Tryd.prog.cellsOf 142 = 20 := by kernel_rfl
theorem cellsPowU : Tryd.prog.cellsOf 42 = 1 := by kernel_rfl
theorem pow_of_head {rest : List (String × DataW Unit)} {W : World} (h : laidMet Tryd.prog (("internal/strconv.uint64pow10", Rows.laid_internal_strconv_uint64pow10) :: rest) W) : Tabs W :=
  Lib.tabIs_of_head (zs := Lib.pow10Tab) (k := .u64) gPow tPow Tryd.underlying142 Tryd.underlying42 cellsPowU cellsPow h
theorem gShp : Tryd.prog.globalNamed "sharecroft/circuit.shapes" = some 0 := by kernel_rfl
theorem tShp : (Tryd.prog.globals[0]?).map (·.type) = some 73 := by kernel_rfl
theorem cellsShp : Tryd.prog.cellsOf 72 = 4 := by kernel_rfl
theorem cellsShs : Tryd.prog.cellsOf 9 = 1 := by kernel_rfl
theorem cellsShb : Tryd.prog.cellsOf 4 = 1 := by kernel_rfl
def shD {H : Type} (i : Nat) : DataW H := .agg [.lit (.string (shw i).data.toList), .lit (.bool (shA i)), .lit (.bool (shB i)), .lit (.bool (shN i))]
theorem shD_all {H : Type} : (Rows.laid_sharecroft_circuit_shapes : DataW H) = .agg ((List.range 7).map shD) := rfl
/-- A shape that reads as the datum. -/
theorem cells_of_shape {H : Type} {enc : TypeId × Value → H} {w : World} {base : Nat} {sp : Nat → Bool} {held : Bool} {fuel : Nat} {cs : List Value} {p : List MemPlace} {i : Nat}
    (h : DataW.trod enc Tryd.prog w base sp held fuel 72 cs = some (shD i, p)) : cs = [.string (shw i), .bool (shA i), .bool (shB i), .bool (shN i)] := by
  obtain ⟨xs, k, _, hx, hl, hxl, hf⟩ := DataW.trod_struct Tryd.underlying72 h
  rw [cellsShp] at hl
  match xs, hxl, cs, hl with
  | [y0, y1, y2, y3], _, [v0, v1, v2, v3], _ =>
    have g0 : DataW.trod enc Tryd.prog w base sp held k 9 [v0] = some y0 := by simpa [cellsShs] using hf 0 _ rfl
    have g1 : DataW.trod enc Tryd.prog w base sp held k 4 [v1] = some y1 := by simpa [cellsShb] using hf 1 _ rfl
    have g2 : DataW.trod enc Tryd.prog w base sp held k 4 [v2] = some y2 := by simpa [cellsShb] using hf 2 _ rfl
    have g3 : DataW.trod enc Tryd.prog w base sp held k 4 [v3] = some y3 := by simpa [cellsShb] using hf 3 _ rfl
    obtain ⟨s, e0, f0, _⟩ := DataW.trod_string Tryd.underlying9 g0
    obtain ⟨b1, e1, f1⟩ := DataW.trod_bool Tryd.underlying4 g1
    obtain ⟨b2, e2, f2⟩ := DataW.trod_bool Tryd.underlying4 g2
    obtain ⟨b3, e3, f3⟩ := DataW.trod_bool Tryd.underlying4 g3
    subst f0 f1 f2 f3
    have hx1 := congrArg Prod.fst hx
    simp only [shD, List.map_cons, List.map_nil, DataW.agg.injEq, List.cons.injEq, DataW.lit.injEq, Lit.string.injEq, Lit.bool.injEq, and_true] at hx1
    obtain ⟨q0, q1, q2, q3⟩ := hx1
    have hs : shw i = s := by
      apply ByteArray.ext
      exact Array.ext' q0
    simp only [List.cons.injEq, and_true] at e0 e1 e2 e3
    rw [e0, e1, e2, e3, hs, q1, q2, q3]
theorem shp_of_head {rest : List (String × DataW Unit)} {W : World} (h : laidMet Tryd.prog (("sharecroft/circuit.shapes", Rows.laid_sharecroft_circuit_shapes) :: rest) W) : Shp W := by
  obtain ⟨ps, ⟨g0, t0, cs0, f0, p0, q0, hg0, ht0, hv0, hd0, _, _⟩, _, _⟩ := h
  obtain rfl := Option.some.inj (gShp.symm.trans hg0)
  obtain rfl := Option.some.inj (tShp.symm.trans ht0)
  obtain ⟨xs, m, _, hx, hl, hxl, hel⟩ := DataW.trod_array Tryd.underlying73 hd0
  have hx1 := congrArg Prod.fst hx
  rw [shD_all] at hx1
  simp only [DataW.agg.injEq] at hx1
  intro i hi
  have h1 := hel i hi
  have hxi : xs[i]? = some (shD i, (xs[i]'(by omega)).2) := by
    rw [List.getElem?_eq_getElem (show i < xs.length by omega)]
    have h2 := congrArg (·[i]?) hx1
    simp only [List.getElem?_map] at h2
    rw [List.getElem?_eq_getElem (show i < xs.length by omega), List.getElem?_range hi] at h2
    simp only [Option.map_some, Option.some.injEq] at h2
    rw [h2]
  rw [hxi, cellsShp] at h1
  have hc := cells_of_shape h1
  have hcell : ∀ j, j < 4 → W.cell? ⟨0, i * 4 + j, none⟩ = ([.string (shw i), .bool (shA i), .bool (shB i), .bool (shN i)] : List Value)[j]? := fun j hj => by
    rw [World.var?_cell hg0 hv0 (i * 4 + j), ← Array.getElem?_toList, ← hc, List.getElem?_take_of_lt hj, List.getElem?_drop]
  exact ⟨hcell 0 (by omega), hcell 1 (by omega), hcell 2 (by omega), hcell 3 (by omega)⟩
end
end Go.Proofs.YtljlioglpaogdahDoor
