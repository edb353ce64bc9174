/- croftref.Value of a gate, the wires ahead being inputs and constants. · croftref.Outs: gates that are copied and written; wires as a map: plain facts and lists of gates. · croftref.Pieces. · croftref.Outs. -/
import Derived.Test.YtljlioglpaogdabDoorValueC
import Derived.Deep.RegionHeld3
import Derived.Maps.OwnOps
import Derived.Maps.OwnSet
import Derived.Test.YtljlioglpaogdabDoorToDigC
import Derived.Laws.DeepStrings4
namespace Go.Proofs.YtljlioglpaogdabDoor
set_option linter.unusedVariables false
set_option maxRecDepth 100000
set_option maxHeartbeats 8000000
section
open Crm Go.RowKit
/-- What gate i tells. -/
def dv (D : List Gt) (ins : List Int) (i : Nat) : Int :=
  if (gt D i).k = 1 ∨ (gt D i).k = 2 then lf D ins i else if (gt D i).k = 6 then nm (lf D ins (gt D i).a.toNat * (gt D i).n)
  else if (gt D i).k = 3 then nm (lf D ins (gt D i).a.toNat + lf D ins (gt D i).b.toNat) else if (gt D i).k = 4 then nm (lf D ins (gt D i).a.toNat - lf D ins (gt D i).b.toNat) else nm (lf D ins (gt D i).a.toNat * lf D ins (gt D i).b.toNat)
theorem rValue (ag : Option Addr) (n cg : Nat) (D : List Gt) (ao : Option Addr) (m co : Nat) (ai : Option Addr) (q ca : Nat) (ins : List Int) (i : Nat) (w : World) (h : RdG w ag n cg D) (g : Rd w ai q ca ins) (hn : n ≤ 1000) (hi : i < n) (hk : ∀ j, j < i → (gt D j).k = 1 ∨ (gt D j).k = 2) (hq : ∀ j, j ≤ i → (gt D j).k = 1 → ci D j < q) (hok : okg i (gt D i)) :
    Calls Tryd.prog 17 #[.agg #[.slice ag n cg, .slice ao m co], .slice ai q ca, .int .i64 i] w fun e w' => e = .returned (.int .u64 (dv D ins i)) ∧ Below w.heap.size w w' := by
  by_cases h12 : (gt D i).k = 1 ∨ (gt D i).k = 2
  · refine (rLeaf ag n cg D ao m co ai q ca ins i w h g hn hi h12 (hq i (Nat.le_refl _))).mono ?_
    rintro e w' ⟨rfl, hb⟩
    exact ⟨by unfold dv; rw [if_pos h12], hb⟩
  · have HK : Hid (∀ j, j < i → (gt D j).k = 1 ∨ (gt D j).k = 2) := hk
    have HQ : Hid (∀ j, j < i → (gt D j).k = 1 → ci D j < q) := fun j hj => hq j (by omega)
    have H12 : Hid (¬ ((gt D i).k = 1 ∨ (gt D i).k = 2)) := h12
    clear hk hq h12
    have hC0 := CBox.new w ag n cg ao m co
    have hb0 : Below w.heap.size w (w.alloc (.cells #[.slice ag n cg, .slice ao m co] 25)) := (Below.refl _ _).alloc (Nat.le_refl _) _
    go_enter Tryd.func17, Tryd.ntmps17
    go_upto_region 1 with fail
    generalize w.alloc (.cells #[.slice ag n cg, .slice ao m co] 25) = w0 at *
    obtain ⟨d0, d1⟩ := hC0.cells
    have hl0 := hC0.lt
    have hh := h
    obtain ⟨b, o, k, x, y, z, rfl, hbb, HG, hkb, hx, hy, hz, c1, c2, c3, c4⟩ := (h.below hb0).one hi
    have hbA0 : Below w0.heap.size w0 (w0.alloc (.cells #[.int .i64 k, .int .i64 x, .int .i64 y, .int .u64 z] 43)) := (Below.refl _ _).alloc (Nat.le_refl _) _
    have hbA := hb0.trans (hbA0.mono hb0.size)
    have hCA := hC0.below hbA0 hC0.lt
    have hGA := heap_alloc_new w0 (.cells #[.int .i64 k, .int .i64 x, .int .i64 y, .int .u64 z] 43)
    obtain ⟨q1, q2, q3, q4⟩ := gate_box w0 k x y z 43
    have hltA : w0.heap.size < (w0.alloc (.cells #[.int .i64 k, .int .i64 x, .int .i64 y, .int .u64 z] 43)).heap.size := by simp
    go_upto_region 2 with fail
    generalize w0.alloc (.cells #[.int .i64 k, .int .i64 x, .int .i64 y, .int .u64 z] 43) = W at *
    clear c1 c2 c3 c4 hbA0 hb0 d0 d1
    obtain ⟨d0, d1⟩ := hCA.cells
    have hlA := hCA.lt
    have HALL : Hid (∀ w', Below W.heap.size W w' → w'.cell? ⟨w.heap.size, 0, none⟩ = some (.slice (some ⟨b, o, none⟩) n cg) ∧ w'.cell? ⟨w.heap.size, 1, none⟩ = some (.slice ao m co) ∧ w'.cell? ⟨w0.heap.size, 0, none⟩ = some (.int .i64 k) ∧ w'.cell? ⟨w0.heap.size, 1, none⟩ = some (.int .i64 x) ∧ w'.cell? ⟨w0.heap.size, 2, none⟩ = some (.int .i64 y) ∧ w'.cell? ⟨w0.heap.size, 3, none⟩ = some (.int .u64 z) ∧ w.heap.size < w'.heap.size ∧ w0.heap.size < w'.heap.size) := fun w' hb => by
      refine ⟨by rw [hb.cell (p := ⟨w.heap.size, 0, none⟩) hlA]; exact d0, by rw [hb.cell (p := ⟨w.heap.size, 1, none⟩) hlA]; exact d1, ?_, ?_, ?_, ?_, Nat.lt_of_lt_of_le hlA hb.size, Nat.lt_of_lt_of_le hltA hb.size⟩
      · rw [hb.cell (p := ⟨w0.heap.size, 0, none⟩) hltA]; exact q1
      · rw [hb.cell (p := ⟨w0.heap.size, 1, none⟩) hltA]; exact q2
      · rw [hb.cell (p := ⟨w0.heap.size, 2, none⟩) hltA]; exact q3
      · rw [hb.cell (p := ⟨w0.heap.size, 3, none⟩) hltA]; exact q4
    have HRD : Hid (∀ w', Below W.heap.size W w' → RdG w' (some ⟨b, o, none⟩) n cg D ∧ Rd w' ai q ca ins) := fun w' hb => ⟨(h.below hbA).below hb, (g.below hbA).below hb⟩
    have hcur : Below W.heap.size W W.drew := (Below.refl _ _).drew
    have hlf := lf_bd D ins
    clear hGA hh hCA hC0
    rw [HG.out] at hok
    have hk12 : k ≠ 1 ∧ k ≠ 2 := by have := H12.out; rw [HG.out] at this; simp only at this; omega
    rcases hok with ⟨e, _⟩ | ⟨e, _⟩ | ⟨e, hxi, _⟩ | ⟨e, hxi, hyi, _⟩
    · exact absurd e hk12.1
    · exact absurd e hk12.2
    · obtain rfl : k = 6 := e
      simp only at hxi
      obtain ⟨p, rfl⟩ : ∃ p : Nat, x = p := ⟨x.toNat, by omega⟩
      have hpi : p < i := by omega
      have HV : Hid (dv D ins i = nm (lf D ins p * z)) := by
        unfold Hid dv
        rw [if_neg H12.out, if_pos (by rw [HG.out]), HG.out]
        rfl
      have hl1 := hlf p
      clear hlf hk12
      go_wp2
      go_region_law (first | (go_simp; go_at_call 17; refine (rLeaf _ _ _ _ _ _ _ _ _ _ _ p _ (HRD.out _ hcur).1 (HRD.out _ hcur).2 hn (by omega) (HK.out p hpi) (HQ.out p hpi)).mono ?_; rintro en w1 ⟨rfl, hb⟩; have hcur := hcur.trans (hb.mono hcur.size); obtain ⟨e1, e2, e3, e4, e5, e6, e7, e8⟩ := HALL.out _ hcur; clear hb) | (go_simp; go_at_call 25; refine (rMul _ _ _ (by omega) (by omega) (by omega) (by omega)).mono ?_; rintro en w' ⟨rfl, rfl⟩))
      all_goals
        have hbE := hbA.trans (hcur.mono hbA.size)
        go_wp2
        go_ret
        rw [HV.out]
        exact ⟨rfl, hbE⟩
    · simp only at e hxi hyi
      obtain ⟨p, rfl⟩ : ∃ p : Nat, x = p := ⟨x.toNat, by omega⟩
      obtain ⟨r, rfl⟩ : ∃ r : Nat, y = r := ⟨y.toNat, by omega⟩
      have hpi : p < i := by omega
      have hri : r < i := by omega
      rcases e with rfl | rfl | rfl
      · have HV : Hid (dv D ins i = nm (lf D ins p + lf D ins r)) := by
          unfold Hid dv
          rw [if_neg H12.out, if_neg (by rw [HG.out]; simp only; omega), if_pos (by rw [HG.out]), HG.out]
          rfl
        have hl1 := hlf p
        have hl2 := hlf r
        have hl3 := nm_bd (-lf D ins r)
        clear hlf hk12
        go_wp2
        go_region_held3 (fun w' => w'.cell? ⟨w.heap.size, 0, none⟩ = some (.slice (some ⟨b, o, none⟩) n cg) ∧ w'.cell? ⟨w.heap.size, 1, none⟩ = some (.slice ao m co) ∧ w'.cell? ⟨w0.heap.size, 1, none⟩ = some (.int .i64 (p : Int)) ∧ w'.cell? ⟨w0.heap.size, 2, none⟩ = some (.int .i64 (r : Int))) (go_keep) (first | (go_at_call_of 17 (Value.int .i64 (p : Int)); refine (rLeaf _ _ _ _ _ _ _ _ _ _ _ p _ (HRD.out _ hcur).1 (HRD.out _ hcur).2 hn (by omega) (HK.out p hpi) (HQ.out p hpi)).mono ?_; rintro en w1 ⟨rfl, hb⟩; have hcur := hcur.trans (hb.mono hcur.size); obtain ⟨e1, e2, e3, e4, e5, e6, e7, e8⟩ := HALL.out _ hcur; clear hb) | (go_at_call_of 17 (Value.int .i64 (r : Int)); refine (rLeaf _ _ _ _ _ _ _ _ _ _ _ r _ (HRD.out _ hcur).1 (HRD.out _ hcur).2 hn (by omega) (HK.out r hri) (HQ.out r hri)).mono ?_; rintro en w2 ⟨rfl, hb⟩; have hcur := hcur.trans (hb.mono hcur.size); obtain ⟨f1, f2, f3, f4, f5, f6, f7, f8⟩ := HALL.out _ hcur; clear hb))
        all_goals
          have hbE := hbA.trans (hcur.mono hbA.size)
          go_wp2_with (go_at_call 26; refine (rAdd _ _ _ (by omega) (by omega) (by omega) (by omega)).mono ?_; rintro e w' ⟨rfl, hw⟩; have hw := hw.symm; subst hw)
          go_ret
          rw [HV.out]
          exact ⟨rfl, hbE⟩
      · have HV : Hid (dv D ins i = nm (lf D ins p + nm (-lf D ins r))) := by
          unfold Hid dv
          rw [if_neg H12.out, if_neg (by rw [HG.out]; simp only; omega), if_neg (by rw [HG.out]; simp only; omega), if_pos (by rw [HG.out]), HG.out, nm_addr]
          rfl
        have hl1 := hlf p
        have hl2 := hlf r
        have hl3 := nm_bd (-lf D ins r)
        clear hlf hk12
        go_wp2
        go_region_held3 (fun w' => w'.cell? ⟨w.heap.size, 0, none⟩ = some (.slice (some ⟨b, o, none⟩) n cg) ∧ w'.cell? ⟨w.heap.size, 1, none⟩ = some (.slice ao m co) ∧ w'.cell? ⟨w0.heap.size, 1, none⟩ = some (.int .i64 (p : Int)) ∧ w'.cell? ⟨w0.heap.size, 2, none⟩ = some (.int .i64 (r : Int))) (go_keep) (first | (go_at_call_of 17 (Value.int .i64 (p : Int)); refine (rLeaf _ _ _ _ _ _ _ _ _ _ _ p _ (HRD.out _ hcur).1 (HRD.out _ hcur).2 hn (by omega) (HK.out p hpi) (HQ.out p hpi)).mono ?_; rintro en w1 ⟨rfl, hb⟩; have hcur := hcur.trans (hb.mono hcur.size); obtain ⟨e1, e2, e3, e4, e5, e6, e7, e8⟩ := HALL.out _ hcur; clear hb) | (go_at_call_of 17 (Value.int .i64 (r : Int)); refine (rLeaf _ _ _ _ _ _ _ _ _ _ _ r _ (HRD.out _ hcur).1 (HRD.out _ hcur).2 hn (by omega) (HK.out r hri) (HQ.out r hri)).mono ?_; rintro en w2 ⟨rfl, hb⟩; have hcur := hcur.trans (hb.mono hcur.size); obtain ⟨f1, f2, f3, f4, f5, f6, f7, f8⟩ := HALL.out _ hcur; clear hb))
        all_goals
          have hbE := hbA.trans (hcur.mono hbA.size)
          go_wp2_with (first | (go_at_call 27; refine (rNeg _ _ (by omega) (by omega)).mono ?_; rintro e w' ⟨rfl, hw⟩; have hw := hw.symm; subst hw) | (go_at_call 26; refine (rAdd _ _ _ (by omega) (by omega) (by omega) (by omega)).mono ?_; rintro e w' ⟨rfl, hw⟩; have hw := hw.symm; subst hw))
          go_ret
          rw [HV.out]
          exact ⟨rfl, hbE⟩
      · have HV : Hid (dv D ins i = nm (lf D ins p * lf D ins r)) := by
          unfold Hid dv
          rw [if_neg H12.out, if_neg (by rw [HG.out]; simp only; omega), if_neg (by rw [HG.out]; simp only; omega), if_neg (by rw [HG.out]; simp only; omega), HG.out]
          rfl
        have hl1 := hlf p
        have hl2 := hlf r
        have hl3 := nm_bd (-lf D ins r)
        clear hlf hk12
        go_wp2
        go_region_held3 (fun w' => w'.cell? ⟨w.heap.size, 0, none⟩ = some (.slice (some ⟨b, o, none⟩) n cg) ∧ w'.cell? ⟨w.heap.size, 1, none⟩ = some (.slice ao m co) ∧ w'.cell? ⟨w0.heap.size, 1, none⟩ = some (.int .i64 (p : Int)) ∧ w'.cell? ⟨w0.heap.size, 2, none⟩ = some (.int .i64 (r : Int))) (go_keep) (first | (go_at_call_of 17 (Value.int .i64 (p : Int)); refine (rLeaf _ _ _ _ _ _ _ _ _ _ _ p _ (HRD.out _ hcur).1 (HRD.out _ hcur).2 hn (by omega) (HK.out p hpi) (HQ.out p hpi)).mono ?_; rintro en w1 ⟨rfl, hb⟩; have hcur := hcur.trans (hb.mono hcur.size); obtain ⟨e1, e2, e3, e4, e5, e6, e7, e8⟩ := HALL.out _ hcur; clear hb) | (go_at_call_of 17 (Value.int .i64 (r : Int)); refine (rLeaf _ _ _ _ _ _ _ _ _ _ _ r _ (HRD.out _ hcur).1 (HRD.out _ hcur).2 hn (by omega) (HK.out r hri) (HQ.out r hri)).mono ?_; rintro en w2 ⟨rfl, hb⟩; have hcur := hcur.trans (hb.mono hcur.size); obtain ⟨f1, f2, f3, f4, f5, f6, f7, f8⟩ := HALL.out _ hcur; clear hb))
        all_goals
          have hbE := hbA.trans (hcur.mono hbA.size)
          go_wp2_with (go_at_call 25; refine (rMul _ _ _ (by omega) (by omega) (by omega) (by omega)).mono ?_; rintro e w' ⟨rfl, hw⟩; have hw := hw.symm; subst hw)
          go_ret
          rw [HV.out]
          exact ⟨rfl, hbE⟩
end
section
open Crm Go.Maps Go.RowKit
/-- The cells of gates. -/
def gcs (G : List Gt) : List Value := G.flatMap fun g => [.int .i64 g.k, .int .i64 g.a, .int .i64 g.b, .int .u64 g.n]
theorem gcs_len : ∀ G : List Gt, (gcs G).length = G.length * 4
  | [] => rfl
  | g :: G => by
    have := gcs_len G
    have e : gcs (g :: G) = [.int .i64 g.k, .int .i64 g.a, .int .i64 g.b, .int .u64 g.n] ++ gcs G := by simp [gcs]
    rw [e, List.length_append, this, List.length_cons]
    simp
    omega
theorem gcs_get : ∀ (G : List Gt) (i : Nat), i < G.length → (gcs G)[i * 4]? = some (.int .i64 (gt G i).k) ∧ (gcs G)[i * 4 + 1]? = some (.int .i64 (gt G i).a) ∧ (gcs G)[i * 4 + 2]? = some (.int .i64 (gt G i).b) ∧ (gcs G)[i * 4 + 3]? = some (.int .u64 (gt G i).n)
  | [], i, h => by simp at h
  | p :: l, 0, _ => ⟨rfl, rfl, rfl, rfl⟩
  | p :: l, i + 1, h => by
    have := gcs_get l i (by simpa using h)
    have e1 : (i + 1) * 4 = i * 4 + 1 + 1 + 1 + 1 := by omega
    rw [e1]
    exact this
theorem gcs_set : ∀ (G : List Gt) (q : Nat) (k x y z : Int), ((((gcs G).set (q * 4) (.int .i64 k)).set (q * 4 + 1) (.int .i64 x)).set (q * 4 + 2) (.int .i64 y)).set (q * 4 + 3) (.int .u64 z) = gcs (G.set q ⟨k, x, y, z⟩)
  | [], q, k, x, y, z => by simp [gcs]
  | p :: l, 0, k, x, y, z => rfl
  | p :: l, q + 1, k, x, y, z => by
    have := gcs_set l q k x y z
    have e1 : (q + 1) * 4 = q * 4 + 1 + 1 + 1 + 1 := by omega
    rw [e1]
    show _ :: _ :: _ :: _ :: ((((gcs l).set (q * 4) (.int .i64 k)).set (q * 4 + 1) (.int .i64 x)).set (q * 4 + 2) (.int .i64 y)).set (q * 4 + 3) (.int .u64 z) = _
    rw [this]
    rfl
theorem gcs_one (G : List Gt) : ∀ u ∈ gcs G, u.oneCell' = true := fun u hu => by
  unfold gcs at hu
  obtain ⟨p, _, hp⟩ := List.mem_flatMap.1 hu
  simp at hp
  rcases hp with rfl | rfl | rfl | rfl <;> rfl
theorem own_setZ {w : World} {B n c g z : Nat} {E : TypeId} {xs : List Value} (h : w.ownsRow B E z (.slice (some ⟨g, 0, none⟩) n c) n xs) (i : Nat) (u : Value) : (w.setCell ⟨g, i, none⟩ u).ownsRow B E z (.slice (some ⟨g, 0, none⟩) n c) n (xs.set i u) := by
  refine ⟨by rw [List.length_set]; exact h.1, .inr ?_⟩
  rcases h.2 with ⟨e, _⟩ | ⟨g', cap, cur, e, hb, hg, h1, h2, hs, ht⟩
  · simp at e
  · simp only [Value.slice.injEq, Option.some.injEq, Addr.mk.injEq, and_true, true_and] at e
    obtain ⟨rfl, rfl⟩ := e
    refine ⟨g, c, _, rfl, hb, heap_setCell_same w g i _ _ _ hg, h1, h2, by simpa using hs, ?_⟩
    rw [← ht]
    simp [List.take_set]
theorem own_frozenZ {w : World} {B n c g z : Nat} {E : TypeId} {xs : List Value} (h : w.ownsRow B E z (.slice (some ⟨g, 0, none⟩) n c) n xs) (i : Nat) : w.frozen? ⟨g, i, none⟩ = false := by
  rcases h.2 with ⟨e, _⟩ | ⟨g', cap, cur, e, hb, hg, _⟩
  · simp at e
  · simp only [Value.slice.injEq, Option.some.injEq, Addr.mk.injEq, and_true, true_and] at e
    obtain ⟨rfl, rfl⟩ := e
    exact frozen_of_row w g i _ _ hg
/-- Gates that a call has made its own. -/
theorem RdG.own {w : World} {base n c g : Nat} {E : TypeId} {G : List Gt} (h : w.ownsRow base E 4 (.slice (some ⟨g, 0, none⟩) n c) n (gcs G)) (hl : G.length = n)
    (hb : ∀ i, i < n → (-9223372036854775808 ≤ (gt G i).k ∧ (gt G i).k ≤ 9223372036854775807) ∧ (-9223372036854775808 ≤ (gt G i).a ∧ (gt G i).a ≤ 9223372036854775807) ∧ (-9223372036854775808 ≤ (gt G i).b ∧ (gt G i).b ≤ 9223372036854775807) ∧ 0 ≤ (gt G i).n ∧ (gt G i).n ≤ 18446744073709551615) : RdG w (some ⟨g, 0, none⟩) n c G := by
  rcases h.2 with ⟨e, _⟩ | ⟨g', cap, cur, e, hbb, hg, h1, h2, hs, ht⟩
  · simp at e
  · simp only [Value.slice.injEq, Option.some.injEq, Addr.mk.injEq, and_true, true_and] at e
    obtain ⟨rfl, rfl⟩ := e
    refine ⟨hl, h1, h2, by simp, hb, fun x hx i hi => ?_⟩
    obtain rfl := Option.some.inj hx
    obtain ⟨e1, e2, e3, e4⟩ := gcs_get G i (by omega)
    exact ⟨h.cells (g := g) rfl _ _ e1, h.cells (g := g) rfl _ _ e2, h.cells (g := g) rfl _ _ e3, h.cells (g := g) rfl _ _ e4⟩
theorem own_lt {w : World} {base n c g z : Nat} {E : TypeId} {xs : List Value} (h : w.ownsRow base E z (.slice (some ⟨g, 0, none⟩) n c) n xs) : base ≤ g ∧ g < w.heap.size := h.lt g rfl

theorem gcs_take : ∀ (G : List Gt) (k : Nat), gcs (G.take k) = (gcs G).take (k * 4)
  | [], k => by simp [gcs]
  | g :: G, 0 => by simp [gcs]
  | g :: G, k + 1 => by
    have := gcs_take G k
    have e1 : (k + 1) * 4 = k * 4 + 1 + 1 + 1 + 1 := by omega
    rw [e1]
    show _ :: _ :: _ :: _ :: gcs (G.take k) = _ :: _ :: _ :: _ :: (gcs G).take (k * 4)
    rw [this]
theorem RdG.news {w : World} {b o n c k : Nat} {G : List Gt} (h : RdG w (some ⟨b, o, none⟩) n c G) (hk : k ≤ n) : ∀ j u, (gcs (G.take k))[j]? = some u → w.cell? ((⟨b, o, none⟩ : Addr).add j) = some u := by
  intro j u hu
  rw [gcs_take] at hu
  have hj : j < k * 4 := by
    rcases Nat.lt_or_ge j (k * 4) with e | e
    · exact e
    · rw [List.getElem?_eq_none (by simp; omega)] at hu; cases hu
  rw [List.getElem?_take_of_lt hj] at hu
  have hl := h.len
  obtain ⟨e1, e2, e3, e4⟩ := gcs_get G (j / 4) (by omega)
  obtain ⟨c1, c2, c3, c4⟩ := h.cell _ rfl (j / 4) (by omega)
  have hr : j = j / 4 * 4 ∨ j = j / 4 * 4 + 1 ∨ j = j / 4 * 4 + 2 ∨ j = j / 4 * 4 + 3 := by omega
  rcases hr with hr | hr | hr | hr
  · rw [hr, e1] at hu; rw [hr, c1]; exact hu
  · rw [hr, e2] at hu; rw [hr, c2]; exact hu
  · rw [hr, e3] at hu; rw [hr, c3]; exact hu
  · rw [hr, e4] at hu; rw [hr, c4]; exact hu
theorem own_atZ {w : World} {base n z : Nat} {E : TypeId} {v : Value} {xs : List Value} (h : w.ownsRow base E z v n xs) (hn : 0 < n) : ∃ g c, v = .slice (some ⟨g, 0, none⟩) n c ∧ base ≤ g ∧ g < w.heap.size ∧ n ≤ c ∧ c ≤ maxLen := by
  rcases h.2 with ⟨_, rfl⟩ | ⟨g, cap, cur, rfl, hb, hg, h1, h2, _⟩
  · omega
  · exact ⟨g, cap, rfl, hb, (Array.getElem?_eq_some_iff.1 hg).1, h1, h2⟩
theorem CBox.apart {w : World} {g g' n' c' : Nat} {ag : Option Addr} {n cg : Nat} {ao : Option Addr} {m co : Nat} {B z : Nat} {E : TypeId} {xs : List Value} (h : CBox w g ag n cg ao m co) (ho : w.ownsRow B E z (.slice (some ⟨g', 0, none⟩) n' c') n' xs) (hE : E ≠ 25) : g' ≠ g := by
  rcases ho.2 with ⟨e, _⟩ | ⟨g'', cap, cur, e, _, hg, _⟩
  · simp at e
  · simp only [Value.slice.injEq, Option.some.injEq, Addr.mk.injEq, and_true, true_and] at e
    obtain ⟨rfl, rfl⟩ := e
    intro e
    subst e
    unfold CBox at h
    rw [hg] at h
    simp only [Option.some.injEq, Obj.cells.injEq] at h
    exact hE h.2.1
theorem CBox.grown {w w' : World} {g : Nat} {r : Option Nat} {ag : Option Addr} {n cg : Nat} {ao : Option Addr} {m co : Nat} (h : CBox w g ag n cg ao m co) (hg : w.grownBy w' r) (hr : some g ≠ r) : CBox w' g ag n cg ao m co := by
  unfold CBox; rw [hg.block g h.lt hr]; exact h
theorem map_apart {w : World} {P : Program} {k : TypeId} {R : Value → Option (DataW Unit × List MemPlace)} {b nn : Nat} {D : DataW Unit} {g' n' c' B z : Nat} {E : TypeId} {xs : List Value} (h : w.ownsMap P k R b nn D) (ho : w.ownsRow B E z (.slice (some ⟨g', 0, none⟩) n' c') n' xs) : g' ≠ b := by
  obtain ⟨es, clock, hb, _⟩ := h
  rcases ho.2 with ⟨e, _⟩ | ⟨g'', cap, cur, e, _, hg, _⟩
  · simp at e
  · simp only [Value.slice.injEq, Option.some.injEq, Addr.mk.injEq, and_true, true_and] at e
    obtain ⟨rfl, rfl⟩ := e
    intro e
    subst e
    rw [hg] at hb
    simp at hb
/-- Gates of which the first j that are no inputs are constants. -/
def dgj (G : List Gt) (ins : List Int) (n j : Nat) : List Gt := (List.range n).map fun p => if p < j ∧ (gt G p).k ≠ 1 then ⟨2, 0, 0, wi G ins p⟩ else gt G p
theorem dgj_len (G : List Gt) (ins : List Int) (n j : Nat) : (dgj G ins n j).length = n := by simp [dgj]
theorem dgj_gt (G : List Gt) (ins : List Int) {n p : Nat} (j : Nat) (h : p < n) : gt (dgj G ins n j) p = if p < j ∧ (gt G p).k ≠ 1 then ⟨2, 0, 0, wi G ins p⟩ else gt G p := by
  unfold gt
  simp [dgj, h]
  rfl
theorem dgj_zero (G : List Gt) (ins : List Int) {n : Nat} (h : n ≤ G.length) : G.take n = dgj G ins n 0 := by
  apply List.ext_getElem?
  intro i
  by_cases hi : i < n
  · rw [List.getElem?_take_of_lt hi]
    simp [dgj, hi, gt, List.getElem?_eq_getElem (show i < G.length by omega)]
  · rw [List.getElem?_eq_none (by simp; omega), List.getElem?_eq_none (by rw [dgj_len]; omega)]
theorem dgj_in (G : List Gt) (ins : List Int) (n j : Nat) (h : (gt G j).k = 1) : dgj G ins n j = dgj G ins n (j + 1) := by
  unfold dgj
  refine List.map_congr_left fun p _ => ?_
  by_cases e : p = j
  · subst e; simp [h]
  · have : (p < j + 1) = (p < j) := by apply propext; omega
    simp only [this]
theorem dgj_set (G : List Gt) (ins : List Int) {n j : Nat} (h : (gt G j).k ≠ 1) : (dgj G ins n j).set j ⟨2, 0, 0, wi G ins j⟩ = dgj G ins n (j + 1) := by
  apply List.ext_getElem?
  intro q
  rw [List.getElem?_set]
  by_cases hq : q < n
  · by_cases e : j = q
    · subst e; simp [dgj, hq, h]
    · have : (q < j + 1) = (q < j) := by apply propext; omega
      simp [dgj, hq, e, this]
  · by_cases e : j = q
    · subst e; simp [dgj, hq]
    · simp [dgj, hq, e]
/-- The first k wires, as a map. -/
def mpd (V : Nat → Int) : Nat → DataW Unit
  | 0 => .map []
  | k + 1 => (mpd V k).put (.int .i64 (k : Int)) (.lit (.int .u64 (V k)))
theorem mpd_map (V : Nat → Int) : ∀ k, IsMap (mpd V k)
  | 0 => ⟨[], rfl⟩
  | k + 1 => by
    obtain ⟨es, e⟩ := mpd_map V k
    rw [mpd, e]
    exact ⟨_, rfl⟩
theorem mpd_at (V : Nat → Int) {j : Nat} (z : DataW Unit) : ∀ k, j < k → (mpd V k).atKey (.int .i64 (j : Int)) z = .lit (.int .u64 (V j))
  | 0, h => by omega
  | k + 1, h => by
    rw [mpd]
    by_cases e : j = k
    · subst e
      exact atKey_put_same (mpd_map V j) (show WideAt.IsKeyLit (.int .i64 (j : Int)) from trivial) _ _
    · rw [atKey_put_other (fun e' => by simp only [Lit.int.injEq, true_and] at e'; omega)]
      exact mpd_at V z k (by omega)
/-- Inputs stay inputs. -/
theorem dgj_ci (G : List Gt) (ins : List Int) {n i : Nat} (hi : i < n) : ∀ j, j ≤ i → ci (dgj G ins n i) j = ci G j
  | 0, _ => rfl
  | j + 1, h => by
    have ih := dgj_ci G ins hi j (by omega)
    have hg := dgj_gt G ins (n := n) (p := j) i (by omega)
    by_cases e : (gt G j).k = 1
    · rw [ci_in e, ci_in (by rw [hg, if_neg (fun h => h.2 e)]; exact e), ih]
    · rw [ci_no e, ci_no (by rw [hg, if_pos ⟨by omega, e⟩]; simp only; omega), ih]
/-- A gate of them tells what the wire has. -/
theorem dgj_lf {G : List Gt} {ins : List Int} {n i j : Nat} (hi : i < n) (hj : j < i) : ((gt (dgj G ins n i) j).k = 1 ∨ (gt (dgj G ins n i) j).k = 2) ∧ lf (dgj G ins n i) ins j = wi G ins j := by
  have hg := dgj_gt G ins (n := n) (p := j) i (by omega)
  by_cases e : (gt G j).k = 1
  · rw [if_neg (fun h => h.2 e)] at hg
    unfold lf
    rw [hg, if_pos e, dgj_ci G ins hi j (by omega), wi_in e]
    exact ⟨.inl e, rfl⟩
  · rw [if_pos ⟨hj, e⟩] at hg
    unfold lf
    rw [hg]
    refine ⟨.inr rfl, ?_⟩
    rw [if_neg (by simp only; omega)]
    have := wi_bd G ins j
    exact nm_small this.1 this.2
theorem dgj_dv {G : List Gt} {ins : List Int} {n i : Nat} (hi : i < n) (hok : okg i (gt G i)) : gt (dgj G ins n i) i = gt G i ∧ dv (dgj G ins n i) ins i = wi G ins i := by
  have hg := dgj_gt G ins (n := n) (p := i) i hi
  rw [if_neg (fun h => by omega)] at hg
  refine ⟨hg, ?_⟩
  unfold dv
  rw [hg]
  rcases hok with ⟨e, _⟩ | ⟨e, _⟩ | ⟨e, hx, _⟩ | ⟨e, hx, hy, _⟩
  · rw [if_pos (.inl e)]
    unfold lf
    rw [hg, if_pos e, dgj_ci G ins hi i (Nat.le_refl _), wi_in e]
  · rw [if_pos (.inr e)]
    unfold lf
    rw [hg, if_neg (by omega), wi_const e]
  · obtain ⟨p, hp⟩ : ∃ p : Nat, (gt G i).a = p := ⟨(gt G i).a.toNat, by omega⟩
    rw [if_neg (by omega), if_pos e, hp, Int.toNat_natCast, (dgj_lf hi (show p < i by omega)).2, wi_scale e hp (by omega)]
  · obtain ⟨p, hp⟩ : ∃ p : Nat, (gt G i).a = p := ⟨(gt G i).a.toNat, by omega⟩
    obtain ⟨r, hr⟩ : ∃ r : Nat, (gt G i).b = r := ⟨(gt G i).b.toNat, by omega⟩
    rw [if_neg (by omega), if_neg (by omega), hp, hr, Int.toNat_natCast, Int.toNat_natCast, (dgj_lf hi (show p < i by omega)).2, (dgj_lf hi (show r < i by omega)).2]
    rcases e with e | e | e
    · rw [if_pos e, wi_add e hp (by omega) hr (by omega)]
    · rw [if_neg (by omega), if_pos e, wi_sub e hp (by omega) hr (by omega)]
    · rw [if_neg (by omega), if_neg (by omega), wi_mul e hp (by omega) hr (by omega)]
end
section
open Crm Go.RowKit
def mt : ByteArray := ⟨#[]⟩
end
section
open Crm Go.Maps Go.RowKit
theorem lawI : Keyed Tryd.prog 3 := int_keyed Tryd.underlying3
theorem zeroU (w : World) : (zeroValue 40).run Tryd.prog w = .ok (.int .u64 0) w := by kernel_rfl
theorem infoGate : (Tryd.prog.info? 43).map (fun i => (i.zero, i.size, i.bytes)) = some (some (.agg #[.int .i64 0, .int .i64 0, .int .i64 0, .int .u64 0]), 4, 32) := by kernel_rfl
theorem infoUO : (Tryd.prog.info? 40).map (fun i => (i.zero, i.size, i.bytes)) = some (some (.int .u64 0), 1, 8) := by kernel_rfl
theorem rOuts (ag : Option Addr) (n cg : Nat) (G : List Gt) (ao : Option Addr) (m co : Nat) (O : List Int) (ai : Option Addr) (q ca : Nat) (ins : List Int) (w : World) (h : RdG w ag n cg G) (g : RdI w ao m co O) (ih : Rd w ai q ca ins) (hn1 : 1 ≤ n) (hn : n ≤ 30) (hm : m ≤ 30) (hG : okG G n) (hO : okO O n m) (hq : q = ci G n) :
    Calls Tryd.prog 7 #[.agg #[.slice ag n cg, .slice ao m co], .slice ai q ca] w fun e w' => ∃ v, e = .returned v ∧ w'.ownsRow w.heap.size 40 1 v m ((otl G O ins m).map (Value.int .u64)) ∧ Below w.heap.size w w' := by
  obtain ⟨i0, hi, hz0, hz1, hz2⟩ := info_parts infoGate
  have HG : Hid (okG G n) := hG
  have HO : Hid (okO O n m) := hO
  have HQ : Hid (q = ci G n) := hq
  have hcap := h.cap
  have hmax := h.max
  have hlen := h.len
  clear hG hO hq
  have hmm := @run_makeMap Tryd.prog
  have hC0 := CBox.new w ag n cg ao m co
  have hb0 : Below w.heap.size w (w.alloc (.cells #[.slice ag n cg, .slice ao m co] 25)) := (Below.refl _ _).alloc (Nat.le_refl _) _
  go_enter Tryd.func7, Tryd.ntmps7
  go_upto_region 1 with fail
  generalize w.alloc (.cells #[.slice ag n cg, .slice ao m co] 25) = w0 at *
  have hM0 := World.ownsMap_made w0 Tryd.prog 3 (plainElem (H := Unit) Tryd.prog 40)
  have hbM : Below w0.heap.size w0 (w0.alloc (.map #[] 0)) := (Below.refl _ _).alloc (Nat.le_refl _) _
  have hCM := hC0.below hbM hC0.lt
  have hbw0 := hb0.trans (hbM.mono hb0.size)
  have hgB : w.heap.size ≤ w0.heap.size := hb0.size
  go_wp2
  go_loopw [7] (fun v wr => ∃ i : Nat, i ≤ n ∧ v = .int .i64 i ∧ CBox wr w.heap.size ag n cg ao m co ∧ wr.ownsMap Tryd.prog 3 (plainElem (H := Unit) Tryd.prog 40) w0.heap.size i (mpd (wi G ins) i) ∧ Below w.heap.size w wr) (fun v _ => n - (intOf v).toNat)
  case atStart => exact ⟨0, Nat.zero_le _, rfl, hCM, hM0, hbw0⟩
  case round =>
    clear hCM hM0 hbw0 hbM hC0 hb0
    obtain ⟨i, hin, rfl, hC, hM, hbel⟩ := hrel
    obtain ⟨d0, d1⟩ := hC.cells
    have hl0 := hC.lt
    have hs1 := hbel.size
    by_cases hlt : i < n
    · obtain ⟨b, o, k, x, y, z, rfl, hbb, HGi, hk, hx, hy, hz, c1, c2, c3, c4⟩ := (h.below hbel).one hlt
      have hnews := (h.below hbel).news (k := i + 1) (by omega)
      have HNews : Hid (∀ j u, (gcs (G.take (i + 1)))[j]? = some u → wr.cell? ((⟨b, o, none⟩ : Addr).add j) = some u) := hnews
      have HNl : Hid ((gcs (G.take (i + 1))).length = (i + 1) * 4) := by unfold Hid; rw [gcs_len, List.length_take, hlen]; congr 1; omega
      have HTk : Hid (G.take (i + 1) = dgj G ins (i + 1) 0) := dgj_zero G ins (by omega)
      clear hnews c1 c2 c3 c4 hk hx hy hz HGi
      go_upto_region 7 with (at_builtin; refine wpList_append_own _ rfl _ _ 22 rfl w.heap.size 43 i0 (.agg #[.int .i64 0, .int .i64 0, .int .i64 0, .int .u64 0]) 4 32 Tryd.underlying22 hi hz0 hz1 hz2 rfl (by decide) (.slice none 0 0) 0 [] rfl (World.ownsRow_nil _ _ _ _) ⟨b, o, none⟩ (i + 1) cg (gcs (G.take (i + 1))) rfl HNl.out HNews.out (gcs_one _) (by unfold maxLen; omega) (by omega) hs1 ?_; intro v2 w2 hown2 hgr2 _; rw [Nat.zero_add, List.nil_append, HTk.out] at hown2; obtain ⟨g2, c2, rfl, hg2a, hg2b, hg2c, hg2d⟩ := own_atZ hown2 (by omega))
      have hb2 : Below w.heap.size w w2 := hbel.grown hgr2 hs1 (by simp [Value.ownBlock])
      have hC2 := hC.grown hgr2 (by simp [Value.ownBlock])
      have hM2 := hM.kept hgr2 (by simp [Value.ownBlock])
      have hD3 := CBox.new w2 (some ⟨g2, 0, none⟩) (i + 1) c2 none 0 0
      have hb3' : Below w2.heap.size w2 (w2.alloc (.cells #[.slice (some ⟨g2, 0, none⟩) (i + 1) c2, .slice none 0 0] 25)) := (Below.refl _ _).alloc (Nat.le_refl _) _
      have hC3 := hC2.below hb3' hC2.lt
      have hM3 := hM2.alloc (.cells #[.slice (some ⟨g2, 0, none⟩) (i + 1) c2, .slice none 0 0] 25)
      have hown3 := hown2.alloc (.cells #[.slice (some ⟨g2, 0, none⟩) (i + 1) c2, .slice none 0 0] 25)
      have hb3 := hb2.trans (hb3'.mono hb2.size)
      have hne : w2.heap.size ≠ w.heap.size := by have := hC2.lt; omega
      generalize w2.alloc (.cells #[.slice (some ⟨g2, 0, none⟩) (i + 1) c2, .slice none 0 0] 25) = w3 at *
      clear hC hM hbel hown2 hgr2 hb2 hC2 hM2 hb3' HNews HNl HTk d0 d1 hl0
      go_wp2
      go_loopw [9] (fun v wr => ∃ j : Nat, j ≤ i ∧ v = .int .i64 j ∧ wr.ownsRow w.heap.size 43 4 (.slice (some ⟨g2, 0, none⟩) (i + 1) c2) (i + 1) (gcs (dgj G ins (i + 1) j)) ∧ CBox wr w2.heap.size (some ⟨g2, 0, none⟩) (i + 1) c2 none 0 0 ∧ CBox wr w.heap.size (some ⟨b, o, none⟩) n cg ao m co ∧ wr.ownsMap Tryd.prog 3 (plainElem (H := Unit) Tryd.prog 40) w0.heap.size i (mpd (wi G ins) i) ∧ Below w.heap.size w wr) (fun v _ => i - (intOf v).toNat)
      case atStart => exact ⟨0, Nat.zero_le _, rfl, hown3, hD3, hC3, hM3, hb3⟩
      case round =>
        clear hown3 hD3 hC3 hM3 hb3
        obtain ⟨j, hj, rfl, hown, hD, hC, hM, hbel⟩ := hrel
        obtain ⟨d0, d1⟩ := hD.cells
        have hld := hD.lt
        have hdl := dgj_len G ins (i + 1) j
        by_cases hji : j < i
        · obtain ⟨e1, e2, e3, e4⟩ := gcs_get (dgj G ins (i + 1) j) j (by rw [hdl]; omega)
          have f1 := hown.cells (g := g2) rfl _ _ e1
          have f2 := hown.cells (g := g2) rfl _ _ e2
          have f3 := hown.cells (g := g2) rfl _ _ e3
          have f4 := hown.cells (g := g2) rfl _ _ e4
          rw [Addr.add_lit, Nat.zero_add] at f1 f2 f3 f4
          have hlg := (own_lt hown).2
          have HgK : Hid ((gt (dgj G ins (i + 1) j) j).k = (gt G j).k) := by unfold Hid; rw [dgj_gt G ins j (by omega), if_neg (fun h => by omega)]
          rw [HgK.out] at f1
          obtain ⟨kk, HKK⟩ : ∃ kk, Hid ((gt G j).k = kk) := ⟨_, rfl⟩
          rw [HKK.out] at f1
          have hjb : (j : Int) < (i : Int) + 1 := by omega
          have hj0 : (0 : Int) ≤ (j : Int) := by omega
          by_cases hk1 : kk = 1
          · subst hk1
            have HD2 : Hid (gcs (dgj G ins (i + 1) j) = gcs (dgj G ins (i + 1) (j + 1))) := by unfold Hid; rw [dgj_in G ins (i + 1) j HKK.out]
            rw [HD2.out] at hown
            clear e1 e2 e3 e4
            go_wp2
            go_roundw
            case rel => exact ⟨j + 1, by omega, by go_num, hown, hD, hC, hM, hbel⟩
            case measure => simp [intOf]; omega
          · have hkb : (kk != 1) = true := by rw [bne_iff_ne]; exact hk1
            have HD2 : Hid ((dgj G ins (i + 1) j).set j ⟨2, 0, 0, wi G ins j⟩ = dgj G ins (i + 1) (j + 1)) := dgj_set G ins (by rw [HKK.out]; exact hk1)
            have HAt : Hid ((mpd (wi G ins) i).atKey (.int .i64 (j : Int)) (.lit (.int .u64 0)) = .lit (.int .u64 (wi G ins j))) := mpd_at _ _ i hji
            have z1 := own_frozenZ hown (j * 4)
            have z2 := own_frozenZ hown (j * 4 + 1)
            have z3 := own_frozenZ hown (j * 4 + 2)
            have z4 := own_frozenZ hown (j * 4 + 3)
            have hos := own_setZ (own_setZ (own_setZ (own_setZ hown (j * 4) (.int .i64 2)) (j * 4 + 1) (.int .i64 0)) (j * 4 + 2) (.int .i64 0)) (j * 4 + 3) (.int .u64 (wi G ins j))
            rw [gcs_set, HD2.out] at hos
            have hgr : wr.grownBy ((((wr.setCell ⟨g2, j * 4, none⟩ (.int .i64 2)).setCell ⟨g2, j * 4 + 1, none⟩ (.int .i64 0)).setCell ⟨g2, j * 4 + 2, none⟩ (.int .i64 0)).setCell ⟨g2, j * 4 + 3, none⟩ (.int .u64 (wi G ins j))) (some g2) := grown_trans (grown_trans (grown_trans (grown_set _ _ _ _) (grown_set _ _ _ _)) (grown_set _ _ _ _)) (grown_set _ _ _ _)
            have HE1 : Hid (World.ownsRow _ _ _ _ _ _ _) := hos
            have HE2 : Hid (CBox _ w2.heap.size _ _ _ _ _ _) := hD.grown hgr (by simp only [ne_eq, Option.some.injEq]; exact fun e => hD.apart hown (by decide) e.symm)
            have HE3 : Hid (CBox _ w.heap.size _ _ _ _ _ _) := hC.grown hgr (by simp only [ne_eq, Option.some.injEq]; exact fun e => hC.apart hown (by decide) e.symm)
            have HE4 : Hid (World.ownsMap _ _ _ _ _ _ _) := hM.kept hgr (by simp only [ne_eq, Option.some.injEq]; exact fun e => map_apart hM hown e.symm)
            have HE5 : Hid (Below w.heap.size w _) := hbel.grown hgr hbel.size (fun p hp => by simp only [Option.some.injEq] at hp; rw [← hp]; exact (own_lt hown).1)
            clear hos hgr e1 e2 e3 e4 hk1 hown hD hC hbel
            go_wp2_with (at_lookup; refine wpList_lookup_own_int _ rfl _ _ 48 rfl 3 40 .u64 lawI Tryd.underlying48 Tryd.underlying40 (zeroU _) w0.heap.size i _ rfl hM _ _ rfl (keyOf_int_mk Tryd.underlying3 (WalkArith.wf_i64 (by omega))) ?_; intro cc hat _; rw [HAt.out] at hat; obtain rfl : wi G ins j = cc := (by simpa using hat); clear hat)
            exact ⟨⟨j + 1, by omega, by go_num, HE1.out, HE2.out, HE3.out, HE4.out, HE5.out⟩, by simp [intOf]; omega⟩
        · have hji2 : j = i := by omega
          subst hji2
          have hbd : ∀ p, p < j + 1 → (-9223372036854775808 ≤ (gt (dgj G ins (j + 1) j) p).k ∧ (gt (dgj G ins (j + 1) j) p).k ≤ 9223372036854775807) ∧ (-9223372036854775808 ≤ (gt (dgj G ins (j + 1) j) p).a ∧ (gt (dgj G ins (j + 1) j) p).a ≤ 9223372036854775807) ∧ (-9223372036854775808 ≤ (gt (dgj G ins (j + 1) j) p).b ∧ (gt (dgj G ins (j + 1) j) p).b ≤ 9223372036854775807) ∧ 0 ≤ (gt (dgj G ins (j + 1) j) p).n ∧ (gt (dgj G ins (j + 1) j) p).n ≤ 18446744073709551615 := fun p hp => by
            rw [dgj_gt G ins j hp]
            split
            · have := wi_bd G ins p
              exact ⟨by simp only; omega, by simp only; omega, by simp only; omega, by simp only; omega⟩
            · exact h.bd p (by omega)
          have hRD := RdG.own hown hdl hbd
          have HRD : Hid (RdG wr (some ⟨g2, 0, none⟩) (j + 1) c2 (dgj G ins (j + 1) j)) := hRD
          obtain ⟨hgi, hdv⟩ := dgj_dv (G := G) (ins := ins) (n := j + 1) (i := j) (by omega) (HG.out j hlt)
          have HDV : Hid (dv (dgj G ins (j + 1) j) ins j = wi G ins j) := hdv
          have HGI : Hid (gt (dgj G ins (j + 1) j) j = gt G j) := hgi
          have hwb := wi_bd G ins j
          have hin2 := ih.below hbel
          have HMP : Hid ((mpd (wi G ins) j).put (.int .i64 (j : Int)) (.lit (.int .u64 (wi G ins j))) = mpd (wi G ins) (j + 1)) := rfl
          have hqc : ∀ p, p ≤ j → (gt (dgj G ins (j + 1) j) p).k = 1 → ci (dgj G ins (j + 1) j) p < q := fun p hp hk => by
            rw [dgj_ci G ins (by omega) p hp, HQ.out]
            have hk' : (gt G p).k = 1 := by
              rw [dgj_gt G ins j (by omega)] at hk
              split at hk
              · simp at hk
              · exact hk
            exact ci_lt (by omega) hk'
          have HQC : Hid (∀ p, p ≤ j → (gt (dgj G ins (j + 1) j) p).k = 1 → ci (dgj G ins (j + 1) j) p < q) := hqc
          have hs3 := hbel.size
          clear hbd hRD hgi hdv hqc hown
          go_wp2_with fail
          refine (rValue _ _ _ _ _ _ _ _ _ _ _ j _ HRD.out hin2 (by omega) (by omega) (fun p hp => (dgj_lf (by omega) hp).1) HQC.out (by rw [HGI.out]; exact HG.out j hlt)).mono ?_
          rintro e w5 ⟨rfl, hb5⟩
          rw [HDV.out]
          have hM5 := hM.kept (grown_below hb5 none) (by simp)
          have hC5 := hC.below hb5 hC.lt
          have hb05 := hbel.trans (hb5.mono hs3)
          have hneB : w0.heap.size ≠ w.heap.size := fun e => by
            obtain ⟨es, ck, e1, _⟩ := hM
            unfold CBox at hC
            rw [e] at e1
            rw [e1] at hC
            simp at hC
          clear hM hC hD hbel hb5 hin2 HRD d0 d1 hld
          go_wp2_with (at_mapUpdate; refine wpList_mapUpdate_own _ rfl _ _ _ 48 rfl 3 40 lawI Tryd.underlying48 _ w0.heap.size j _ rfl hM5 (by unfold maxLen; omega) _ _ _ rfl rfl (keyOf_int_mk Tryd.underlying3 (WalkArith.wf_i64 (by omega))) _ [] (plainElem_int Tryd.underlying40 (WalkArith.wf_u64 (by omega))) ?_; intro w6 hM6 hgr6; rw [HMP.out] at hM6; have hC6 := hC5.grown hgr6 (by simp only [ne_eq, Option.some.injEq]; exact fun e => hneB e.symm); have hb6 := hb05.grown hgr6 hb05.size (fun p hp => by simp only [Option.some.injEq] at hp; omega); clear hgr6 hM5)
          exact ⟨⟨j + 1, by omega, by go_num, hC6, hM6, hb6⟩, by simp [intOf]; omega⟩
    · have hin2 : i = n := by omega
      subst hin2
      go_wp2
      obtain ⟨wo, hwo⟩ : ∃ wo, wo = wr := ⟨_, rfl⟩
      subst hwo
      go_loopw [5, 10] (fun v p wr' => ∃ j : Nat, j ≤ m ∧ p = .int .i64 j ∧ wr'.ownsRow wo.heap.size 40 1 v j ((otl G O ins j).map (Value.int .u64)) ∧ Below wo.heap.size wo wr') (fun _ p _ => m - (intOf p).toNat)
      case atStart => exact ⟨0, Nat.zero_le _, rfl, World.ownsRow_nil _ _ _ _, Below.refl _ _⟩
      case round =>
        obtain ⟨j, hj, rfl, hown, hbe⟩ := hrel
        have hC7 := hC.below hbe hC.lt
        obtain ⟨f0, f1⟩ := hC7.cells
        have hl7 := hC7.lt
        have hM7 := hM.kept (grown_below hbe none) (by simp)
        have hs7 := hbe.size
        have hb7 := hbel.trans (hbe.mono hs1)
        have HM : Hid (World.ownsMap wo _ _ _ _ _ _) := hM
        have HC : Hid (CBox wo _ _ _ _ _ _ _) := hC
        clear hM hC d0 d1 hl0
        by_cases hjm : j < m
        · obtain ⟨b, o, x, rfl, hbb, HX, hx0, hx1, c1⟩ := (g.below hb7).one hjm
          obtain ⟨p0, p1⟩ := HO.out j hjm
          rw [HX.out] at p0 p1
          obtain ⟨p, rfl⟩ : ∃ p : Nat, x = (p : Int) := ⟨x.toNat, by omega⟩
          have HAt : Hid ((mpd (wi G ins) i).atKey (.int .i64 (p : Int)) (.lit (.int .u64 0)) = .lit (.int .u64 (wi G ins p))) := mpd_at _ _ i (by omega)
          have HSn : Hid (otl G O ins j ++ [wi G ins p] = otl G O ins (j + 1)) := by
            have := otl_snoc G O ins j
            rw [HX.out, Int.toNat_natCast] at this
            exact this
          clear hx0 hx1
          go_wp2_with (first | (at_lookup; refine wpList_lookup_own_int _ rfl _ _ 48 rfl 3 40 .u64 lawI Tryd.underlying48 Tryd.underlying40 (zeroU _) w0.heap.size i _ rfl hM7 _ _ rfl (keyOf_int_mk Tryd.underlying3 (WalkArith.wf_i64 (by omega))) ?_; intro cc hat _; rw [HAt.out] at hat; obtain rfl : wi G ins p = cc := (by simpa using hat); clear hat) | (at_builtin; refine wpList_app1 (T := 26) Tryd.underlying26 infoUO _ rfl _ _ rfl wo.heap.size _ _ _ rfl hown _ rfl (by omega) (by omega) ?_; intro v' w3 hown3 hbel3; rw [HSn.out] at hown3; have hbe3 := hbe.trans hbel3; clear hown hbel3))
          exact ⟨⟨j + 1, by omega, by go_num, hown3, hbe3⟩, by simp [intOf]; omega⟩
        · obtain rfl : j = m := by omega
          have ho2 := own_base hown hs1
          clear hown hM7
          go_wp2
          go_ret
          exact ⟨_, rfl, ho2, hb7⟩
end
end Go.Proofs.YtljlioglpaogdabDoor
