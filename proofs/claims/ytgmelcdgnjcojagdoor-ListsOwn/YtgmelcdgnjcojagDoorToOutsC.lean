/- croftref.Value of a gate, the wires ahead being inputs and constants. · croftref.Outs: gates that are copied and written; wires as a map: plain facts and lists of gates. · croftref.Outs. -/
import Derived.Test.YtgmelcdgnjcojagDoorToValueC
import Derived.Deep.RegionHeld3
import Derived.Maps.OwnOps
import Derived.Maps.OwnSet
namespace Go.Proofs.YtgmelcdgnjcojagDoor
open Go.RowKit Crm

/-- What gate i tells. -/
def dv (D : List Gt) (ins : List Int) (i : Nat) : Int :=
  if (gt D i).k = 1 ∨ (gt D i).k = 2 then lf D ins i else if (gt D i).k = 6 then nm (lf D ins (gt D i).a.toNat * (gt D i).n)
  else if (gt D i).k = 3 then nm (lf D ins (gt D i).a.toNat + lf D ins (gt D i).b.toNat) else if (gt D i).k = 4 then nm (lf D ins (gt D i).a.toNat - lf D ins (gt D i).b.toNat) else nm (lf D ins (gt D i).a.toNat * lf D ins (gt D i).b.toNat)
theorem dv_bd (D : List Gt) (ins : List Int) (i : Nat) : 0 ≤ dv D ins i ∧ dv D ins i ≤ 2147483646 := by
  unfold dv
  split
  · exact lf_bd _ _ _
  · repeat' split
    all_goals exact nm_bd _

end Go.Proofs.YtgmelcdgnjcojagDoor

namespace Go.Proofs.YtgmelcdgnjcojagDoor
open Go.RowKit Go.Maps Crm

/-- The cells of gates. -/
def gcs (G : List Gt) : List Value := G.flatMap fun g => [.int .i64 g.k, .int .i64 g.a, .int .i64 g.b, .int .u64 g.n]
theorem gcs_len : ∀ G : List Gt, (gcs G).length = G.length * 4
  | [] => rfl
  | g :: G => by
    have := gcs_len G
    have e : gcs (g :: G) = [.int .i64 g.k, .int .i64 g.a, .int .i64 g.b, .int .u64 g.n] ++ gcs G := by simp [gcs]
    rw [e, List.length_append, this, List.length_cons]
    simp
    omega
theorem gcs_get : ∀ (G : List Gt) (i : Nat), i < G.length → (gcs G)[i * 4]? = some (.int .i64 (gt G i).k) ∧ (gcs G)[i * 4 + 1]? = some (.int .i64 (gt G i).a) ∧ (gcs G)[i * 4 + 2]? = some (.int .i64 (gt G i).b) ∧ (gcs G)[i * 4 + 3]? = some (.int .u64 (gt G i).n)
  | [], i, h => by simp at h
  | p :: l, 0, _ => ⟨rfl, rfl, rfl, rfl⟩
  | p :: l, i + 1, h => by
    have := gcs_get l i (by simpa using h)
    have e1 : (i + 1) * 4 = i * 4 + 1 + 1 + 1 + 1 := by omega
    rw [e1]
    exact this
theorem gcs_set : ∀ (G : List Gt) (q : Nat) (k x y z : Int), ((((gcs G).set (q * 4) (.int .i64 k)).set (q * 4 + 1) (.int .i64 x)).set (q * 4 + 2) (.int .i64 y)).set (q * 4 + 3) (.int .u64 z) = gcs (G.set q ⟨k, x, y, z⟩)
  | [], q, k, x, y, z => by simp [gcs]
  | p :: l, 0, k, x, y, z => rfl
  | p :: l, q + 1, k, x, y, z => by
    have := gcs_set l q k x y z
    have e1 : (q + 1) * 4 = q * 4 + 1 + 1 + 1 + 1 := by omega
    rw [e1]
    show _ :: _ :: _ :: _ :: ((((gcs l).set (q * 4) (.int .i64 k)).set (q * 4 + 1) (.int .i64 x)).set (q * 4 + 2) (.int .i64 y)).set (q * 4 + 3) (.int .u64 z) = _
    rw [this]
    rfl
theorem gcs_one (G : List Gt) : ∀ u ∈ gcs G, u.oneCell' = true := fun u hu => by
  unfold gcs at hu
  obtain ⟨p, _, hp⟩ := List.mem_flatMap.1 hu
  simp at hp
  rcases hp with rfl | rfl | rfl | rfl <;> rfl
theorem own_setZ {w : World} {B n c g z : Nat} {E : TypeId} {xs : List Value} (h : w.ownsRow B E z (.slice (some ⟨g, 0, none⟩) n c) n xs) (i : Nat) (u : Value) : (w.setCell ⟨g, i, none⟩ u).ownsRow B E z (.slice (some ⟨g, 0, none⟩) n c) n (xs.set i u) := by
  refine ⟨by rw [List.length_set]; exact h.1, .inr ?_⟩
  rcases h.2 with ⟨e, _⟩ | ⟨g', cap, cur, e, hb, hg, h1, h2, hs, ht⟩
  · simp at e
  · simp only [Value.slice.injEq, Option.some.injEq, Addr.mk.injEq, and_true, true_and] at e
    obtain ⟨rfl, rfl⟩ := e
    refine ⟨g, c, _, rfl, hb, heap_setCell_same w g i _ _ _ hg, h1, h2, by simpa using hs, ?_⟩
    rw [← ht]
    simp [List.take_set]
theorem own_frozenZ {w : World} {B n c g z : Nat} {E : TypeId} {xs : List Value} (h : w.ownsRow B E z (.slice (some ⟨g, 0, none⟩) n c) n xs) (i : Nat) : w.frozen? ⟨g, i, none⟩ = false := by
  rcases h.2 with ⟨e, _⟩ | ⟨g', cap, cur, e, hb, hg, _⟩
  · simp at e
  · simp only [Value.slice.injEq, Option.some.injEq, Addr.mk.injEq, and_true, true_and] at e
    obtain ⟨rfl, rfl⟩ := e
    exact frozen_of_row w g i _ _ hg
/-- Gates that a call has made its own. -/
theorem RdG.own {w : World} {base n c g : Nat} {E : TypeId} {G : List Gt} (h : w.ownsRow base E 4 (.slice (some ⟨g, 0, none⟩) n c) n (gcs G)) (hl : G.length = n)
    (hb : ∀ i, i < n → (-9223372036854775808 ≤ (gt G i).k ∧ (gt G i).k ≤ 9223372036854775807) ∧ (-9223372036854775808 ≤ (gt G i).a ∧ (gt G i).a ≤ 9223372036854775807) ∧ (-9223372036854775808 ≤ (gt G i).b ∧ (gt G i).b ≤ 9223372036854775807) ∧ 0 ≤ (gt G i).n ∧ (gt G i).n ≤ 18446744073709551615) : RdG w (some ⟨g, 0, none⟩) n c G := by
  rcases h.2 with ⟨e, _⟩ | ⟨g', cap, cur, e, hbb, hg, h1, h2, hs, ht⟩
  · simp at e
  · simp only [Value.slice.injEq, Option.some.injEq, Addr.mk.injEq, and_true, true_and] at e
    obtain ⟨rfl, rfl⟩ := e
    refine ⟨hl, h1, h2, by simp, hb, fun x hx i hi => ?_⟩
    obtain rfl := Option.some.inj hx
    obtain ⟨e1, e2, e3, e4⟩ := gcs_get G i (by omega)
    exact ⟨h.cells (g := g) rfl _ _ e1, h.cells (g := g) rfl _ _ e2, h.cells (g := g) rfl _ _ e3, h.cells (g := g) rfl _ _ e4⟩
theorem own_lt {w : World} {base n c g z : Nat} {E : TypeId} {xs : List Value} (h : w.ownsRow base E z (.slice (some ⟨g, 0, none⟩) n c) n xs) : base ≤ g ∧ g < w.heap.size := h.lt g rfl

theorem gcs_take : ∀ (G : List Gt) (k : Nat), gcs (G.take k) = (gcs G).take (k * 4)
  | [], k => by simp [gcs]
  | g :: G, 0 => by simp [gcs]
  | g :: G, k + 1 => by
    have := gcs_take G k
    have e1 : (k + 1) * 4 = k * 4 + 1 + 1 + 1 + 1 := by omega
    rw [e1]
    show _ :: _ :: _ :: _ :: gcs (G.take k) = _ :: _ :: _ :: _ :: (gcs G).take (k * 4)
    rw [this]
theorem RdG.news {w : World} {b o n c k : Nat} {G : List Gt} (h : RdG w (some ⟨b, o, none⟩) n c G) (hk : k ≤ n) : ∀ j u, (gcs (G.take k))[j]? = some u → w.cell? ((⟨b, o, none⟩ : Addr).add j) = some u := by
  intro j u hu
  rw [gcs_take] at hu
  have hj : j < k * 4 := by
    rcases Nat.lt_or_ge j (k * 4) with e | e
    · exact e
    · rw [List.getElem?_eq_none (by simp; omega)] at hu; cases hu
  rw [List.getElem?_take_of_lt hj] at hu
  have hl := h.len
  obtain ⟨e1, e2, e3, e4⟩ := gcs_get G (j / 4) (by omega)
  obtain ⟨c1, c2, c3, c4⟩ := h.cell _ rfl (j / 4) (by omega)
  have hr : j = j / 4 * 4 ∨ j = j / 4 * 4 + 1 ∨ j = j / 4 * 4 + 2 ∨ j = j / 4 * 4 + 3 := by omega
  rcases hr with hr | hr | hr | hr
  · rw [hr, e1] at hu; rw [hr, c1]; exact hu
  · rw [hr, e2] at hu; rw [hr, c2]; exact hu
  · rw [hr, e3] at hu; rw [hr, c3]; exact hu
  · rw [hr, e4] at hu; rw [hr, c4]; exact hu
theorem own_atZ {w : World} {base n z : Nat} {E : TypeId} {v : Value} {xs : List Value} (h : w.ownsRow base E z v n xs) (hn : 0 < n) : ∃ g c, v = .slice (some ⟨g, 0, none⟩) n c ∧ base ≤ g ∧ g < w.heap.size ∧ n ≤ c ∧ c ≤ maxLen := by
  rcases h.2 with ⟨_, rfl⟩ | ⟨g, cap, cur, rfl, hb, hg, h1, h2, _⟩
  · omega
  · exact ⟨g, cap, rfl, hb, (Array.getElem?_eq_some_iff.1 hg).1, h1, h2⟩
theorem CBox.apart {w : World} {g g' n' c' : Nat} {ag : Option Addr} {n cg : Nat} {ao : Option Addr} {m co : Nat} {B z : Nat} {E : TypeId} {xs : List Value} (h : CBox w g ag n cg ao m co) (ho : w.ownsRow B E z (.slice (some ⟨g', 0, none⟩) n' c') n' xs) (hE : E ≠ 26) : g' ≠ g := by
  rcases ho.2 with ⟨e, _⟩ | ⟨g'', cap, cur, e, _, hg, _⟩
  · simp at e
  · simp only [Value.slice.injEq, Option.some.injEq, Addr.mk.injEq, and_true, true_and] at e
    obtain ⟨rfl, rfl⟩ := e
    intro e
    subst e
    unfold CBox at h
    rw [hg] at h
    simp only [Option.some.injEq, Obj.cells.injEq] at h
    exact hE h.2.1
theorem CBox.grown {w w' : World} {g : Nat} {r : Option Nat} {ag : Option Addr} {n cg : Nat} {ao : Option Addr} {m co : Nat} (h : CBox w g ag n cg ao m co) (hg : w.grownBy w' r) (hr : some g ≠ r) : CBox w' g ag n cg ao m co := by
  unfold CBox; rw [hg.block g h.lt hr]; exact h
theorem map_apart {w : World} {P : Program} {k : TypeId} {R : Value → Option (DataW Unit × List MemPlace)} {b nn : Nat} {D : DataW Unit} {g' n' c' B z : Nat} {E : TypeId} {xs : List Value} (h : w.ownsMap P k R b nn D) (ho : w.ownsRow B E z (.slice (some ⟨g', 0, none⟩) n' c') n' xs) : g' ≠ b := by
  obtain ⟨es, clock, hb, _⟩ := h
  rcases ho.2 with ⟨e, _⟩ | ⟨g'', cap, cur, e, _, hg, _⟩
  · simp at e
  · simp only [Value.slice.injEq, Option.some.injEq, Addr.mk.injEq, and_true, true_and] at e
    obtain ⟨rfl, rfl⟩ := e
    intro e
    subst e
    rw [hg] at hb
    simp at hb
/-- Gates of which the first j that are no inputs are constants. -/
def dgj (G : List Gt) (ins : List Int) (n j : Nat) : List Gt := (List.range n).map fun p => if p < j ∧ (gt G p).k ≠ 1 then ⟨2, 0, 0, wi G ins p⟩ else gt G p
theorem dgj_len (G : List Gt) (ins : List Int) (n j : Nat) : (dgj G ins n j).length = n := by simp [dgj]
theorem dgj_gt (G : List Gt) (ins : List Int) {n p : Nat} (j : Nat) (h : p < n) : gt (dgj G ins n j) p = if p < j ∧ (gt G p).k ≠ 1 then ⟨2, 0, 0, wi G ins p⟩ else gt G p := by
  unfold gt
  simp [dgj, h]
  rfl
theorem dgj_zero (G : List Gt) (ins : List Int) {n : Nat} (h : n ≤ G.length) : G.take n = dgj G ins n 0 := by
  apply List.ext_getElem?
  intro i
  by_cases hi : i < n
  · rw [List.getElem?_take_of_lt hi]
    simp [dgj, hi, gt, List.getElem?_eq_getElem (show i < G.length by omega)]
  · rw [List.getElem?_eq_none (by simp; omega), List.getElem?_eq_none (by rw [dgj_len]; omega)]
theorem dgj_in (G : List Gt) (ins : List Int) (n j : Nat) (h : (gt G j).k = 1) : dgj G ins n j = dgj G ins n (j + 1) := by
  unfold dgj
  refine List.map_congr_left fun p _ => ?_
  by_cases e : p = j
  · subst e; simp [h]
  · have : (p < j + 1) = (p < j) := by apply propext; omega
    simp only [this]
theorem dgj_set (G : List Gt) (ins : List Int) {n j : Nat} (h : (gt G j).k ≠ 1) : (dgj G ins n j).set j ⟨2, 0, 0, wi G ins j⟩ = dgj G ins n (j + 1) := by
  apply List.ext_getElem?
  intro q
  rw [List.getElem?_set]
  by_cases hq : q < n
  · by_cases e : j = q
    · subst e; simp [dgj, hq, h]
    · have : (q < j + 1) = (q < j) := by apply propext; omega
      simp [dgj, hq, e, this]
  · by_cases e : j = q
    · subst e; simp [dgj, hq]
    · simp [dgj, hq, e]
/-- The first k wires, as a map. -/
def mpd (V : Nat → Int) : Nat → DataW Unit
  | 0 => .map []
  | k + 1 => (mpd V k).put (.int .i64 (k : Int)) (.lit (.int .u64 (V k)))
theorem mpd_map (V : Nat → Int) : ∀ k, IsMap (mpd V k)
  | 0 => ⟨[], rfl⟩
  | k + 1 => by
    obtain ⟨es, e⟩ := mpd_map V k
    rw [mpd, e]
    exact ⟨_, rfl⟩
theorem mpd_at (V : Nat → Int) {j : Nat} (z : DataW Unit) : ∀ k, j < k → (mpd V k).atKey (.int .i64 (j : Int)) z = .lit (.int .u64 (V j))
  | 0, h => by omega
  | k + 1, h => by
    rw [mpd]
    by_cases e : j = k
    · subst e
      exact atKey_put_same (mpd_map V j) (show WideAt.IsKeyLit (.int .i64 (j : Int)) from trivial) _ _
    · rw [atKey_put_other (fun e' => by simp only [Lit.int.injEq, true_and] at e'; omega)]
      exact mpd_at V z k (by omega)
/-- Inputs stay inputs. -/
theorem dgj_ci (G : List Gt) (ins : List Int) {n i : Nat} (hi : i < n) : ∀ j, j ≤ i → ci (dgj G ins n i) j = ci G j
  | 0, _ => rfl
  | j + 1, h => by
    have ih := dgj_ci G ins hi j (by omega)
    have hg := dgj_gt G ins (n := n) (p := j) i (by omega)
    by_cases e : (gt G j).k = 1
    · rw [ci_in e, ci_in (by rw [hg, if_neg (fun h => h.2 e)]; exact e), ih]
    · rw [ci_no e, ci_no (by rw [hg, if_pos ⟨by omega, e⟩]; simp only; omega), ih]
/-- A gate of them tells what the wire has. -/
theorem dgj_lf {G : List Gt} {ins : List Int} {n i j : Nat} (hi : i < n) (hj : j < i) : ((gt (dgj G ins n i) j).k = 1 ∨ (gt (dgj G ins n i) j).k = 2) ∧ lf (dgj G ins n i) ins j = wi G ins j := by
  have hg := dgj_gt G ins (n := n) (p := j) i (by omega)
  by_cases e : (gt G j).k = 1
  · rw [if_neg (fun h => h.2 e)] at hg
    unfold lf
    rw [hg, if_pos e, dgj_ci G ins hi j (by omega), wi_in e]
    exact ⟨.inl e, rfl⟩
  · rw [if_pos ⟨hj, e⟩] at hg
    unfold lf
    rw [hg]
    refine ⟨.inr rfl, ?_⟩
    rw [if_neg (by simp only; omega)]
    have := wi_bd G ins j
    exact nm_small this.1 this.2
theorem dgj_dv {G : List Gt} {ins : List Int} {n i : Nat} (hi : i < n) (hok : okg i (gt G i)) : gt (dgj G ins n i) i = gt G i ∧ dv (dgj G ins n i) ins i = wi G ins i := by
  have hg := dgj_gt G ins (n := n) (p := i) i hi
  rw [if_neg (fun h => by omega)] at hg
  refine ⟨hg, ?_⟩
  unfold dv
  rw [hg]
  rcases hok with ⟨e, _⟩ | ⟨e, _⟩ | ⟨e, hx, _⟩ | ⟨e, hx, hy, _⟩
  · rw [if_pos (.inl e)]
    unfold lf
    rw [hg, if_pos e, dgj_ci G ins hi i (Nat.le_refl _), wi_in e]
  · rw [if_pos (.inr e)]
    unfold lf
    rw [hg, if_neg (by omega), wi_const e]
  · obtain ⟨p, hp⟩ : ∃ p : Nat, (gt G i).a = p := ⟨(gt G i).a.toNat, by omega⟩
    rw [if_neg (by omega), if_pos e, hp, Int.toNat_natCast, (dgj_lf hi (show p < i by omega)).2, wi_scale e hp (by omega)]
  · obtain ⟨p, hp⟩ : ∃ p : Nat, (gt G i).a = p := ⟨(gt G i).a.toNat, by omega⟩
    obtain ⟨r, hr⟩ : ∃ r : Nat, (gt G i).b = r := ⟨(gt G i).b.toNat, by omega⟩
    rw [if_neg (by omega), if_neg (by omega), hp, hr, Int.toNat_natCast, Int.toNat_natCast, (dgj_lf hi (show p < i by omega)).2, (dgj_lf hi (show r < i by omega)).2]
    rcases e with e | e | e
    · rw [if_pos e, wi_add e hp (by omega) hr (by omega)]
    · rw [if_neg (by omega), if_pos e, wi_sub e hp (by omega) hr (by omega)]
    · rw [if_neg (by omega), if_neg (by omega), wi_mul e hp (by omega) hr (by omega)]
end Go.Proofs.YtgmelcdgnjcojagDoor

namespace Go.Proofs.YtgmelcdgnjcojagDoor
open Go.RowKit Go.Maps Crm

theorem lawI : Keyed Tryd.prog 3 := int_keyed Tryd.underlying3
theorem zeroU (w : World) : (zeroValue 34).run Tryd.prog w = .ok (.int .u64 0) w := by kernel_rfl
theorem infoGate : (Tryd.prog.info? 61).map (fun i => (i.zero, i.size, i.bytes)) = some (some (.agg #[.int .i64 0, .int .i64 0, .int .i64 0, .int .u64 0]), 4, 32) := by kernel_rfl
theorem infoUO : (Tryd.prog.info? 34).map (fun i => (i.zero, i.size, i.bytes)) = some (some (.int .u64 0), 1, 8) := by kernel_rfl
end Go.Proofs.YtgmelcdgnjcojagDoor
