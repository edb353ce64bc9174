/- croftref.Outs: gates that are copied and written; wires as a map: plain facts and lists of gates. · croftref.Pieces. -/
import Derived.Test.YtmpnaobjgknfkacDoorToValueD
import Derived.Maps.OwnOps
import Derived.Maps.OwnSet
import Derived.Test.YtmpnaobjgknfkacDoorToCircM
import Derived.Laws.DeepStrings4
namespace Go.Proofs.YtmpnaobjgknfkacDoor
open Go.RowKit Go.Maps Crm

/-- The cells of gates. -/
def gcs (G : List Gt) : List Value := G.flatMap fun g => [.int .i64 g.k, .int .i64 g.a, .int .i64 g.b, .int .u64 g.n]
theorem gcs_len : ∀ G : List Gt, (gcs G).length = G.length * 4
  | [] => rfl
  | g :: G => by
    have := gcs_len G
    have e : gcs (g :: G) = [.int .i64 g.k, .int .i64 g.a, .int .i64 g.b, .int .u64 g.n] ++ gcs G := by simp [gcs]
    rw [e, List.length_append, this, List.length_cons]
    simp
    omega
theorem gcs_get : ∀ (G : List Gt) (i : Nat), i < G.length → (gcs G)[i * 4]? = some (.int .i64 (gt G i).k) ∧ (gcs G)[i * 4 + 1]? = some (.int .i64 (gt G i).a) ∧ (gcs G)[i * 4 + 2]? = some (.int .i64 (gt G i).b) ∧ (gcs G)[i * 4 + 3]? = some (.int .u64 (gt G i).n)
  | [], i, h => by simp at h
  | p :: l, 0, _ => ⟨rfl, rfl, rfl, rfl⟩
  | p :: l, i + 1, h => by
    have := gcs_get l i (by simpa using h)
    have e1 : (i + 1) * 4 = i * 4 + 1 + 1 + 1 + 1 := by omega
    rw [e1]
    exact this
theorem gcs_set : ∀ (G : List Gt) (q : Nat) (k x y z : Int), ((((gcs G).set (q * 4) (.int .i64 k)).set (q * 4 + 1) (.int .i64 x)).set (q * 4 + 2) (.int .i64 y)).set (q * 4 + 3) (.int .u64 z) = gcs (G.set q ⟨k, x, y, z⟩)
  | [], q, k, x, y, z => by simp [gcs]
  | p :: l, 0, k, x, y, z => rfl
  | p :: l, q + 1, k, x, y, z => by
    have := gcs_set l q k x y z
    have e1 : (q + 1) * 4 = q * 4 + 1 + 1 + 1 + 1 := by omega
    rw [e1]
    show _ :: _ :: _ :: _ :: ((((gcs l).set (q * 4) (.int .i64 k)).set (q * 4 + 1) (.int .i64 x)).set (q * 4 + 2) (.int .i64 y)).set (q * 4 + 3) (.int .u64 z) = _
    rw [this]
    rfl
theorem gcs_one (G : List Gt) : ∀ u ∈ gcs G, u.oneCell' = true := fun u hu => by
  unfold gcs at hu
  obtain ⟨p, _, hp⟩ := List.mem_flatMap.1 hu
  simp at hp
  rcases hp with rfl | rfl | rfl | rfl <;> rfl
theorem own_setZ {w : World} {B n c g z : Nat} {E : TypeId} {xs : List Value} (h : w.ownsRow B E z (.slice (some ⟨g, 0, none⟩) n c) n xs) (i : Nat) (u : Value) : (w.setCell ⟨g, i, none⟩ u).ownsRow B E z (.slice (some ⟨g, 0, none⟩) n c) n (xs.set i u) := by
  refine ⟨by rw [List.length_set]; exact h.1, .inr ?_⟩
  rcases h.2 with ⟨e, _⟩ | ⟨g', cap, cur, e, hb, hg, h1, h2, hs, ht⟩
  · simp at e
  · simp only [Value.slice.injEq, Option.some.injEq, Addr.mk.injEq, and_true, true_and] at e
    obtain ⟨rfl, rfl⟩ := e
    refine ⟨g, c, _, rfl, hb, heap_setCell_same w g i _ _ _ hg, h1, h2, by simpa using hs, ?_⟩
    rw [← ht]
    simp [List.take_set]
theorem own_frozenZ {w : World} {B n c g z : Nat} {E : TypeId} {xs : List Value} (h : w.ownsRow B E z (.slice (some ⟨g, 0, none⟩) n c) n xs) (i : Nat) : w.frozen? ⟨g, i, none⟩ = false := by
  rcases h.2 with ⟨e, _⟩ | ⟨g', cap, cur, e, hb, hg, _⟩
  · simp at e
  · simp only [Value.slice.injEq, Option.some.injEq, Addr.mk.injEq, and_true, true_and] at e
    obtain ⟨rfl, rfl⟩ := e
    exact frozen_of_row w g i _ _ hg
/-- Gates that a call has made its own. -/
theorem RdG.own {w : World} {base n c g : Nat} {E : TypeId} {G : List Gt} (h : w.ownsRow base E 4 (.slice (some ⟨g, 0, none⟩) n c) n (gcs G)) (hl : G.length = n)
    (hb : ∀ i, i < n → (-9223372036854775808 ≤ (gt G i).k ∧ (gt G i).k ≤ 9223372036854775807) ∧ (-9223372036854775808 ≤ (gt G i).a ∧ (gt G i).a ≤ 9223372036854775807) ∧ (-9223372036854775808 ≤ (gt G i).b ∧ (gt G i).b ≤ 9223372036854775807) ∧ 0 ≤ (gt G i).n ∧ (gt G i).n ≤ 18446744073709551615) : RdG w (some ⟨g, 0, none⟩) n c G := by
  rcases h.2 with ⟨e, _⟩ | ⟨g', cap, cur, e, hbb, hg, h1, h2, hs, ht⟩
  · simp at e
  · simp only [Value.slice.injEq, Option.some.injEq, Addr.mk.injEq, and_true, true_and] at e
    obtain ⟨rfl, rfl⟩ := e
    refine ⟨hl, h1, h2, by simp, hb, fun x hx i hi => ?_⟩
    obtain rfl := Option.some.inj hx
    obtain ⟨e1, e2, e3, e4⟩ := gcs_get G i (by omega)
    exact ⟨h.cells (g := g) rfl _ _ e1, h.cells (g := g) rfl _ _ e2, h.cells (g := g) rfl _ _ e3, h.cells (g := g) rfl _ _ e4⟩
theorem own_lt {w : World} {base n c g z : Nat} {E : TypeId} {xs : List Value} (h : w.ownsRow base E z (.slice (some ⟨g, 0, none⟩) n c) n xs) : base ≤ g ∧ g < w.heap.size := h.lt g rfl

theorem gcs_take : ∀ (G : List Gt) (k : Nat), gcs (G.take k) = (gcs G).take (k * 4)
  | [], k => by simp [gcs]
  | g :: G, 0 => by simp [gcs]
  | g :: G, k + 1 => by
    have := gcs_take G k
    have e1 : (k + 1) * 4 = k * 4 + 1 + 1 + 1 + 1 := by omega
    rw [e1]
    show _ :: _ :: _ :: _ :: gcs (G.take k) = _ :: _ :: _ :: _ :: (gcs G).take (k * 4)
    rw [this]
theorem RdG.news {w : World} {b o n c k : Nat} {G : List Gt} (h : RdG w (some ⟨b, o, none⟩) n c G) (hk : k ≤ n) : ∀ j u, (gcs (G.take k))[j]? = some u → w.cell? ((⟨b, o, none⟩ : Addr).add j) = some u := by
  intro j u hu
  rw [gcs_take] at hu
  have hj : j < k * 4 := by
    rcases Nat.lt_or_ge j (k * 4) with e | e
    · exact e
    · rw [List.getElem?_eq_none (by simp; omega)] at hu; cases hu
  rw [List.getElem?_take_of_lt hj] at hu
  have hl := h.len
  obtain ⟨e1, e2, e3, e4⟩ := gcs_get G (j / 4) (by omega)
  obtain ⟨c1, c2, c3, c4⟩ := h.cell _ rfl (j / 4) (by omega)
  have hr : j = j / 4 * 4 ∨ j = j / 4 * 4 + 1 ∨ j = j / 4 * 4 + 2 ∨ j = j / 4 * 4 + 3 := by omega
  rcases hr with hr | hr | hr | hr
  · rw [hr, e1] at hu; rw [hr, c1]; exact hu
  · rw [hr, e2] at hu; rw [hr, c2]; exact hu
  · rw [hr, e3] at hu; rw [hr, c3]; exact hu
  · rw [hr, e4] at hu; rw [hr, c4]; exact hu
theorem own_atZ {w : World} {base n z : Nat} {E : TypeId} {v : Value} {xs : List Value} (h : w.ownsRow base E z v n xs) (hn : 0 < n) : ∃ g c, v = .slice (some ⟨g, 0, none⟩) n c ∧ base ≤ g ∧ g < w.heap.size ∧ n ≤ c ∧ c ≤ maxLen := by
  rcases h.2 with ⟨_, rfl⟩ | ⟨g, cap, cur, rfl, hb, hg, h1, h2, _⟩
  · omega
  · exact ⟨g, cap, rfl, hb, (Array.getElem?_eq_some_iff.1 hg).1, h1, h2⟩
theorem CBox.apart {w : World} {g g' n' c' : Nat} {ag : Option Addr} {n cg : Nat} {ao : Option Addr} {m co : Nat} {B z : Nat} {E : TypeId} {xs : List Value} (h : CBox w g ag n cg ao m co) (ho : w.ownsRow B E z (.slice (some ⟨g', 0, none⟩) n' c') n' xs) (hE : E ≠ 25) : g' ≠ g := by
  rcases ho.2 with ⟨e, _⟩ | ⟨g'', cap, cur, e, _, hg, _⟩
  · simp at e
  · simp only [Value.slice.injEq, Option.some.injEq, Addr.mk.injEq, and_true, true_and] at e
    obtain ⟨rfl, rfl⟩ := e
    intro e
    subst e
    unfold CBox at h
    rw [hg] at h
    simp only [Option.some.injEq, Obj.cells.injEq] at h
    exact hE h.2.1
theorem CBox.grown {w w' : World} {g : Nat} {r : Option Nat} {ag : Option Addr} {n cg : Nat} {ao : Option Addr} {m co : Nat} (h : CBox w g ag n cg ao m co) (hg : w.grownBy w' r) (hr : some g ≠ r) : CBox w' g ag n cg ao m co := by
  unfold CBox; rw [hg.block g h.lt hr]; exact h
theorem map_apart {w : World} {P : Program} {k : TypeId} {R : Value → Option (DataW Unit × List MemPlace)} {b nn : Nat} {D : DataW Unit} {g' n' c' B z : Nat} {E : TypeId} {xs : List Value} (h : w.ownsMap P k R b nn D) (ho : w.ownsRow B E z (.slice (some ⟨g', 0, none⟩) n' c') n' xs) : g' ≠ b := by
  obtain ⟨es, clock, hb, _⟩ := h
  rcases ho.2 with ⟨e, _⟩ | ⟨g'', cap, cur, e, _, hg, _⟩
  · simp at e
  · simp only [Value.slice.injEq, Option.some.injEq, Addr.mk.injEq, and_true, true_and] at e
    obtain ⟨rfl, rfl⟩ := e
    intro e
    subst e
    rw [hg] at hb
    simp at hb
/-- Gates of which the first j that are no inputs are constants. -/
def dgj (G : List Gt) (ins : List Int) (n j : Nat) : List Gt := (List.range n).map fun p => if p < j ∧ (gt G p).k ≠ 1 then ⟨2, 0, 0, wi G ins p⟩ else gt G p
theorem dgj_len (G : List Gt) (ins : List Int) (n j : Nat) : (dgj G ins n j).length = n := by simp [dgj]
theorem dgj_gt (G : List Gt) (ins : List Int) {n p : Nat} (j : Nat) (h : p < n) : gt (dgj G ins n j) p = if p < j ∧ (gt G p).k ≠ 1 then ⟨2, 0, 0, wi G ins p⟩ else gt G p := by
  unfold gt
  simp [dgj, h]
  rfl
theorem dgj_zero (G : List Gt) (ins : List Int) {n : Nat} (h : n ≤ G.length) : G.take n = dgj G ins n 0 := by
  apply List.ext_getElem?
  intro i
  by_cases hi : i < n
  · rw [List.getElem?_take_of_lt hi]
    simp [dgj, hi, gt, List.getElem?_eq_getElem (show i < G.length by omega)]
  · rw [List.getElem?_eq_none (by simp; omega), List.getElem?_eq_none (by rw [dgj_len]; omega)]
theorem dgj_in (G : List Gt) (ins : List Int) (n j : Nat) (h : (gt G j).k = 1) : dgj G ins n j = dgj G ins n (j + 1) := by
  unfold dgj
  refine List.map_congr_left fun p _ => ?_
  by_cases e : p = j
  · subst e; simp [h]
  · have : (p < j + 1) = (p < j) := by apply propext; omega
    simp only [this]
theorem dgj_set (G : List Gt) (ins : List Int) {n j : Nat} (h : (gt G j).k ≠ 1) : (dgj G ins n j).set j ⟨2, 0, 0, wi G ins j⟩ = dgj G ins n (j + 1) := by
  apply List.ext_getElem?
  intro q
  rw [List.getElem?_set]
  by_cases hq : q < n
  · by_cases e : j = q
    · subst e; simp [dgj, hq, h]
    · have : (q < j + 1) = (q < j) := by apply propext; omega
      simp [dgj, hq, e, this]
  · by_cases e : j = q
    · subst e; simp [dgj, hq]
    · simp [dgj, hq, e]
/-- The first k wires, as a map. -/
def mpd (V : Nat → Int) : Nat → DataW Unit
  | 0 => .map []
  | k + 1 => (mpd V k).put (.int .i64 (k : Int)) (.lit (.int .u64 (V k)))
theorem mpd_map (V : Nat → Int) : ∀ k, IsMap (mpd V k)
  | 0 => ⟨[], rfl⟩
  | k + 1 => by
    obtain ⟨es, e⟩ := mpd_map V k
    rw [mpd, e]
    exact ⟨_, rfl⟩
theorem mpd_at (V : Nat → Int) {j : Nat} (z : DataW Unit) : ∀ k, j < k → (mpd V k).atKey (.int .i64 (j : Int)) z = .lit (.int .u64 (V j))
  | 0, h => by omega
  | k + 1, h => by
    rw [mpd]
    by_cases e : j = k
    · subst e
      exact atKey_put_same (mpd_map V j) (show WideAt.IsKeyLit (.int .i64 (j : Int)) from trivial) _ _
    · rw [atKey_put_other (fun e' => by simp only [Lit.int.injEq, true_and] at e'; omega)]
      exact mpd_at V z k (by omega)
/-- Inputs stay inputs. -/
theorem dgj_ci (G : List Gt) (ins : List Int) {n i : Nat} (hi : i < n) : ∀ j, j ≤ i → ci (dgj G ins n i) j = ci G j
  | 0, _ => rfl
  | j + 1, h => by
    have ih := dgj_ci G ins hi j (by omega)
    have hg := dgj_gt G ins (n := n) (p := j) i (by omega)
    by_cases e : (gt G j).k = 1
    · rw [ci_in e, ci_in (by rw [hg, if_neg (fun h => h.2 e)]; exact e), ih]
    · rw [ci_no e, ci_no (by rw [hg, if_pos ⟨by omega, e⟩]; simp only; omega), ih]
/-- A gate of them tells what the wire has. -/
theorem dgj_lf {G : List Gt} {ins : List Int} {n i j : Nat} (hi : i < n) (hj : j < i) : ((gt (dgj G ins n i) j).k = 1 ∨ (gt (dgj G ins n i) j).k = 2) ∧ lf (dgj G ins n i) ins j = wi G ins j := by
  have hg := dgj_gt G ins (n := n) (p := j) i (by omega)
  by_cases e : (gt G j).k = 1
  · rw [if_neg (fun h => h.2 e)] at hg
    unfold lf
    rw [hg, if_pos e, dgj_ci G ins hi j (by omega), wi_in e]
    exact ⟨.inl e, rfl⟩
  · rw [if_pos ⟨hj, e⟩] at hg
    unfold lf
    rw [hg]
    refine ⟨.inr rfl, ?_⟩
    rw [if_neg (by simp only; omega)]
    have := wi_bd G ins j
    exact nm_small this.1 this.2
theorem dgj_dv {G : List Gt} {ins : List Int} {n i : Nat} (hi : i < n) (hok : okg i (gt G i)) : gt (dgj G ins n i) i = gt G i ∧ dv (dgj G ins n i) ins i = wi G ins i := by
  have hg := dgj_gt G ins (n := n) (p := i) i hi
  rw [if_neg (fun h => by omega)] at hg
  refine ⟨hg, ?_⟩
  unfold dv
  rw [hg]
  rcases hok with ⟨e, _⟩ | ⟨e, _⟩ | ⟨e, hx, _⟩ | ⟨e, hx, hy, _⟩
  · rw [if_pos (.inl e)]
    unfold lf
    rw [hg, if_pos e, dgj_ci G ins hi i (Nat.le_refl _), wi_in e]
  · rw [if_pos (.inr e)]
    unfold lf
    rw [hg, if_neg (by omega), wi_const e]
  · obtain ⟨p, hp⟩ : ∃ p : Nat, (gt G i).a = p := ⟨(gt G i).a.toNat, by omega⟩
    rw [if_neg (by omega), if_pos e, hp, Int.toNat_natCast, (dgj_lf hi (show p < i by omega)).2, wi_scale e hp (by omega)]
  · obtain ⟨p, hp⟩ : ∃ p : Nat, (gt G i).a = p := ⟨(gt G i).a.toNat, by omega⟩
    obtain ⟨r, hr⟩ : ∃ r : Nat, (gt G i).b = r := ⟨(gt G i).b.toNat, by omega⟩
    rw [if_neg (by omega), if_neg (by omega), hp, hr, Int.toNat_natCast, Int.toNat_natCast, (dgj_lf hi (show p < i by omega)).2, (dgj_lf hi (show r < i by omega)).2]
    rcases e with e | e | e
    · rw [if_pos e, wi_add e hp (by omega) hr (by omega)]
    · rw [if_neg (by omega), if_pos e, wi_sub e hp (by omega) hr (by omega)]
    · rw [if_neg (by omega), if_neg (by omega), wi_mul e hp (by omega) hr (by omega)]
end Go.Proofs.YtmpnaobjgknfkacDoor

namespace Go.Proofs.YtmpnaobjgknfkacDoor
open Go.RowKit Crm

def mt : ByteArray := ⟨#[]⟩
def strs (L : List ByteArray) : List Value := L.map Value.string
theorem strs_len (L : List ByteArray) : (strs L).length = L.length := by simp [strs]
/-- Pieces of the first k bytes. -/
def pcs (s : ByteArray) (b : Int) : Nat → List ByteArray
  | 0 => [mt]
  | k + 1 => if bt s k = b then pcs s b k ++ [mt] else (pcs s b k).set ((pcs s b k).length - 1) ((pcs s b k).getD ((pcs s b k).length - 1) mt ++ s.extract k (k + 1))
theorem pcs_yes {s : ByteArray} {b : Int} {k : Nat} (h : bt s k = b) : pcs s b k ++ [mt] = pcs s b (k + 1) := by rw [pcs, if_pos h]
theorem pcs_no {s : ByteArray} {b : Int} {k : Nat} (h : bt s k ≠ b) : (pcs s b k).set ((pcs s b k).length - 1) ((pcs s b k).getD ((pcs s b k).length - 1) mt ++ s.extract k (k + 1)) = pcs s b (k + 1) := by rw [pcs, if_neg h]
theorem pcs_len (s : ByteArray) (b : Int) : ∀ k, 1 ≤ (pcs s b k).length ∧ (pcs s b k).length ≤ k + 1
  | 0 => by simp [pcs]
  | k + 1 => by
    have := pcs_len s b k
    rw [pcs]
    split
    · simp; omega
    · simp; omega
theorem pcs_size (s : ByteArray) (b : Int) : ∀ k, ∀ x ∈ pcs s b k, x.size ≤ k
  | 0, x, hx => by simp [pcs] at hx; subst hx; exact Nat.le_refl 0
  | k + 1, x, hx => by
    have ih := pcs_size s b k
    rw [pcs] at hx
    split at hx
    · rcases List.mem_append.1 hx with h | h
      · have := ih x h; omega
      · simp at h; subst h; exact Nat.zero_le _
    · rcases List.mem_or_eq_of_mem_set hx with h | rfl
      · have := ih x h; omega
      · have hl := pcs_len s b k
        have h1 : (pcs s b k).getD ((pcs s b k).length - 1) mt ∈ pcs s b k := by
          rw [List.getD_eq_getElem?_getD, List.getElem?_eq_getElem (by omega)]
          exact List.getElem_mem _
        have h2 := ih _ h1
        rw [ByteArray.size_append, ByteArray.size_extract]
        omega
theorem infoS : (Tryd.prog.info? 9).map (fun i => (i.zero, i.size, i.bytes)) = some (some (.string ⟨#[]⟩), 1, 16) := by kernel_rfl
theorem own_new1 (w : World) (u : Value) (E : TypeId) : (w.alloc (.cells #[u] E)).ownsRow w.heap.size E 1 (.slice (some ⟨w.heap.size, 0, none⟩) 1 1) 1 [u] :=
  ⟨rfl, .inr ⟨w.heap.size, 1, #[u], rfl, Nat.le_refl _, heap_alloc_new w _, Nat.le_refl _, by decide, rfl, rfl⟩⟩
theorem own_cellZ {w : World} {B n c g z : Nat} {E : TypeId} {xs : List Value} (h : w.ownsRow B E z (.slice (some ⟨g, 0, none⟩) n c) n xs) {i : Nat} {u : Value} (hi : xs[i]? = some u) : w.cell? ⟨g, i, none⟩ = some u := by
  have := h.cells (g := g) rfl _ _ hi
  rwa [Addr.add_lit, Nat.zero_add] at this

set_option maxRecDepth 100000 in
set_option maxHeartbeats 2000000 in
theorem rPieces (s : ByteArray) (b : Int) (w : World) (hs : s.size ≤ 100000) (hb0 : 0 ≤ b) (hb1 : b ≤ 255) :
    Calls Tryd.prog 10 #[.string s, .int .u8 b] w fun e w' => ∃ v, e = .returned v ∧ w'.ownsRow w.heap.size 9 1 v (pcs s b s.size).length (strs (pcs s b s.size)) ∧ Below w.heap.size w w' := by
  have ho0 : (w.alloc (.cells #[.string ⟨#[]⟩] 9)).ownsRow w.heap.size 9 1 (.slice (some ⟨w.heap.size, 0, none⟩) 1 1) (pcs s b 0).length (strs (pcs s b 0)) := own_new1 w _ _
  have hb0' := (Below.refl w.heap.size w).alloc (Nat.le_refl _) (.cells #[.string ⟨#[]⟩] 9)
  go_enter Tryd.func10, Tryd.ntmps10
  go_wp2
  go_loopw [5, 6] (fun v i wr => ∃ k : Nat, k ≤ s.size ∧ i = .int .i64 k ∧ wr.ownsRow w.heap.size 9 1 v (pcs s b k).length (strs (pcs s b k)) ∧ Below w.heap.size w wr) (fun _ i _ => s.size - (intOf i).toNat)
  case atStart => exact ⟨0, Nat.zero_le _, rfl, ho0, hb0'⟩
  case round =>
    clear ho0 hb0'
    obtain ⟨k, hk, rfl, hown, hbel⟩ := hrel
    have hs1 := hbel.size
    by_cases hlt : k < s.size
    · have hl := pcs_len s b k
      obtain ⟨g, c, rfl, hg, hgl, hlc, hcm⟩ := own_atZ hown hl.1
      obtain ⟨x, HX⟩ : ∃ x, Hid (bt s k = x) := ⟨_, rfl⟩
      have hx := bt_bd s k
      have hix := fun w => bt_run (P := Tryd.prog) Tryd.underlying9 s hlt w
      rw [HX.out] at hx hix
      unfold maxLen at hcm
      by_cases hxb : x = b
      · have HE : Hid (pcs s b k ++ [mt] = pcs s b (k + 1)) := pcs_yes (by rw [HX.out]; exact hxb)
        obtain ⟨m, HM⟩ : ∃ m, Hid ((pcs s b k).length = m) := ⟨_, rfl⟩
        have HM2 : Hid ((pcs s b (k + 1)).length = m + 1) := by unfold Hid; rw [← HE.out, List.length_append, HM.out]; rfl
        have HS : Hid (strs (pcs s b k) ++ [.string ⟨#[]⟩] = strs (pcs s b (k + 1))) := by unfold Hid; rw [← HE.out]; simp [strs, mt]
        rw [HM.out] at hown hl ⊢
        subst hxb
        go_wp2_with (at_builtin; refine wpList_appV Tryd.underlying36 infoS rfl (by omega) _ rfl _ _ rfl w.heap.size _ _ _ rfl hown (.string ⟨#[]⟩) rfl rfl (by omega) hs1 ?_; intro v2 w2 hown2 hgr2 _; rw [HS.out] at hown2; have hb2 := hbel.grown hgr2 hs1 (fun p hp => (hown.lt p hp).1); clear hgr2 hown hbel)
        go_roundw
        case rel => exact ⟨k + 1, by omega, by go_num, by rw [HM2.out]; exact hown2, hb2⟩
        case measure => simp [intOf]; omega
      · have HE := pcs_no (s := s) (b := b) (k := k) (by rw [HX.out]; exact hxb)
        obtain ⟨m, HM⟩ : ∃ m, Hid ((pcs s b k).length = m + 1) := ⟨(pcs s b k).length - 1, by unfold Hid; omega⟩
        obtain ⟨y, HY⟩ : ∃ y, Hid ((pcs s b k).getD m mt = y) := ⟨_, rfl⟩
        obtain ⟨z, HZ⟩ : ∃ z, Hid (s.extract k (k + 1) = z) := ⟨_, rfl⟩
        rw [HM.out, Nat.add_sub_cancel, HY.out, HZ.out] at HE
        have HM2 : Hid ((pcs s b (k + 1)).length = m + 1) := by unfold Hid; rw [← HE, List.length_set, HM.out]
        have HS : Hid ((strs (pcs s b k)).set m (.string (y ++ z)) = strs (pcs s b (k + 1))) := by unfold Hid; rw [← HE, strs, strs, List.map_set]
        have hgy : (strs (pcs s b k))[m]? = some (.string y) := by
          rw [strs, List.getElem?_map, List.getElem?_eq_getElem (by have := HM.out; omega), Option.map_some, ← HY.out, List.getD_eq_getElem?_getD, List.getElem?_eq_getElem (by have := HM.out; omega)]
          rfl
        have hym : y ∈ pcs s b k := by
          rw [← HY.out, List.getD_eq_getElem?_getD, List.getElem?_eq_getElem (by have := HM.out; omega)]
          exact List.getElem_mem _
        have hys := pcs_size s b k y hym
        have hzs : z.size ≤ 1 := by rw [← HZ.out, ByteArray.size_extract]; omega
        rw [HM.out] at hown hl hlc ⊢
        have hcell := own_cellZ hown hgy
        have hfz := own_frozenZ hown m
        have hos := own_setZ hown m (.string (y ++ z))
        rw [HS.out] at hos
        have HO : Hid (World.ownsRow _ _ _ _ _ _ _) := hos
        have HB : Hid (Below w.heap.size w (wr.setCell ⟨g, m, none⟩ (.string (y ++ z)))) := hbel.setCell (p := ⟨g, m, none⟩) hg _
        have hsl : ∀ w, (Instr.slice 9 (.string s) (some (.int .i64 (k : Int))) (some (.int .i64 ((k : Int) + 1))) none).run Tryd.prog w = .ok (.string z) w := fun w => by
          rw [run_slice_string_if w 9 s .i64 .i64 _ _ Tryd.underlying9, if_pos ⟨by omega, by omega⟩, if_pos ⟨by omega, by omega⟩, ← HZ.out]
          rfl
        have hm0 : (0 : Int) ≤ (m : Int) := by omega
        have hxb2 : (x == b) = false := by rw [beq_eq_false_iff_ne]; exact hxb
        clear hos hown hbel HE hgy hym hxb
        go_wp2
        go_region
        all_goals
          go_wp2
          exact ⟨⟨k + 1, by omega, by go_num, by rw [HM2.out]; exact HO.out, HB.out.drew⟩, by simp [intOf]; omega⟩
    · have hks : k = s.size := by omega
      subst hks
      go_wp2
      go_ret
      exact ⟨_, rfl, hown, hbel⟩
end Go.Proofs.YtmpnaobjgknfkacDoor
