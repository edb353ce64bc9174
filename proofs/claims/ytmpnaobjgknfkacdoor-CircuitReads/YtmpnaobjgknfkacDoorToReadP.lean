/- Texts that are compared; slices.Index of texts; pieces of slices of texts. · What is read of a text: bounds; what Parse answers. -/
import Derived.Test.YtmpnaobjgknfkacDoorToShLay
import Derived.Test.YtmpnaobjgknfkacDoorToTextM
import Derived.Test.YtmpnaobjgknfkacDoorToSubC
namespace Go.Proofs.YtmpnaobjgknfkacDoor
open Go.RowKit Crm

theorem tl_yes {x y : ByteArray} (h : x = y) : (x.toList == y.toList) = true := by rw [h]; simp
theorem tl_no {x y : ByteArray} (h : x ≠ y) : (x.toList == y.toList) = false := by
  rw [beq_eq_false_iff_ne]
  intro e
  rw [ByteArray.toList_eq, ByteArray.toList_eq] at e
  exact h (ByteArray.ext (Array.ext' e))
/-- Where a text stands among others. -/
def Ixt (L : List ByteArray) (n : Nat) (x : ByteArray) (r : Int) : Prop := (∃ k : Nat, k < n ∧ tx L k = x ∧ r = (k : Int)) ∨ ((∀ j, j < n → tx L j ≠ x) ∧ r = -1)
theorem Ixt.bd {L : List ByteArray} {n : Nat} {x : ByteArray} {r : Int} (h : Ixt L n x r) : -1 ≤ r ∧ r < (n : Int) := by
  rcases h with ⟨k, hk, _, rfl⟩ | ⟨_, rfl⟩ <;> omega

set_option maxRecDepth 100000 in
theorem sIndexT (a : Option Addr) (n c : Nat) (L : List ByteArray) (x : ByteArray) (w : World) (h : RdT w a n c L) :
    Calls Tryd.prog 12 #[.slice a n c, .string x] w fun e w' => ∃ r, e = .returned (.int .i64 r) ∧ Ixt L n x r ∧ w' = w := by
  have hcap := h.cap
  have hmax := h.max
  unfold maxLen at hmax
  go_enter Tryd.func12, Tryd.ntmps12
  go_wp2
  go_loop [8] (fun q => ∃ i : Nat, i ≤ n ∧ q = .int .i64 i ∧ Hid (∀ j, j < i → tx L j ≠ x)) (fun q => n - (intOf q).toNat)
  case atStart => exact ⟨0, Nat.zero_le _, rfl, fun j hj => by omega⟩
  case round =>
    obtain ⟨i, hi, rfl, HN⟩ := hrel
    by_cases hlt : i < n
    · obtain ⟨b, o, y, rfl, hb, HY, hys, hc⟩ := h.one hlt
      by_cases e : x = y
      · have HE : Hid (Ixt L n x i) := .inl ⟨i, hlt, by rw [HY.out, e], rfl⟩
        have he := tl_yes e
        clear e HN
        go_wp2
        go_ret
        exact ⟨_, rfl, HE.out, rfl⟩
      · have he := tl_no e
        have HN2 : Hid (∀ j, j < i + 1 → tx L j ≠ x) := fun j hj => by
          by_cases ej : j = i
          · rw [ej, HY.out]; exact fun e' => e e'.symm
          · exact HN.out j (by omega)
        clear e HN
        go_wp2
        go_round
        case rel => exact ⟨i + 1, by omega, by go_num, HN2⟩
        case measure => simp [intOf]; omega
    · have hin : i = n := by omega
      subst hin
      have HE : Hid (Ixt L i x (-1)) := .inr ⟨HN.out, rfl⟩
      clear HN
      go_wp2
      go_ret
      exact ⟨_, rfl, HE.out, rfl⟩
/-- The verbs as texts that are read. -/
theorem Vb.rd {w : World} (h : Vb w) : RdT w (some ⟨0, 0, none⟩) 7 7 vbs := by
  refine ⟨rfl, Nat.le_refl _, by decide, by simp, fun i hi => ?_, fun x hx i hi => ?_⟩
  · have := vb_size i hi
    unfold vb at this
    unfold tx
    omega
  · obtain rfl := Option.some.inj hx
    rw [Addr.add_lit, Nat.zero_add]
    exact h i hi
theorem RdT.take {w : World} {a : Option Addr} {n c : Nat} {L : List ByteArray} (h : RdT w a n c L) {k : Nat} (hk : k ≤ n) : RdT w a k c (L.take k) := by
  have hl := h.len
  have ht : ∀ i, i < k → tx (L.take k) i = tx L i := fun i hi => by simp [tx, List.getElem?_take_of_lt hi]
  refine ⟨by simp; omega, by have := h.cap; omega, h.max, h.nil, fun i hi => by rw [ht i hi]; exact h.bd i (by omega), fun x hx i hi => by rw [ht i hi]; exact h.cell x hx i (by omega)⟩
theorem RdT.sub1 {w : World} {g n c : Nat} {L : List ByteArray} (h : RdT w (some ⟨g, 0, none⟩) (n + 1) c L) : RdT w (subA (some ⟨g, 0, none⟩) c 1) n (c - 1) (L.drop 1) := by
  have hc := h.cap
  have hl := h.len
  obtain ⟨c', rfl⟩ : ∃ c', c = c' + 1 := ⟨c - 1, by omega⟩
  unfold subA
  by_cases e : c' + 1 = 1
  · rw [if_pos e]
    obtain rfl : c' = 0 := by omega
    obtain rfl : n = 0 := by omega
    exact ⟨by simp; omega, by omega, by unfold maxLen; omega, by simp, fun i hi => by omega, fun x hx i hi => by omega⟩
  · rw [if_neg e]
    exact h.tail
end Go.Proofs.YtmpnaobjgknfkacDoor

namespace Go.Proofs.YtmpnaobjgknfkacDoor
open Go.RowKit Crm

theorem arn_of {k : Nat} (h1 : 1 ≤ k) (h7 : k < 7) : (k = 1 ∧ arn k = 1) ∨ (k = 2 ∧ arn k = 1) ∨ (k = 6 ∧ arn k = 2) ∨ ((k = 3 ∨ k = 4 ∨ k = 5) ∧ arn k = 2) := by
  have : k = 1 ∨ k = 2 ∨ k = 3 ∨ k = 4 ∨ k = 5 ∨ k = 6 := by omega
  rcases this with rfl | rfl | rfl | rfl | rfl | rfl <;> simp [arn]
theorem ag_bd {t : ByteArray} {n i : Nat} (h : okn (ags t) n) (hi : i < n) : 0 ≤ agn t i ∧ agn t i ≤ 9999999999 := okd_bd (h i hi)
def gbd (g : Gt) : Prop := (1 ≤ g.k ∧ g.k ≤ 6) ∧ (0 ≤ g.a ∧ g.a ≤ 9999999999) ∧ (0 ≤ g.b ∧ g.b ≤ 9999999999) ∧ 0 ≤ g.n ∧ g.n ≤ 9999999999
theorem gof_bd {k : Nat} {t : ByteArray} (h1 : 1 ≤ k) (h7 : k < 7) (ho : okn (ags t) (arn k)) : gbd (gof k t) := by
  rcases arn_of h1 h7 with ⟨rfl, e⟩ | ⟨rfl, e⟩ | ⟨rfl, e⟩ | ⟨h3, e⟩
  · rw [e] at ho
    have := ag_bd ho (i := 0) (by omega)
    unfold gof gbd
    simp
    omega
  · rw [e] at ho
    have := ag_bd ho (i := 0) (by omega)
    unfold gof gbd
    simp
    omega
  · rw [e] at ho
    have := ag_bd ho (i := 0) (by omega)
    have := ag_bd ho (i := 1) (by omega)
    unfold gof gbd
    simp
    omega
  · rw [e] at ho
    have := ag_bd ho (i := 0) (by omega)
    have := ag_bd ho (i := 1) (by omega)
    unfold gof gbd
    rw [if_neg (by omega), if_neg (by omega), if_neg (by omega)]
    simp only
    omega
theorem Rds.bd {l : List ByteArray} : ∀ {i : Nat} {G : List Gt} {O : List Int}, Rds l i G O → (∀ g ∈ G, gbd g) ∧ (∀ x ∈ O, 0 ≤ x ∧ x ≤ 9999999999)
  | 0, _, _, h => by obtain ⟨rfl, rfl⟩ := h; exact ⟨fun g hg => by simp at hg, fun x hx => by simp at hx⟩
  | i + 1, _, _, h => by
    obtain ⟨G0, O0, h0, h1⟩ := h
    obtain ⟨b1, b2⟩ := h0.bd
    rcases h1 with ⟨g, ⟨k, hk, _, _, ho, rfl⟩, _, rfl, rfl⟩ | ⟨x, ⟨_, _, ho, rfl⟩, rfl, rfl⟩
    · refine ⟨fun y hy => ?_, fun x hx => by simp at hx⟩
      rcases List.mem_append.1 hy with hy | hy
      · exact b1 y hy
      · obtain rfl := List.mem_singleton.1 hy
        exact gof_bd hk.1 hk.2 ho
    · refine ⟨b1, fun y hy => ?_⟩
      rcases List.mem_append.1 hy with hy | hy
      · exact b2 y hy
      · obtain rfl := List.mem_singleton.1 hy
        exact ag_bd ho (by omega)
theorem Par.gbd {s : ByteArray} {G : List Gt} {O : List Int} {a : Nat} {r : Int} (h : Par s G O a r) : (∀ g ∈ G, gbd g) ∧ (∀ x ∈ O, 0 ≤ x ∧ x ≤ 9999999999) := by
  have nil : (∀ g ∈ ([] : List Gt), Go.Proofs.YtmpnaobjgknfkacDoor.gbd g) ∧ (∀ x ∈ ([] : List Int), 0 ≤ x ∧ x ≤ 9999999999) := ⟨fun g hg => by simp at hg, fun x hx => by simp at hx⟩
  rcases h with ⟨_, rfl, rfl, _, _⟩ | ⟨_, ⟨_, _, _, _, _, _, rfl, rfl, _, _⟩ | ⟨G0, O0, h1, ⟨_, rfl, rfl, _, _⟩ | ⟨_, _, _, ⟨_, rfl, rfl⟩ | ⟨_, rfl, rfl⟩⟩⟩⟩
  · exact nil
  · exact nil
  · exact nil
  · exact nil
  · exact h1.bd
theorem gt_mem {G : List Gt} {i : Nat} (h : i < G.length) : gt G i ∈ G := by
  unfold gt
  rw [List.getD_eq_getElem?_getD, List.getElem?_eq_getElem h]
  exact List.getElem_mem _
/-- Gates that a call has made its own, none among them too. -/
theorem RdG.ownA {w : World} {base n c : Nat} {a : Option Addr} {E : TypeId} {G : List Gt} (h : w.ownsRow base E 4 (.slice a n c) n (gcs G)) (hl : G.length = n) (hb : ∀ g ∈ G, gbd g) : RdG w a n c G := by
  have hb' : ∀ i, i < n → (-9223372036854775808 ≤ (gt G i).k ∧ (gt G i).k ≤ 9223372036854775807) ∧ (-9223372036854775808 ≤ (gt G i).a ∧ (gt G i).a ≤ 9223372036854775807) ∧ (-9223372036854775808 ≤ (gt G i).b ∧ (gt G i).b ≤ 9223372036854775807) ∧ 0 ≤ (gt G i).n ∧ (gt G i).n ≤ 18446744073709551615 := fun i hi => by
    have := hb _ (gt_mem (show i < G.length by omega))
    unfold gbd at this
    omega
  rcases h.2 with ⟨e, rfl⟩ | ⟨g, cap, cur, e, _⟩
  · simp only [Value.slice.injEq] at e
    obtain ⟨rfl, _, rfl⟩ := e
    exact ⟨hl, Nat.le_refl _, Nat.zero_le _, fun _ => rfl, hb', fun x hx => by simp at hx⟩
  · simp only [Value.slice.injEq] at e
    obtain ⟨rfl, _, rfl⟩ := e
    exact RdG.own h hl hb'
theorem RdI.ownA {w : World} {base n c : Nat} {a : Option Addr} {E : TypeId} {L : List Int} (h : w.ownsRow base E 1 (.slice a n c) n (zns L)) (hb : ∀ x ∈ L, 0 ≤ x ∧ x ≤ 9999999999) : RdI w a n c L := by
  obtain ⟨a', c', e, hr⟩ := RdI.own h (fun x hx => by have := hb x hx; omega)
  simp only [Value.slice.injEq] at e
  obtain ⟨rfl, _, rfl⟩ := e
  exact hr
/-- What Parse answers. -/
def Prd (s : ByteArray) (w : World) (e : Ending) (w' : World) : Prop :=
  ∃ (ag : Option Addr) (cg : Nat) (ao : Option Addr) (co at_ : Nat) (r : Int) (G : List Gt) (O : List Int), e = .returned (.tuple #[.agg #[.slice ag G.length cg, .slice ao O.length co], .int .i64 (at_ : Int), .int .i64 r]) ∧ Par s G O at_ r ∧
    w'.ownsRow w.heap.size 44 4 (.slice ag G.length cg) G.length (gcs G) ∧ w'.ownsRow w.heap.size 3 1 (.slice ao O.length co) O.length (zns O) ∧ Below w.heap.size w w'
theorem Prd.err {s : ByteArray} {w w' : World} {a r : Int} {n : Nat} (h : Par s [] [] n r) (ha : a = (n : Int)) (hb : Below w.heap.size w w') : Prd s w (.returned (.tuple #[.agg #[.slice none 0 0, .slice none 0 0], .int .i64 a, .int .i64 r])) w' := by
  subst ha
  exact ⟨none, 0, none, 0, n, r, [], [], rfl, h, World.ownsRow_nil _ _ _ _, World.ownsRow_nil _ _ _ _, hb⟩
theorem two_put {w : World} {g : Nat} {u v x y : Value} (h0 : w.cell? ⟨g, 0, none⟩ = some u) (h1 : w.cell? ⟨g, 1, none⟩ = some v) :
    ((w.setCell ⟨g, 0, none⟩ x).setCell ⟨g, 1, none⟩ y).cell? ⟨g, 0, none⟩ = some x ∧ ((w.setCell ⟨g, 0, none⟩ x).setCell ⟨g, 1, none⟩ y).cell? ⟨g, 1, none⟩ = some y := by
  refine ⟨?_, ?_⟩
  · rw [World.cell?_setCell_other _ _ _ _ (by simp)]
    exact World.cell?_setCell_same w _ x h0
  · exact World.cell?_setCell_same _ _ y (show (w.setCell ⟨g, 0, none⟩ x).cell? ⟨g, 1, none⟩ = some v by rw [World.cell?_setCell_other _ _ _ _ (by simp)]; exact h1)
/-- Which verb. -/
theorem ixt_some (x : ByteArray) : ∃ r, Ixt vbs 7 x r := by
  by_cases h : ∃ k, k < 7 ∧ tx vbs k = x
  · obtain ⟨k, h1, h2⟩ := h; exact ⟨k, .inl ⟨k, h1, h2, rfl⟩⟩
  · exact ⟨-1, .inr ⟨fun j hj e => h ⟨j, hj, e⟩, rfl⟩⟩
theorem ixt_one {x : ByteArray} {r q : Int} (h : Ixt vbs 7 x r) (k : Ixt vbs 7 x q) : r = q := by
  rcases h with ⟨i, hi, e1, rfl⟩ | ⟨h1, rfl⟩ <;> rcases k with ⟨j, hj, e2, rfl⟩ | ⟨k1, rfl⟩
  · rw [vb_inj i hi j hj (e1.trans e2.symm)]
  · exact absurd e1 (k1 i hi)
  · exact absurd e2 (h1 j hj)
  · rfl
theorem sIndexV (x : ByteArray) (r : Int) (w : World) (h : Ixt vbs 7 x r) (hV : Vb w) : Calls Tryd.prog 12 #[.slice (some ⟨0, 0, none⟩) 7 7, .string x] w fun e w' => e = .returned (.int .i64 r) ∧ w' = w := by
  refine (sIndexT _ _ _ _ x w hV.rd).mono ?_
  rintro e w' ⟨q, rfl, hq, rfl⟩
  rw [ixt_one h hq]
  exact ⟨rfl, rfl⟩
theorem Vb.drewN {w : World} (h : Vb w) (q : Nat) : Vb (w.drewN q) := h
/-- A line that is neither. -/
theorem nok_num {t : ByteArray} {O : List Int} {k : Nat} (hl : (ags t).length = k) (h : ¬ okn (ags t) k) : Nok t O := by
  rintro (⟨g, ⟨j, _, _, e, ho, _⟩, _⟩ | ⟨x, _, e, ho, _⟩)
  · rw [← hl, e] at h; exact h ho
  · rw [← hl, e] at h; exact h ho
theorem nok_out {t : ByteArray} {O : List Int} (ho : tx (wds t) 0 = outB) (hl : (ags t).length ≠ 1) : Nok t O := by
  rintro (⟨g, ⟨j, hj, e, _⟩, _⟩ | ⟨x, _, e, _⟩)
  · exact vb_out j hj.2 (e.symm.trans ho)
  · exact hl e
theorem nok_kind {t : ByteArray} {O : List Int} {r : Int} (ho : tx (wds t) 0 ≠ outB) (h : Ixt vbs 7 (tx (wds t) 0) r) (hr : r < 1) : Nok t O := by
  rintro (⟨g, ⟨j, hj, e, _⟩, _⟩ | ⟨x, e, _⟩)
  · rcases h with ⟨i, hi, e1, rfl⟩ | ⟨h1, _⟩
    · have := vb_inj i hi j hj.2 (e1.trans e); omega
    · exact h1 j hj.2 e.symm
  · exact ho e
theorem nok_outs {t : ByteArray} {O : List Int} (ho : tx (wds t) 0 ≠ outB) (h : O ≠ []) : Nok t O := by
  rintro (⟨g, _, e⟩ | ⟨x, e, _⟩)
  · exact h e
  · exact ho e
theorem nok_many {t : ByteArray} {O : List Int} {k : Nat} (ho : tx (wds t) 0 ≠ outB) (hk : k < 7) (h : tx (wds t) 0 = vb k) (hl : (ags t).length ≠ arn k) : Nok t O := by
  rintro (⟨g, ⟨j, hj, e, e2, _⟩, _⟩ | ⟨x, e, _⟩)
  · obtain rfl := vb_inj k hk j hj.2 (h.symm.trans e)
    exact hl e2
  · exact ho e
end Go.Proofs.YtmpnaobjgknfkacDoor
