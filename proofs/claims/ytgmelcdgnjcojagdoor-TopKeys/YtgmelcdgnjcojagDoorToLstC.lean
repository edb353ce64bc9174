/- solve.rests. · slices.Clone of numbers and of rows; croftref.Rest; a gathered list that is written in place. · Lists of rows that a law gathers. -/
import Derived.Test.YtgmelcdgnjcojagDoorToMxC
import Derived.Test.YtgmelcdgnjcojagDoorToLsV
import Derived.Test.YtgmelcdgnjcojagDoorToIntsC
import Derived.Test.YtgmelcdgnjcojagDoorToCrewC
import Derived.Test.YtgmelcdgnjcojagDoorToWireC
namespace Go.Proofs.YtgmelcdgnjcojagDoor
open Go.RowKit Crm

theorem infoU : (Tryd.prog.info? 34).map (fun i => (i.zero, i.size, i.bytes)) = some (some (.int .u64 0), 1, 8) := by kernel_rfl
theorem infoV : (Tryd.prog.info? 22).map (fun i => (i.zero, i.size, i.bytes)) = some (some (.slice none 0 0), 1, 24) := by kernel_rfl

/-- Of the rests of L the first k. -/
structure Nz (L : List Int) (k : Nat) (A : List Int) : Prop where
  len : A.length = L.length
  bd : ∀ x ∈ A, 0 ≤ x ∧ x ≤ 2147483646
  at_ : ∀ j, j < k → A.getD j 0 = nm (L.getD j 0)
theorem nz_start (L : List Int) (n : Nat) (h : L.length = n) : Nz L 0 (List.replicate n 0) := ⟨by simp [h], fun x hx => by rw [List.eq_of_mem_replicate hx]; omega, fun j hj => by omega⟩
theorem nz_step {L A : List Int} {k : Nat} (h : Nz L k A) (hk : k < L.length) {v : Int} (hv : v = nm (L.getD k 0)) : Nz L (k + 1) (A.set k v) := by
  refine ⟨by rw [List.length_set]; exact h.len, set_bd h.bd (by rw [hv]; exact nm_bd _), fun j hj => ?_⟩
  rw [getD_set]
  by_cases e : j = k
  · subst e
    rw [if_pos ⟨rfl, by rw [h.len]; exact hk⟩, hv]
  · rw [if_neg (by omega), h.at_ j (by omega)]

/-- Of the list in row gl the first i rows are made. -/
structure Mp (w : World) (lo gl n W i : Nat) (G : Nat → Nat) (M : Nat → List Int) : Prop where
  lst : ∃ cur : Array Value, w.heap[gl]? = some (.cells cur 22 (0, 0)) ∧ cur.size = n ∧ ∀ r, r < i → cur[r]? = some (.slice (some ⟨G r, 0, none⟩) W W)
  gb : lo ≤ gl
  rng : ∀ r, r < i → lo ≤ G r ∧ G r < w.heap.size ∧ G r ≠ gl
  inj : ∀ r s, r < i → s < i → G r = G s → r = s
  row : ∀ r, r < i → Blk w (G r) (M r)
  wid : ∀ r, r < i → (M r).length = W
  bd : ∀ r, r < i → ∀ x ∈ M r, 0 ≤ x ∧ x ≤ 2147483646
theorem Mp.lt {w : World} {lo gl n W i : Nat} {G : Nat → Nat} {M : Nat → List Int} (h : Mp w lo gl n W i G M) : gl < w.heap.size := by
  obtain ⟨cur, h1, _⟩ := h.lst
  exact (Array.getElem?_eq_some_iff.1 h1).1
theorem Mp.has {w : World} {lo gl n W i : Nat} {G : Nat → Nat} {M : Nat → List Int} (h : Mp w lo gl n W i G M) {r : Nat} (hr : r < n) : ∃ u, w.cell? ⟨gl, r, none⟩ = some u := by
  obtain ⟨cur, h1, h2, h3⟩ := h.lst
  rw [cell_of_row w gl r _ _ (0, 0) h1]
  exact ⟨_, Array.getElem?_eq_getElem (by omega)⟩
theorem Mp.frozen {w : World} {lo gl n W i : Nat} {G : Nat → Nat} {M : Nat → List Int} (h : Mp w lo gl n W i G M) (r : Nat) : w.frozen? ⟨gl, r, none⟩ = false := by
  obtain ⟨cur, h1, h2, h3⟩ := h.lst
  exact frozen_of_row w gl r _ _ h1
theorem Mp.grown {w : World} {lo gl n W i : Nat} {G : Nat → Nat} {M : Nat → List Int} (h : Mp w lo gl n W i G M) {w' : World} (hg : w.grownBy w' none) : Mp w' lo gl n W i G M := by
  refine ⟨?_, h.gb, fun r hr => ⟨(h.rng r hr).1, Nat.lt_of_lt_of_le (h.rng r hr).2.1 hg.size, (h.rng r hr).2.2⟩, h.inj, fun r hr => (h.row r hr).grown hg (by simp), h.wid, h.bd⟩
  obtain ⟨cur, h1, h2⟩ := h.lst
  exact ⟨cur, by rw [hg.block gl (Array.getElem?_eq_some_iff.1 h1).1 (by simp)]; exact h1, h2⟩
/-- Row i is put in its place: g, which has just been made and then been filled. -/
theorem Mp.next {w : World} {lo gl n W i : Nat} {G : Nat → Nat} {M : Nat → List Int} (h : Mp w lo gl n W i G M) {g : Nat} {w1 w2 : World} {A : List Int} (hi : i < n) (h0 : w.grownBy w1 none) (hgg : w.heap.size ≤ g) (hg1 : g < w1.heap.size) (hg2 : (w1.setCell ⟨gl, i, none⟩ (.slice (some ⟨g, 0, none⟩) W W)).grownBy w2 (some g)) (hlo : lo ≤ g) (hA : Blk w2 g A) (hl : A.length = W) (hb : ∀ x ∈ A, 0 ≤ x ∧ x ≤ 2147483646) :
    Mp w2 lo gl n W (i + 1) (fun r => if r = i then g else G r) (fun r => if r = i then A else M r) := by
  have hgl := h.lt
  have h' := h.grown h0
  have hs2 : w1.heap.size ≤ w2.heap.size := by have := hg2.size; simpa using this
  refine ⟨?_, h.gb, fun r hr => ?_, fun r s hr hs e => ?_, fun r hr => ?_, fun r hr => ?_, fun r hr => ?_⟩
  · obtain ⟨cur, h1, h2, h3⟩ := h'.lst
    refine ⟨cur.setIfInBounds i (.slice (some ⟨g, 0, none⟩) W W), ?_, by simpa using h2, fun r hr => ?_⟩
    · rw [hg2.block gl (by simpa using h'.lt) (by simp; omega)]
      exact heap_setCell_same w1 gl i _ _ _ h1
    · rw [Array.getElem?_setIfInBounds]
      by_cases e : i = r
      · subst e; simp [h2, hi]
      · rw [if_neg e, h3 r (by omega), if_neg (fun e2 => e e2.symm)]
  · by_cases e : r = i
    · simp only [if_pos e]; exact ⟨hlo, by omega, by omega⟩
    · simp only [if_neg e]
      have := h'.rng r (by omega)
      exact ⟨this.1, by omega, this.2.2⟩
  · by_cases e1 : r = i
    · by_cases e2 : s = i
      · omega
      · simp only [if_pos e1, if_neg e2] at e
        have := h.rng s (by omega); omega
    · by_cases e2 : s = i
      · simp only [if_neg e1, if_pos e2] at e
        have := h.rng r (by omega); omega
      · simp only [if_neg e1, if_neg e2] at e
        exact h.inj r s (by omega) (by omega) e
  · by_cases e : r = i
    · simp only [if_pos e]; exact hA
    · simp only [if_neg e]
      have hr2 := h.rng r (by omega)
      have hb1 := h'.row r (by omega)
      unfold Blk at hb1 ⊢
      rw [hg2.block _ (by simp; have := h'.rng r (by omega); omega) (by simp; omega), heap_setCell_other _ _ _ _ (by simpa using hr2.2.2)]
      exact hb1
  · by_cases e : r = i
    · simp only [if_pos e]; exact hl
    · simp only [if_neg e]; exact h.wid r (by omega)
  · by_cases e : r = i
    · simp only [if_pos e]; exact hb
    · simp only [if_neg e]; exact h.bd r (by omega)
theorem Mp.mx {w : World} {lo gl n W i : Nat} {G : Nat → Nat} {M : Nat → List Int} (h : Mp w lo gl n W i G M) (hi : i = n) : Mx w lo w.heap.size gl n W G M := by
  subst hi
  exact ⟨h.lst, ⟨h.gb, h.lt⟩, h.rng, h.inj, h.row, h.wid, h.bd, Nat.le_refl _⟩

set_option maxHeartbeats 1000000 in
set_option maxRecDepth 100000 in
theorem cRests (a : Option Addr) (n c W : Nat) (rs : List (List Int)) (w : World) (h : RdR w a n c rs) (hw : ∀ i, i < n → (rs.getD i []).length = W) (hn : n ≤ 1000) (hW : W ≤ 1000) :
    Calls Tryd.prog 117 #[.slice a n c] w fun e w' => ∃ G M, e = .returned (.slice (some ⟨w.heap.size, 0, none⟩) n n) ∧ Mx w' w.heap.size w'.heap.size w.heap.size n W G M ∧
      (∀ i j, i < n → j < W → (M i).getD j 0 = nm (mat rs i j)) ∧ Below w.heap.size w w' := by
  obtain ⟨i0, hi, hz0, hz1, hz2⟩ := info_parts infoU
  obtain ⟨i1, gi, gz0, gz1, gz2⟩ := info_parts infoV
  go_enter Tryd.func117, Tryd.ntmps117
  go_wp2_with (at_make; refine wpList_make_full _ rfl _ _ 36 rfl w.heap.size 22 i1 (.slice none 0 0) 1 Tryd.underlying36 gi gz0 gz1 .i64 .i64 _ _ n rfl rfl (by omega) (by omega) (by rw [gz2]; omega) (by unfold maxLen; omega) (Nat.le_refl _) ?_; intro w1 hown hgrow)
  have hM : Mp w1 w.heap.size w.heap.size n W 0 (fun _ => 0) (fun _ => []) := by
    refine ⟨?_, Nat.le_refl _, fun r hr => by omega, fun r s hr => by omega, fun r hr => by omega, fun r hr => by omega, fun r hr => by omega⟩
    rcases hown.2 with ⟨h', _⟩ | ⟨g', cap', cur, h', _, hg, _, _, hs, htake⟩
    · simp at h'
    · simp only [Value.slice.injEq, Option.some.injEq, Addr.mk.injEq, and_true, true_and] at h'
      obtain ⟨rfl, rfl⟩ := h'
      exact ⟨cur, hg, by omega, fun r hr => by omega⟩
  have hbel : Below w.heap.size w w1 := (Below.refl _ _).grown hgrow (Nat.le_refl _) (by simp)
  clear hown hgrow
  go_loopw [13] (fun i wr => ∃ (k : Nat) (G : Nat → Nat) (M : Nat → List Int), k ≤ n ∧ i = .int .i64 k ∧ Mp wr w.heap.size w.heap.size n W k G M ∧ Hid (∀ i j, i < k → j < W → (M i).getD j 0 = nm (mat rs i j)) ∧ Below w.heap.size w wr) (fun i _ => n - (intOf i).toNat)
  case atStart => exact ⟨0, _, _, Nat.zero_le _, rfl, hM, fun i j hi => by omega, hbel⟩
  case round =>
    clear hM hbel
    obtain ⟨k, G, M, hk, rfl, hM, HV, hbel⟩ := hrel
    obtain ⟨wo, hwo⟩ : ∃ wo, wo = wr := ⟨_, rfl⟩
    subst hwo
    have hgl := hM.lt
    by_cases hlt : k < n
    · obtain ⟨b, o, ai, ni, ci, row, rfl, hbb, HRow, hcr0, hrow⟩ := h.one hlt
      have hcr : wo.cell? ⟨b, o + k, none⟩ = some (.slice ai ni ci) := by rw [hbel.cell hbb]; exact hcr0
      have hni : ni = W := by have := hw k hlt; rw [HRow.out] at this; rw [← hrow.len]; exact this
      subst hni
      obtain ⟨u0, hu0⟩ := hM.has hlt
      have hfz0 := hM.frozen k
      go_wp2_with (first | (at_make; refine wpList_make_full _ rfl _ _ 22 rfl wo.heap.size 34 i0 (.int .u64 0) 1 Tryd.underlying22 hi hz0 hz1 .i64 .i64 _ _ ni rfl rfl (by omega) (by omega) (by rw [hz2]; omega) (by unfold maxLen; omega) (Nat.le_refl _) ?_; intro w2 hown hgrow; have hu2 : w2.cell? ⟨w.heap.size, k, none⟩ = some u0 := hgrow.cell hu0 (by simp); have hfz2 : w2.frozen? ⟨w.heap.size, k, none⟩ = false := by rw [World.frozen?_of_block (w := wo) (hgrow.block _ hgl (by simp))]; exact hfz0) | fail)
      have hb2 : Blk w2 wo.heap.size (List.replicate ni 0) := Blk.made hown
      have hs2 : wo.heap.size < w2.heap.size := hb2.lt
      obtain ⟨w3, hw3⟩ : ∃ w3, w3 = w2.setCell ⟨w.heap.size, k, none⟩ (.slice (some ⟨wo.heap.size, 0, none⟩) ni ni) := ⟨_, rfl⟩
      have hg23 : w2.grownBy w3 (some w.heap.size) := by rw [hw3]; exact grown_set _ _ _ _
      have hb3 : Blk w3 wo.heap.size (List.replicate ni 0) := hb2.grown hg23 (by simp; omega)
      have hc3 : w3.cell? ⟨w.heap.size, k, none⟩ = some (.slice (some ⟨wo.heap.size, 0, none⟩) ni ni) := by rw [hw3]; exact World.cell?_setCell_same w2 _ _ hu2
      have hbel3 : Below w.heap.size w w3 := by
        rw [hw3]
        exact ((hbel.grown hgrow hbel.size (by simp)).setCell (Nat.le_refl _) _)
      have hnext : ∀ (w4 : World) (A : List Int), w3.grownBy w4 (some wo.heap.size) → Blk w4 wo.heap.size A → Nz row ni A → ∃ G' M', Mp w4 w.heap.size w.heap.size n ni (k + 1) G' M' ∧ Hid (∀ i j, i < k + 1 → j < ni → (M' i).getD j 0 = nm (mat rs i j)) ∧ Below w.heap.size w w4 := fun w4 A hg4 hA hN =>
        ⟨_, _, hM.next hlt hgrow (Nat.le_refl _) hs2 (by rw [← hw3]; exact hg4) hbel.size hA (by rw [hN.len]; exact hrow.len) hN.bd, fun i j hi' hj => by
          by_cases e : i = k
          · simp only [if_pos e]
            rw [hN.at_ j hj, e]
            unfold mat; rw [HRow.out]
          · simp only [if_neg e]
            exact HV.out i j (by omega) hj, below_grown hbel3 hg4 hbel.size⟩
      rw [← hw3]
      have hrow3 : Rd w3 ai ni ci row := hrow.below hbel3
      have hs3 : wo.heap.size < w3.heap.size := hb3.lt
      clear hM HV hown hgrow hu2 hfz2 hb2 hg23 hw3 hcr hcr0 hu0 hfz0
      have hs0 := hbel.size
      go_wp2
      go_loopw [26] (fun i wr => ∃ (j : Nat) (A : List Int), j ≤ ni ∧ i = .int .i64 j ∧ Hid (Nz row j A) ∧ Blk wr wo.heap.size A ∧ w3.grownBy wr (some wo.heap.size)) (fun i _ => ni - (intOf i).toNat)
      case atStart => exact ⟨0, _, Nat.zero_le _, rfl, nz_start _ _ hrow3.len, hb3, World.grownBy.refl _ _⟩
      case round =>
        obtain ⟨j, A, hj, rfl, HN, hA, hg4⟩ := hrel
        have hlen := hrow3.len
        have hlA : A.length = ni := by rw [HN.out.len]; exact hlen
        by_cases hjn : j < ni
        · obtain ⟨b', o', x, rfl, hb', HX, hx0, hx1, hcx0⟩ := hrow.one hjn
          have hcx : wr.cell? ⟨b', o' + j, none⟩ = some (.int .u64 x) := hg4.cell (by rw [hbel3.cell hb']; exact hcx0) (by simp; omega)
          have hcl : wr.cell? ⟨w.heap.size, k, none⟩ = some (.slice (some ⟨wo.heap.size, 0, none⟩) ni ni) := hg4.cell hc3 (by simp; omega)
          have hcA := hA.cell (i := j) (by omega)
          have hfA := hA.frozen j
          have HN2 : Hid (Nz row (j + 1) (A.set j (nm x))) := nz_step HN.out (by omega) (by rw [HX.out])
          have HA2 : Hid (Blk (wr.setCell ⟨wo.heap.size, j, none⟩ (.int .u64 (nm x))) wo.heap.size (A.set j (nm x))) := hA.set j _
          have HG2 : Hid (w3.grownBy (wr.setCell ⟨wo.heap.size, j, none⟩ (.int .u64 (nm x))) (some wo.heap.size)) := grown_trans hg4 (grown_set _ _ _ _)
          clear HN hA hg4 hnext
          go_wp2
          go_region_with (first | (go_at_call 37; refine (fNorm _ _ (by omega) (by omega)).mono ?_; rintro e w' ⟨rfl, rfl⟩))
          all_goals
            go_wp2
            go_roundw
            case rel => exact ⟨j + 1, _, by omega, by go_num, HN2, HA2.out, grown_drew HG2.out⟩
            case measure => simp [intOf]; omega
        · have hjn2 : j = ni := by omega
          subst hjn2
          obtain ⟨G', M', hM', HV', hbel'⟩ := hnext _ _ hg4 hA HN.out
          go_wp2
          go_roundw
          case rel => exact ⟨k + 1, G', M', by omega, by go_num, hM', HV', hbel'⟩
          case measure => simp [intOf]; omega
    · have hkn : k = n := by omega
      subst hkn
      go_wp2
      go_ret
      exact ⟨G, M, rfl, hM.mx rfl, HV.out, hbel⟩
end Go.Proofs.YtgmelcdgnjcojagDoor

namespace Go.Proofs.YtgmelcdgnjcojagDoor
open Go.RowKit

set_option maxHeartbeats 400000 in
set_option maxRecDepth 100000 in
theorem cClone (a : Option Addr) (n c : Nat) (xs : List Int) (w : World) (h : Rd w a n c xs) (hn : 0 < n) (hn2 : n ≤ 1000) :
    Calls Tryd.prog 14 #[.slice a n c] w fun e w' => ∃ v, e = .returned v ∧ w'.ownsRow w.heap.size 34 1 v n (xs.map (Value.int .u64)) ∧ Below w.heap.size w w' := by
  obtain ⟨i0, hi, hz0, hz1, hz2⟩ := info_parts infoU
  obtain ⟨b, o, rfl, hb, hc⟩ := h.at hn
  have hlen := h.len
  have hnil := fun W : World => eql_nil (P := Tryd.prog) W _ _ ⟨b, o, none⟩ n c Tryd.underlying22
  go_enter Tryd.func14, Tryd.ntmps14
  go_wp2_with (at_builtin; refine wpList_append_own _ rfl _ _ 22 rfl w.heap.size 34 i0 (.int .u64 0) 1 8 Tryd.underlying22 hi hz0 hz1 hz2 rfl (by decide) (.slice (some ⟨w.heap.size, 0, none⟩) 0 0) 0 [] (by rfl) (World.ownsRow_made w #[] 0 (Nat.le_refl _) (Nat.zero_le _) rfl) ⟨b, o, none⟩ n c (xs.map (Value.int .u64)) (by rfl) (by simp [hlen]) ?c1 ?c2 (by unfold maxLen; omega) (by omega) (by simp) ?_)
  case c1 =>
    intro j u hj
    have hjn : j < n := by have := (List.getElem?_eq_some_iff.1 hj).1; simp at this; omega
    have hu : u = .int .u64 (xs.getD j 0) := by
      simp [List.getElem?_eq_getElem (show j < xs.length by omega)] at hj
      rw [← hj]; simp [List.getElem?_eq_getElem (show j < xs.length by omega)]
    rw [hu, Addr.add_lit, World.cell?_of_block (w := w) (Below.heap_alloc _ _ _ hb)]
    exact hc j hjn
  case c2 => intro u hu; obtain ⟨x, _, rfl⟩ := List.mem_map.1 hu; rfl
  · intro v' w1 hown hgrow _
    have hbel : Below w.heap.size w w1 := ((Below.refl w.heap.size w).alloc (Nat.le_refl _) _).grown hgrow (by simp) (fun k hk => by simp [Value.ownBlock] at hk; omega)
    go_wp2
    go_ret
    exact ⟨_, rfl, hown, hbel⟩

end Go.Proofs.YtgmelcdgnjcojagDoor

namespace Go.Proofs.YtgmelcdgnjcojagDoor
open Go.RowKit

structure Lst (w : World) (B m W : Nat) (v : Value) (bs : List Value) (BB : List (List Int)) : Prop where
  own : w.ownsRow B 22 1 v m bs
  lb : BB.length = m
  row : ∀ q, q < m → ∃ g c, bs[q]? = some (.slice (some ⟨g, 0, none⟩) W c) ∧ g < w.heap.size ∧ v.ownBlock ≠ some g ∧ (BB.getD q []).length = W ∧ Rd w (some ⟨g, 0, none⟩) W c (BB.getD q [])

theorem lst_nil (w : World) (B W : Nat) : Lst w B 0 W (.slice none 0 0) [] [] := ⟨World.ownsRow_nil _ _ _ _, rfl, fun q hq => by omega⟩
theorem Lst.below {w : World} {B m W : Nat} {v : Value} {bs : List Value} {BB : List (List Int)} (h : Lst w B m W v bs BB) {w' : World} (hb : Below w.heap.size w w') : Lst w' B m W v bs BB :=
  ⟨own_below h.own hb, h.lb, fun q hq => by
    obtain ⟨g, c, h1, h2, h3, h4, h5⟩ := h.row q hq
    exact ⟨g, c, h1, Nat.lt_of_lt_of_le h2 hb.size, h3, h4, h5.below hb⟩⟩
theorem Lst.len {w : World} {B m W : Nat} {v : Value} {bs : List Value} {BB : List (List Int)} (h : Lst w B m W v bs BB) : bs.length = m := by simpa using h.own.1
theorem Lst.one1 {w : World} {B m W : Nat} {v : Value} {bs : List Value} {BB : List (List Int)} (h : Lst w B m W v bs BB) : ∀ u ∈ bs, u.oneCell' = true := fun u hu => by
  obtain ⟨q, hq, e⟩ := List.getElem_of_mem hu
  have hl := h.len
  obtain ⟨g, c, h1, _⟩ := h.row q (by omega)
  rw [List.getElem?_eq_getElem hq, e] at h1
  rw [Option.some.inj h1]; rfl
theorem Lst.wid {w : World} {B m W : Nat} {v : Value} {bs : List Value} {BB : List (List Int)} (h : Lst w B m W v bs BB) {q : Nat} (hq : q < m) : (BB.getD q []).length = W := by
  obtain ⟨g, c, _, _, _, h4, _⟩ := h.row q hq
  exact h4
/-- It reads as its rows. -/
theorem Lst.rdR {w : World} {B m W : Nat} {v : Value} {bs : List Value} {BB : List (List Int)} (h : Lst w B m W v bs BB) (hm : m ≤ 1000) : ∃ a c, v = .slice a m c ∧ RdR w a m c BB := by
  rcases h.own.2 with ⟨rfl, rfl⟩ | ⟨g, cap, cur, rfl, hb, hg, h1, h2, hs, ht⟩
  · exact ⟨none, 0, rfl, h.lb, Nat.le_refl _, Nat.zero_le _, fun _ => rfl, by simp⟩
  · refine ⟨_, _, rfl, h.lb, h1, h2, by simp, fun x hx i hi => ?_⟩
    obtain rfl := Option.some.inj hx
    obtain ⟨g', c', e1, e2, e3, e4, e5⟩ := h.row i hi
    refine ⟨some ⟨g', 0, none⟩, c', ?_, by rw [e4]; exact e5⟩
    rw [e4]
    exact h.own.cells (g := g) rfl i _ e1
/-- One more row. -/
theorem Lst.add {w : World} {B m W : Nat} {v : Value} {bs : List Value} {BB : List (List Int)} (h : Lst w B m W v bs BB) {w1 : World} {v' : Value} {g0 c0 : Nat} {row : List Int} (hr : Rd w (some ⟨g0, 0, none⟩) W c0 row) (hg0 : g0 < w.heap.size) (hne : v.ownBlock ≠ some g0)
    (s1 : w1.ownsRow B 22 1 v' (m + 1) (bs ++ [.slice (some ⟨g0, 0, none⟩) W c0])) (g1 : w.grownBy w1 v.ownBlock) (b1 : v'.ownBlock = v.ownBlock ∨ ∃ k, v'.ownBlock = some k ∧ w.heap.size ≤ k) :
    Lst w1 B (m + 1) W v' (bs ++ [.slice (some ⟨g0, 0, none⟩) W c0]) (BB ++ [row]) := by
  have hz := g1.size
  have hlb := h.lb
  have hlen := h.len
  have keep : ∀ g, g < w.heap.size → v.ownBlock ≠ some g → v'.ownBlock ≠ some g := fun g hg hn e => by
    rcases b1 with e1 | ⟨k, e1, hk⟩
    · exact hn (e1 ▸ e)
    · rw [e1] at e; obtain rfl := Option.some.inj e; omega
  refine ⟨s1, by simp [hlb], fun q hq => ?_⟩
  by_cases e : q < m
  · obtain ⟨g, c, h1, h2, h3, h4, h5⟩ := h.row q e
    have e2 : (BB ++ [row]).getD q [] = BB.getD q [] := by simp [List.getElem?_append_left (show q < BB.length by omega)]
    refine ⟨g, c, by rw [List.getElem?_append_left (by omega)]; exact h1, by omega, keep g h2 h3, by rw [e2]; exact h4, ?_⟩
    rw [e2]
    exact h5.grown g1 fun x hx => by obtain rfl := Option.some.inj hx; exact fun e3 => h3 e3.symm
  · have hq2 : q = m := by omega
    have e2 : (BB ++ [row]).getD q [] = row := by rw [hq2, ← hlb]; simp
    refine ⟨g0, c0, by rw [hq2, ← hlen]; simp, by omega, keep g0 hg0 hne, by rw [e2]; exact hr.len, ?_⟩
    rw [e2]
    exact hr.grown g1 fun x hx => by obtain rfl := Option.some.inj hx; exact fun e3 => hne e3.symm
/-- A copy of it. -/
theorem Lst.clone {w : World} {B m W : Nat} {v : Value} {bs : List Value} {BB : List (List Int)} (h : Lst w B m W v bs BB) {w1 : World} {v' : Value} (hb : Below w.heap.size w w1) (s1 : w1.ownsRow w.heap.size 22 1 v' m bs) : Lst w1 w.heap.size m W v' bs BB :=
  ⟨s1, h.lb, fun q hq => by
    obtain ⟨g, c, h1, h2, h3, h4, h5⟩ := h.row q hq
    exact ⟨g, c, h1, Nat.lt_of_lt_of_le h2 hb.size, fun e => by have := (s1.lt g e).1; omega, h4, h5.below hb⟩⟩

/-- A row that was made and filled is one that may be appended to. -/
theorem Blk.owns {w : World} {g n base : Nat} {L : List Int} (h : Blk w g L) (hl : L.length = n) (hm : n ≤ maxLen) (hb : base ≤ g) : w.ownsRow base 34 1 (.slice (some ⟨g, 0, none⟩) n n) n (L.map (Value.int .u64)) :=
  ⟨by simp [hl], .inr ⟨g, n, _, rfl, hb, h, Nat.le_refl _, hm, by simp [hl], by rw [Nat.mul_one]; exact List.take_of_length_le (by simp [hl])⟩⟩
end Go.Proofs.YtgmelcdgnjcojagDoor
