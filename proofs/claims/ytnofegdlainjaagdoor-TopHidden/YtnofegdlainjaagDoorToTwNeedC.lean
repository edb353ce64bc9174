/- hide.zeros. · The square of numbers of a dealing in two variables: plain facts, and its block. · twine.Need, value, allHave. -/
import Derived.Test.YtnofegdlainjaagDoorToHidZ
import Derived.Test.YtnofegdlainjaagDoorToCheckC
import Derived.Test.YtnofegdlainjaagDoorToFieldC
import Derived.Test.YtnofegdlainjaagDoorToOpenG
import Derived.Deep.RegionWith
import Derived.Deep.Cut
import Derived.Laws.Rows
import Derived.Laws.Tables
import Derived.Laws.CopyOwn
import Derived.Test.YtnofegdlainjaagDoorToTwDef
import Derived.Test.YtnofegdlainjaagDoorToHidM
import Derived.Test.YtnofegdlainjaagDoorToDealC
namespace Go.Proofs.YtnofegdlainjaagDoor
open Go.RowKit Crm

/-- Block g holds the five numbers C. -/
def BlkP (w : World) (g : Nat) (C : List Int) : Prop := w.heap[g]? = some (.cells (C.map (Value.int .u64)).toArray 93 (0, 0))
theorem BlkP.lt {w : World} {g : Nat} {C : List Int} (h : BlkP w g C) : g < w.heap.size := (Array.getElem?_eq_some_iff.1 h).1
theorem BlkP.cell {w : World} {g : Nat} {C : List Int} (h : BlkP w g C) {i : Nat} (hi : i < C.length) : w.cell? ⟨g, i, none⟩ = some (.int .u64 (C.getD i 0)) := by
  rw [cell_of_row w g i _ _ (0, 0) h]
  simp [List.getElem?_eq_getElem hi]
theorem BlkP.frozen {w : World} {g : Nat} {C : List Int} (h : BlkP w g C) (i : Nat) : w.frozen? ⟨g, i, none⟩ = false := frozen_of_row w g i _ _ h
theorem BlkP.set {w : World} {g : Nat} {C : List Int} (h : BlkP w g C) (i : Nat) (v : Int) : BlkP (w.setCell ⟨g, i, none⟩ (.int .u64 v)) g (C.set i v) := by
  have := heap_setCell_same w g i _ _ (.int .u64 v) h
  unfold BlkP
  rw [this]
  simp [List.map_set]
theorem BlkP.below {w w' : World} {B g : Nat} {C : List Int} (h : BlkP w g C) (hb : Below B w w') (hg : g < B) : BlkP w' g C := by
  unfold BlkP; rw [hb.block g hg]; exact h
theorem BlkP.other {w : World} {g g' i : Nat} {C : List Int} {v : Value} (h : BlkP w g C) (hg : g' ≠ g) : BlkP (w.setCell ⟨g', i, none⟩ v) g C := by
  unfold BlkP; rw [heap_setCell_other w ⟨g', i, none⟩ g v (fun e => hg e.symm)]; exact h
theorem infoPw : (Tryd.prog.info? 93).map (·.size) = some 5 := by kernel_rfl
theorem pw_one (C : List Int) : (C.map (Value.int .u64)).toArray.all (·.oneCell') = true := by
  rw [Array.all_eq_true_iff_forall_mem]
  intro v hv
  obtain ⟨x, _, rfl⟩ := List.mem_map.1 (show v ∈ C.map (Value.int .u64) by simpa using hv)
  rfl
def pw0 : List Int := [0, 0, 0, 0, 0]
def pw1 : List Int := [1, 0, 0, 0, 0]
theorem pw_new (w : World) {A : World} (hA : A = ((w.alloc (.cells #[.int .u64 0, .int .u64 0, .int .u64 0, .int .u64 0, .int .u64 0] 93)).alloc (.cells #[.int .u64 1, .int .u64 0, .int .u64 0, .int .u64 0, .int .u64 0] 93))) : BlkP A w.heap.size pw0 ∧ BlkP A (w.heap.size + 1) pw1 ∧ Below w.heap.size w A := by
  subst hA
  have h1 : BlkP (w.alloc (.cells #[.int .u64 0, .int .u64 0, .int .u64 0, .int .u64 0, .int .u64 0] 93)) w.heap.size pw0 := heap_alloc_new w _
  have h2 : BlkP ((w.alloc (.cells #[.int .u64 0, .int .u64 0, .int .u64 0, .int .u64 0, .int .u64 0] 93)).alloc (.cells #[.int .u64 1, .int .u64 0, .int .u64 0, .int .u64 0, .int .u64 0] 93)) (w.alloc (.cells #[.int .u64 0, .int .u64 0, .int .u64 0, .int .u64 0, .int .u64 0] 93)).heap.size pw1 := heap_alloc_new _ _
  have e : (w.alloc (.cells #[.int .u64 0, .int .u64 0, .int .u64 0, .int .u64 0, .int .u64 0] 93)).heap.size = w.heap.size + 1 := by simp
  rw [e] at h2
  exact ⟨h1.below ((Below.refl _ _).alloc (Nat.le_refl _) _) h1.lt, h2, ((Below.refl _ _).alloc (Nat.le_refl _) _).alloc (by simp) _⟩
theorem BlkP.row {w : World} {g : Nat} {C D : List Int} (h : BlkP w g C) : BlkP (w.setRow g (D.map (Value.int .u64)).toArray) g D := setRow_heap _ _ _ _ _ _ h
theorem BlkP.rowO {w : World} {g k : Nat} {C : List Int} {cs : Array Value} (h : BlkP w g C) (hk : g ≠ k) : BlkP (w.setRow k cs) g C := by
  unfold BlkP; rw [setRow_other _ _ _ _ hk]; exact h

set_option maxRecDepth 100000 in
set_option maxHeartbeats 2000000 in
theorem hZeros (a : Option Addr) (k c : Nat) (who : List Int) (w : World) (h : RdI w a k c who) (hd : dis (fi who) k) :
    Calls Tryd.prog 52 #[.slice a k c] w fun e w' => e = .returned (.agg ((zr who k).map (Value.int .u64)).toArray) ∧ Below w.heap.size w w' := by
  have hcap := h.cap
  have hmax := h.max
  unfold maxLen at hmax
  have HD : Hid (dis (fi who) k) := hd
  clear hd
  go_enter Tryd.func52, Tryd.ntmps52
  go_upto_region 2 with fail
  generalize hW : ((w.alloc (.cells #[.int .u64 0, .int .u64 0, .int .u64 0, .int .u64 0, .int .u64 0] 93)).alloc (.cells #[.int .u64 1, .int .u64 0, .int .u64 0, .int .u64 0, .int .u64 0] 93)) = w0
  obtain ⟨hq0, hq1, hbq⟩ := pw_new w hW.symm
  clear hW
  go_wp2
  go_loopw [12] (fun v wr => ∃ j : Nat, j ≤ k ∧ v = .int .i64 j ∧ BlkP wr w.heap.size pw0 ∧ BlkP wr (w.heap.size + 1) (zr who j) ∧ Below w.heap.size w wr) (fun v _ => k - (intOf v).toNat)
  case atStart => exact ⟨0, Nat.zero_le _, rfl, hq0, hq1, hbq⟩
  case round =>
    clear hq0 hq1 hbq
    obtain ⟨j, hj, rfl, hq0, hq1, hbel⟩ := hrel
    by_cases hlt : j < k
    · obtain ⟨b, o, x, rfl, hbb, HX, hx0, hx1, hcx⟩ := (h.below hbel).one hlt
      have hd := (HD.out j hlt).1
      have hdx : fi who j = x := HX.out
      rw [hdx] at hd
      obtain ⟨hd1, hd9⟩ := hd
      clear hdx
      have HNZ : Hid (nm x ≠ 0) := by unfold Hid; rw [nm_small (by omega) (by omega)]; omega
      have hib := iv_bd x
      obtain ⟨y, HY⟩ : ∃ y, Hid (iv x = y) := ⟨_, rfl⟩
      rw [HY.out] at hib
      have HYw : Hid (iv (who.getD j 0) = y) := by unfold Hid; rw [HX.out]; exact HY.out
      have hwx : IntKind.u64.wrap x = x := by rw [IntKind.wrap_u64]; omega
      rw [← zm_start] at hq1
      obtain ⟨wo, hwo⟩ : ∃ q, q = wr := ⟨_, rfl⟩
      subst hwo
      go_wp2_with (go_at_call 76; refine (fInv1 x _ (by omega) (by omega) HNZ.out).mono ?_; rintro e w3 ⟨rfl, hw⟩; have hw := hw.symm; subst hw; rw [HY.out])
      go_loopw [8] (fun v wr => ∃ i : Nat, i ≤ 4 ∧ v = .int .i64 i ∧ BlkP wr w.heap.size pw0 ∧ BlkP wr (w.heap.size + 1) (zm who j i) ∧ Below w.heap.size w wr) (fun v _ => (intOf v).toNat)
      case atStart => exact ⟨4, Nat.le_refl _, rfl, hq0, hq1, hbel⟩
      case round =>
        clear hq0 hq1 hbel
        obtain ⟨i, hi, rfl, hq0, hq1, hbel⟩ := hrel
        by_cases hi0 : 0 < i
        · obtain ⟨i, rfl⟩ : ∃ q, i = q + 1 := ⟨i - 1, by omega⟩
          have hl := zm_len who j (i + 1)
          have hlt1 := hq1.lt
          have c1 := hq1.cell (i := i + 1) (by omega)
          have c0 := hq1.cell (i := i) (by omega)
          have f1 := hq1.frozen (i + 1)
          have HS := hq1.set (i + 1) (nm ((zm who j (i + 1)).getD (i + 1) 0 - nm ((zm who j (i + 1)).getD i 0 * iv (who.getD j 0))))
          rw [zm_step who j (by omega), HYw.out] at HS
          have hb1 := getD_bd' (zm_bd who j (i + 1)) (i + 1)
          have hb0 := getD_bd' (zm_bd who j (i + 1)) i
          obtain ⟨u, HU⟩ : ∃ u, Hid ((zm who j (i + 1)).getD (i + 1) 0 = u) := ⟨_, rfl⟩
          obtain ⟨v, HV⟩ : ∃ v, Hid ((zm who j (i + 1)).getD i 0 = v) := ⟨_, rfl⟩
          rw [HU.out] at c1 HS hb1
          rw [HV.out] at c0 HS hb0
          have hm := nm_bd (v * y)
          have HS1 : Hid (BlkP _ _ _) := HS
          have HS0 : Hid (BlkP _ _ _) := hq0.other (g' := w.heap.size + 1) (i := i + 1) (v := .int .u64 (nm (u - nm (v * y)))) (by omega)
          have HBl : Hid (Below _ _ _) := hbel.setCell (p := ⟨w.heap.size + 1, i + 1, none⟩) (by simp) (.int .u64 (nm (u - nm (v * y))))
          clear HS hq0 hq1 hbel
          obtain ⟨m, HMm⟩ : ∃ m, Hid (i + 1 = m) := ⟨_, rfl⟩
          have hmi : (m : Int) - 1 = (i : Int) := by have := HMm.out; omega
          have hm4 : m ≤ 4 := by have := HMm.out; omega
          rw [HMm.out] at c1 f1 HS0 HS1 HBl hi hi0 ⊢
          have hw1 : IntKind.i64.wrap (i : Int) = (i : Int) := by rw [IntKind.wrap_i64]; omega
          have hw2 : IntKind.i64.wrap ((m : Int) - 1) = (i : Int) := by rw [hmi]; exact hw1
          have hi4 : (i : Int) < 5 := by omega
          have hi5 : (m : Int) < 5 := by omega
          go_wp2
          go_region_with (first | (go_at_call 47; refine (fMul _ _ _ (by omega) (by omega) (by omega) (by omega)).mono ?_; rintro e w' ⟨rfl, rfl⟩) | (go_at_call 53; refine (fSub _ _ _ (by omega) (by omega) (by omega) (by omega)).mono ?_; rintro e w' ⟨rfl, rfl⟩))
          all_goals
            go_wp2
            go_roundw
            case rel => exact ⟨i, by omega, by go_num, HS0.out, HS1.out, HBl.out.drew⟩
            case measure => have := HMm.out; simp [intOf]; omega
        · obtain rfl : i = 0 := by omega
          rw [zm_end] at hq1
          go_wp2
          go_roundw
          case rel => exact ⟨j + 1, by omega, by go_num, hq0, hq1, hbel⟩
          case measure => simp [intOf]; omega
    · obtain rfl : j = k := by omega
      have hl := zr_len who j
      have Hin : Hid ((Tryd.prog.info? 93).map (·.size) = some ((zr who j).map (Value.int .u64)).toArray.size) := by unfold Hid; simp only [List.size_toArray, List.length_map, hl]; exact infoPw
      have Hne : Hid ((pw0.map (Value.int .u64)).toArray.size = ((zr who j).map (Value.int .u64)).toArray.size) := by unfold Hid; simp [hl, pw0]
      have Hon : Hid (((zr who j).map (Value.int .u64)).toArray.all (·.oneCell') = true) := pw_one _
      have hbZ := below_setRow hbel (Nat.le_refl _) ((zr who j).map (Value.int .u64)).toArray
      have HZ : Hid (_ = _) := setRow_heap _ w.heap.size _ ((zr who j).map (Value.int .u64)).toArray _ (0, 0) hq0
      clear hl
      go_wp2_with (first | (refine wpList_load_row rfl 93 _ rfl (w.heap.size + 1) rfl 93 ((zr who j).map (Value.int .u64)).toArray (0, 0) _ hq1 Tryd.underlying93 rfl Hin.out ?_) | (refine wpList_store_row rfl 93 _ _ rfl w.heap.size ((zr who j).map (Value.int .u64)).toArray rfl rfl 93 (pw0.map (Value.int .u64)).toArray hq0 Hin.out Hne.out Hon.out ?_))
      exact bodyPost_ret (v := .agg ((zr who j).map (Value.int .u64)).toArray) (results_cell_row Tryd.results52 _ _ w.heap.size 93 _ (0, 0) _ rfl HZ.out Tryd.underlying93 rfl Hin.out) rfl ⟨rfl, hbZ⟩
end Go.Proofs.YtnofegdlainjaagDoor

namespace Go.Proofs.YtnofegdlainjaagDoor
open Go.RowKit Crm

/-- Block g holds the square's numbers. -/
def BlkQ (w : World) (g : Nat) (C : List Int) : Prop := w.heap[g]? = some (.cells (C.map (Value.int .u64)).toArray 108 (0, 0))
theorem BlkQ.lt {w : World} {g : Nat} {C : List Int} (h : BlkQ w g C) : g < w.heap.size := (Array.getElem?_eq_some_iff.1 h).1
theorem BlkQ.cell {w : World} {g : Nat} {C : List Int} (h : BlkQ w g C) {i : Nat} (hi : i < C.length) : w.cell? ⟨g, i, none⟩ = some (.int .u64 (C.getD i 0)) := by
  rw [cell_of_row w g i _ _ (0, 0) h]
  simp [List.getElem?_eq_getElem hi]
theorem BlkQ.frozen {w : World} {g : Nat} {C : List Int} (h : BlkQ w g C) (i : Nat) : w.frozen? ⟨g, i, none⟩ = false := frozen_of_row w g i _ _ h
theorem BlkQ.set {w : World} {g : Nat} {C : List Int} (h : BlkQ w g C) (i : Nat) (v : Int) : BlkQ (w.setCell ⟨g, i, none⟩ (.int .u64 v)) g (C.set i v) := by
  have := heap_setCell_same w g i _ _ (.int .u64 v) h
  unfold BlkQ
  rw [this]
  simp [List.map_set]
theorem BlkQ.below {w w' : World} {B g : Nat} {C : List Int} (h : BlkQ w g C) (hb : Below B w w') (hg : g < B) : BlkQ w' g C := by
  unfold BlkQ; rw [hb.block g hg]; exact h
theorem BlkQ.other {w : World} {g g' i : Nat} {C : List Int} {v : Value} (h : BlkQ w g C) (hg : g' ≠ g) : BlkQ (w.setCell ⟨g', i, none⟩ v) g C := by
  unfold BlkQ; rw [heap_setCell_other w ⟨g', i, none⟩ g v (fun e => hg e.symm)]; exact h
/-- A part of a row of it. -/
theorem BlkQ.rd {w : World} {g : Nat} {C : List Int} (h : BlkQ w g C) (o n c : Nat) (hc : n ≤ c) (hm : c ≤ maxLen) (hn : o + n ≤ C.length) (hL : ∀ x ∈ C, 0 ≤ x ∧ x ≤ 18446744073709551615) : Rd w (some ⟨g, o, none⟩) n c ((C.drop o).take n) := by
  refine ⟨by simp; omega, hc, hm, fun x hx => hL x (List.mem_of_mem_drop (List.mem_of_mem_take hx)), by simp, fun x hx i hi => ?_⟩
  obtain rfl := Option.some.inj hx
  rw [Addr.add_lit, h.cell (by omega)]
  congr 2
  simp [hi]

theorem dn_cons {s z : Int} {ds : List Int} {q : Nat} (h : (q : Int) = z + 1) : (s :: ds).getD q 0 = dn s ds z := by
  unfold dn
  cases q with
  | zero => rw [if_pos (by omega)]; rfl
  | succ q => rw [if_neg (by omega), cons_getDs]; congr 1; omega
/-- The numbers ahead of (i, j) are laid. -/
structure Sqr (s : Int) (ds : List Int) (t i j : Nat) (C : List Int) : Prop where
  len : C.length = 25
  bd : ∀ x ∈ C, 0 ≤ x ∧ x ≤ 18446744073709551615
  val : ∀ a b : Nat, a ≤ b → b ≤ t → (a < i ∨ (a = i ∧ b < j)) → C.getD (a * 5 + b) 0 = dn s ds (nd2 t a + ((b : Int) - a)) ∧ C.getD (b * 5 + a) 0 = dn s ds (nd2 t a + ((b : Int) - a))
theorem sqr_start (s : Int) (ds : List Int) (t : Nat) : Sqr s ds t 0 0 (List.replicate 25 0) :=
  ⟨by simp, fun x hx => by rw [List.eq_of_mem_replicate hx]; omega, fun a b _ _ h => by omega⟩
theorem sqr_step {s v : Int} {ds C : List Int} {t i j : Nat} (h : Sqr s ds t i j C) (ht : t ≤ 4) (hij : i ≤ j) (hj : j ≤ t) (hv : v = dn s ds (nd2 t i + ((j : Int) - i))) (hv0 : 0 ≤ v) (hv1 : v ≤ 18446744073709551615) : Sqr s ds t i (j + 1) ((C.set (i * 5 + j) v).set (j * 5 + i) v) := by
  have hl := h.len
  refine ⟨by simp [hl], bd_set (bd_set h.bd _ ⟨hv0, hv1⟩) _ ⟨hv0, hv1⟩, fun a b hab hb hd => ?_⟩
  by_cases e : a = i ∧ b = j
  · obtain ⟨rfl, rfl⟩ := e
    rw [getD_set, getD_set, getD_set, getD_set, ← hv]
    rw [List.length_set, hl]
    refine ⟨?_, ?_⟩
    · by_cases e : b * 5 + a = a * 5 + b
      · rw [if_pos ⟨e, by omega⟩]
      · rw [if_neg (fun h => e h.1), if_pos ⟨rfl, by omega⟩]
    · rw [if_pos ⟨rfl, by omega⟩]
  · have := h.val a b hab hb (by omega)
    rw [getD_set, getD_set, getD_set, getD_set]
    rw [if_neg (fun h => by omega), if_neg (fun h => by omega), if_neg (fun h => by omega), if_neg (fun h => by omega)]
    exact this
theorem sqr_row {s : Int} {ds C : List Int} {t i j : Nat} (h : Sqr s ds t i j C) (hj : t < j) : Sqr s ds t (i + 1) (i + 1) C :=
  ⟨h.len, h.bd, fun a b hab hb hd => h.val a b hab hb (by omega)⟩
theorem sqr_end {s : Int} {ds C : List Int} {t i j a b : Nat} (h : Sqr s ds t i j C) (hi : t < i) (ha : a ≤ t) (hb : b ≤ t) : nm (C.getD (a * 5 + b) 0) = A2 s ds t a b := by
  unfold A2
  by_cases e : a ≤ b
  · rw [if_pos e, (h.val a b e hb (by omega)).1]
  · rw [if_neg e, (h.val b a (by omega) ha (by omega)).2]
/-- Row j of it tells the row's number j. -/
theorem sqr_ev {s : Int} {ds C : List Int} {t i j k : Nat} (h : Sqr s ds t i j C) (hi : t < i) (hk : k ≤ t) (x : Int) : nm (ev ((C.drop (k * 5)).take (t + 1)) x) = nm (ev (colA s ds t k) x) := by
  refine ev_congr _ _ _ fun q => ?_
  by_cases hq : q ≤ t
  · rw [colA_getD s ds t k hq, take_getD, if_pos (by omega), A2_sym, ← sqr_end h hi hk hq, nm_nm]
    congr 1
    simp
  · rw [getD_big (show (colA s ds t k).length ≤ q by rw [colA_len]; omega), take_getD, if_neg (by omega)]
/-- What is left of a list when its first number is taken. -/
theorem Rd.tail {w : World} {b o n c : Nat} {xs : List Int} {a : Option Addr} (h : Rd w (some ⟨b, o, none⟩) (n + 1) (c + 1) xs) (ha : (0 < n → a = some ⟨b, o + 1, none⟩) ∧ a ≠ none) : Rd w a n c (xs.drop 1) := by
  have h1 := h.cap
  have h2 := h.max
  refine ⟨by have := h.len; simp; omega, by omega, by omega, fun x hx => h.bd x (List.mem_of_mem_drop hx), fun e => absurd e ha.2, fun x hx i hi => ?_⟩
  rw [ha.1 (by omega)] at hx
  obtain rfl := Option.some.inj hx
  have := h.cell _ rfl (i + 1) (by omega)
  rw [Addr.add_lit] at this ⊢
  rw [show o + 1 + i = o + (i + 1) by omega, this]
  congr 2
  simp
end Go.Proofs.YtnofegdlainjaagDoor

namespace Go.Proofs.YtnofegdlainjaagDoor
open Go.RowKit Crm

set_option maxRecDepth 100000 in
theorem cTwNeed (t : Int) (w : World) : Calls Tryd.prog 39 #[.int .i64 t] w fun e w' => Nds t w e w' := by
  by_cases h1 : t < 0
  · have HT : Hid (t < 0 ∨ 4 < t) := .inl h1
    go_enter Tryd.func39, Tryd.ntmps39
    go_wp2
    go_ret2
    exact ⟨.inl ⟨HT.out, rfl⟩, Below.refl _ _⟩
  · by_cases h2 : 4 < t
    · have HT : Hid (t < 0 ∨ 4 < t) := .inr h2
      go_enter Tryd.func39, Tryd.ntmps39
      go_wp2
      go_ret2
      exact ⟨.inl ⟨HT.out, rfl⟩, Below.refl _ _⟩
    · have hk : t = 0 ∨ t = 1 ∨ t = 2 ∨ t = 3 ∨ t = 4 := by omega
      clear h1 h2
      rcases hk with rfl | rfl | rfl | rfl | rfl
      · go_enter Tryd.func39, Tryd.ntmps39
        go_wp2
        go_ret2
        exact ⟨.inr ⟨0, rfl, by omega, rfl⟩, Below.refl _ _⟩
      · go_enter Tryd.func39, Tryd.ntmps39
        go_wp2
        go_ret2
        exact ⟨.inr ⟨1, rfl, by omega, rfl⟩, Below.refl _ _⟩
      · go_enter Tryd.func39, Tryd.ntmps39
        go_wp2
        go_ret2
        exact ⟨.inr ⟨2, rfl, by omega, rfl⟩, Below.refl _ _⟩
      · go_enter Tryd.func39, Tryd.ntmps39
        go_wp2
        go_ret2
        exact ⟨.inr ⟨3, rfl, by omega, rfl⟩, Below.refl _ _⟩
      · go_enter Tryd.func39, Tryd.ntmps39
        go_wp2
        go_ret2
        exact ⟨.inr ⟨4, rfl, by omega, rfl⟩, Below.refl _ _⟩

set_option maxRecDepth 100000 in
theorem cTwValue (a : Option Addr) (n c : Nat) (xs : List Int) (x : Nat) (w : World) (h : Rd w a n c xs) (hn : n ≤ 40) (hx : x ≤ 100) :
    Calls Tryd.prog 90 #[.slice a n c, .int .i64 x] w fun e w' => e = .returned (.int .u64 (nm (ev xs x))) ∧ Below w.heap.size w w' := by
  go_enter Tryd.func90, Tryd.ntmps90
  go_wp2_with fail
  refine (cEvalOK _ _ _ _ _ _ h hn (by omega) (by omega)).mono ?_
  rintro e w1 ⟨rfl, hb1⟩
  go_wp2
  go_ret
  exact ⟨rfl, hb1⟩

set_option maxRecDepth 100000 in
set_option maxHeartbeats 1000000 in
theorem cAllHave (a : Option Addr) (n c : Nat) (l : List (Int × List Int)) (k : Nat) (w : World) (h : RdW w a n c l) :
    Calls Tryd.prog 69 #[.slice a n c, .int .i64 k] w fun e w' => Tells (∀ i, i < n → (tc l i).length = k) w e w' := by
  have hcap := h.cap
  have hmax := h.max
  unfold maxLen at hmax
  go_enter Tryd.func69, Tryd.ntmps69
  go_wp2
  go_loopw [9] (fun i wr => ∃ q : Nat, q ≤ n ∧ i = .int .i64 q ∧ Hid (∀ i, i < q → (tc l i).length = k) ∧ Below w.heap.size w wr) (fun i _ => n - (intOf i).toNat)
  case atStart => exact ⟨0, Nat.zero_le _, rfl, fun i hi => by omega, Below.refl _ _⟩
  case round =>
    obtain ⟨q, hq, rfl, HQ, hbel⟩ := hrel
    have hs1 := hbel.size
    by_cases hlt : q < n
    · obtain ⟨b, o, x, ai, ni, ci, row, rfl, hbb, HX, HRow, hx0, hx1, hcx, hcr, hrow⟩ := (h.below hbel).one hlt
      have hnl := hrow.len
      have hnc := hrow.cap
      have hnm := hrow.max
      unfold maxLen at hnm
      have HNL : Hid ((tc l q).length = ni) := by unfold Hid; rw [HRow.out]; exact hnl
      have hbA := hbel.alloc hs1 (.cells #[.int .i64 x, .slice ai ni ci] 80)
      have hcA1 := cell_alloc1 wr (.int .i64 x) (.slice ai ni ci) 80
      by_cases hni : ni = k
      · have hnb : ((ni : Int) != (k : Int)) = false := by rw [bne_eq_false_iff_eq]; omega
        have HQ2 : Hid (∀ i, i < q + 1 → (tc l i).length = k) := fun i hi => by
          by_cases e : i = q
          · rw [e, HNL.out]; exact hni
          · exact HQ.out i (by omega)
        clear hni
        go_wp2
        go_roundw
        case rel => exact ⟨q + 1, by omega, by go_num, HQ2, hbA⟩
        case measure => simp [intOf]; omega
      · have hnb : ((ni : Int) != (k : Int)) = true := by rw [bne_iff_ne]; omega
        have HN : Hid (¬ ∀ i, i < n → (tc l i).length = k) := fun hh => hni (by have := hh q hlt; rw [HNL.out] at this; exact this)
        clear hni
        go_wp2
        go_ret
        exact .no HN.out hbA
    · have hqn : q = n := by omega
      subst hqn
      go_wp2
      go_ret
      exact .yes HQ.out hbel
end Go.Proofs.YtnofegdlainjaagDoor
