/- croftref.Wire. · What the calls of package gate answer. -/
import Derived.Test.YtfonochdnmddlabToAtsC
import Derived.Test.YtfonochdnmddlabToFaceC
import Derived.BigQuiet
import Derived.Test.YtfonochdnmddlabToRefA
namespace Go.Proofs.Ytfonochdnmddlab
open Go.RowKit Crm

/-- Slices of which the lengths are read. -/
structure RdL (w : World) (g k : Nat) (ns : List Nat) : Prop where
  len : ns.length = k
  lt : g < w.heap.size
  cell : ∀ i, i < k → ∃ ai ci, w.cell? ⟨g, i, none⟩ = some (.slice ai (ns.getD i 0) ci)
theorem rdL_one (w : World) (a : Option Addr) (n c : Nat) (E : TypeId) : RdL (w.alloc (.cells #[.slice a n c] E)) w.heap.size 1 [n] := by
  refine ⟨rfl, by simp, fun i hi => ?_⟩
  obtain rfl : i = 0 := by omega
  exact ⟨a, c, by rw [cell_of_row _ _ 0 _ E (0, 0) (heap_alloc_new w _)]; rfl⟩
theorem rdL_two (w : World) (a : Option Addr) (n c : Nat) (b : Option Addr) (m d : Nat) (E : TypeId) : RdL (w.alloc (.cells #[.slice a n c, .slice b m d] E)) w.heap.size 2 [n, m] := by
  refine ⟨rfl, by simp, fun i hi => ?_⟩
  match i, hi with
  | 0, _ => exact ⟨a, c, by rw [cell_of_row _ _ 0 _ E (0, 0) (heap_alloc_new w _)]; rfl⟩
  | 1, _ => exact ⟨b, d, by rw [cell_of_row _ _ 1 _ E (0, 0) (heap_alloc_new w _)]; rfl⟩
theorem RdL.below {w w' : World} {g k : Nat} {ns : List Nat} (h : RdL w g k ns) (hb : Below w.heap.size w w') : RdL w' g k ns := by
  refine ⟨h.len, Nat.lt_of_lt_of_le h.lt hb.size, fun i hi => ?_⟩
  obtain ⟨a, c, e⟩ := h.cell i hi
  exact ⟨a, c, by rw [hb.cell (World.block_lt_of_cell? w _ e)]; exact e⟩
/-- Lists of 1 to 9 numbers, all as long. -/
def Wk (ns : List Nat) (k : Nat) : Prop := (1 ≤ ns.getD 0 0 ∧ ns.getD 0 0 ≤ 9) ∧ ∀ i, i < k → ns.getD i 0 = ns.getD 0 0

set_option maxRecDepth 100000 in
set_option maxHeartbeats 1000000 in
theorem rWire (g k : Nat) (ns : List Nat) (w : World) (h : RdL w g k ns) (hk0 : 0 < k) (hk : k ≤ 100) (hm : ∀ i, ns.getD i 0 ≤ 9223372036854775807) :
    Calls Try.prog 26 #[.slice (some ⟨g, 0, none⟩) k k] w fun e w' => Tells (Wk ns k) w e w' := by
  have hgl := h.lt
  obtain ⟨a0, c0, hc0⟩ := h.cell 0 hk0
  obtain ⟨N, HN⟩ : ∃ N, Hid (ns.getD 0 0 = N) := ⟨_, rfl⟩
  have hN := hm 0
  rw [HN.out] at hc0 hN
  have HM : Hid (∀ i, ns.getD i 0 ≤ 9223372036854775807) := hm
  clear hm
  go_enter Try.func26, Try.ntmps26
  obtain ⟨b0, hb0, HB0⟩ : ∃ b0, b0 = decide (1 ≤ N ∧ N ≤ 9) ∧ Hid (b0 = true ↔ (1 ≤ N ∧ N ≤ 9)) := ⟨_, rfl, by unfold Hid; simp⟩
  by_cases hin : (N : Int) < 1 ∨ 9 < (N : Int)
  · have HF : Hid ((N : Int) < 1 ∨ 9 < (N : Int)) := hin
    have HX : Hid (¬ Wk ns k) := fun e => by have := e.1; rw [HN.out] at this; omega
    clear hin hb0 HB0
    go_wp2_with (go_at_call 16; refine (rInN _ _ _ _ HF.out).mono ?_; rintro e w' ⟨rfl, hw⟩; have hw := hw.symm; subst hw)
    go_loopw [3, 4] (fun v q wr => ∃ i : Nat, i ≤ k ∧ q = .int .i64 i ∧ v = .bool false ∧ Below w.heap.size w wr) (fun _ q _ => k - (intOf q).toNat)
    case atStart => exact ⟨0, Nat.zero_le _, rfl, rfl, Below.refl _ _⟩
    case round =>
      obtain ⟨i, hi, rfl, rfl, hbel⟩ := hrel
      by_cases hlt : i < k
      · go_wp2_with fail
        go_quiet (fail)
        all_goals
          go_wp2
          go_roundw
          case rel => exact ⟨i + 1, by omega, by go_num, rfl, drewN_below hbel _⟩
          case measure => simp [intOf]; omega
      · have hik : i = k := by omega
        subst hik
        go_wp2
        go_ret
        exact .no HX.out hbel
  · clear hb0 HB0
    have hi1 : (1 : Int) ≤ (N : Int) := by omega
    have hi9 : (N : Int) ≤ 9 := by omega
    clear hin
    go_wp2_with (go_at_call 16; refine (rInY _ _ _ _ hi1 hi9).mono ?_; rintro e w' ⟨rfl, hw⟩; have hw := hw.symm; subst hw)
    go_loopw [3, 4] (fun v q wr => ∃ (i : Nat) (b : Bool), i ≤ k ∧ q = .int .i64 i ∧ v = .bool b ∧ Hid (b = true ↔ ∀ j, j < i → ns.getD j 0 = N) ∧ Below w.heap.size w wr) (fun _ q _ => k - (intOf q).toNat)
    case atStart => exact ⟨0, true, Nat.zero_le _, rfl, rfl, ⟨fun _ j hj => by omega, fun _ => rfl⟩, Below.refl _ _⟩
    case round =>
      obtain ⟨i, b, hi, rfl, rfl, HB, hbel⟩ := hrel
      by_cases hlt : i < k
      · cases b with
        | false =>
          have HB2 : Hid (false = true ↔ ∀ j, j < i + 1 → ns.getD j 0 = N) := ⟨fun e => (by cases e), fun e => HB.out.2 fun j hj => e j (by omega)⟩
          clear HB
          go_wp2_with fail
          go_quiet (fail)
          all_goals
            go_wp2
            go_roundw
            case rel => exact ⟨i + 1, false, by omega, by go_num, rfl, HB2, drewN_below hbel _⟩
            case measure => simp [intOf]; omega
        | true =>
          have hR := h.below hbel
          have hgr := hR.lt
          obtain ⟨ai, ci, hci⟩ := hR.cell i hlt
          have hc0r : wr.cell? ⟨g, 0, none⟩ = some (.slice a0 N c0) := by rw [hbel.cell (p := ⟨g, 0, none⟩) hgl]; exact hc0
          obtain ⟨M, HMi⟩ : ∃ M, Hid (ns.getD i 0 = M) := ⟨_, rfl⟩
          have hM := HM.out i
          rw [HMi.out] at hci hM
          by_cases hMN : M = N
          · have hmb : ((M : Int) == (N : Int)) = true := by rw [beq_iff_eq]; omega
            have HB2 : Hid (∀ j, j < i + 1 → ns.getD j 0 = N) := fun j hj => by
              by_cases e : j = i
              · rw [e, HMi.out]; exact hMN
              · exact HB.out.1 rfl j (by omega)
            clear hMN HB
            go_wp2_with fail
            go_quiet (fail)
            all_goals
              go_wp2
              go_roundw
              case rel => exact ⟨i + 1, true, by omega, by go_num, rfl, ⟨fun _ => HB2.out, fun _ => rfl⟩, drewN_below hbel _⟩
              case measure => simp [intOf]; omega
          · have hmb : ((M : Int) == (N : Int)) = false := by rw [beq_eq_false_iff_ne]; omega
            have HB2 : Hid (false = true ↔ ∀ j, j < i + 1 → ns.getD j 0 = N) := ⟨fun e => (by cases e), fun e => absurd (e i (by omega)) (by rw [HMi.out]; exact hMN)⟩
            clear hMN HB
            go_wp2_with fail
            go_quiet (fail)
            all_goals
              go_wp2
              go_roundw
              case rel => exact ⟨i + 1, false, by omega, by go_num, rfl, HB2, drewN_below hbel _⟩
              case measure => simp [intOf]; omega
      · have hik : i = k := by omega
        subst hik
        have HE : Hid (b = true ↔ Wk ns i) := by
          unfold Hid
          rw [HB.out]
          unfold Wk
          rw [HN.out]
          exact ⟨fun e => ⟨⟨by omega, by omega⟩, e⟩, fun e => e.2⟩
        clear HB
        go_wp2
        go_ret
        exact ⟨b, rfl, HE.out, hbel⟩
end Go.Proofs.Ytfonochdnmddlab

namespace Go.Proofs.Ytfonochdnmddlab
open Go.RowKit Crm

/-- Wires that may be. -/
def Wr1 (n : Nat) : Prop := 1 ≤ n ∧ n ≤ 9
def Wr2 (n m : Nat) : Prop := (1 ≤ n ∧ n ≤ 9) ∧ m = n
theorem wk_one (n : Nat) : Wk [n] 1 ↔ Wr1 n := by
  unfold Wk Wr1
  constructor
  · intro h; exact h.1
  · intro h
    refine ⟨h, fun i hi => ?_⟩
    obtain rfl : i = 0 := by omega
    rfl
theorem wk_two (n m : Nat) : Wk [n, m] 2 ↔ Wr2 n m := by
  unfold Wk Wr2
  constructor
  · intro h; exact ⟨h.1, h.2 1 (by omega)⟩
  · intro h
    refine ⟨h.1, fun i hi => ?_⟩
    match i, hi with
    | 0, _ => rfl
    | 1, _ => exact h.2
theorem len_two {n m : Nat} (h0 : n ≤ 9223372036854775807) (h1 : m ≤ 9223372036854775807) : ∀ i, [n, m].getD i 0 ≤ 9223372036854775807
  | 0 => h0
  | 1 => h1
  | i + 2 => by simp
theorem len_one {n : Nat} (h0 : n ≤ 9223372036854775807) : ∀ i, [n].getD i 0 ≤ 9223372036854775807
  | 0 => h0
  | i + 1 => by simp
/-- What Add, Sub, Scale, Plus answer. -/
def Gts (ok : Prop) (L : List Int) (n : Nat) (w : World) (e : Ending) (w' : World) : Prop :=
  ((¬ ok ∧ e = .returned (.tuple #[.slice none 0 0, .int .i64 5])) ∨ (ok ∧ ∃ v, e = .returned (.tuple #[v, .int .i64 0]) ∧ w'.ownsRow w.heap.size 28 1 v n (L.map (Value.int .u64)))) ∧ Below w.heap.size w w'
/-- What is wrong with what is multiplied. -/
def Gme (t : Int) (n m q : Nat) (r : Int) : Prop :=
  ((t < 0 ∨ 4 < t) ∧ r = 1) ∨ ((0 ≤ t ∧ t ≤ 4) ∧ ((¬ Wr2 n m ∧ r = 5) ∨ (Wr2 n m ∧ (((n : Int) < 2 * t + 1 ∧ r = 4) ∨ (2 * t + 1 ≤ (n : Int) ∧ (((q : Int) ≠ (n : Int) * t ∧ r = 1) ∨ ((q : Int) = (n : Int) * t ∧ r = 0)))))))
theorem Gme.one {t : Int} {n m q : Nat} {r s : Int} (h : Gme t n m q r) (k : Gme t n m q s) : r = s := by
  rcases h with ⟨h1, rfl⟩ | ⟨h1, h2⟩ <;> rcases k with ⟨k1, rfl⟩ | ⟨k1, k2⟩
  · rfl
  · exfalso; omega
  · exfalso; omega
  · rcases h2 with ⟨h2, rfl⟩ | ⟨h2, h3⟩ <;> rcases k2 with ⟨k2, rfl⟩ | ⟨k2, k3⟩
    · rfl
    · exact absurd k2 h2
    · exact absurd h2 k2
    · rcases h3 with ⟨h3, rfl⟩ | ⟨h3, ⟨h4, rfl⟩ | ⟨h4, rfl⟩⟩ <;> rcases k3 with ⟨k3, rfl⟩ | ⟨k3, ⟨k4, rfl⟩ | ⟨k4, rfl⟩⟩
      all_goals first
        | rfl
        | (exfalso; omega)
        | exact absurd k4 h4
        | exact absurd h4 k4
theorem Gme.ok {t : Int} {n m q : Nat} (h : Gme t n m q 0) : ∃ k : Nat, t = (k : Int) ∧ k ≤ 4 ∧ 1 ≤ n ∧ n ≤ 9 ∧ m = n ∧ 2 * k + 1 ≤ n ∧ q = n * k := by
  rcases h with ⟨_, h⟩ | ⟨h1, ⟨_, h⟩ | ⟨h2, ⟨_, h⟩ | ⟨h3, ⟨_, h⟩ | ⟨h4, _⟩⟩⟩⟩
  · omega
  · omega
  · omega
  · omega
  · obtain ⟨k, rfl⟩ : ∃ k : Nat, t = k := ⟨t.toNat, by omega⟩
    refine ⟨k, rfl, by omega, h2.1.1, h2.1.2, h2.2, by omega, ?_⟩
    have : ((q : Nat) : Int) = ((n * k : Nat) : Int) := by rw [h4]; push_cast; rfl
    omega
/-- What Mul answers. -/
def Gtm (t : Int) (xs ys ds : List Int) (n m q : Nat) (w : World) (e : Ending) (w' : World) : Prop :=
  ((∃ r, r ≠ 0 ∧ Gme t n m q r ∧ e = .returned (.tuple #[.slice none 0 0, .slice none 0 0, .int .i64 r])) ∨
   (Gme t n m q 0 ∧ ∃ v u L, e = .returned (.tuple #[v, u, .int .i64 0]) ∧ w'.ownsRow w.heap.size 28 1 v n ((tmO t.toNat xs ys ds n n).map (Value.int .u64)) ∧ LsV w' w.heap.size u L (tmG t.toNat xs ys ds n))) ∧ Below w.heap.size w w'
end Go.Proofs.Ytfonochdnmddlab
