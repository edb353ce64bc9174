/- croftref.CircuitText: plain facts. · croftref.CircuitText. -/
import Derived.Test.YtljlioglpaogdabDoorToFmtUC
import Derived.Test.YtljlioglpaogdabDoorToWhoseC
import Derived.Test.YtljlioglpaogdabDoorToDigC
import Derived.Test.YtljlioglpaogdabDoorToOutsC
import Derived.Lib.ItoaLen
import Derived.Deep.RegionWith
import Derived.Deep.RegionHeld3
namespace Go.Proofs.YtljlioglpaogdabDoor
set_option linter.unusedVariables false
set_option maxRecDepth 100000
set_option maxHeartbeats 8000000
section
open Crm Go.RowKit
theorem itb_size (n : Int) (h0 : -9223372036854775808 ≤ n) (h1 : n ≤ 9223372036854775807) : (itb n).size ≤ 21 := by
  have := Lib.itoa_length_le n h0 h1
  have e : (itb n).size = (Lib.itoa n).length := by simp [itb, ByteArray.size]
  omega
theorem add_run {P : Program} (x y : ByteArray) (h : x.size + y.size ≤ 1000000) (w : World) : (Op.stringOp .add x y).run P w = .ok (.string (x ++ y)) w := by
  rw [run_string_add_if, if_neg (by omega)]
/-- The verbs. -/
def vbs : List ByteArray := [⟨#[]⟩, ⟨#[105, 110, 112, 117, 116]⟩, ⟨#[99, 111, 110, 115, 116]⟩, ⟨#[97, 100, 100]⟩, ⟨#[115, 117, 98]⟩, ⟨#[109, 117, 108]⟩, ⟨#[115, 99, 97, 108, 101]⟩]
def vb (k : Nat) : ByteArray := vbs.getD k mt
def Vb (w : World) : Prop := ∀ i, i < 7 → w.cell? ⟨0, i, none⟩ = some (.string (vb i))
theorem Vb.below {w w' : World} (h : Vb w) (hb : Below w.heap.size w w') : Vb w' := fun i hi => by
  rw [hb.cell (World.block_lt_of_cell? w _ (h i hi))]
  exact h i hi
theorem vb_size (k : Nat) (hk : k < 7) : (vb k).size ≤ 5 := by
  have : k = 0 ∨ k = 1 ∨ k = 2 ∨ k = 3 ∨ k = 4 ∨ k = 5 ∨ k = 6 := by omega
  rcases this with rfl | rfl | rfl | rfl | rfl | rfl | rfl <;> decide
/-- What stands behind the verb. -/
def arg (g : Gt) : ByteArray :=
  if g.k = 1 then ⟨#[32]⟩ ++ itb g.a else if g.k = 2 then ⟨#[32]⟩ ++ itb (nm g.n) else if g.k = 6 then ⟨#[32]⟩ ++ itb g.a ++ ⟨#[32]⟩ ++ itb (nm g.n) else ⟨#[32]⟩ ++ itb g.a ++ ⟨#[32]⟩ ++ itb g.b
/-- A text, and a gate's line behind it. -/
def gln (t : ByteArray) (g : Gt) : ByteArray := t ++ vb g.k.toNat ++ arg g ++ ⟨#[10]⟩
/-- The lines of the first k gates. -/
def gtx (G : List Gt) : Nat → ByteArray
  | 0 => ⟨#[]⟩
  | k + 1 => gln (gtx G k) (gt G k)
/-- The lines of the first j outs behind a text. -/
def otx (t : ByteArray) (O : List Int) : Nat → ByteArray
  | 0 => t
  | j + 1 => otx t O j ++ (⟨#[111, 117, 116, 32]⟩ ++ itb (O.getD j 0) ++ ⟨#[10]⟩)
theorem sp_size : (⟨#[32]⟩ : ByteArray).size = 1 := rfl
theorem nl_size : (⟨#[10]⟩ : ByteArray).size = 1 := rfl
theorem out_size : (⟨#[111, 117, 116, 32]⟩ : ByteArray).size = 4 := rfl
theorem arg_size {i : Nat} {g : Gt} (h : okg i g) (hi : i ≤ 30) : (arg g).size ≤ 44 := by
  have hn := nm_bd g.n
  have h2 := itb_size (nm g.n) (by omega) (by omega)
  have sp := sp_size
  unfold arg
  rcases h with ⟨h1, h3, _, _⟩ | ⟨h1, _, _⟩ | ⟨h1, h3, _⟩ | ⟨h1, h3, h4, _⟩
  · have := itb_size g.a (by omega) (by omega)
    rw [if_pos h1, ByteArray.size_append]; omega
  · rw [if_neg (by omega), if_pos h1, ByteArray.size_append]; omega
  · have := itb_size g.a (by omega) (by omega)
    rw [if_neg (by omega), if_neg (by omega), if_pos h1, ByteArray.size_append, ByteArray.size_append, ByteArray.size_append]; omega
  · have := itb_size g.a (by omega) (by omega)
    have := itb_size g.b (by omega) (by omega)
    rw [if_neg (by omega), if_neg (by omega), if_neg (by omega), ByteArray.size_append, ByteArray.size_append, ByteArray.size_append]; omega
theorem gtx_size {G : List Gt} {n : Nat} (h : okG G n) (hn : n ≤ 30) : ∀ k, k ≤ n → (gtx G k).size ≤ 50 * k
  | 0, _ => Nat.le_refl 0
  | k + 1, hk => by
    have ih := gtx_size h hn k (by omega)
    have ho := h k (by omega)
    have h1 := arg_size ho (by omega)
    have h2 : (gt G k).k.toNat < 7 := by
      unfold okg at ho
      omega
    have h3 := vb_size _ h2
    have nl := nl_size
    rw [gtx, gln, ByteArray.size_append, ByteArray.size_append, ByteArray.size_append]
    omega
theorem otx_size {t : ByteArray} {O : List Int} {n m : Nat} (h : okO O n m) (hn : n ≤ 30) : ∀ k, k ≤ m → (otx t O k).size ≤ t.size + 30 * k
  | 0, _ => Nat.le_refl _
  | k + 1, hk => by
    have ih := otx_size (t := t) h hn k (by omega)
    have ho := h k (by omega)
    have h1 := itb_size (O.getD k 0) (by omega) (by omega)
    have nl := nl_size
    have ou := out_size
    rw [otx, ByteArray.size_append, ByteArray.size_append, ByteArray.size_append]
    omega
theorem rText (ag : Option Addr) (n cg : Nat) (G : List Gt) (ao : Option Addr) (m co : Nat) (O : List Int) (w : World) (h : RdG w ag n cg G) (g : RdI w ao m co O) (hn : n ≤ 30) (hm : m ≤ 30) (hG : okG G n) (hO : okO O n m) (hT : Tabs w) (hV : Vb w) :
    Calls Tryd.prog 5 #[.agg #[.slice ag n cg, .slice ao m co]] w fun e w' => e = .returned (.string (otx (gtx G n) O m)) ∧ Below w.heap.size w w' := by
  have HG : Hid (okG G n) := hG
  have HO : Hid (okO O n m) := hO
  have hcap := h.cap
  have hC0 := CBox.new w ag n cg ao m co
  have hb0 : Below w.heap.size w (w.alloc (.cells #[.slice ag n cg, .slice ao m co] 25)) := (Below.refl _ _).alloc (Nat.le_refl _) _
  clear hG hO
  go_enter Tryd.func5, Tryd.ntmps5
  go_upto_region 1 with fail
  generalize w.alloc (.cells #[.slice ag n cg, .slice ao m co] 25) = w0 at *
  have hs0 := hC0.lt
  go_wp2
  go_loopw [4, 5] (fun v q wr => ∃ i : Nat, i ≤ n ∧ q = .int .i64 i ∧ v = .string (gtx G i) ∧ Below w0.heap.size w0 wr) (fun _ q _ => n - (intOf q).toNat)
  case atStart => exact ⟨0, Nat.zero_le _, rfl, rfl, Below.refl _ _⟩
  case round =>
    obtain ⟨i, hin, rfl, rfl, hbel⟩ := hrel
    have hC := hC0.below hbel hs0
    obtain ⟨d0, d1⟩ := hC.cells
    have hl0 := hC.lt
    have hs1 := hbel.size
    have hbw := hb0.trans (hbel.mono hb0.size)
    have hts := gtx_size HG.out hn i hin
    obtain ⟨T, HT⟩ : ∃ T, Hid (gtx G i = T) := ⟨_, rfl⟩
    rw [HT.out] at hts ⊢
    by_cases hlt : i < n
    · obtain ⟨b, o, k, x, y, z, rfl, hbb, HGi, hk, hx, hy, hz, c1, c2, c3, c4⟩ := (h.below hbw).one hlt
      have hok := HG.out i hlt
      rw [HGi.out] at hok
      have hbA : Below wr.heap.size wr (wr.alloc (.cells #[.int .i64 k, .int .i64 x, .int .i64 y, .int .u64 z] 43)) := (Below.refl _ _).alloc (Nat.le_refl _) _
      have hVr := (hV.below hbw).below hbA
      have hTr := (hT.below hbw).below hbA
      have hbB := hbel.trans (hbA.mono hs1)
      have hwp : 0 < wr.heap.size := by omega
      rcases hok with ⟨q1, q2, q3, q4⟩ | ⟨q1, q2, q3⟩ | ⟨q1, q2, q3⟩ | ⟨q1, q2, q3, q4⟩
      · simp only at q1 q2 q3 q4
        subst q1 q3 q4
        have hv := hVr 1 (by omega)
        have hv0 := (hV.below hbw) 1 (by omega)
        have hvz := vb_size 1 (by omega)
        have HA : Hid (gtx G (i + 1) = T ++ vb 1 ++ (⟨#[32]⟩ ++ itb x) ++ ⟨#[10]⟩) := by unfold Hid; rw [gtx, HT.out, gln, HGi.out]; rfl
        obtain ⟨v, HV⟩ : ∃ v, Hid (vb 1 = v) := ⟨_, rfl⟩
        rw [HV.out] at hv hv0 hvz HA
        have a1 := add_run (P := Tryd.prog) T v (by omega)
        have hu := itb_size x (by omega) (by omega)
        obtain ⟨u, HU⟩ : ∃ u, Hid (itb x = u) := ⟨_, rfl⟩
        rw [HU.out] at hu HA
        have a2 := add_run (P := Tryd.prog) ⟨#[32]⟩ u (by (repeat rw [ByteArray.size_append]); have := sp_size; have := nl_size; omega)
        have a3 := add_run (P := Tryd.prog) (T ++ v) (⟨#[32]⟩ ++ u) (by (repeat rw [ByteArray.size_append]); have := sp_size; have := nl_size; omega)
        have a4 := add_run (P := Tryd.prog) (T ++ v ++ (⟨#[32]⟩ ++ u)) ⟨#[10]⟩ (by (repeat rw [ByteArray.size_append]); have := sp_size; have := nl_size; omega)
        go_wp2_with fail
        refine (sItoa x _ (by omega) (by omega) hTr).mono ?_
        rintro e w5 ⟨rfl, hb5⟩
        rw [HU.out]
        have hb6 := hbB.trans (hb5.mono hbB.size)
        clear hb5 hVr hTr hbA hbB hv hv0
        go_wp2
        go_roundw
        case rel => exact ⟨i + 1, by omega, by go_num, by rw [HA.out], hb6⟩
        case measure => simp [intOf]; omega
      · simp only at q1 q2 q3
        subst q1 q2 q3
        have hv := hVr 2 (by omega)
        have hv0 := (hV.below hbw) 2 (by omega)
        have hvz := vb_size 2 (by omega)
        have HA : Hid (gtx G (i + 1) = T ++ vb 2 ++ (⟨#[32]⟩ ++ itb (nm z)) ++ ⟨#[10]⟩) := by unfold Hid; rw [gtx, HT.out, gln, HGi.out]; rfl
        obtain ⟨v, HV⟩ : ∃ v, Hid (vb 2 = v) := ⟨_, rfl⟩
        rw [HV.out] at hv hv0 hvz HA
        have a1 := add_run (P := Tryd.prog) T v (by omega)
        have hnz := nm_bd z
        have hu := itb_size (nm z) (by omega) (by omega)
        obtain ⟨N, HN⟩ : ∃ N, Hid (nm z = N) := ⟨_, rfl⟩
        rw [HN.out] at hu HA hnz
        obtain ⟨u, HU⟩ : ∃ u, Hid (itb N = u) := ⟨_, rfl⟩
        rw [HU.out] at hu HA
        have hNw : IntKind.i64.wrap N = N := by rw [IntKind.wrap_i64]; omega
        have a2 := add_run (P := Tryd.prog) ⟨#[32]⟩ u (by (repeat rw [ByteArray.size_append]); have := sp_size; have := nl_size; omega)
        have a3 := add_run (P := Tryd.prog) (T ++ v) (⟨#[32]⟩ ++ u) (by (repeat rw [ByteArray.size_append]); have := sp_size; have := nl_size; omega)
        have a4 := add_run (P := Tryd.prog) (T ++ v ++ (⟨#[32]⟩ ++ u)) ⟨#[10]⟩ (by (repeat rw [ByteArray.size_append]); have := sp_size; have := nl_size; omega)
        go_wp2_with fail
        refine (rNorm z _ hz.1 hz.2).mono ?_
        rintro e w4 ⟨rfl, hw4⟩
        have hw4 := hw4.symm
        subst hw4
        rw [HN.out]
        go_wp2_with fail
        refine (sItoa N _ (by omega) (by omega) hTr).mono ?_
        rintro e w5 ⟨rfl, hb5⟩
        rw [HU.out]
        have hb6 := hbB.trans (hb5.mono hbB.size)
        clear hb5 hVr hTr hbA hbB hv hv0
        go_wp2
        go_roundw
        case rel => exact ⟨i + 1, by omega, by go_num, by rw [HA.out], hb6⟩
        case measure => simp [intOf]; omega
      · simp only at q1 q2 q3
        subst q1 q3
        have hv := hVr 6 (by omega)
        have hv0 := (hV.below hbw) 6 (by omega)
        have hvz := vb_size 6 (by omega)
        have HA : Hid (gtx G (i + 1) = T ++ vb 6 ++ (⟨#[32]⟩ ++ itb x ++ ⟨#[32]⟩ ++ itb (nm z)) ++ ⟨#[10]⟩) := by unfold Hid; rw [gtx, HT.out, gln, HGi.out]; rfl
        obtain ⟨v, HV⟩ : ∃ v, Hid (vb 6 = v) := ⟨_, rfl⟩
        rw [HV.out] at hv hv0 hvz HA
        have a1 := add_run (P := Tryd.prog) T v (by omega)
        have hnz := nm_bd z
        obtain ⟨N, HN⟩ : ∃ N, Hid (nm z = N) := ⟨_, rfl⟩
        rw [HN.out] at HA hnz
        have hNw : IntKind.i64.wrap N = N := by rw [IntKind.wrap_i64]; omega
        have hu := itb_size x (by omega) (by omega)
        have hu2 := itb_size N (by omega) (by omega)
        obtain ⟨u, HU⟩ : ∃ u, Hid (itb x = u) := ⟨_, rfl⟩
        obtain ⟨u2, HU2⟩ : ∃ u2, Hid (itb N = u2) := ⟨_, rfl⟩
        rw [HU.out] at hu
        rw [HU2.out] at hu2
        rw [HU.out, HU2.out] at HA
        have a2 := add_run (P := Tryd.prog) ⟨#[32]⟩ u (by (repeat rw [ByteArray.size_append]); have := sp_size; have := nl_size; omega)
        have a3 := add_run (P := Tryd.prog) (⟨#[32]⟩ ++ u) ⟨#[32]⟩ (by (repeat rw [ByteArray.size_append]); have := sp_size; have := nl_size; omega)
        have a4 := add_run (P := Tryd.prog) (⟨#[32]⟩ ++ u ++ ⟨#[32]⟩) u2 (by (repeat rw [ByteArray.size_append]); have := sp_size; have := nl_size; omega)
        have a5 := add_run (P := Tryd.prog) (T ++ v) (⟨#[32]⟩ ++ u ++ ⟨#[32]⟩ ++ u2) (by (repeat rw [ByteArray.size_append]); have := sp_size; have := nl_size; omega)
        have a6 := add_run (P := Tryd.prog) (T ++ v ++ (⟨#[32]⟩ ++ u ++ ⟨#[32]⟩ ++ u2)) ⟨#[10]⟩ (by (repeat rw [ByteArray.size_append]); have := sp_size; have := nl_size; omega)
        have hQ := gate_box wr 6 x 0 z 43
        have hltW : wr.heap.size < (wr.alloc (.cells #[.int .i64 6, .int .i64 x, .int .i64 0, .int .u64 z] 43)).heap.size := by simp
        go_wp2_with fail
        generalize wr.alloc (.cells #[.int .i64 6, .int .i64 x, .int .i64 0, .int .u64 z] 43) = W at *
        obtain ⟨_, g1, g2, g3⟩ := hQ
        have HALL : Hid (∀ w', Below W.heap.size W w' → w'.cell? ⟨wr.heap.size, 1, none⟩ = some (.int .i64 x) ∧ w'.cell? ⟨wr.heap.size, 3, none⟩ = some (.int .u64 z) ∧ wr.heap.size < w'.heap.size) := fun w' hb => ⟨by rw [hb.cell (p := ⟨wr.heap.size, 1, none⟩) hltW]; exact g1, by rw [hb.cell (p := ⟨wr.heap.size, 3, none⟩) hltW]; exact g3, Nat.lt_of_lt_of_le hltW hb.size⟩
        have HTB : Hid (∀ w', Below W.heap.size W w' → Tabs w') := fun w' hb => hTr.below hb
        have hcur : Below W.heap.size W W.drew := (Below.refl _ _).drew
        clear hVr hTr hbA hv hv0 c1 c2 c3 c4
        go_region_held3 (fun w' => w'.cell? ⟨wr.heap.size, 1, none⟩ = some (.int .i64 x) ∧ w'.cell? ⟨wr.heap.size, 3, none⟩ = some (.int .u64 z)) (go_keep) (first | (go_at_call_of 15 (Value.int .i64 x); refine (sItoa x _ (by omega) (by omega) (HTB.out _ hcur)).mono ?_; rintro en w1 ⟨rfl, hb⟩; rw [HU.out]; have hcur := hcur.trans (hb.mono hcur.size); obtain ⟨e1, e2, e3⟩ := HALL.out _ hcur; clear hb) | (go_at_call_of 15 (Value.int .i64 N); refine (sItoa N _ (by omega) (by omega) (HTB.out _ hcur)).mono ?_; rintro en w2 ⟨rfl, hb⟩; rw [HU2.out]; have hcur := hcur.trans (hb.mono hcur.size); obtain ⟨f1, f2, f3⟩ := HALL.out _ hcur; clear hb) | (go_at_call 16; refine (rNorm z _ hz.1 hz.2).mono ?_; rintro en w3 ⟨rfl, hw⟩; have hw := hw.symm; subst hw; rw [HN.out]))
        all_goals
          have hb6 := hbB.trans (hcur.mono hbB.size)
          go_wp2
          go_roundw
          case rel => exact ⟨i + 1, by omega, by go_num, by rw [HA.out], hb6⟩
          case measure => simp [intOf]; omega
      · simp only at q1 q2 q3 q4
        rcases q1 with q1 | q1 | q1
        · subst q1 q4
          have hv := hVr 3 (by omega)
          have hv0 := (hV.below hbw) 3 (by omega)
          have hvz := vb_size 3 (by omega)
          have HA : Hid (gtx G (i + 1) = T ++ vb 3 ++ (⟨#[32]⟩ ++ itb x ++ ⟨#[32]⟩ ++ itb (y)) ++ ⟨#[10]⟩) := by unfold Hid; rw [gtx, HT.out, gln, HGi.out]; rfl
          obtain ⟨v, HV⟩ : ∃ v, Hid (vb 3 = v) := ⟨_, rfl⟩
          rw [HV.out] at hv hv0 hvz HA
          have a1 := add_run (P := Tryd.prog) T v (by omega)
          have hu := itb_size x (by omega) (by omega)
          have hu2 := itb_size y (by omega) (by omega)
          obtain ⟨u, HU⟩ : ∃ u, Hid (itb x = u) := ⟨_, rfl⟩
          obtain ⟨u2, HU2⟩ : ∃ u2, Hid (itb y = u2) := ⟨_, rfl⟩
          rw [HU.out] at hu
          rw [HU2.out] at hu2
          rw [HU.out, HU2.out] at HA
          have a2 := add_run (P := Tryd.prog) ⟨#[32]⟩ u (by (repeat rw [ByteArray.size_append]); have := sp_size; have := nl_size; omega)
          have a3 := add_run (P := Tryd.prog) (⟨#[32]⟩ ++ u) ⟨#[32]⟩ (by (repeat rw [ByteArray.size_append]); have := sp_size; have := nl_size; omega)
          have a4 := add_run (P := Tryd.prog) (⟨#[32]⟩ ++ u ++ ⟨#[32]⟩) u2 (by (repeat rw [ByteArray.size_append]); have := sp_size; have := nl_size; omega)
          have a5 := add_run (P := Tryd.prog) (T ++ v) (⟨#[32]⟩ ++ u ++ ⟨#[32]⟩ ++ u2) (by (repeat rw [ByteArray.size_append]); have := sp_size; have := nl_size; omega)
          have a6 := add_run (P := Tryd.prog) (T ++ v ++ (⟨#[32]⟩ ++ u ++ ⟨#[32]⟩ ++ u2)) ⟨#[10]⟩ (by (repeat rw [ByteArray.size_append]); have := sp_size; have := nl_size; omega)
          have hQ := gate_box wr 3 x y 0 43
          have hltW : wr.heap.size < (wr.alloc (.cells #[.int .i64 3, .int .i64 x, .int .i64 y, .int .u64 0] 43)).heap.size := by simp
          go_wp2_with fail
          generalize wr.alloc (.cells #[.int .i64 3, .int .i64 x, .int .i64 y, .int .u64 0] 43) = W at *
          obtain ⟨_, g1, g2, g3⟩ := hQ
          have HALL : Hid (∀ w', Below W.heap.size W w' → w'.cell? ⟨wr.heap.size, 1, none⟩ = some (.int .i64 x) ∧ w'.cell? ⟨wr.heap.size, 2, none⟩ = some (.int .i64 y) ∧ wr.heap.size < w'.heap.size) := fun w' hb => ⟨by rw [hb.cell (p := ⟨wr.heap.size, 1, none⟩) hltW]; exact g1, by rw [hb.cell (p := ⟨wr.heap.size, 2, none⟩) hltW]; exact g2, Nat.lt_of_lt_of_le hltW hb.size⟩
          have HTB : Hid (∀ w', Below W.heap.size W w' → Tabs w') := fun w' hb => hTr.below hb
          have hcur : Below W.heap.size W W.drew := (Below.refl _ _).drew
          clear hVr hTr hbA hv hv0 c1 c2 c3 c4
          go_region_held3 (fun w' => w'.cell? ⟨wr.heap.size, 1, none⟩ = some (.int .i64 x) ∧ w'.cell? ⟨wr.heap.size, 2, none⟩ = some (.int .i64 y)) (go_keep) (first | (go_at_call_of 15 (Value.int .i64 x); refine (sItoa x _ (by omega) (by omega) (HTB.out _ hcur)).mono ?_; rintro en w1 ⟨rfl, hb⟩; rw [HU.out]; have hcur := hcur.trans (hb.mono hcur.size); obtain ⟨e1, e2, e3⟩ := HALL.out _ hcur; clear hb) | (go_at_call_of 15 (Value.int .i64 y); refine (sItoa y _ (by omega) (by omega) (HTB.out _ hcur)).mono ?_; rintro en w2 ⟨rfl, hb⟩; rw [HU2.out]; have hcur := hcur.trans (hb.mono hcur.size); obtain ⟨f1, f2, f3⟩ := HALL.out _ hcur; clear hb))
          all_goals
            have hb6 := hbB.trans (hcur.mono hbB.size)
            go_wp2
            go_roundw
            case rel => exact ⟨i + 1, by omega, by go_num, by rw [HA.out], hb6⟩
            case measure => simp [intOf]; omega
        · subst q1 q4
          have hv := hVr 4 (by omega)
          have hv0 := (hV.below hbw) 4 (by omega)
          have hvz := vb_size 4 (by omega)
          have HA : Hid (gtx G (i + 1) = T ++ vb 4 ++ (⟨#[32]⟩ ++ itb x ++ ⟨#[32]⟩ ++ itb (y)) ++ ⟨#[10]⟩) := by unfold Hid; rw [gtx, HT.out, gln, HGi.out]; rfl
          obtain ⟨v, HV⟩ : ∃ v, Hid (vb 4 = v) := ⟨_, rfl⟩
          rw [HV.out] at hv hv0 hvz HA
          have a1 := add_run (P := Tryd.prog) T v (by omega)
          have hu := itb_size x (by omega) (by omega)
          have hu2 := itb_size y (by omega) (by omega)
          obtain ⟨u, HU⟩ : ∃ u, Hid (itb x = u) := ⟨_, rfl⟩
          obtain ⟨u2, HU2⟩ : ∃ u2, Hid (itb y = u2) := ⟨_, rfl⟩
          rw [HU.out] at hu
          rw [HU2.out] at hu2
          rw [HU.out, HU2.out] at HA
          have a2 := add_run (P := Tryd.prog) ⟨#[32]⟩ u (by (repeat rw [ByteArray.size_append]); have := sp_size; have := nl_size; omega)
          have a3 := add_run (P := Tryd.prog) (⟨#[32]⟩ ++ u) ⟨#[32]⟩ (by (repeat rw [ByteArray.size_append]); have := sp_size; have := nl_size; omega)
          have a4 := add_run (P := Tryd.prog) (⟨#[32]⟩ ++ u ++ ⟨#[32]⟩) u2 (by (repeat rw [ByteArray.size_append]); have := sp_size; have := nl_size; omega)
          have a5 := add_run (P := Tryd.prog) (T ++ v) (⟨#[32]⟩ ++ u ++ ⟨#[32]⟩ ++ u2) (by (repeat rw [ByteArray.size_append]); have := sp_size; have := nl_size; omega)
          have a6 := add_run (P := Tryd.prog) (T ++ v ++ (⟨#[32]⟩ ++ u ++ ⟨#[32]⟩ ++ u2)) ⟨#[10]⟩ (by (repeat rw [ByteArray.size_append]); have := sp_size; have := nl_size; omega)
          have hQ := gate_box wr 4 x y 0 43
          have hltW : wr.heap.size < (wr.alloc (.cells #[.int .i64 4, .int .i64 x, .int .i64 y, .int .u64 0] 43)).heap.size := by simp
          go_wp2_with fail
          generalize wr.alloc (.cells #[.int .i64 4, .int .i64 x, .int .i64 y, .int .u64 0] 43) = W at *
          obtain ⟨_, g1, g2, g3⟩ := hQ
          have HALL : Hid (∀ w', Below W.heap.size W w' → w'.cell? ⟨wr.heap.size, 1, none⟩ = some (.int .i64 x) ∧ w'.cell? ⟨wr.heap.size, 2, none⟩ = some (.int .i64 y) ∧ wr.heap.size < w'.heap.size) := fun w' hb => ⟨by rw [hb.cell (p := ⟨wr.heap.size, 1, none⟩) hltW]; exact g1, by rw [hb.cell (p := ⟨wr.heap.size, 2, none⟩) hltW]; exact g2, Nat.lt_of_lt_of_le hltW hb.size⟩
          have HTB : Hid (∀ w', Below W.heap.size W w' → Tabs w') := fun w' hb => hTr.below hb
          have hcur : Below W.heap.size W W.drew := (Below.refl _ _).drew
          clear hVr hTr hbA hv hv0 c1 c2 c3 c4
          go_region_held3 (fun w' => w'.cell? ⟨wr.heap.size, 1, none⟩ = some (.int .i64 x) ∧ w'.cell? ⟨wr.heap.size, 2, none⟩ = some (.int .i64 y)) (go_keep) (first | (go_at_call_of 15 (Value.int .i64 x); refine (sItoa x _ (by omega) (by omega) (HTB.out _ hcur)).mono ?_; rintro en w1 ⟨rfl, hb⟩; rw [HU.out]; have hcur := hcur.trans (hb.mono hcur.size); obtain ⟨e1, e2, e3⟩ := HALL.out _ hcur; clear hb) | (go_at_call_of 15 (Value.int .i64 y); refine (sItoa y _ (by omega) (by omega) (HTB.out _ hcur)).mono ?_; rintro en w2 ⟨rfl, hb⟩; rw [HU2.out]; have hcur := hcur.trans (hb.mono hcur.size); obtain ⟨f1, f2, f3⟩ := HALL.out _ hcur; clear hb))
          all_goals
            have hb6 := hbB.trans (hcur.mono hbB.size)
            go_wp2
            go_roundw
            case rel => exact ⟨i + 1, by omega, by go_num, by rw [HA.out], hb6⟩
            case measure => simp [intOf]; omega
        · subst q1 q4
          have hv := hVr 5 (by omega)
          have hv0 := (hV.below hbw) 5 (by omega)
          have hvz := vb_size 5 (by omega)
          have HA : Hid (gtx G (i + 1) = T ++ vb 5 ++ (⟨#[32]⟩ ++ itb x ++ ⟨#[32]⟩ ++ itb (y)) ++ ⟨#[10]⟩) := by unfold Hid; rw [gtx, HT.out, gln, HGi.out]; rfl
          obtain ⟨v, HV⟩ : ∃ v, Hid (vb 5 = v) := ⟨_, rfl⟩
          rw [HV.out] at hv hv0 hvz HA
          have a1 := add_run (P := Tryd.prog) T v (by omega)
          have hu := itb_size x (by omega) (by omega)
          have hu2 := itb_size y (by omega) (by omega)
          obtain ⟨u, HU⟩ : ∃ u, Hid (itb x = u) := ⟨_, rfl⟩
          obtain ⟨u2, HU2⟩ : ∃ u2, Hid (itb y = u2) := ⟨_, rfl⟩
          rw [HU.out] at hu
          rw [HU2.out] at hu2
          rw [HU.out, HU2.out] at HA
          have a2 := add_run (P := Tryd.prog) ⟨#[32]⟩ u (by (repeat rw [ByteArray.size_append]); have := sp_size; have := nl_size; omega)
          have a3 := add_run (P := Tryd.prog) (⟨#[32]⟩ ++ u) ⟨#[32]⟩ (by (repeat rw [ByteArray.size_append]); have := sp_size; have := nl_size; omega)
          have a4 := add_run (P := Tryd.prog) (⟨#[32]⟩ ++ u ++ ⟨#[32]⟩) u2 (by (repeat rw [ByteArray.size_append]); have := sp_size; have := nl_size; omega)
          have a5 := add_run (P := Tryd.prog) (T ++ v) (⟨#[32]⟩ ++ u ++ ⟨#[32]⟩ ++ u2) (by (repeat rw [ByteArray.size_append]); have := sp_size; have := nl_size; omega)
          have a6 := add_run (P := Tryd.prog) (T ++ v ++ (⟨#[32]⟩ ++ u ++ ⟨#[32]⟩ ++ u2)) ⟨#[10]⟩ (by (repeat rw [ByteArray.size_append]); have := sp_size; have := nl_size; omega)
          have hQ := gate_box wr 5 x y 0 43
          have hltW : wr.heap.size < (wr.alloc (.cells #[.int .i64 5, .int .i64 x, .int .i64 y, .int .u64 0] 43)).heap.size := by simp
          go_wp2_with fail
          generalize wr.alloc (.cells #[.int .i64 5, .int .i64 x, .int .i64 y, .int .u64 0] 43) = W at *
          obtain ⟨_, g1, g2, g3⟩ := hQ
          have HALL : Hid (∀ w', Below W.heap.size W w' → w'.cell? ⟨wr.heap.size, 1, none⟩ = some (.int .i64 x) ∧ w'.cell? ⟨wr.heap.size, 2, none⟩ = some (.int .i64 y) ∧ wr.heap.size < w'.heap.size) := fun w' hb => ⟨by rw [hb.cell (p := ⟨wr.heap.size, 1, none⟩) hltW]; exact g1, by rw [hb.cell (p := ⟨wr.heap.size, 2, none⟩) hltW]; exact g2, Nat.lt_of_lt_of_le hltW hb.size⟩
          have HTB : Hid (∀ w', Below W.heap.size W w' → Tabs w') := fun w' hb => hTr.below hb
          have hcur : Below W.heap.size W W.drew := (Below.refl _ _).drew
          clear hVr hTr hbA hv hv0 c1 c2 c3 c4
          go_region_held3 (fun w' => w'.cell? ⟨wr.heap.size, 1, none⟩ = some (.int .i64 x) ∧ w'.cell? ⟨wr.heap.size, 2, none⟩ = some (.int .i64 y)) (go_keep) (first | (go_at_call_of 15 (Value.int .i64 x); refine (sItoa x _ (by omega) (by omega) (HTB.out _ hcur)).mono ?_; rintro en w1 ⟨rfl, hb⟩; rw [HU.out]; have hcur := hcur.trans (hb.mono hcur.size); obtain ⟨e1, e2, e3⟩ := HALL.out _ hcur; clear hb) | (go_at_call_of 15 (Value.int .i64 y); refine (sItoa y _ (by omega) (by omega) (HTB.out _ hcur)).mono ?_; rintro en w2 ⟨rfl, hb⟩; rw [HU2.out]; have hcur := hcur.trans (hb.mono hcur.size); obtain ⟨f1, f2, f3⟩ := HALL.out _ hcur; clear hb))
          all_goals
            have hb6 := hbB.trans (hcur.mono hbB.size)
            go_wp2
            go_roundw
            case rel => exact ⟨i + 1, by omega, by go_num, by rw [HA.out], hb6⟩
            case measure => simp [intOf]; omega
    · have hin2 : i = n := by omega
      subst hin2
      have hTo := hT.below hbw
      obtain ⟨wo, hwo⟩ : ∃ wo, wo = wr := ⟨_, rfl⟩
      subst hwo
      go_wp2
      go_loopw [4, 7] (fun v q wr => ∃ j : Nat, j ≤ m ∧ q = .int .i64 j ∧ v = .string (otx T O j) ∧ Below wo.heap.size wo wr) (fun _ q _ => m - (intOf q).toNat)
      case atStart => exact ⟨0, Nat.zero_le _, rfl, rfl, Below.refl _ _⟩
      case round =>
        obtain ⟨j, hjm, rfl, rfl, hbe⟩ := hrel
        have hC2 := hC.below hbe hl0
        obtain ⟨f0, f1⟩ := hC2.cells
        have hl2 := hC2.lt
        have hbw2 := hbw.trans (hbe.mono hbw.size)
        by_cases hlt2 : j < m
        · obtain ⟨b, o, x, rfl, hbb, HX, hx0, hx1, c1⟩ := (g.below hbw2).one hlt2
          have hzs := otx_size (t := T) HO.out hn j hjm
          have hu := itb_size x hx0 hx1
          have HA : Hid (otx T O (j + 1) = otx T O j ++ (⟨#[111, 117, 116, 32]⟩ ++ itb x ++ ⟨#[10]⟩)) := by unfold Hid; rw [otx, HX.out]
          obtain ⟨u, HU⟩ : ∃ u, Hid (itb x = u) := ⟨_, rfl⟩
          obtain ⟨Y, HY⟩ : ∃ Y, Hid (otx T O j = Y) := ⟨_, rfl⟩
          rw [HU.out] at hu HA
          rw [HY.out] at hzs HA ⊢
          have a1 := add_run (P := Tryd.prog) ⟨#[111, 117, 116, 32]⟩ u (by rw [out_size]; omega)
          have a2 := add_run (P := Tryd.prog) (⟨#[111, 117, 116, 32]⟩ ++ u) ⟨#[10]⟩ (by simp only [ByteArray.size_append, out_size, nl_size]; omega)
          have a3 := add_run (P := Tryd.prog) Y (⟨#[111, 117, 116, 32]⟩ ++ u ++ ⟨#[10]⟩) (by simp only [ByteArray.size_append, out_size, nl_size]; omega)
          go_wp2_with fail
          refine (sItoa x _ hx0 hx1 (hTo.below hbe)).mono ?_
          rintro e w5 ⟨rfl, hb5⟩
          rw [HU.out]
          have hb6 := hbe.trans (hb5.mono hbe.size)
          clear hb5 hbe
          go_wp2
          go_roundw
          case rel => exact ⟨j + 1, by omega, by go_num, by rw [HA.out], hb6⟩
          case measure => simp [intOf]; omega
        · obtain rfl : m = j := by omega
          go_wp2
          go_ret
          rw [HT.out]
          exact ⟨rfl, hbw2⟩
end
end Go.Proofs.YtljlioglpaogdabDoor
