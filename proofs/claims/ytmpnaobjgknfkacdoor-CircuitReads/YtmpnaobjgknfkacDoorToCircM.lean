/- croftref.digits. · Circuits: plain facts. -/
import Derived.Test.YtmpnaobjgknfkacDoorToAtsC
import Derived.Laws.Strings
import Derived.Test.YtmpnaobjgknfkacDoorToPolyM2
namespace Go.Proofs.YtmpnaobjgknfkacDoor
open Go.RowKit Crm

/-- Byte i of a text. -/
def bt (s : ByteArray) (i : Nat) : Int := ((s.get! i).toNat : Int)
theorem bt_bd (s : ByteArray) (i : Nat) : 0 ≤ bt s i ∧ bt s i ≤ 255 := by
  have := (s.get! i).toNat_lt
  unfold bt
  omega
theorem bt_get (s : ByteArray) {i : Nat} (h : i < s.size) : ((s[i]'h).toNat : Int) = bt s i := by
  unfold bt
  have : s.get! i = s[i]'h := getElem!_pos s.data i h
  rw [this]
theorem bt_run {P : Program} {t : TypeId} (ht : P.underlying t = some .string) (s : ByteArray) {i : Nat} (h : i < s.size) (w : World) : (Instr.index t (.string s) (.int .i64 (i : Int))).run P w = .ok (.int .u8 (bt s i)) w := by
  rw [run_index_string w t s .i64 (i : Int) ht, dif_pos ⟨by omega, by omega⟩]
  simp only [Int.toNat_natCast]
  rw [bt_get s h]
/-- The number of the first k digits. -/
def dgn (s : ByteArray) : Nat → Int
  | 0 => 0
  | k + 1 => dgn s k * 10 + bt s k - 48
/-- The first k bytes are digits. -/
def dgs (s : ByteArray) (k : Nat) : Prop := ∀ i, i < k → 48 ≤ bt s i ∧ bt s i ≤ 57
theorem dgs_zero (s : ByteArray) : dgs s 0 := fun i hi => by omega
theorem dgs_succ {s : ByteArray} {k : Nat} (h : dgs s k) (h0 : 48 ≤ bt s k) (h1 : bt s k ≤ 57) : dgs s (k + 1) := fun i hi => by
  by_cases e : i = k
  · rw [e]; exact ⟨h0, h1⟩
  · exact h i (by omega)
theorem dgs_not {s : ByteArray} {k m : Nat} (hk : k < m) (h : bt s k < 48 ∨ 57 < bt s k) : ¬ dgs s m := fun e => by
  have := e k hk
  omega
theorem dgn_bd {s : ByteArray} : ∀ {k : Nat}, dgs s k → 0 ≤ dgn s k ∧ dgn s k < 10 ^ k
  | 0, _ => by simp [dgn]
  | k + 1, h => by
    have h1 := dgn_bd (k := k) fun i hi => h i (by omega)
    have h2 := h k (by omega)
    rw [dgn, Int.pow_succ]
    omega
theorem ten_le {k : Nat} (h : k ≤ 10) : (10 : Int) ^ k ≤ 10000000000 := by
  have : k = 0 ∨ k = 1 ∨ k = 2 ∨ k = 3 ∨ k = 4 ∨ k = 5 ∨ k = 6 ∨ k = 7 ∨ k = 8 ∨ k = 9 ∨ k = 10 := by omega
  rcases this with rfl | rfl | rfl | rfl | rfl | rfl | rfl | rfl | rfl | rfl | rfl <;> decide
/-- A number: one to ten digits, without noughts ahead. -/
def okd (s : ByteArray) : Prop := (1 ≤ s.size ∧ s.size ≤ 10) ∧ dgs s s.size ∧ ¬ (1 < s.size ∧ bt s 0 = 48)
def Dgt (s : ByteArray) (r : Int) : Prop := (okd s ∧ r = dgn s s.size) ∨ (¬ okd s ∧ r = -1)
theorem Dgt.one {s : ByteArray} {r q : Int} (h : Dgt s r) (k : Dgt s q) : r = q := by
  rcases h with ⟨h1, rfl⟩ | ⟨h1, rfl⟩ <;> rcases k with ⟨k1, rfl⟩ | ⟨k1, rfl⟩
  · rfl
  · exact absurd h1 k1
  · exact absurd k1 h1
  · rfl
theorem Dgt.bd {s : ByteArray} {r : Int} (h : Dgt s r) : -1 ≤ r ∧ r ≤ 9999999999 := by
  rcases h with ⟨h1, rfl⟩ | ⟨h1, rfl⟩
  · have := dgn_bd h1.2.1
    have := ten_le h1.1.2
    omega
  · omega

set_option maxRecDepth 100000 in
set_option maxHeartbeats 2000000 in
theorem rDigits (s : ByteArray) (w : World) (hs : s.size ≤ 9223372036854775807) :
    Calls Tryd.prog 24 #[.string s] w fun e w' => ∃ r, e = .returned (.int .i64 r) ∧ Dgt s r ∧ w' = w := by
  go_enter Tryd.func24, Tryd.ntmps24
  go_wp2
  go_loopw [3, 4] (fun v i wr => ∃ k : Nat, k ≤ s.size ∧ k ≤ 11 ∧ i = .int .i64 k ∧ v = .int .i64 (dgn s k) ∧ Hid (dgs s k) ∧ wr = w) (fun _ i _ => 11 - (intOf i).toNat)
  case atStart => exact ⟨0, Nat.zero_le _, by omega, rfl, rfl, dgs_zero s, rfl⟩
  case round =>
    obtain ⟨k, hk, hk11, rfl, rfl, HD, rfl⟩ := hrel
    by_cases hlt : k < s.size
    · by_cases hkl : k < 11
      · obtain ⟨x, HX⟩ : ∃ x, Hid (bt s k = x) := ⟨_, rfl⟩
        have hx := bt_bd s k
        have hix := fun w => bt_run (P := Tryd.prog) Tryd.underlying9 s hlt w
        rw [HX.out] at hx hix
        have hd := dgn_bd HD.out
        have ht := ten_le (k := k) (by omega)
        obtain ⟨d, Hd⟩ : ∃ d, Hid (dgn s k = d) := ⟨_, rfl⟩
        rw [Hd.out] at hd ⊢
        have hd2 : d ≤ 9999999999 := by omega
        have hd0 := hd.1
        clear hd ht
        have HN : Hid (x < 48 ∨ 57 < x → Dgt s (-1)) := fun e => .inr ⟨fun o => dgs_not hlt (by rw [HX.out]; exact e) o.2.1, rfl⟩
        by_cases hlo : x < 48
        · go_wp2
          go_ret
          exact ⟨_, rfl, HN.out (.inl hlo), rfl⟩
        · by_cases hhi : 57 < x
          · go_wp2
            go_ret
            exact ⟨_, rfl, HN.out (.inr hhi), rfl⟩
          · have HD2 : Hid (dgs s (k + 1)) := dgs_succ HD.out (by rw [HX.out]; omega) (by rw [HX.out]; omega)
            have HV : Hid (dgn s (k + 1) = d * 10 + x - 48) := by unfold Hid; rw [dgn, Hd.out, HX.out]
            have hxw : IntKind.i64.wrap x = x := by rw [IntKind.wrap_i64]; omega
            go_wp2
            go_roundw
            case rel => exact ⟨k + 1, by omega, by omega, by go_num, by rw [HV.out], HD2, trivial⟩
            case measure => simp [intOf]; omega
      · have HN : Hid (Dgt s (-1)) := .inr ⟨fun o => by have := o.1; omega, rfl⟩
        have hk12 : k = 11 := by omega
        subst hk12
        go_wp2_with (go_at_call 25; refine (rInN _ _ _ _ (by omega)).mono ?_; rintro e w' ⟨rfl, hw⟩; have hw := hw.symm; subst hw)
        go_ret
        exact ⟨_, rfl, HN.out, rfl⟩
    · have hks : k = s.size := by omega
      have hn1 : ¬ ((k : Int) < (s.size : Int)) := by omega
      by_cases hr : 1 ≤ s.size ∧ s.size ≤ 10
      · by_cases h1 : 1 < s.size
        · obtain ⟨x, HX⟩ : ∃ x, Hid (bt s 0 = x) := ⟨_, rfl⟩
          have hx := bt_bd s 0
          have hix := fun w => bt_run (P := Tryd.prog) Tryd.underlying9 s (i := 0) (by omega) w
          rw [HX.out] at hx hix
          simp only [Int.natCast_zero] at hix
          by_cases h48 : x = 48
          · have HN : Hid (Dgt s (-1)) := .inr ⟨fun o => o.2.2 ⟨h1, by rw [HX.out]; exact h48⟩, rfl⟩
            subst h48
            go_wp2_with (go_at_call 25; refine (rInY _ _ _ _ (by omega) (by omega)).mono ?_; rintro e w' ⟨rfl, hw⟩; have hw := hw.symm; subst hw)
            go_ret
            exact ⟨_, rfl, HN.out, rfl⟩
          · have HN : Hid (Dgt s (dgn s s.size)) := .inl ⟨⟨hr, by rw [← hks]; exact HD.out, fun e => h48 (by rw [← HX.out]; exact e.2)⟩, rfl⟩
            have hxb : (x == 48) = false := by rw [beq_eq_false_iff_ne]; exact h48
            clear h48
            go_wp2_with (go_at_call 25; refine (rInY _ _ _ _ (by omega) (by omega)).mono ?_; rintro e w' ⟨rfl, hw⟩; have hw := hw.symm; subst hw)
            go_ret
            exact ⟨_, rfl, HN.out, rfl⟩
        · have HN : Hid (Dgt s (dgn s s.size)) := .inl ⟨⟨hr, by rw [← hks]; exact HD.out, fun e => h1 e.1⟩, rfl⟩
          go_wp2_with (go_at_call 25; refine (rInY _ _ _ _ (by omega) (by omega)).mono ?_; rintro e w' ⟨rfl, hw⟩; have hw := hw.symm; subst hw)
          go_ret
          exact ⟨_, rfl, HN.out, rfl⟩
      · have HN : Hid (Dgt s (-1)) := .inr ⟨fun o => hr o.1, rfl⟩
        go_wp2_with (go_at_call 25; refine (rInN _ _ _ _ (by omega)).mono ?_; rintro e w' ⟨rfl, hw⟩; have hw := hw.symm; subst hw)
        go_ret
        exact ⟨_, rfl, HN.out, rfl⟩
end Go.Proofs.YtmpnaobjgknfkacDoor

namespace Go.Proofs.YtmpnaobjgknfkacDoor
open Crm

/-- A gate: its kind, its wires, its number. -/
structure Gt where
  k : Int
  a : Int
  b : Int
  n : Int
def gt (G : List Gt) (i : Nat) : Gt := G.getD i ⟨0, 0, 0, 0⟩
/-- Gate i is right. -/
def okg (i : Nat) (g : Gt) : Prop :=
  (g.k = 1 ∧ (1 ≤ g.a ∧ g.a ≤ 9) ∧ g.b = 0 ∧ g.n = 0) ∨ (g.k = 2 ∧ g.a = 0 ∧ g.b = 0) ∨ (g.k = 6 ∧ (0 ≤ g.a ∧ g.a < (i : Int)) ∧ g.b = 0) ∨
  ((g.k = 3 ∨ g.k = 4 ∨ g.k = 5) ∧ (0 ≤ g.a ∧ g.a < (i : Int)) ∧ (0 ≤ g.b ∧ g.b < (i : Int)) ∧ g.n = 0)
def okG (G : List Gt) (n : Nat) : Prop := ∀ i, i < n → okg i (gt G i)
def okO (O : List Int) (n m : Nat) : Prop := ∀ j, j < m → 0 ≤ O.getD j 0 ∧ O.getD j 0 < (n : Int)
theorem okG_zero (G : List Gt) : okG G 0 := fun i hi => by omega
theorem okG_succ {G : List Gt} {k : Nat} (h : okG G k) (hk : okg k (gt G k)) : okG G (k + 1) := fun i hi => by
  by_cases e : i = k
  · rw [e]; exact hk
  · exact h i (by omega)
theorem okG_not {G : List Gt} {k n : Nat} (hk : k < n) (h : ¬ okg k (gt G k)) : ¬ okG G n := fun e => h (e k hk)
theorem okO_zero (O : List Int) (n : Nat) : okO O n 0 := fun i hi => by omega
theorem okO_succ {O : List Int} {n k : Nat} {x : Int} (h : okO O n k) (hx : O.getD k 0 = x) (h0 : 0 ≤ x) (h1 : x < (n : Int)) : okO O n (k + 1) := fun i hi => by
  by_cases e : i = k
  · rw [e, hx]; exact ⟨h0, h1⟩
  · exact h i (by omega)
theorem okO_not {O : List Int} {n m k : Nat} {x : Int} (hk : k < m) (hx : O.getD k 0 = x) (h : x < 0 ∨ (n : Int) ≤ x) : ¬ okO O n m := fun e => by
  have := e k hk
  rw [hx] at this
  omega
/-- What Check tells. -/
def Cke (G : List Gt) (O : List Int) (n m : Nat) (r : Int) : Prop :=
  ((n = 0 ∨ m = 0) ∧ r = 1) ∨ ((n ≠ 0 ∧ m ≠ 0) ∧ (((30 < n ∨ 30 < m) ∧ r = 2) ∨ ((n ≤ 30 ∧ m ≤ 30) ∧ ((¬ (okG G n ∧ okO O n m) ∧ r = 1) ∨ ((okG G n ∧ okO O n m) ∧ r = 0)))))
theorem Cke.one {G : List Gt} {O : List Int} {n m : Nat} {r s : Int} (h : Cke G O n m r) (k : Cke G O n m s) : r = s := by
  rcases h with ⟨h1, rfl⟩ | ⟨h1, ⟨h2, rfl⟩ | ⟨h2, ⟨h3, rfl⟩ | ⟨h3, rfl⟩⟩⟩ <;> rcases k with ⟨k1, rfl⟩ | ⟨k1, ⟨k2, rfl⟩ | ⟨k2, ⟨k3, rfl⟩ | ⟨k3, rfl⟩⟩⟩
  all_goals first
    | rfl
    | (exfalso; omega)
    | exact absurd k3 h3
    | exact absurd h3 k3
theorem Cke.ok {G : List Gt} {O : List Int} {n m : Nat} (h : Cke G O n m 0) : (1 ≤ n ∧ n ≤ 30) ∧ (1 ≤ m ∧ m ≤ 30) ∧ okG G n ∧ okO O n m := by
  rcases h with ⟨_, h⟩ | ⟨h1, ⟨_, h⟩ | ⟨h2, ⟨_, h⟩ | ⟨h3, _⟩⟩⟩
  · omega
  · omega
  · omega
  · exact ⟨⟨by omega, h2.1⟩, ⟨by omega, h2.2⟩, h3⟩
theorem Cke.bd {G : List Gt} {O : List Int} {n m : Nat} {r : Int} (h : Cke G O n m r) : 0 ≤ r ∧ r ≤ 2 := by
  rcases h with ⟨_, rfl⟩ | ⟨_, ⟨_, rfl⟩ | ⟨_, ⟨_, rfl⟩ | ⟨_, rfl⟩⟩⟩ <;> omega

/-- Whose the inputs of the first k gates are. -/
def whl (G : List Gt) : Nat → List Int
  | 0 => []
  | k + 1 => if (gt G k).k = 1 then whl G k ++ [(gt G k).a] else whl G k
/-- How many inputs the first k gates are. -/
def ci (G : List Gt) (k : Nat) : Nat := (whl G k).length
theorem ci_zero (G : List Gt) : ci G 0 = 0 := rfl
theorem ci_in {G : List Gt} {k : Nat} (h : (gt G k).k = 1) : ci G (k + 1) = ci G k + 1 := by unfold ci; rw [whl, if_pos h]; simp
theorem ci_no {G : List Gt} {k : Nat} (h : (gt G k).k ≠ 1) : ci G (k + 1) = ci G k := by unfold ci; rw [whl, if_neg h]
theorem ci_le (G : List Gt) : ∀ k, ci G k ≤ k
  | 0 => Nat.le_refl _
  | k + 1 => by
    have := ci_le G k
    by_cases h : (gt G k).k = 1
    · rw [ci_in h]; omega
    · rw [ci_no h]; omega
theorem ci_mono (G : List Gt) {j k : Nat} (h : j ≤ k) : ci G j ≤ ci G k := by
  induction k with
  | zero => obtain rfl : j = 0 := by omega
            exact Nat.le_refl _
  | succ k ih =>
    by_cases e : j = k + 1
    · rw [e]; exact Nat.le_refl _
    · have h1 := ih (by omega)
      by_cases h2 : (gt G k).k = 1
      · rw [ci_in h2]; omega
      · rw [ci_no h2]; exact h1
theorem ci_lt {G : List Gt} {j k : Nat} (h : j < k) (hj : (gt G j).k = 1) : ci G j < ci G k := by
  have := ci_mono G (show j + 1 ≤ k from h)
  rw [ci_in hj] at this
  omega
/-- What a gate tells, the wires ahead being W, the next input q. -/
def gv (W : List Int) (q : Int) (g : Gt) : Int :=
  if g.k = 1 then nm q else if g.k = 2 then nm g.n else if g.k = 6 then nm (W.getD g.a.toNat 0 * g.n)
  else if g.k = 3 then nm (W.getD g.a.toNat 0 + W.getD g.b.toNat 0) else if g.k = 4 then nm (W.getD g.a.toNat 0 - W.getD g.b.toNat 0) else nm (W.getD g.a.toNat 0 * W.getD g.b.toNat 0)
theorem gv_bd (W : List Int) (q : Int) (g : Gt) : 0 ≤ gv W q g ∧ gv W q g ≤ 2147483646 := by
  unfold gv
  repeat' split
  all_goals exact nm_bd _
/-- What the first k wires have. -/
def wv (G : List Gt) (ins : List Int) : Nat → List Int
  | 0 => []
  | k + 1 => wv G ins k ++ [gv (wv G ins k) (ins.getD (ci G k) 0) (gt G k)]
/-- What wire i has. -/
def wi (G : List Gt) (ins : List Int) (i : Nat) : Int := gv (wv G ins i) (ins.getD (ci G i) 0) (gt G i)
theorem wi_bd (G : List Gt) (ins : List Int) (i : Nat) : 0 ≤ wi G ins i ∧ wi G ins i ≤ 2147483646 := gv_bd _ _ _
theorem wv_len (G : List Gt) (ins : List Int) : ∀ k, (wv G ins k).length = k
  | 0 => rfl
  | k + 1 => by rw [wv, List.length_append, wv_len G ins k]; rfl
theorem wv_getD (G : List Gt) (ins : List Int) {j : Nat} : ∀ {k : Nat}, j < k → (wv G ins k).getD j 0 = wi G ins j
  | 0, h => by omega
  | k + 1, h => by
    have hl := wv_len G ins k
    rw [wv]
    by_cases e : j = k
    · subst e
      rw [List.getD_eq_getElem?_getD, List.getElem?_append_right (by omega), hl, Nat.sub_self]
      rfl
    · rw [List.getD_eq_getElem?_getD, List.getElem?_append_left (by omega), ← List.getD_eq_getElem?_getD]
      exact wv_getD G ins (by omega)
/-- A gate's wire by the wires ahead. -/
theorem wi_in {G : List Gt} {ins : List Int} {i : Nat} (h : (gt G i).k = 1) : wi G ins i = nm (ins.getD (ci G i) 0) := by unfold wi gv; rw [if_pos h]
theorem wi_const {G : List Gt} {ins : List Int} {i : Nat} (h : (gt G i).k = 2) : wi G ins i = nm (gt G i).n := by unfold wi gv; rw [if_neg (by omega), if_pos h]
theorem wi_scale {G : List Gt} {ins : List Int} {i a : Nat} (h : (gt G i).k = 6) (ha : (gt G i).a = (a : Int)) (hi : a < i) : wi G ins i = nm (wi G ins a * (gt G i).n) := by
  unfold wi gv
  rw [if_neg (by omega), if_neg (by omega), if_pos h, ha, Int.toNat_natCast, wv_getD G ins hi]
  rfl
theorem wi_add {G : List Gt} {ins : List Int} {i a b : Nat} (h : (gt G i).k = 3) (ha : (gt G i).a = (a : Int)) (hi : a < i) (hb : (gt G i).b = (b : Int)) (hj : b < i) : wi G ins i = nm (wi G ins a + wi G ins b) := by
  unfold wi gv
  rw [if_neg (by omega), if_neg (by omega), if_neg (by omega), if_pos h, ha, hb, Int.toNat_natCast, Int.toNat_natCast, wv_getD G ins hi, wv_getD G ins hj]
  rfl
theorem wi_sub {G : List Gt} {ins : List Int} {i a b : Nat} (h : (gt G i).k = 4) (ha : (gt G i).a = (a : Int)) (hi : a < i) (hb : (gt G i).b = (b : Int)) (hj : b < i) : wi G ins i = nm (wi G ins a - wi G ins b) := by
  unfold wi gv
  rw [if_neg (by omega), if_neg (by omega), if_neg (by omega), if_neg (by omega), if_pos h, ha, hb, Int.toNat_natCast, Int.toNat_natCast, wv_getD G ins hi, wv_getD G ins hj]
  rfl
theorem wi_mul {G : List Gt} {ins : List Int} {i a b : Nat} (h : (gt G i).k = 5) (ha : (gt G i).a = (a : Int)) (hi : a < i) (hb : (gt G i).b = (b : Int)) (hj : b < i) : wi G ins i = nm (wi G ins a * wi G ins b) := by
  unfold wi gv
  rw [if_neg (by omega), if_neg (by omega), if_neg (by omega), if_neg (by omega), if_neg (by omega), ha, hb, Int.toNat_natCast, Int.toNat_natCast, wv_getD G ins hi, wv_getD G ins hj]
  rfl
/-- What the wires in O have. -/
def otl (G : List Gt) (O ins : List Int) (m : Nat) : List Int := (List.range m).map fun j => wi G ins (O.getD j 0).toNat
theorem otl_len (G : List Gt) (O ins : List Int) (m : Nat) : (otl G O ins m).length = m := by simp [otl]
theorem otl_getD (G : List Gt) (O ins : List Int) {m j : Nat} (h : j < m) : (otl G O ins m).getD j 0 = wi G ins (O.getD j 0).toNat := by simp [otl, h]
theorem otl_snoc (G : List Gt) (O ins : List Int) (m : Nat) : otl G O ins m ++ [wi G ins (O.getD m 0).toNat] = otl G O ins (m + 1) := by simp [otl, List.range_succ]
theorem otl_bd (G : List Gt) (O ins : List Int) (m : Nat) : ∀ z ∈ otl G O ins m, 0 ≤ z ∧ z ≤ 2147483646 := by
  intro z hz
  obtain ⟨i, _, rfl⟩ := List.mem_map.1 hz
  exact wi_bd _ _ _
/-- Without products a circuit of sums tells the sum of what it tells of each, and of nothing taken away. -/
theorem sums {G : List Gt} {n : Nat} {xs ys zs os : List Int} (hG : okG G n) (hno : ∀ i, i < n → (gt G i).k ≠ 5) (hz : ∀ j, j < ci G n → nm (zs.getD j 0) = nm (xs.getD j 0 + ys.getD j 0)) (ho : ∀ j, nm (os.getD j 0) = 0) :
    ∀ i, i < n → nm (wi G zs i + wi G os i) = nm (wi G xs i + wi G ys i) := by
  intro i
  induction i using Nat.strongRecOn with
  | _ i ih =>
    intro hi
    have e : ∀ a b c d : Int, nm (nm a + nm b) = nm (nm c + nm d) ↔ nm (a + b) = nm (c + d) := fun a b c d => by unfold nm; omega
    rcases hG i hi with ⟨h1, _, _, _⟩ | ⟨h1, _, _⟩ | ⟨h1, h2, _⟩ | ⟨h1, h2, h3, _⟩
    · rw [wi_in h1, wi_in h1, wi_in h1, wi_in h1, e]
      have h4 := hz _ (ci_lt hi h1)
      have h5 := ho (ci G i)
      unfold nm at h4 h5 ⊢
      omega
    · rw [wi_const h1, wi_const h1, wi_const h1, wi_const h1]
    · obtain ⟨a, ha⟩ : ∃ a : Nat, (gt G i).a = a := ⟨(gt G i).a.toNat, by omega⟩
      have hai : a < i := by omega
      rw [wi_scale h1 ha hai, wi_scale h1 ha hai, wi_scale h1 ha hai, wi_scale h1 ha hai, e, ← Int.add_mul, ← Int.add_mul]
      exact nm_mul_congr (ih a hai (by omega)) rfl
    · obtain ⟨a, ha⟩ : ∃ a : Nat, (gt G i).a = a := ⟨(gt G i).a.toNat, by omega⟩
      obtain ⟨b, hb⟩ : ∃ b : Nat, (gt G i).b = b := ⟨(gt G i).b.toNat, by omega⟩
      have hai : a < i := by omega
      have hbi : b < i := by omega
      have i1 := ih a hai (by omega)
      have i2 := ih b hbi (by omega)
      rcases h1 with h1 | h1 | h1
      · rw [wi_add h1 ha hai hb hbi, wi_add h1 ha hai hb hbi, wi_add h1 ha hai hb hbi, wi_add h1 ha hai hb hbi, e]
        unfold nm at i1 i2 ⊢
        omega
      · rw [wi_sub h1 ha hai hb hbi, wi_sub h1 ha hai hb hbi, wi_sub h1 ha hai hb hbi, wi_sub h1 ha hai hb hbi, e]
        unfold nm at i1 i2 ⊢
        omega
      · exact absurd h1 (hno i hi)
end Go.Proofs.YtmpnaobjgknfkacDoor
