/- poly.Norm, poly.Mul, poly.Eval. · shamir.Deal. · croftref.Dealt, croftref.Deal. · poly.Through. · croftref.Through: LAGRANGE. · shamir.weight, shamir.Weights. · croftref.Weights. -/
import Derived.Test.YtljlioglpaogdabToCheckC
import Derived.Test.YtljlioglpaogdabToGaussM
import Derived.Test.YtljlioglpaogdabToSubC
import Derived.Test.YtljlioglpaogdabToSameLC
import Derived.Deep.RegionWith
import Derived.Laws.AppendOwnNone
import Derived.Deep.QuietTactic
import Derived.BigQuiet
namespace Go.Proofs.Ytljlioglpaogdab
set_option linter.unusedVariables false
set_option maxRecDepth 100000
set_option maxHeartbeats 8000000
section
open Crm Go.RowKit
theorem cEvalOK (a : Option Addr) (n c : Nat) (xs : List Int) (x : Int) (w : World) (h : Rd w a n c xs) (hn : n ≤ 40) (hx0 : 0 ≤ x) (hx1 : x ≤ 18446744073709551615) :
    Calls Try.prog 72 #[.slice a n c, .int .u64 x] w fun e w' => e = .returned (.tuple #[.int .u64 (nm (ev xs x)), .int .i64 0]) ∧ Below w.heap.size w w' := by
  go_enter Try.func72, Try.ntmps72
  go_wp2_with (go_at_call 90; refine (cValue _ _ _ _ _ _ h hx0 hx1).mono ?_; rintro e w1 ⟨rfl, hbel⟩)
  go_ret2
  exact ⟨rfl, hbel⟩
/-- A list that is filled from its beginning on. -/
def fil (f : Nat → Int) (n k : Nat) : List Int := (List.range n).map fun i => if i < k then f i else 0
theorem fil_len (f : Nat → Int) (n k : Nat) : (fil f n k).length = n := by simp [fil]
theorem fil_zero (f : Nat → Int) (n : Nat) : List.replicate n 0 = fil f n 0 := by
  refine list_ext (by simp [fil]) fun t ht => ?_
  have : t < n := by simpa using ht
  simp [fil, this]
theorem fil_set {f : Nat → Int} {n k : Nat} {v : Int} (hv : v = f k) : (fil f n k).set k v = fil f n (k + 1) := by
  refine list_ext (by simp [fil]) fun t ht => ?_
  have htn : t < n := by simpa [fil] using ht
  rw [getD_set, fil_len]
  by_cases e : k = t
  · subst e
    rw [if_pos ⟨rfl, htn⟩, hv]
    simp [fil, htn]
  · rw [if_neg (fun h => e h.1)]
    have : (t < k + 1) = (t < k) := by apply propext; omega
    simp [fil, htn, this]
theorem fil_full (f : Nat → Int) (n : Nat) : fil f n n = (List.range n).map f := by
  refine list_ext (by simp [fil]) fun t ht => ?_
  have htn : t < n := by simpa [fil] using ht
  simp [fil, htn]
theorem fil_bd {f : Nat → Int} (hf : ∀ i, 0 ≤ f i ∧ f i ≤ 2147483646) (n k : Nat) : ∀ x ∈ fil f n k, 0 ≤ x ∧ x ≤ 2147483646 := by
  intro x hx
  obtain ⟨i, _, rfl⟩ := List.mem_map.1 hx
  split
  · exact hf i
  · omega

/-- What is dealt. -/
def dlf (C : List Int) (i : Nat) : Int := nm (ev C ((i : Int) + 1))
theorem dlf_bd (C : List Int) (i : Nat) : 0 ≤ dlf C i ∧ dlf C i ≤ 2147483646 := nm_bd _
def dl (C : List Int) (n : Nat) : List Int := (List.range n).map (dlf C)
theorem dl_len (C : List Int) (n : Nat) : (dl C n).length = n := by simp [dl]
theorem dl_bd (C : List Int) (n : Nat) : ∀ x ∈ dl C n, 0 ≤ x ∧ x ≤ 2147483646 := by
  rw [dl, ← fil_full]; exact fil_bd (dlf_bd C) n n
theorem dl_snoc (C : List Int) (n : Nat) : dl C n ++ [dlf C n] = dl C (n + 1) := by simp [dl, List.range_succ]
theorem dl_getD (C : List Int) {n i : Nat} (h : i < n) : (dl C n).getD i 0 = dlf C i := by simp [dl, h]

/-- One number, and a slice behind it; where it lies. -/
theorem wpList_appRB {P : Program} {T : TypeId} (hT : P.underlying T = some (.slice 28)) (info : (P.info? 28).map (fun i => (i.zero, i.size, i.bytes)) = some (some (.int .u64 0), 1, 8))
    (w : World) {ops : Array Oper} {rest : List Oper} {o : Oper} {a : Act} {Q : Exit → Act → World → Prop} (hgd : o.guard = none) (s x : Operand)
    (ho : o.op = .call { callee := .builtin .append, args := #[s, x], argTypes := #[T, T] }) (y : Int) (hy0 : 0 ≤ y) (hy1 : y ≤ 18446744073709551615)
    (a0 : Option Addr) (m c : Nat) (xs : List Int) (hR : Rd w a0 m c xs) (hs : a.eval s = .slice (some ⟨w.heap.size, 0, none⟩) 1 1) (hx : a.eval x = .slice a0 m c) (hm : m ≤ 1000)
    (h : ∀ a' c' w', Rd w' a' (m + 1) c' (y :: xs) → (∀ x, a' = some x → w.heap.size ≤ x.block) → Below w.heap.size w w' → wpList P ops Q rest (a.put o.dst (.slice a' (m + 1) c')) w') :
    wpList P ops Q (o :: rest) a (w.alloc (.cells #[.int .u64 y] 28)) := by
  obtain ⟨i0, hi, hz0, hz1, hz2⟩ := info_parts info
  have hb : Below w.heap.size w (w.alloc (.cells #[.int .u64 y] 28)) := (Below.refl _ _).alloc (Nat.le_refl _) _
  have hown : (w.alloc (.cells #[.int .u64 y] 28)).ownsRow w.heap.size 28 1 (.slice (some ⟨w.heap.size, 0, none⟩) 1 1) 1 [.int .u64 y] :=
    ⟨rfl, Or.inr ⟨_, 1, #[.int .u64 y], rfl, Nat.le_refl _, heap_alloc_new w _, Nat.le_refl _, by unfold maxLen; omega, rfl, rfl⟩⟩
  have hbd : ∀ z ∈ y :: xs, 0 ≤ z ∧ z ≤ 18446744073709551615 := by
    intro z hz
    rcases List.mem_cons.1 hz with rfl | hz
    · exact ⟨hy0, hy1⟩
    · exact hR.bd z hz
  have hl := hR.len
  cases a0 with
  | none =>
    have hc := hR.nil rfl
    have hcap := hR.cap
    obtain rfl : m = 0 := by omega
    subst hc
    obtain rfl : xs = [] := List.eq_nil_of_length_eq_zero hl
    refine wpList_append_own_none hgd s x T ho w.heap.size 28 i0 1 hT hi _ 1 _ hs hown hx ?_
    obtain ⟨a', c', e, hr, hx⟩ := Rd.own (xs := [y]) hown hbd
    rw [e]
    exact h a' c' _ hr hx hb
  | some ad =>
    refine wpList_append_own _ hgd s x T ho w.heap.size 28 i0 (.int .u64 0) 1 8 hT hi hz0 hz1 hz2 rfl (by decide) _ 1 _ hs hown ad m c (xs.map (Value.int .u64)) hx (by rw [List.length_map, hl, Nat.mul_one]) ?_ ?_ (by unfold maxLen; omega) (by omega) (by simp) ?_
    · intro j u hj
      rw [List.getElem?_map] at hj
      have hjl : j < xs.length := by
        rcases Nat.lt_or_ge j xs.length with h' | h'
        · exact h'
        · rw [List.getElem?_eq_none h'] at hj; cases hj
      rw [getD_some hjl] at hj
      simp only [Option.map_some, Option.some.injEq] at hj
      rw [← hj]
      exact (hR.below hb).cell ad rfl j (by omega)
    · intro u hu
      obtain ⟨z, _, rfl⟩ := List.mem_map.1 hu
      rfl
    · intro v' w' hown' hgrow _
      rw [Nat.add_comm] at hown'
      obtain ⟨a', c', rfl, hr, hx⟩ := Rd.own (xs := y :: xs) hown' hbd
      refine h a' c' w' hr hx (hb.grown hgrow (by simp) (fun k hk => ?_))
      simp [Value.ownBlock] at hk
      omega
theorem wpList_appR {P : Program} {T : TypeId} (hT : P.underlying T = some (.slice 28)) (info : (P.info? 28).map (fun i => (i.zero, i.size, i.bytes)) = some (some (.int .u64 0), 1, 8))
    (w : World) {ops : Array Oper} {rest : List Oper} {o : Oper} {a : Act} {Q : Exit → Act → World → Prop} (hgd : o.guard = none) (s x : Operand)
    (ho : o.op = .call { callee := .builtin .append, args := #[s, x], argTypes := #[T, T] }) (y : Int) (hy0 : 0 ≤ y) (hy1 : y ≤ 18446744073709551615)
    (a0 : Option Addr) (m c : Nat) (xs : List Int) (hR : Rd w a0 m c xs) (hs : a.eval s = .slice (some ⟨w.heap.size, 0, none⟩) 1 1) (hx : a.eval x = .slice a0 m c) (hm : m ≤ 1000)
    (h : ∀ a' c' w', Rd w' a' (m + 1) c' (y :: xs) → Below w.heap.size w w' → wpList P ops Q rest (a.put o.dst (.slice a' (m + 1) c')) w') :
    wpList P ops Q (o :: rest) a (w.alloc (.cells #[.int .u64 y] 28)) :=
  wpList_appRB hT info w hgd s x ho y hy0 hy1 a0 m c xs hR hs hx hm fun a' c' w' h1 _ h2 => h a' c' w' h1 h2

theorem cDealOK (s : Int) (a : Option Addr) (m c : Nat) (xs : List Int) (n : Nat) (w : World) (h : Rd w a m c xs) (hs0 : 0 ≤ s) (hs1 : s ≤ 18446744073709551615) (hm : m ≤ 4) (hn : m < n) (hn9 : n ≤ 9) :
    Calls Try.prog 82 #[.int .u64 s, .slice a m c, .int .i64 n] w fun e w' => ∃ g, e = .returned (.tuple #[.slice (some ⟨g, 0, none⟩) n n, .int .i64 0]) ∧ Rd w' (some ⟨g, 0, none⟩) n n (dl (s :: xs) n) ∧ w.heap.size ≤ g ∧ Below w.heap.size w w' := by
  obtain ⟨i0, hi, hz0, hz1, hz2⟩ := info_parts info28
  have hlen := h.len
  go_enter Try.func82, Try.ntmps82
  go_wp2_with (first | (at_builtin; refine wpList_appR Try.underlying23 info28 _ rfl _ _ rfl s hs0 hs1 a m c xs h rfl rfl (by omega) ?_; intro a1 c1 w1 hr1 hb1) | (at_make; refine wpList_make_full _ rfl _ _ 23 rfl w1.heap.size 28 i0 (.int .u64 0) 1 Try.underlying23 hi hz0 hz1 .i64 .i64 _ _ n rfl rfl (by omega) (by omega) (by rw [hz2]; omega) (by unfold maxLen; omega) (Nat.le_refl _) ?_; intro w2 hown hgrow))
  have hs1 := hb1.size
  have hB2 : Blk w2 w1.heap.size (fil (dlf (s :: xs)) n 0) := by rw [← fil_zero]; exact Blk.made hown
  have hb2 : Below w1.heap.size w1 w2 := (Below.refl _ _).grown hgrow (Nat.le_refl _) (by simp)
  have hb12 : Below w.heap.size w w2 := hb1.trans (hb2.mono hs1)
  clear hown hgrow
  go_loopw [32] (fun i wr => ∃ k : Nat, k ≤ n ∧ i = .int .i64 k ∧ Blk wr w1.heap.size (fil (dlf (s :: xs)) n k) ∧ Below w1.heap.size w1 wr ∧ Below w.heap.size w wr) (fun i _ => n - (intOf i).toNat)
  case atStart => exact ⟨0, Nat.zero_le _, rfl, hB2, hb2, hb12⟩
  case round =>
    clear hB2 hb2 hb12
    obtain ⟨k, hk, rfl, hblk, hbe1, hbel⟩ := hrel
    by_cases hlt : k < n
    · have hr := hr1.below hbe1
      have HF : Hid (nm (ev (s :: xs) ((k : Int) + 1)) = dlf (s :: xs) k) := rfl
      go_wp2_with fail
      refine (cEvalOK _ _ _ _ _ _ hr (by omega) (by omega) (by omega)).mono ?_
      rintro e w3 ⟨rfl, hb3⟩
      rw [HF.out]
      have hblk3 := hblk.below hb3 hblk.lt
      have hcell := hblk3.cell (i := k) (by rw [fil_len]; exact hlt)
      have hfz := hblk3.frozen k
      have hlt3 := hblk3.lt
      have hblk4 := hblk3.set k (dlf (s :: xs) k)
      rw [fil_set rfl] at hblk4
      have hbe3 := hbe1.trans (hb3.mono hbe1.size)
      have hbel3 := hbel.trans (hb3.mono hbel.size)
      have Hb4 : Hid (Below w1.heap.size w1 (w3.setCell ⟨w1.heap.size, k, none⟩ (.int .u64 (dlf (s :: xs) k)))) := hbe3.setCell (Nat.le_refl _) _
      have Hb5 : Hid (Below w.heap.size w (w3.setCell ⟨w1.heap.size, k, none⟩ (.int .u64 (dlf (s :: xs) k)))) := hbel3.setCell hs1 _
      clear hbe1 hbel hb3 hblk hblk3 hbe3 hbel3 hr
      go_wp2
      go_roundw
      case rel => exact ⟨k + 1, by omega, by go_num, hblk4, Hb4.out, Hb5.out⟩
      case measure => simp [intOf]; omega
    · have hkn : k = n := by omega
      subst hkn
      have hr : Rd wr (some ⟨w1.heap.size, 0, none⟩) k k (dl (s :: xs) k) := by
        rw [fil_full] at hblk
        exact Blk.whole hblk k (dl_len _ _).symm (by unfold maxLen; omega) (bd_u64 (dl_bd _ _))
      go_wp2
      go_ret2
      exact ⟨_, rfl, hr, hs1, hbel⟩
theorem rDealtO (s : Int) (a : Option Addr) (m c : Nat) (xs : List Int) (n : Nat) (w : World) (h : Rd w a m c xs) (hs0 : 0 ≤ s) (hs1 : s ≤ 18446744073709551615) (hm : m ≤ 4) (hn9 : n ≤ 9) :
    Calls Try.prog 62 #[.int .u64 s, .slice a m c, .int .i64 n] w fun e w' => ∃ v, e = .returned v ∧ w'.ownsRow w.heap.size 28 1 v n ((dl (s :: xs) n).map (Value.int .u64)) ∧ Below w.heap.size w w' := by
  go_enter Try.func62, Try.ntmps62
  go_wp2_with (at_builtin; refine wpList_appR Try.underlying23 info28 _ rfl _ _ rfl s hs0 hs1 a m c xs h rfl rfl (by omega) ?_; intro a1 c1 w1 hr1 hb1)
  have hs1 := hb1.size
  go_loopw [8, 9] (fun v i wr => ∃ k : Nat, k ≤ n ∧ i = .int .i64 (k + 1) ∧ wr.ownsRow w1.heap.size 28 1 v k ((dl (s :: xs) k).map (Value.int .u64)) ∧ Below w1.heap.size w1 wr) (fun _ i _ => n + 1 - (intOf i).toNat)
  case atStart => exact ⟨0, Nat.zero_le _, rfl, World.ownsRow_nil _ _ _ _, Below.refl _ _⟩
  case round =>
    obtain ⟨k, hk, rfl, hown, hbel⟩ := hrel
    have hs2 := hbel.size
    by_cases hlt : k < n
    · have HF : Hid (nm (ev (s :: xs) ((k : Int) + 1)) = dlf (s :: xs) k) := rfl
      go_wp2_with fail
      refine (rEval _ _ _ _ _ _ (hr1.below hbel) (by omega) (by omega) (by omega)).mono ?_
      rintro e w3 ⟨rfl, hw⟩
      have hw := hw.symm
      subst hw
      rw [HF.out]
      go_wp2_with (at_builtin; refine wpList_app1 Try.underlying23 info28 _ rfl _ _ rfl w1.heap.size _ _ _ rfl hown _ rfl (by omega) (by omega) ?_; intro v' w7 hown7 hbel7; rw [dl_snoc] at hown7)
      have hbel8 := hbel.trans hbel7
      go_roundw
      case rel => exact ⟨k + 1, by omega, by go_num, hown7, hbel8⟩
      case measure => simp [intOf]; omega
    · have hkn : k = n := by omega
      subst hkn
      go_wp2
      go_ret
      exact ⟨_, rfl, own_base hown hs1, hb1.trans (hbel.mono hs1)⟩
/-- A row that a list's text lays. -/
theorem Blk.lit1 (w : World) (x : Int) : Blk (w.alloc (.cells #[.int .u64 x] 28)) w.heap.size [x] := heap_alloc_new w _
theorem Blk.lit2 (w : World) (x y : Int) : Blk (w.alloc (.cells #[.int .u64 x, .int .u64 y] 28)) w.heap.size [x, y] := heap_alloc_new w _
theorem nil_rd' (w : World) : Rd w none 0 0 [] := ⟨rfl, Nat.le_refl _, Nat.zero_le _, by simp, fun _ => rfl, by simp⟩
theorem nrm_nil {xs : List Int} {n : Nat} (hl : xs.length = n) (h : tl (nz xs) n = 0) (x : Int) : nm (ev xs x) = 0 := by
  have h1 : (nrm xs).length = 0 := by rw [nrm_len, hl, h]
  rw [← nrm_ev, List.eq_nil_of_length_eq_zero h1]
  rfl

/-- The product, whatever is handed in. -/
theorem rProd (a : Option Addr) (n c : Nat) (xs : List Int) (b : Option Addr) (m d : Nat) (ys : List Int) (w : World) (h : Rd w a n c xs) (g : Rd w b m d ys) (hn : n ≤ 1000) (hm : m ≤ 1000) :
    Calls Try.prog 95 #[.slice a n c, .slice b m d] w fun e w' => ∃ p a' c', e = .returned (.slice a' p.length c') ∧ Rd w' a' p.length c' p ∧ p.length ≤ n + m - 1 ∧ (∀ x, nm (ev p x) = nm (ev xs x * ev ys x)) ∧ Below w.heap.size w w' := by
  have hn1 := tl_le (nz xs) n
  have hm1 := tl_le (nz ys) m
  by_cases hz : tl (nz xs) n = 0 ∨ tl (nz ys) m = 0
  · refine (rProduct0 _ _ _ _ _ _ _ _ _ h g hn hm hz).mono ?_
    rintro e w' ⟨rfl, hb⟩
    refine ⟨[], none, 0, rfl, nil_rd' _, Nat.zero_le _, fun x => ?_, hb⟩
    rcases hz with hz | hz
    · rw [nm_mul_congr (c := 0) (nrm_nil h.len hz x) rfl, Int.zero_mul]; rfl
    · rw [nm_mul_congr (d := 0) rfl (nrm_nil g.len hz x), Int.mul_zero]; rfl
  · refine (rProduct1 _ _ _ _ _ _ _ _ _ h g hn hm (by omega) (by omega)).mono ?_
    rintro e w' ⟨a', c', rfl, hr, hb, _⟩
    have hl := hr.len
    refine ⟨cvl (nrm xs) (nrm ys), a', c', by rw [hl], by rw [hl]; exact hr, by rw [hl]; omega, fun x => ?_, hb⟩
    rw [cvl_ev]
    exact nm_mul_congr (nrm_ev _ _) (nrm_ev _ _)

/-- What the inner round keeps: the value at its own share, 0 at those that came. -/
structure LgI (l : List (Int × Int)) (i m : Nat) (q : List Int) : Prop where
  le : q.length ≤ if i < m then m else m + 1
  own : nm (ev q (l.getD i (0, 0)).1) = nm (l.getD i (0, 0)).2
  zero : ∀ j, j < m → j ≠ i → nm (ev q (l.getD j (0, 0)).1) = 0
theorem lg_start (l : List (Int × Int)) (i : Nat) : LgI l i 0 [(l.getD i (0, 0)).2] :=
  ⟨by simp, by rw [ev, ev, Int.mul_zero, Int.add_zero], fun j hj => by omega⟩
theorem lg_skip {l : List (Int × Int)} {i : Nat} {q : List Int} (h : LgI l i i q) : LgI l i (i + 1) q :=
  ⟨by have := h.le; simp at this ⊢; omega, h.own, fun j hj hji => h.zero j (by omega) hji⟩
theorem lg_step {l : List (Int × Int)} {n i m : Nat} {q p : List Int} {x z u : Int} (ho : okk l n) (hi : i < n) (hm : m < n) (h : LgI l i m q) (hne : m ≠ i) (hx : (l.getD i (0, 0)).1 = x) (hz : (l.getD m (0, 0)).1 = z)
    (hu : u = iv (nm (x + nm (-z)))) (hl : p.length ≤ q.length + 2 - 1) (hp : ∀ y, nm (ev p y) = nm (ev q y * ev [nm (nm (-z) * u), u] y)) : LgI l i (m + 1) p := by
  have hpp : ∀ y, nm (ev p y) = nm (ev q y * ((y - z) * u)) := fun y => by
    rw [hp]
    refine nm_mul_congr rfl ?_
    rw [ev_pair, nm_addl, ← nm_addl, nm_mull, nm_addl, Int.sub_mul, Int.neg_mul]
    congr 1; omega
  refine ⟨?_, ?_, ?_⟩
  · have := h.le
    split at this <;> split <;> omega
  · rw [hpp, hx]
    have h1 : nm ((x - z) * u) = 1 := by
      have e : nm (x + nm (-z)) = nm (x - z) := by rw [nm_addr]; congr 1
      rw [hu, iv_nm, ← nm_mull, ← e, nm_mull]
      have h2 : nm (x + nm (-z)) ≠ 0 := by rw [e, ← hx, ← hz]; exact ats_apart ho hi hm (fun e => hne e.symm)
      rw [mul_iv h2]
    rw [nm_mul_congr (c := ev q x) (d := 1) rfl (by rw [h1]; rfl), Int.mul_one, ← hx]
    exact h.own
  · intro j hj hji
    rw [hpp]
    by_cases e : j = m
    · subst e
      rw [hz, Int.sub_self, Int.zero_mul, Int.mul_zero]; rfl
    · rw [nm_mul_congr (c := 0) (h.zero j (by omega) hji) rfl, Int.zero_mul]; rfl

/-- What the outer round keeps: the values of the shares that came, 0 at the others. -/
structure LoI (l : List (Int × Int)) (n k : Nat) (p : List Int) : Prop where
  nml : Nml p
  le : p.length ≤ n
  val : ∀ j, j < n → nm (ev p (l.getD j (0, 0)).1) = if j < k then nm (l.getD j (0, 0)).2 else 0
theorem lo_start (l : List (Int × Int)) (n : Nat) : LoI l n 0 [] := ⟨⟨fun x hx => (by cases hx), fun h => (by simp at h)⟩, Nat.zero_le _, fun j _ => by rw [if_neg (by omega)]; rfl⟩
theorem lo_step {l : List (Int × Int)} {n k : Nat} {p q : List Int} (h : LoI l n k p) (hk : k < n) (hq : LgI l k n q) : LoI l n (k + 1) (nrm (sml p q)) := by
  have hql : q.length ≤ n := by have := hq.le; rw [if_pos hk] at this; exact this
  refine ⟨nrm_Nml _, ?_, fun j hj => ?_⟩
  · have := nrm_le (sml p q)
    rw [sml_len] at this
    have := h.le
    omega
  · rw [nrm_ev, sml_ev]
    by_cases e : j = k
    · subst e
      have h1 := h.val j hj
      rw [if_neg (by omega)] at h1
      rw [if_pos (by omega), nm_add_congr (c := 0) (d := (l.getD j (0, 0)).2) h1 hq.own, Int.zero_add]
    · have h1 := h.val j hj
      rw [nm_add_congr (c := ev p (l.getD j (0, 0)).1) (d := 0) rfl (hq.zero j hj e), Int.add_zero, h1]
      by_cases h2 : j < k
      · rw [if_pos h2, if_pos (by omega)]
      · rw [if_neg h2, if_neg (by omega)]

theorem rThroughO (a : Option Addr) (n c : Nat) (l : List (Int × Int)) (w : World) (h : RdS w a n c l) (hn : n ≤ 40) (ho : okk l n) :
    Calls Try.prog 76 #[.slice a n c] w fun e w' => ∃ p a' c', e = .returned (.slice a' p.length c') ∧ w'.ownsRow w.heap.size 28 1 (.slice a' p.length c') p.length (p.map (Value.int .u64)) ∧ LoI l n n p ∧ Below w.heap.size w w' := by
  have HO : Hid (okk l n) := ho
  clear ho
  have hlen := h.len
  go_enter Try.func76, Try.ntmps76
  go_wp2
  go_loopw [3, 4] (fun v i wr => ∃ (k : Nat) (p : List Int) (ap : Option Addr) (N cp : Nat), k ≤ n ∧ i = .int .i64 k ∧ v = .slice ap N cp ∧ wr.ownsRow w.heap.size 28 1 (.slice ap N cp) N (p.map (Value.int .u64)) ∧ Hid (LoI l n k p) ∧ Below w.heap.size w wr) (fun _ i _ => n - (intOf i).toNat)
  case atStart => exact ⟨0, [], none, 0, 0, Nat.zero_le _, rfl, rfl, World.ownsRow_nil _ _ _ _, lo_start l n, Below.refl _ _⟩
  case round =>
    obtain ⟨k, p, ap, N, cp, hk, rfl, rfl, hop, HP, hbel⟩ := hrel
    have hrp : Rd wr ap N cp p := by
      obtain ⟨a2, c2, e2, hr, _⟩ := Rd.own hop (bd_u64 HP.out.nml.bd)
      simp only [Value.slice.injEq, true_and] at e2
      obtain ⟨rfl, rfl⟩ := e2
      exact hr
    obtain ⟨wo, hwo⟩ : ∃ wo, wo = wr := ⟨_, rfl⟩
    subst hwo
    have hs1 := hbel.size
    have hNp := hrp.len
    have hNn : N ≤ n := by have := HP.out.le; omega
    by_cases hlt : k < n
    · obtain ⟨b, o, x, y, rfl, hbb, HX, HY, hx0, hx1, hy0, hy1, hcx, hcy⟩ := (h.below hbel).one hlt
      have hxo := (HO.out k hlt).1
      rw [HX.out] at hxo
      have hxo1 := hxo.1
      have hxo2 := hxo.2
      have hbA : Below wo.heap.size wo (wo.alloc (.cells #[.int .u64 y] 28)) := (Below.refl _ _).alloc (Nat.le_refl _) _
      have hlA := Blk.lit1 wo y
      have rA : Rd (wo.alloc (.cells #[.int .u64 y] 28)) (some ⟨wo.heap.size, 0, none⟩) 1 1 [y] := hlA.whole 1 rfl (by unfold maxLen; omega) (fun u hu => by rw [List.mem_singleton.1 hu]; exact ⟨hy0, hy1⟩)
      have HS : Hid (LgI l k 0 [y]) := by have := lg_start l k; rw [HY.out] at this; exact this
      go_wp2
      go_loopw [5, 6] (fun v i wr => ∃ (m : Nat) (q : List Int) (aq : Option Addr) (M cq : Nat), m ≤ n ∧ i = .int .i64 m ∧ v = .slice aq M cq ∧ Rd wr aq M cq q ∧ Hid (LgI l k m q) ∧ Below wo.heap.size wo wr) (fun _ i _ => n - (intOf i).toNat)
      case atStart => exact ⟨0, _, _, _, _, Nat.zero_le _, rfl, rfl, rA, HS, hbA⟩
      case round =>
        clear hbA hlA rA HS
        obtain ⟨m, q, aq, M, cq, hm, rfl, rfl, hrq, HQ, hbq⟩ := hrel
        have hbw : Below w.heap.size w wr := hbel.trans (hbq.mono hs1)
        have hMq := hrq.len
        have hMn : M ≤ n + 1 := by have := HQ.out.le; split at this <;> omega
        by_cases hmn : m < n
        · by_cases hmk : m = k
          · subst hmk
            have HQ2 : Hid (LgI l m (m + 1) q) := lg_skip HQ.out
            go_wp2
            go_roundw
            case rel => exact ⟨m + 1, q, aq, M, cq, by omega, by go_num, rfl, hrq, HQ2, hbq⟩
            case measure => simp [intOf]; omega
          · have hmb : ((m : Int) == (k : Int)) = false := by rw [beq_eq_false_iff_ne]; omega
            obtain ⟨b', o', z, y', e', _, HZ, _, hz0, hz1, _, _, hcz, _⟩ := (h.below hbw).one hmn
            simp only [Option.some.injEq, Addr.mk.injEq, and_true] at e'
            obtain ⟨rfl, rfl⟩ := e'
            obtain ⟨b'', o'', x'', y'', e'', _, HX'', _, _, _, _, _, hcx'', _⟩ := (h.below hbw).one hlt
            simp only [Option.some.injEq, Addr.mk.injEq, and_true] at e''
            obtain ⟨rfl, rfl⟩ := e''
            have e3 : x'' = x := HX''.out.symm.trans HX.out
            subst e3
            have hzo := (HO.out m hmn).1
            rw [HZ.out] at hzo
            have hzo1 := hzo.1
            have hzo2 := hzo.2
            have hnz := nm_bd (-z)
            have hnd := nm_bd (x'' + nm (-z))
            have HD : Hid (nm (nm (x'' + nm (-z))) ≠ 0) := by
              have := ats_apart HO.out hlt hmn (fun e => hmk e.symm)
              rw [HX.out, HZ.out] at this
              unfold Hid
              rw [nm_nm, nm_addr]
              exact this
            obtain ⟨u, HU⟩ : ∃ u, Hid (u = iv (nm (x'' + nm (-z)))) := ⟨_, rfl⟩
            have hub : 0 ≤ u ∧ u ≤ 2147483646 := by rw [HU.out]; exact iv_bd _
            have hnu := nm_bd (nm (-z) * u)
            go_wp2
            go_region
            have hbd := hbq.drew
            have hbwd := hbw.drew
            have hrqd := hrq.drew
            have hbB : Below wr.drew.heap.size wr.drew (wr.drew.alloc (.cells #[.int .u64 (nm (nm (-z) * u)), .int .u64 u] 28)) := (Below.refl _ _).alloc (Nat.le_refl _) _
            have hlB := Blk.lit2 wr.drew (nm (nm (-z) * u)) u
            generalize wr.drew = wd at *
            go_wp2_with (first | (go_at_call 94; refine (rNeg _ _ (by omega) (by omega)).mono ?_; rintro e w3 ⟨rfl, hw⟩; have hw := hw.symm; subst hw) | (go_at_call 46; refine (rAdd _ _ _ (by omega) (by omega) (by omega) (by omega)).mono ?_; rintro e w3 ⟨rfl, hw⟩; have hw := hw.symm; subst hw) | (go_at_call 93; refine (rInv _ _ (by omega) (by omega) HD.out).mono ?_; rintro e w3 ⟨he, hw⟩; have hw := hw.symm; subst hw; rw [← HU.out] at he; subst he) | (go_at_call 47; refine (rMul _ _ _ (by omega) (by omega) (by omega) (by omega)).mono ?_; rintro e w3 ⟨rfl, hw⟩; have hw := hw.symm; subst hw) | fail)
            have rB := hlB.whole 2 rfl (by unfold maxLen; omega) (by
              intro t ht
              simp only [List.mem_cons, List.not_mem_nil, or_false] at ht
              rcases ht with rfl | rfl <;> omega)
            have rqB := hrqd.below hbB
            have hbel5 := hbd.trans (hbB.mono hbd.size)
            refine (rProd _ _ _ _ _ _ _ _ _ rqB rB (by omega) (by omega)).mono ?_
            rintro e w6 ⟨q', a6, c6, rfl, hr6, hl6, hv6, hb6⟩
            have HQ2 : Hid (LgI l k (m + 1) q') := lg_step HO.out hlt hmn HQ.out hmk HX.out HZ.out HU.out (by omega) hv6
            have hbel6 := hbel5.trans (hb6.mono hbel5.size)
            obtain ⟨rl, hrl⟩ : ∃ rl, rl = q'.length := ⟨_, rfl⟩
            rw [← hrl] at hr6 ⊢
            clear hrl hb6 hv6 hbel5 rqB rB hlB hbB hrqd hbwd hbd hl6
            go_wp2
            go_roundw
            case rel => exact ⟨m + 1, q', a6, rl, c6, by omega, by go_num, rfl, hr6, HQ2, hbel6⟩
            case measure => simp [intOf]; omega
        · have hmn' : m = n := by omega
          subst hmn'
          have HP2 : Hid (LoI l m (k + 1) (nrm (sml p q))) := lo_step HP.out hlt HQ.out
          go_wp2_with fail
          refine (rSumO _ _ _ _ _ _ _ _ _ (hrp.below hbq) hrq (by omega) (by omega)).mono ?_
          rintro e w5 ⟨a5, c5, rfl, hr5, hb5⟩
          have hr5 := own_base hr5 hbw.size
          have hb6 := hbw.trans (hb5.mono hbw.size)
          generalize nrm (sml p q) = R at *
          obtain ⟨rl, hrl⟩ : ∃ rl, rl = R.length := ⟨_, rfl⟩
          rw [← hrl] at hr5 ⊢
          clear hrl hb5
          go_wp2
          go_roundw
          case rel => exact ⟨k + 1, R, a5, rl, c5, by omega, by go_num, rfl, hr5, HP2, hb6⟩
          case measure => simp [intOf]; omega
    · have hkn : k = n := by omega
      subst hkn
      go_wp2
      go_ret
      refine ⟨p, ap, cp, ?_, ?_, HP.out, hbel⟩
      · rw [hNp]; rfl
      · rw [hNp]; exact hop
theorem rThrough (a : Option Addr) (n c : Nat) (l : List (Int × Int)) (w : World) (h : RdS w a n c l) (hn : n ≤ 40) (ho : okk l n) :
    Calls Try.prog 76 #[.slice a n c] w fun e w' => ∃ p a' c', e = .returned (.slice a' p.length c') ∧ Rd w' a' p.length c' p ∧ LoI l n n p ∧ Below w.heap.size w w' := by
  refine (rThroughO _ _ _ _ _ h hn ho).mono ?_
  rintro e w' ⟨p, a', c', rfl, hown, hL, hb⟩
  obtain ⟨a2, c2, e2, hr, _⟩ := Rd.own hown (bd_u64 hL.nml.bd)
  simp only [Value.slice.injEq, true_and] at e2
  obtain ⟨rfl, rfl⟩ := e2
  exact ⟨p, a', c', rfl, hr, hL, hb⟩
theorem neq_bool {x y : Int} (h : x ≠ y) : (x != y) = true := by rw [bne_iff_ne]; exact h

theorem cWeight (a : Option Addr) (n c : Nat) (ts : List Int) (i : Nat) (w : World) (h : RdI w a n c ts) (hd : dis (fi ts) n) (hi : i < n) :
    Calls Try.prog 102 #[.int .i64 (ts.getD i 0), .slice a n c] w fun e w' => e = .returned (.int .u64 (wt ts n i)) ∧ w' = w := by
  have HD : Hid (dis (fi ts) n) := hd
  have hn9 := dis_nine hd
  obtain ⟨T, HT⟩ : ∃ T, Hid (ts.getD i 0 = T) := ⟨_, rfl⟩
  have hT1 := (hd i hi).1
  unfold fi at hT1
  rw [HT.out] at hT1 ⊢
  have hT2 := hT1.2
  have hT1 := hT1.1
  clear hd
  go_enter Try.func102, Try.ntmps102
  go_wp2
  go_loop [5, 6, 13] (fun u v q => ∃ (k : Nat) (A B : Int), k ≤ n ∧ q = .int .i64 k ∧ u = .int .u64 A ∧ v = .int .u64 B ∧ 0 ≤ A ∧ A ≤ 2147483646 ∧ 0 ≤ B ∧ B ≤ 2147483646 ∧ Hid (A = nm (pr ts T 0 k)) ∧ Hid (B = nm (pr ts T T k))) (fun _ _ q => n - (intOf q).toNat)
  case atStart => exact ⟨0, 1, 1, Nat.zero_le _, rfl, rfl, rfl, by omega, by omega, by omega, by omega, by rw [pr]; rfl, by rw [pr]; rfl⟩
  case round =>
    obtain ⟨k, A, B, hk, rfl, rfl, rfl, hA0, hA1, hB0, hB1, HA, HB⟩ := hrel
    by_cases hlt : k < n
    · obtain ⟨b, o, x, rfl, hbb, HX, hx0, hx1, hcx⟩ := h.one hlt
      have hx := (HD.out k hlt).1
      unfold fi at hx
      rw [HX.out] at hx
      have hx9 := hx.2
      have hx1 := hx.1
      clear hx
      by_cases hxT : x = T
      · have hb : (x != T) = false := by rw [hxT]; simp
        have HA2 : Hid (A = nm (pr ts T 0 (k + 1))) := by unfold Hid; rw [pr_skip (by rw [HX.out]; exact hxT)]; exact HA.out
        have HB2 : Hid (B = nm (pr ts T T (k + 1))) := by unfold Hid; rw [pr_skip (by rw [HX.out]; exact hxT)]; exact HB.out
        clear hxT
        go_wp2
        go_round
        case rel => exact ⟨k + 1, A, B, by omega, by go_num, rfl, rfl, hA0, hA1, hB0, hB1, HA2, HB2⟩
        case measure => simp [intOf]; omega
      · have hb : (x != T) = true := neq_bool hxT
        have HA2 : Hid (nm (A * x) = nm (pr ts T 0 (k + 1))) := by
          unfold Hid; rw [pr_take (by rw [HX.out]; exact hxT), HX.out, HA.out, nm_mull, Int.sub_zero]
        have HB2 : Hid (nm (B * nm (x - T)) = nm (pr ts T T (k + 1))) := by
          unfold Hid; rw [pr_take (by rw [HX.out]; exact hxT), HX.out, HB.out, nm_mull, nm_mulr]
        have n1 := nm_bd (A * x)
        have n2 := nm_bd (x - T)
        have n3 := nm_bd (B * nm (x - T))
        clear hxT
        go_wp2_with (first | (go_at_call 61; refine (fMul _ _ _ (by omega) (by omega) (by omega) (by omega)).mono ?_; rintro e w3 ⟨rfl, hw⟩; have hw := hw.symm; subst hw) | (go_at_call 59; refine (fSub _ _ _ (by omega) (by omega) (by omega) (by omega)).mono ?_; rintro e w3 ⟨rfl, hw⟩; have hw := hw.symm; subst hw))
        go_round
        case rel => exact ⟨k + 1, _, _, by omega, by go_num, rfl, rfl, n1.1, n1.2, n3.1, n3.2, HA2, HB2⟩
        case measure => simp [intOf]; omega
    · have hkn : k = n := by omega
      subst hkn
      have HW : Hid (nm (A * iv B) = wt ts k i) := by unfold Hid wt; rw [HT.out, HA.out, HB.out]
      have HNZ : Hid (nm B ≠ 0) := by
        unfold Hid; rw [HB.out, nm_nm, ← HT.out]; exact pr_own HD.out hi k (Nat.le_refl _)
      have hib := iv_bd B
      have hnb := nm_bd (A * iv B)
      go_wp2_with (first | (go_at_call 98; refine (fInv1 _ _ (by omega) (by omega) HNZ.out).mono ?_; rintro e w3 ⟨rfl, hw⟩; have hw := hw.symm; subst hw) | (go_at_call 61; refine (fMul _ _ _ (by omega) (by omega) (by omega) (by omega)).mono ?_; rintro e w3 ⟨rfl, hw⟩; have hw := hw.symm; subst hw))
      go_ret
      rw [HW.out]
      exact ⟨rfl, rfl⟩

/-- What Weights answers: a list of weights, or ErrForm. -/
def Wts (ts : List Int) (n : Nat) (w : World) (e : Ending) (w' : World) : Prop :=
  ((¬ dis (fi ts) n ∧ e = .returned (.tuple #[.slice none 0 0, .int .i64 5])) ∨ (dis (fi ts) n ∧ ∃ g, e = .returned (.tuple #[.slice (some ⟨g, 0, none⟩) n n, .int .i64 0]) ∧ Rd w' (some ⟨g, 0, none⟩) n n ((List.range n).map (wt ts n)) ∧ w.heap.size ≤ g)) ∧ Below w.heap.size w w'

theorem cWeights1 (a : Option Addr) (n c : Nat) (ts : List Int) (w : World) (h : RdI w a n c ts) (hn0 : 0 < n) :
    Calls Try.prog 83 #[.slice a n c] w fun e w' => Wts ts n w e w' := by
  obtain ⟨i0, hi, hz0, hz1, hz2⟩ := info_parts info28
  have hcap := h.cap
  have hmax := h.max
  unfold maxLen at hmax
  have hnb : ((n : Int) == 0) = false := by rw [beq_eq_false_iff_ne]; omega
  go_enter Try.func83, Try.ntmps83
  go_wp2
  go_loopw [15] (fun i wr => ∃ (k : Nat) (M : List Bool), k ≤ n ∧ i = .int .i64 k ∧ Hid (Mk (fi ts) k M) ∧ BlkB wr w.heap.size M ∧ Below w.heap.size w wr) (fun i _ => n - (intOf i).toNat)
  case atStart => exact ⟨0, _, Nat.zero_le _, rfl, mk_start _, heap_alloc_new w _, (Below.refl _ _).alloc (Nat.le_refl _) _⟩
  case round =>
    obtain ⟨k, M, hk, rfl, HM, hB2, hbel2⟩ := hrel
    have hs1 := hbel2.size
    have hlM := HM.out.len
    by_cases hlt : k < n
    · obtain ⟨b, o, x, rfl, hbb, HX, hx0, hx1, hcx⟩ := (h.below hbel2).one hlt
      go_wp2_with fail
      clear hcx
      by_cases hx : x < 1 ∨ 9 < x
      · have HN : Hid (¬ dis (fi ts) n) := mk_out hlt HX.out hx
        refine (cJoinO _ _ _ hx).mono ?_
        rintro e w' ⟨rfl, hw⟩
        have hw := hw.symm
        subst hw
        clear hx
        go_wp2
        go_ret2
        exact ⟨Or.inl ⟨HN.out, rfl⟩, hbel2⟩
      · obtain ⟨p, rfl⟩ : ∃ p : Nat, x = p := ⟨x.toNat, by omega⟩
        cases hm : M.getD p false with
        | true =>
          have HN : Hid (¬ dis (fi ts) n) := mk_twice HM.out hlt HX.out (by omega) (by omega) hm
          refine (cJoinN _ _ _ _ hB2 hlM (by omega) (by omega) hm).mono ?_
          rintro e w' ⟨rfl, hw⟩
          have hw := hw.symm
          subst hw
          clear hm
          go_wp2
          go_ret2
          exact ⟨Or.inl ⟨HN.out, rfl⟩, hbel2⟩
        | false =>
          have HM2 : Hid (Mk (fi ts) (k + 1) (M.set p true)) := mk_step HM.out HX.out (by omega) (by omega) hm
          refine (cJoinY _ _ _ _ hB2 hlM (by omega) (by omega) hm).mono ?_
          rintro e w' ⟨rfl, rfl⟩
          have hB3 := hB2.set p true
          have hbel3 := below_grown hbel2 (grown_set wr w.heap.size p (.bool true)) (Nat.le_refl _)
          generalize wr.setCell ⟨w.heap.size, p, none⟩ (.bool true) = W3 at *
          clear hm
          go_wp2
          go_roundw
          case rel => exact ⟨k + 1, _, by omega, by go_num, HM2, hB3, hbel3⟩
          case measure => simp [intOf]; omega
    · have hkn : k = n := by omega
      subst hkn
      have HD : Hid (dis (fi ts) k) := HM.out.dis
      have hk9 := dis_nine HD.out
      obtain ⟨wo, hwo⟩ : ∃ wo, wo = wr := ⟨_, rfl⟩
      subst hwo
      clear hB2 hlM HM
      go_wp2_with (at_make; refine wpList_make_full _ rfl _ _ 23 rfl wo.heap.size 28 i0 (.int .u64 0) 1 Try.underlying23 hi hz0 hz1 .i64 .i64 _ _ k rfl rfl (by omega) (by omega) (by rw [hz2]; omega) (by unfold maxLen; omega) (Nat.le_refl _) ?_; intro w2 hown hgrow)
      have hB2 : Blk w2 wo.heap.size (fil (wt ts k) k 0) := by rw [← fil_zero]; exact Blk.made hown
      have hb2 : Below wo.heap.size wo w2 := (Below.refl _ _).grown hgrow (Nat.le_refl _) (by simp)
      have hb12 : Below w.heap.size w w2 := hbel2.trans (hb2.mono hs1)
      clear hown hgrow hb2
      go_loopw [28] (fun i wr => ∃ j : Nat, j ≤ k ∧ i = .int .i64 j ∧ Blk wr wo.heap.size (fil (wt ts k) k j) ∧ Below w.heap.size w wr) (fun i _ => k - (intOf i).toNat)
      case atStart => exact ⟨0, Nat.zero_le _, rfl, hB2, hb12⟩
      case round =>
        clear hB2 hb12
        obtain ⟨j, hj, rfl, hblk, hbel⟩ := hrel
        by_cases hlt2 : j < k
        · have hI := h.below hbel
          obtain ⟨b, o, x, rfl, hbb, HX, hx0, hx1, hcx⟩ := hI.one hlt2
          have hcell := hblk.cell (i := j) (by rw [fil_len]; exact hlt2)
          have hfz := hblk.frozen j
          have hlt3 := hblk.lt
          have hblk4 := hblk.set j (wt ts k j)
          rw [fil_set rfl] at hblk4
          have Hb5 : Hid (Below w.heap.size w (wr.setCell ⟨wo.heap.size, j, none⟩ (.int .u64 (wt ts k j)))) := hbel.setCell hs1 _
          have hcw := cWeight _ _ _ _ j wr hI HD.out hlt2
          rw [HX.out] at hcw
          clear hbel hblk
          go_wp2_with (go_at_call 102; refine hcw.mono ?_; rintro e w3 ⟨rfl, hw⟩; have hw := hw.symm; subst hw; clear hcw)
          go_roundw
          case rel => exact ⟨j + 1, by omega, by go_num, hblk4, Hb5.out⟩
          case measure => simp [intOf]; omega
        · have hjk : j = k := by omega
          subst hjk
          have hr : Rd wr (some ⟨wo.heap.size, 0, none⟩) j j ((List.range j).map (wt ts j)) := by
            rw [fil_full] at hblk
            exact Blk.whole hblk j (by simp) (by unfold maxLen; omega) (bd_u64 (by rw [← fil_full]; exact fil_bd (wt_bd ts j) j j))
          go_wp2
          go_ret2
          exact ⟨Or.inr ⟨HD.out, _, rfl, hr, hs1⟩, hbel⟩
/-- The shares of which party i's number is 1, the others' 0. -/
def swl (ts : List Int) (i m : Nat) : List (Int × Int) := (List.range m).map fun j => (ts.getD j 0, if j = i then 1 else 0)
theorem swl_len (ts : List Int) (i m : Nat) : (swl ts i m).length = m := by simp [swl]
theorem swl_snoc (ts : List Int) (i m : Nat) {x y : Int} (hx : ts.getD m 0 = x) (hy : y = if m = i then 1 else 0) : swl ts i m ++ [(x, y)] = swl ts i (m + 1) := by
  unfold swl
  rw [List.range_succ, List.map_append, hy, ← hx]
  rfl
theorem swl_getD (ts : List Int) (i : Nat) {m j : Nat} (h : j < m) : (swl ts i m).getD j (0, 0) = (ts.getD j 0, if j = i then 1 else 0) := by simp [swl, h]
theorem swl_ok {ts : List Int} {n : Nat} (i : Nat) (hd : dis (fi ts) n) : okk (swl ts i n) n := by
  intro j hj
  rw [swl_getD ts i hj]
  have h1 := (hd j hj).1
  unfold fi at h1
  refine ⟨⟨h1.1, by simp only; omega⟩, fun q hq => ?_⟩
  rw [swl_getD ts i (show q < n by omega)]
  exact (hd j hj).2 q hq
theorem swl_wt {ts : List Int} {n i : Nat} {p : List Int} (hd : dis (fi ts) n) (hi : i < n) (h : LoI (swl ts i n) n n p) : nm (ev p 0) = wt ts n i := by
  refine Wgt.one hd ⟨p, h.le, fun j hj => ?_, rfl⟩ (wt_wgt hd hi)
  have := h.val j hj
  rw [if_pos hj, swl_getD ts i hj] at this
  rw [this]
  split <;> rfl
def wtl (ts : List Int) (n k : Nat) : List Int := (List.range k).map (wt ts n)
theorem wtl_snoc (ts : List Int) (n k : Nat) : wtl ts n k ++ [wt ts n k] = wtl ts n (k + 1) := by simp [wtl, List.range_succ]
theorem wtl_bd (ts : List Int) (n k : Nat) : ∀ x ∈ wtl ts n k, 0 ≤ x ∧ x ≤ 2147483646 := by
  intro x hx
  obtain ⟨i, _, rfl⟩ := List.mem_map.1 hx
  exact wt_bd ts n i

theorem rWeights (a : Option Addr) (n c : Nat) (ts : List Int) (w : World) (h : RdI w a n c ts) (hd : dis (fi ts) n) :
    Calls Try.prog 63 #[.slice a n c] w fun e w' => ∃ a' c', e = .returned (.slice a' n c') ∧ Rd w' a' n c' (wtl ts n n) ∧ Below w.heap.size w w' := by
  have HD : Hid (dis (fi ts) n) := hd
  have hn9 := dis_nine hd
  clear hd
  have hcap := h.cap
  have hmax := h.max
  unfold maxLen at hmax
  go_enter Try.func63, Try.ntmps63
  go_wp2
  go_loopw [3, 4] (fun v i wr => ∃ k : Nat, k ≤ n ∧ i = .int .i64 k ∧ wr.ownsRow w.heap.size 28 1 v k ((wtl ts n k).map (Value.int .u64)) ∧ Below w.heap.size w wr) (fun _ i _ => n - (intOf i).toNat)
  case atStart => exact ⟨0, Nat.zero_le _, rfl, World.ownsRow_nil _ _ _ _, Below.refl _ _⟩
  case round =>
    obtain ⟨k, hk, rfl, hown, hbel⟩ := hrel
    obtain ⟨wo, hwo⟩ : ∃ wo, wo = wr := ⟨_, rfl⟩
    subst hwo
    have hs1 := hbel.size
    by_cases hlt : k < n
    · go_wp2
      go_loopw [5, 6] (fun v i wr => ∃ m : Nat, m ≤ n ∧ i = .int .i64 m ∧ wr.ownsRow wo.heap.size 73 2 v m (shc (swl ts k m)) ∧ Below wo.heap.size wo wr) (fun _ i _ => n - (intOf i).toNat)
      case atStart => exact ⟨0, Nat.zero_le _, rfl, World.ownsRow_nil _ _ _ _, Below.refl _ _⟩
      case round =>
        obtain ⟨m, hm, rfl, hownS, hbm⟩ := hrel
        have hbw := hbel.trans (hbm.mono hs1)
        have hs2 := hbm.size
        by_cases hmn : m < n
        · obtain ⟨b, o, x, rfl, hbb, HX, hx0, hx1, hcx⟩ := (h.below hbw).one hmn
          by_cases hmk : m = k
          · have hmb : ((m : Int) == (k : Int)) = true := by rw [beq_iff_eq]; omega
            have HS : Hid (swl ts k m ++ [(x, 1)] = swl ts k (m + 1)) := swl_snoc ts k m HX.out (by rw [if_pos hmk])
            clear hmk
            go_wp2_with (at_builtin; refine wpList_appS Try.underlying22 infoSh _ rfl _ _ rfl wo.heap.size _ _ _ rfl hownS _ _ rfl (by omega) (by omega) ?_; intro v' w7 hown7 hbel7; rw [HS.out] at hown7; have hbel8 := hbm.trans hbel7; clear hbel7)
            go_roundw
            case rel => exact ⟨m + 1, by omega, by go_num, hown7, hbel8⟩
            case measure => simp [intOf]; omega
          · have hmb : ((m : Int) == (k : Int)) = false := by rw [beq_eq_false_iff_ne]; omega
            have HS : Hid (swl ts k m ++ [(x, 0)] = swl ts k (m + 1)) := swl_snoc ts k m HX.out (by rw [if_neg hmk])
            clear hmk
            go_wp2_with (at_builtin; refine wpList_appS Try.underlying22 infoSh _ rfl _ _ rfl wo.heap.size _ _ _ rfl hownS _ _ rfl (by omega) (by omega) ?_; intro v' w7 hown7 hbel7; rw [HS.out] at hown7; have hbel8 := hbm.trans hbel7; clear hbel7)
            go_roundw
            case rel => exact ⟨m + 1, by omega, by go_num, hown7, hbel8⟩
            case measure => simp [intOf]; omega
        · have hmn' : m = n := by omega
          subst hmn'
          have hlk := swl_len ts k m
          have hbd : ∀ i, i < m → (-9223372036854775808 ≤ ((swl ts k m).getD i (0, 0)).1 ∧ ((swl ts k m).getD i (0, 0)).1 ≤ 9223372036854775807) ∧ 0 ≤ ((swl ts k m).getD i (0, 0)).2 ∧ ((swl ts k m).getD i (0, 0)).2 ≤ 18446744073709551615 := fun i hi => by
            rw [swl_getD ts k hi]
            have h1 := (HD.out i hi).1
            unfold fi at h1
            refine ⟨⟨by simp only; omega, by simp only; omega⟩, ?_⟩
            simp only
            split <;> omega
          obtain ⟨al, cl, rfl, hl⟩ := RdS.own hownS hlk hbd
          have HOK : Hid (okk (swl ts k m) m) := swl_ok k HD.out
          have hown2 := own_below hown hbm
          clear hbd hownS hown
          go_wp2_with fail
          refine (rThrough _ _ _ _ _ hl (by omega) HOK.out).mono ?_
          rintro e w5 ⟨p, ap, cp, rfl, hrp, hLo, hb5⟩
          have HV : Hid (nm (ev p 0) = wt ts m k) := swl_wt HD.out hlt hLo
          have hpl := hLo.le
          obtain ⟨N, hN⟩ : ∃ N, N = p.length := ⟨_, rfl⟩
          rw [← hN] at hrp hpl ⊢
          have hown5 := own_below hown2 hb5
          have hbw5 := hbw.trans (hb5.mono hbw.size)
          have hs5 := hbw5.size
          clear hN hLo hown2 hl hb5 hbw hbm
          go_wp2_with fail
          refine (rEval _ _ _ _ _ _ hrp (by omega) (by omega) (by omega)).mono ?_
          rintro e w6 ⟨rfl, hw⟩
          have hw := hw.symm
          subst hw
          rw [HV.out]
          go_wp2_with (at_builtin; refine wpList_app1 Try.underlying23 info28 _ rfl _ _ rfl w.heap.size _ _ _ rfl hown5 _ rfl (by omega) (by omega) ?_; intro v' w7 hown7 hbel7; rw [wtl_snoc] at hown7; have hbel8 := hbw5.trans hbel7)
          go_roundw
          case rel => exact ⟨k + 1, by omega, by go_num, hown7, hbel8⟩
          case measure => simp [intOf]; omega
    · have hkn : k = n := by omega
      subst hkn
      obtain ⟨a', c', rfl, hr', _⟩ := Rd.own hown (bd_u64 (wtl_bd _ _ _))
      go_wp2
      go_ret
      exact ⟨_, _, rfl, hr', hbel⟩
end
end Go.Proofs.Ytljlioglpaogdab
