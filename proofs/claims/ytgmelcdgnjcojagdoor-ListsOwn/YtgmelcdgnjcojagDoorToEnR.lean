/- shamir.Deal. · What make and copy leave. · slices.Repeat of one number. -/
import Derived.Test.YtgmelcdgnjcojagDoorToTrimC
import Derived.Test.YtgmelcdgnjcojagDoorToFaceC
import Derived.Laws.AppendOwnNone
import Derived.Test.YtgmelcdgnjcojagDoorToPolyM
import Derived.Laws.CopyOwn
import Derived.Test.YtgmelcdgnjcojagDoorToNewtonM
import Derived.Deep.RegionLaw
namespace Go.Proofs.YtgmelcdgnjcojagDoor
open Go.RowKit Crm

/-- A list that is filled from its beginning on. -/
def fil (f : Nat → Int) (n k : Nat) : List Int := (List.range n).map fun i => if i < k then f i else 0
theorem fil_len (f : Nat → Int) (n k : Nat) : (fil f n k).length = n := by simp [fil]
theorem fil_zero (f : Nat → Int) (n : Nat) : List.replicate n 0 = fil f n 0 := by
  refine list_ext (by simp [fil]) fun t ht => ?_
  have : t < n := by simpa using ht
  simp [fil, this]
theorem fil_set {f : Nat → Int} {n k : Nat} {v : Int} (hv : v = f k) : (fil f n k).set k v = fil f n (k + 1) := by
  refine list_ext (by simp [fil]) fun t ht => ?_
  have htn : t < n := by simpa [fil] using ht
  rw [getD_set, fil_len]
  by_cases e : k = t
  · subst e
    rw [if_pos ⟨rfl, htn⟩, hv]
    simp [fil, htn]
  · rw [if_neg (fun h => e h.1)]
    have : (t < k + 1) = (t < k) := by apply propext; omega
    simp [fil, htn, this]
theorem fil_full (f : Nat → Int) (n : Nat) : fil f n n = (List.range n).map f := by
  refine list_ext (by simp [fil]) fun t ht => ?_
  have htn : t < n := by simpa [fil] using ht
  simp [fil, htn]
theorem fil_bd {f : Nat → Int} (hf : ∀ i, 0 ≤ f i ∧ f i ≤ 2147483646) (n k : Nat) : ∀ x ∈ fil f n k, 0 ≤ x ∧ x ≤ 2147483646 := by
  intro x hx
  obtain ⟨i, _, rfl⟩ := List.mem_map.1 hx
  split
  · exact hf i
  · omega

/-- What is dealt. -/
def dlf (C : List Int) (i : Nat) : Int := nm (ev C ((i : Int) + 1))
theorem dlf_bd (C : List Int) (i : Nat) : 0 ≤ dlf C i ∧ dlf C i ≤ 2147483646 := nm_bd _
def dl (C : List Int) (n : Nat) : List Int := (List.range n).map (dlf C)
theorem dl_len (C : List Int) (n : Nat) : (dl C n).length = n := by simp [dl]
theorem dl_bd (C : List Int) (n : Nat) : ∀ x ∈ dl C n, 0 ≤ x ∧ x ≤ 2147483646 := by
  rw [dl, ← fil_full]; exact fil_bd (dlf_bd C) n n
theorem dl_snoc (C : List Int) (n : Nat) : dl C n ++ [dlf C n] = dl C (n + 1) := by simp [dl, List.range_succ]
theorem dl_getD (C : List Int) {n i : Nat} (h : i < n) : (dl C n).getD i 0 = dlf C i := by simp [dl, h]

/-- One number, and a slice behind it; where it lies. -/
theorem wpList_appRB {P : Program} {T : TypeId} (hT : P.underlying T = some (.slice 34)) (info : (P.info? 34).map (fun i => (i.zero, i.size, i.bytes)) = some (some (.int .u64 0), 1, 8))
    (w : World) {ops : Array Oper} {rest : List Oper} {o : Oper} {a : Act} {Q : Exit → Act → World → Prop} (hgd : o.guard = none) (s x : Operand)
    (ho : o.op = .call { callee := .builtin .append, args := #[s, x], argTypes := #[T, T] }) (y : Int) (hy0 : 0 ≤ y) (hy1 : y ≤ 18446744073709551615)
    (a0 : Option Addr) (m c : Nat) (xs : List Int) (hR : Rd w a0 m c xs) (hs : a.eval s = .slice (some ⟨w.heap.size, 0, none⟩) 1 1) (hx : a.eval x = .slice a0 m c) (hm : m ≤ 1000)
    (h : ∀ a' c' w', Rd w' a' (m + 1) c' (y :: xs) → (∀ x, a' = some x → w.heap.size ≤ x.block) → Below w.heap.size w w' → wpList P ops Q rest (a.put o.dst (.slice a' (m + 1) c')) w') :
    wpList P ops Q (o :: rest) a (w.alloc (.cells #[.int .u64 y] 34)) := by
  obtain ⟨i0, hi, hz0, hz1, hz2⟩ := info_parts info
  have hb : Below w.heap.size w (w.alloc (.cells #[.int .u64 y] 34)) := (Below.refl _ _).alloc (Nat.le_refl _) _
  have hown : (w.alloc (.cells #[.int .u64 y] 34)).ownsRow w.heap.size 34 1 (.slice (some ⟨w.heap.size, 0, none⟩) 1 1) 1 [.int .u64 y] :=
    ⟨rfl, Or.inr ⟨_, 1, #[.int .u64 y], rfl, Nat.le_refl _, heap_alloc_new w _, Nat.le_refl _, by unfold maxLen; omega, rfl, rfl⟩⟩
  have hbd : ∀ z ∈ y :: xs, 0 ≤ z ∧ z ≤ 18446744073709551615 := by
    intro z hz
    rcases List.mem_cons.1 hz with rfl | hz
    · exact ⟨hy0, hy1⟩
    · exact hR.bd z hz
  have hl := hR.len
  cases a0 with
  | none =>
    have hc := hR.nil rfl
    have hcap := hR.cap
    obtain rfl : m = 0 := by omega
    subst hc
    obtain rfl : xs = [] := List.eq_nil_of_length_eq_zero hl
    refine wpList_append_own_none hgd s x T ho w.heap.size 34 i0 1 hT hi _ 1 _ hs hown hx ?_
    obtain ⟨a', c', e, hr, hx⟩ := Rd.own (xs := [y]) hown hbd
    rw [e]
    exact h a' c' _ hr hx hb
  | some ad =>
    refine wpList_append_own _ hgd s x T ho w.heap.size 34 i0 (.int .u64 0) 1 8 hT hi hz0 hz1 hz2 rfl (by decide) _ 1 _ hs hown ad m c (xs.map (Value.int .u64)) hx (by rw [List.length_map, hl, Nat.mul_one]) ?_ ?_ (by unfold maxLen; omega) (by omega) (by simp) ?_
    · intro j u hj
      rw [List.getElem?_map] at hj
      have hjl : j < xs.length := by
        rcases Nat.lt_or_ge j xs.length with h' | h'
        · exact h'
        · rw [List.getElem?_eq_none h'] at hj; cases hj
      rw [getD_some hjl] at hj
      simp only [Option.map_some, Option.some.injEq] at hj
      rw [← hj]
      exact (hR.below hb).cell ad rfl j (by omega)
    · intro u hu
      obtain ⟨z, _, rfl⟩ := List.mem_map.1 hu
      rfl
    · intro v' w' hown' hgrow _
      rw [Nat.add_comm] at hown'
      obtain ⟨a', c', rfl, hr, hx⟩ := Rd.own (xs := y :: xs) hown' hbd
      refine h a' c' w' hr hx (hb.grown hgrow (by simp) (fun k hk => ?_))
      simp [Value.ownBlock] at hk
      omega
theorem wpList_appR {P : Program} {T : TypeId} (hT : P.underlying T = some (.slice 34)) (info : (P.info? 34).map (fun i => (i.zero, i.size, i.bytes)) = some (some (.int .u64 0), 1, 8))
    (w : World) {ops : Array Oper} {rest : List Oper} {o : Oper} {a : Act} {Q : Exit → Act → World → Prop} (hgd : o.guard = none) (s x : Operand)
    (ho : o.op = .call { callee := .builtin .append, args := #[s, x], argTypes := #[T, T] }) (y : Int) (hy0 : 0 ≤ y) (hy1 : y ≤ 18446744073709551615)
    (a0 : Option Addr) (m c : Nat) (xs : List Int) (hR : Rd w a0 m c xs) (hs : a.eval s = .slice (some ⟨w.heap.size, 0, none⟩) 1 1) (hx : a.eval x = .slice a0 m c) (hm : m ≤ 1000)
    (h : ∀ a' c' w', Rd w' a' (m + 1) c' (y :: xs) → Below w.heap.size w w' → wpList P ops Q rest (a.put o.dst (.slice a' (m + 1) c')) w') :
    wpList P ops Q (o :: rest) a (w.alloc (.cells #[.int .u64 y] 34)) :=
  wpList_appRB hT info w hgd s x ho y hy0 hy1 a0 m c xs hR hs hx hm fun a' c' w' h1 _ h2 => h a' c' w' h1 h2

set_option maxRecDepth 100000 in
theorem cDealE (s : Int) (a : Option Addr) (m c : Nat) (n : Int) (w : World) (hm : m ≤ 9223372036854775807) (h : 4 < m ∨ n ≤ m ∨ 9 < n) :
    Calls Tryd.prog 13 #[.int .u64 s, .slice a m c, .int .i64 n] w fun e w' => e = .returned (.tuple #[.slice none 0 0, .int .i64 1]) ∧ w' = w := by
  by_cases h1 : 4 < m
  · clear h
    go_enter Tryd.func13, Tryd.ntmps13
    go_wp2
    go_ret2
    exact ⟨rfl, rfl⟩
  · by_cases h2 : n ≤ m
    · clear h
      go_enter Tryd.func13, Tryd.ntmps13
      go_wp2
      go_ret2
      exact ⟨rfl, rfl⟩
    · have h3 : 9 < n := by omega
      clear h
      go_enter Tryd.func13, Tryd.ntmps13
      go_wp2
      go_ret2
      exact ⟨rfl, rfl⟩

set_option maxRecDepth 100000 in
set_option maxHeartbeats 1000000 in
theorem cDealOK (s : Int) (a : Option Addr) (m c : Nat) (xs : List Int) (n : Nat) (w : World) (h : Rd w a m c xs) (hs0 : 0 ≤ s) (hs1 : s ≤ 18446744073709551615) (hm : m ≤ 4) (hn : m < n) (hn9 : n ≤ 9) :
    Calls Tryd.prog 13 #[.int .u64 s, .slice a m c, .int .i64 n] w fun e w' => ∃ g, e = .returned (.tuple #[.slice (some ⟨g, 0, none⟩) n n, .int .i64 0]) ∧ Rd w' (some ⟨g, 0, none⟩) n n (dl (s :: xs) n) ∧ w.heap.size ≤ g ∧ Below w.heap.size w w' := by
  obtain ⟨i0, hi, hz0, hz1, hz2⟩ := info_parts info34
  have hlen := h.len
  go_enter Tryd.func13, Tryd.ntmps13
  go_wp2_with (first | (at_builtin; refine wpList_appR Tryd.underlying22 info34 _ rfl _ _ rfl s hs0 hs1 a m c xs h rfl rfl (by omega) ?_; intro a1 c1 w1 hr1 hb1) | (at_make; refine wpList_make_full _ rfl _ _ 22 rfl w1.heap.size 34 i0 (.int .u64 0) 1 Tryd.underlying22 hi hz0 hz1 .i64 .i64 _ _ n rfl rfl (by omega) (by omega) (by rw [hz2]; omega) (by unfold maxLen; omega) (Nat.le_refl _) ?_; intro w2 hown hgrow))
  have hs1 := hb1.size
  have hB2 : Blk w2 w1.heap.size (fil (dlf (s :: xs)) n 0) := by rw [← fil_zero]; exact Blk.made hown
  have hb2 : Below w1.heap.size w1 w2 := (Below.refl _ _).grown hgrow (Nat.le_refl _) (by simp)
  have hb12 : Below w.heap.size w w2 := hb1.trans (hb2.mono hs1)
  clear hown hgrow
  go_loopw [32] (fun i wr => ∃ k : Nat, k ≤ n ∧ i = .int .i64 k ∧ Blk wr w1.heap.size (fil (dlf (s :: xs)) n k) ∧ Below w1.heap.size w1 wr ∧ Below w.heap.size w wr) (fun i _ => n - (intOf i).toNat)
  case atStart => exact ⟨0, Nat.zero_le _, rfl, hB2, hb2, hb12⟩
  case round =>
    clear hB2 hb2 hb12
    obtain ⟨k, hk, rfl, hblk, hbe1, hbel⟩ := hrel
    by_cases hlt : k < n
    · have hr := hr1.below hbe1
      have HF : Hid (nm (ev (s :: xs) ((k : Int) + 1)) = dlf (s :: xs) k) := rfl
      go_wp2_with fail
      refine (cEvalOK _ _ _ _ _ _ hr (by omega) (by omega) (by omega)).mono ?_
      rintro e w3 ⟨rfl, hb3⟩
      rw [HF.out]
      have hblk3 := hblk.below hb3 hblk.lt
      have hcell := hblk3.cell (i := k) (by rw [fil_len]; exact hlt)
      have hfz := hblk3.frozen k
      have hlt3 := hblk3.lt
      have hblk4 := hblk3.set k (dlf (s :: xs) k)
      rw [fil_set rfl] at hblk4
      have hbe3 := hbe1.trans (hb3.mono hbe1.size)
      have hbel3 := hbel.trans (hb3.mono hbel.size)
      have Hb4 : Hid (Below w1.heap.size w1 (w3.setCell ⟨w1.heap.size, k, none⟩ (.int .u64 (dlf (s :: xs) k)))) := hbe3.setCell (Nat.le_refl _) _
      have Hb5 : Hid (Below w.heap.size w (w3.setCell ⟨w1.heap.size, k, none⟩ (.int .u64 (dlf (s :: xs) k)))) := hbel3.setCell hs1 _
      clear hbe1 hbel hb3 hblk hblk3 hbe3 hbel3 hr
      go_wp2
      go_roundw
      case rel => exact ⟨k + 1, by omega, by go_num, hblk4, Hb4.out, Hb5.out⟩
      case measure => simp [intOf]; omega
    · have hkn : k = n := by omega
      subst hkn
      have hr : Rd wr (some ⟨w1.heap.size, 0, none⟩) k k (dl (s :: xs) k) := by
        rw [fil_full] at hblk
        exact Blk.whole hblk k (dl_len _ _).symm (by unfold maxLen; omega) (bd_u64 (dl_bd _ _))
      go_wp2
      go_ret2
      exact ⟨_, rfl, hr, hs1, hbel⟩
end Go.Proofs.YtgmelcdgnjcojagDoor

namespace Go.Proofs.YtgmelcdgnjcojagDoor
open Go.RowKit

/-- The first k numbers of a row, with noughts where it has none. -/
def padded (xs : List Int) (k : Nat) : List Int := xs.take k ++ List.replicate (k - xs.length) 0
theorem padded_len (xs : List Int) (k : Nat) : (padded xs k).length = k := by unfold padded; simp; omega
theorem padded_bd {xs : List Int} (h : ∀ x ∈ xs, 0 ≤ x ∧ x ≤ 18446744073709551615) (k : Nat) : ∀ x ∈ padded xs k, 0 ≤ x ∧ x ≤ 18446744073709551615 := fun x hx => by
  unfold padded at hx
  rcases List.mem_append.1 hx with h1 | h1
  · exact h x (List.mem_of_mem_take h1)
  · rw [List.eq_of_mem_replicate h1]; omega
theorem padded_splice (xs : List Int) (k : Nat) : Go.splice ((List.replicate k (0 : Int)).map (Value.int .u64)) 0 ((xs.take k).map (Value.int .u64)) = (padded xs k).map (Value.int .u64) := by
  unfold Go.splice padded
  simp
  omega

/-- What copy reads. -/
theorem copy_src {w : World} {a : Option Addr} {n c : Nat} {xs : List Int} (h : Rd w a n c xs) (k : Nat) (hp : 0 < ((xs.take k).map (Value.int .u64)).length) : ∃ ad, a = some ad ∧ ∀ j v, ((xs.take k).map (Value.int .u64))[j]? = some v → w.cell? (ad.add j) = some v := by
  have hl := h.len
  have hn : 0 < n := by simp at hp; omega
  obtain ⟨b, o, rfl, _, hc⟩ := h.at hn
  refine ⟨_, rfl, fun j v hj => ?_⟩
  have hjl := (List.getElem?_eq_some_iff.1 hj).1
  simp at hjl
  have hv : v = .int .u64 (xs.getD j 0) := by
    rw [List.getElem?_map, List.getElem?_take, if_pos (by omega), List.getElem?_eq_getElem (show j < xs.length by omega)] at hj
    rw [List.getD_eq_getElem?_getD, List.getElem?_eq_getElem (show j < xs.length by omega)]
    exact (Option.some.inj hj).symm
  rw [hv, Addr.add_lit]
  exact hc j (by omega)
theorem copy_len {xs : List Int} {n k : Nat} (h : xs.length = n) : ((xs.take k).map (Value.int .u64)).length = Nat.min n k := by
  show _ = min n k
  simp; omega
theorem one_ints (xs : List Int) : ∀ v ∈ xs.map (Value.int .u64), v.oneCell' = true := fun v hv => by obtain ⟨x, _, rfl⟩ := List.mem_map.1 hv; rfl
end Go.Proofs.YtgmelcdgnjcojagDoor

namespace Go.Proofs.YtgmelcdgnjcojagDoor
open Go.RowKit Crm

/-- A row of which the first k are x. -/
def rpl (x : Int) (n k : Nat) : List Int := (List.range n).map fun i => if i < k then x else 0
theorem rpl_len (x : Int) (n k : Nat) : (rpl x n k).length = n := by simp [rpl]
theorem rpl_zero (x : Int) (n : Nat) : List.replicate n (0 : Int) = rpl x n 0 := by
  apply List.ext_getElem?
  intro i
  by_cases hi : i < n
  · simp [rpl, hi]
  · simp [rpl, hi]
theorem rpl_full (x : Int) (n : Nat) : rpl x n n = List.replicate n x := by
  apply List.ext_getElem?
  intro i
  by_cases hi : i < n
  · simp [rpl, hi]
  · simp [rpl, hi]
theorem rpl_splice (x : Int) (n k m : Nat) (h : k + m ≤ n) : Go.splice ((rpl x n k).map (Value.int .u64)) k ((List.replicate m x).map (Value.int .u64)) = (rpl x n (k + m)).map (Value.int .u64) := by
  apply List.ext_getElem?
  intro i
  unfold Go.splice
  rw [List.length_map, List.length_replicate]
  have hl : ((rpl x n k).map (Value.int .u64)).length = n := by rw [List.length_map, rpl_len]
  rcases Nat.lt_or_ge i k with e | e
  · rw [List.getElem?_append_left (by rw [List.length_take, hl]; omega), List.getElem?_take, if_pos e]
    simp [rpl, e, show i < n by omega, show i < k + m by omega]
  · rw [List.getElem?_append_right (by rw [List.length_take, hl]; omega), List.length_take, hl, Nat.min_eq_left (by omega)]
    rcases Nat.lt_or_ge i (k + m) with e2 | e2
    · rw [List.getElem?_append_left (by simp; omega)]
      simp [rpl, show i - k < m by omega, show i < n by omega, e2]
    · rw [List.getElem?_append_right (by simp; omega), List.length_map, List.length_replicate, List.getElem?_drop, show k + m + (i - k - m) = i by omega]
      by_cases hi : i < n
      · simp [rpl, hi, show ¬ i < k by omega, show ¬ i < k + m by omega]
      · simp [rpl, hi]
theorem run_subh {P : Program} {T E : TypeId} (hT : P.underlying T = some (.slice E)) (hE : (P.info? E).map (·.size) = some 1) (a : Option Addr) (n c k : Nat) (hz : a = none → c = 0) (hc : k ≤ c) (W : World) :
    (Instr.sliceAt T (.slice a n c) none (some (.int .i64 (k : Int))) none).run P W = .ok (.slice a k c) W := by
  have he : P.elem T = E := by simp [Program.elem, hT]
  have hT' : P.underlying T = some (.slice (P.elem T)) := by rw [he]; exact hT
  cases hi : P.info? E with
  | none => simp [hi] at hE
  | some i =>
    have hs : i.size = 1 := by simpa [hi] using hE
    rw [run_sliceAt_slice W T _ _ _ _ hT', run_slice_h W T a n c hT' .i64 (k : Int) (by omega) (by omega), he]
    cases a with
    | none => simp [sizeOf, typeInfo, hi, hs, sliced, Result.andThen]
    | some x => simp [sizeOf, typeInfo, hi, hs, sliced, Result.andThen, Addr.add]

set_option maxRecDepth 100000 in
set_option maxHeartbeats 2000000 in
theorem zMul64 (n : Nat) (w : World) (hn : n ≤ 9) :
    Calls Tryd.prog 115 #[.int .u64 1, .int .u64 (n : Int)] w fun e w' => e = .returned (.tuple #[.int .u64 0, .int .u64 (n : Int)]) ∧ w' = w := by
  match n, hn with
  | 0, _ => go_enter Tryd.func115, Tryd.ntmps115; go_wp2; go_ret2; exact ⟨rfl, rfl⟩
  | 1, _ => go_enter Tryd.func115, Tryd.ntmps115; go_wp2; go_ret2; exact ⟨rfl, rfl⟩
  | 2, _ => go_enter Tryd.func115, Tryd.ntmps115; go_wp2; go_ret2; exact ⟨rfl, rfl⟩
  | 3, _ => go_enter Tryd.func115, Tryd.ntmps115; go_wp2; go_ret2; exact ⟨rfl, rfl⟩
  | 4, _ => go_enter Tryd.func115, Tryd.ntmps115; go_wp2; go_ret2; exact ⟨rfl, rfl⟩
  | 5, _ => go_enter Tryd.func115, Tryd.ntmps115; go_wp2; go_ret2; exact ⟨rfl, rfl⟩
  | 6, _ => go_enter Tryd.func115, Tryd.ntmps115; go_wp2; go_ret2; exact ⟨rfl, rfl⟩
  | 7, _ => go_enter Tryd.func115, Tryd.ntmps115; go_wp2; go_ret2; exact ⟨rfl, rfl⟩
  | 8, _ => go_enter Tryd.func115, Tryd.ntmps115; go_wp2; go_ret2; exact ⟨rfl, rfl⟩
  | 9, _ => go_enter Tryd.func115, Tryd.ntmps115; go_wp2; go_ret2; exact ⟨rfl, rfl⟩

set_option maxRecDepth 100000 in
theorem zMul (n : Nat) (w : World) (hn : n ≤ 9) :
    Calls Tryd.prog 109 #[.int .u64 1, .int .u64 (n : Int)] w fun e w' => e = .returned (.tuple #[.int .u64 0, .int .u64 (n : Int)]) ∧ w' = w := by
  go_enter Tryd.func109, Tryd.ntmps109
  go_wp2_with (go_at_call 115; refine (zMul64 n _ hn).mono ?_; rintro e w3 ⟨rfl, hw⟩; have hw := hw.symm; subst hw)
  go_ret2
  exact ⟨rfl, rfl⟩

theorem infoRpt : (Tryd.prog.info? 34).map (·.size) = some 1 := by kernel_rfl

set_option maxRecDepth 100000 in
set_option maxHeartbeats 600000 in
theorem zRepeat (a : Option Addr) (c : Nat) (x : Int) (n : Nat) (w : World) (h : Rd w a 1 c [x]) (hn1 : 1 ≤ n) (hn : n ≤ 9) :
    Calls Tryd.prog 92 #[.slice a 1 c, .int .i64 (n : Int)] w fun e w' => ∃ v, e = .returned v ∧ w'.ownsRow w.heap.size 34 1 v n ((List.replicate n x).map (Value.int .u64)) ∧ Below w.heap.size w w' := by
  obtain ⟨i0, hi, hz0, hz1, hz2⟩ := info_parts info34
  obtain ⟨C1, HC1⟩ : ∃ C1, Hid ((List.replicate 1 x).map (Value.int .u64) = C1) := ⟨_, rfl⟩
  have HC1l : Hid (C1.length = 1) := by unfold Hid; rw [← HC1.out]; rfl
  have HC1o : Hid (∀ v ∈ C1, v.oneCell' = true) := by unfold Hid; rw [← HC1.out]; exact one_ints _
  have HC1c : Hid (∀ w2, Rd w2 a 1 c [x] → ∃ ad, a = some ad ∧ ∀ j v, C1[j]? = some v → w2.cell? (ad.add j) = some v) := fun w2 h2 => by
    obtain ⟨b, o, rfl, _, hc⟩ := h2.at (k := 0) (by omega)
    refine ⟨_, rfl, fun j v hj => ?_⟩
    have hjl := (List.getElem?_eq_some_iff.1 hj).1
    rw [HC1l.out] at hjl
    obtain rfl : j = 0 := by omega
    rw [← HC1.out] at hj
    simp at hj
    subst hj
    rw [Addr.add_lit]
    exact hc 0 (by omega)
  go_enter Tryd.func92, Tryd.ntmps92
  go_wp2_with (first | (go_at_call 109; refine (zMul n _ hn).mono ?_; rintro e w3 ⟨rfl, hw⟩; have hw := hw.symm; subst hw) | (at_make; refine wpList_make_full _ rfl _ _ 22 rfl w.heap.size 34 i0 (.int .u64 0) 1 Tryd.underlying22 hi hz0 hz1 .i64 .i64 _ _ n rfl rfl (by omega) (by omega) (by rw [hz2]; omega) (by unfold maxLen; omega) (Nat.le_refl _) ?_; intro w2 hown hgrow; have hB2 : Blk w2 w.heap.size (rpl x n 0) := (by rw [← rpl_zero]; exact Blk.made hown); have hb2 : Below w.heap.size w w2 := (Below.refl _ _).grown hgrow (Nat.le_refl _) (by simp); clear hown hgrow) | (refine Go.wpList_copy_splice rfl _ _ _ _ rfl 34 Tryd.underlying22 infoRpt _ _ _ _ _ _ rfl rfl w.heap.size 0 ((rpl x n 0).map (Value.int .u64)) 34 hB2 C1 (by rw [HC1l.out]; exact (Nat.min_eq_left hn1).symm) (fun _ => ⟨rfl, HC1c.out _ (h.below hb2)⟩) (by rw [HC1l.out, List.length_map, rpl_len]; omega) HC1o.out w.heap.size w hb2 (Nat.le_refl _) ?_; intro w4 hB4 hb4; rw [HC1l.out]))
  have hB5 : Blk w4 w.heap.size (rpl x n 1) := by
    have := hB4.out
    rw [← HC1.out, rpl_splice x n 0 1 (by omega)] at this
    exact this
  clear hB4 hB2 hb2 HC1 HC1l HC1o HC1c
  have hd1 : decide ((n : Int) < 0) = false := by simp
  have hd2 : decide ((9223372036854775807 : Int) < (n : Int)) = false := by simp; omega
  rw [hd1, hd2]
  clear hd1 hd2
  go_loopw [8] (fun v wr => ∃ k : Nat, 1 ≤ k ∧ k ≤ n ∧ v = .int .i64 k ∧ Blk wr w.heap.size (rpl x n k) ∧ Below w.heap.size w wr) (fun v _ => n - (intOf v).toNat)
  case atStart => exact ⟨1, Nat.le_refl _, hn1, rfl, hB5, hb4⟩
  case round =>
    clear hB5 hb4
    obtain ⟨k, hk1, hk, rfl, hblk, hbel⟩ := hrel
    have hgl := hblk.lt
    by_cases hlt : k < n
    · obtain ⟨m, HM⟩ : ∃ m, Hid (Nat.min k (n - k) = m) := ⟨_, rfl⟩
      have hm1 : 1 ≤ m ∧ m ≤ k ∧ k + m ≤ n := by have h1 := HM.out; have h2 : min k (n - k) = m := h1; omega
      obtain ⟨C2, HC2⟩ : ∃ C2, Hid ((List.replicate m x).map (Value.int .u64) = C2) := ⟨_, rfl⟩
      have HC2l : Hid (C2.length = m) := by unfold Hid; rw [← HC2.out]; simp
      have HC2o : Hid (∀ v ∈ C2, v.oneCell' = true) := by unfold Hid; rw [← HC2.out]; exact one_ints _
      have HC2c : Hid (∀ j v, C2[j]? = some v → wr.drew.cell? (Addr.add ⟨w.heap.size, 0, none⟩ j) = some v) := fun j v hj => by
        have hjl := (List.getElem?_eq_some_iff.1 hj).1
        rw [HC2l.out] at hjl
        rw [← HC2.out] at hj
        simp [hjl] at hj
        subst hj
        rw [Addr.add_lit, Nat.zero_add]
        have := hblk.cell (i := j) (by rw [rpl_len]; omega)
        have e : (rpl x n k).getD j 0 = x := by simp [rpl, show j < n by omega, show j < k by omega]
        rw [e] at this
        exact this
      have HB6 : Hid (∀ w6 : World, Hid (w6.heap[w.heap.size]? = some (.cells (Go.splice ((rpl x n k).map (Value.int .u64)) k C2).toArray 34 (0, 0))) → Blk w6 w.heap.size (rpl x n (k + m))) := fun w6 h6 => by
        have := h6.out
        rw [← HC2.out, rpl_splice x n k m hm1.2.2] at this
        exact this
      have e1 : ∀ W, (Instr.sliceAt 22 (.slice (some ⟨w.heap.size, 0, none⟩) n n) (some (.int .i64 (k : Int))) none none).run Tryd.prog W = .ok (.slice (some ⟨w.heap.size, k, none⟩) (n - k) (n - k)) W := fun W => by
        have := run_subl (P := Tryd.prog) Tryd.underlying22 infoRpt (some ⟨w.heap.size, 0, none⟩) n n k rfl hk W
        rw [this, subA, if_neg (by omega), Option.map_some, Addr.add_lit, Nat.zero_add]
      have e2 : ∀ W, (Instr.sliceAt 22 (.slice (some ⟨w.heap.size, 0, none⟩) n n) none (some (.int .i64 (k : Int))) none).run Tryd.prog W = .ok (.slice (some ⟨w.heap.size, 0, none⟩) k n) W := fun W => run_subh Tryd.underlying22 infoRpt (some ⟨w.heap.size, 0, none⟩) n n k (fun e => by simp at e) hk W
      have hwk : IntKind.i64.wrap ((k : Int) + (m : Int)) = (k : Int) + (m : Int) := by rw [IntKind.wrap_i64]; omega
      have hblkD : Blk wr.drew w.heap.size (rpl x n k) := hblk
      have hbelD := hbel.drew
      go_wp2
      go_region_law (refine Go.step_copy_splice rfl _ _ _ _ rfl 34 Tryd.underlying22 infoRpt (some ⟨w.heap.size, k, none⟩) (some ⟨w.heap.size, 0, none⟩) (n - k) (n - k) k n (by simp [Act.eval, Act.put]) (by simp [Act.eval, Act.put]) w.heap.size k ((rpl x n k).map (Value.int .u64)) 34 hblkD C2 (by rw [HC2l.out]; exact HM.out.symm) (fun _ => ⟨rfl, _, rfl, HC2c.out⟩) (by rw [HC2l.out, List.length_map, rpl_len]; omega) HC2o.out w.heap.size w hbelD (Nat.le_refl _) ?_; intro w6 hB6 hb6; have hB7 := HB6.out w6 hB6; clear hB6; rw [HC2l.out])
      all_goals
        clear hblkD hbelD hblk hbel HB6 HC2c HC2o
        go_simp
        go_roundw
        case rel =>
          refine ⟨_, _, _, _, _, _, _, _, _, _, _, _, _, _, ?_, rfl⟩
          exact ⟨k + m, by omega, by omega, by go_num, hB7, hb6⟩
        case measure => simp [intOf]; omega
    · have hkn : k = n := by omega
      subst hkn
      rw [rpl_full] at hblk
      have ho : wr.ownsRow w.heap.size 34 1 (.slice (some ⟨w.heap.size, 0, none⟩) k k) k ((List.replicate k x).map (Value.int .u64)) :=
        ⟨by simp, .inr ⟨w.heap.size, k, _, rfl, Nat.le_refl _, hblk, Nat.le_refl _, by unfold maxLen; omega, by simp, by simp⟩⟩
      go_wp2
      go_ret
      exact ⟨_, rfl, ho, hbel⟩
end Go.Proofs.YtgmelcdgnjcojagDoor
