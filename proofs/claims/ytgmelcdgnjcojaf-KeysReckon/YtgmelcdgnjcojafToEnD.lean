/- croftref.Times. · (*croftref.Store).Combine, Multiply. · shamir.Deal: what it tells is the caller's own. -/
import Derived.Test.YtgmelcdgnjcojafToEngM
import Derived.Test.YtgmelcdgnjcojafToRStB
import Derived.Test.YtgmelcdgnjcojafToPlaceC
import Derived.Test.YtgmelcdgnjcojafToSumC
import Derived.Test.YtgmelcdgnjcojafToOwnC
import Derived.Test.YtgmelcdgnjcojafToRefWtC
import Derived.Test.YtgmelcdgnjcojafToSubC
import Derived.BigQuiet
import Derived.Test.YtgmelcdgnjcojafToJoinC
namespace Go.Proofs.Ytgmelcdgnjcojaf
open Go.RowKit Crm

theorem infoVs : (Try.prog.info? 22).map (fun i => (i.zero, i.size, i.bytes)) = some (some (.slice none 0 0), 1, 24) := by kernel_rfl

theorem wrap_i64 {x : Int} (h0 : -1000000 ≤ x) (h1 : x ≤ 1000000) : IntKind.i64.wrap x = x := by
  unfold IntKind.wrap
  simp [IntKind.signed, IntKind.bits]
  omega
/-- Rows that lie elsewhere. -/
def Far (L : List Value) (n lo hi : Nat) : Prop := ∀ p, p < n → ∀ gg, (L.getD p (.slice none 0 0)).ownBlock = some gg → gg < lo ∨ hi ≤ gg
theorem map_getDN {f : Nat → Int} {m i : Nat} (h : i < m) : ((List.range m).map f).getD i 0 = f i := by simp [h]
theorem infoS1 : (Try.prog.info? 23).map (·.size) = some 1 := by kernel_rfl
/-- What all were dealt by the first i. -/
def gti (t : Nat) (xs ys ds : List Int) (n i : Nat) : List (List Int) := (List.range n).map fun j => tmR t xs ys ds i j
theorem gti_len (t : Nat) (xs ys ds : List Int) (n i : Nat) : (gti t xs ys ds n i).length = n := by simp [gti]
theorem gti_zero (t : Nat) (xs ys ds : List Int) (n : Nat) : List.replicate n [] = gti t xs ys ds n 0 := by
  apply List.ext_getElem?
  intro i
  by_cases hi : i < n
  · simp [gti, tmR, hi]
  · simp [gti, hi]
/-- .. and the first j of them by one more. -/
def gtj (t : Nat) (xs ys ds : List Int) (n i j : Nat) : List (List Int) := (List.range n).map fun p => if p < j then tmR t xs ys ds (i + 1) p else tmR t xs ys ds i p
theorem gtj_len (t : Nat) (xs ys ds : List Int) (n i j : Nat) : (gtj t xs ys ds n i j).length = n := by simp [gtj]
theorem gtj_zero (t : Nat) (xs ys ds : List Int) (n i : Nat) : gtj t xs ys ds n i 0 = gti t xs ys ds n i := by simp [gtj, gti]
theorem gtj_full (t : Nat) (xs ys ds : List Int) (n i : Nat) : gtj t xs ys ds n i n = gti t xs ys ds n (i + 1) := by
  unfold gtj gti
  refine List.map_congr_left fun p hp => ?_
  rw [if_pos (List.mem_range.1 hp)]
theorem gtj_getD (t : Nat) (xs ys ds : List Int) {n i j : Nat} (h : j < n) : (gtj t xs ys ds n i j).getD j [] = tmR t xs ys ds i j := by simp [gtj, h]
theorem gti_getD (t : Nat) (xs ys ds : List Int) {n i j : Nat} (h : j < n) : (gti t xs ys ds n i).getD j [] = tmR t xs ys ds i j := by simp [gti, h]
theorem gtj_set (t : Nat) (xs ys ds : List Int) (n i j : Nat) : (gtj t xs ys ds n i j).set j (tmR t xs ys ds (i + 1) j) = gtj t xs ys ds n i (j + 1) := by
  apply List.ext_getElem?
  intro q
  rw [List.getElem?_set]
  by_cases hq : q < n
  · by_cases e : j = q
    · subst e; simp [gtj, hq]
    · have : (q < j + 1) = (q < j) := by apply propext; omega
      simp [gtj, hq, e, this]
  · by_cases e : j = q
    · subst e; simp [gtj, hq]
    · simp [gtj, hq, e]

end Go.Proofs.Ytgmelcdgnjcojaf

namespace Go.Proofs.Ytgmelcdgnjcojaf
open Go.RowKit Crm

/-- What a handle's look-up tells. -/
theorem Sto.slice {TY : TypeId} {w : World} {p b : Nat} {V : Int → Option Value} {s : Kt} (h : Sto TY w p b V s) {x : Int} {l : List Int} (hf : s.f x = some l) : ∃ a c, V x = some (Value.slice a s.n c) ∧ Rd w a s.n c l := by
  rcases h.val x with e | ⟨l', a, c, e1, e2, e3⟩
  · rw [e.1] at hf; cases hf
  · rw [e1] at hf
    obtain rfl := Option.some.inj hf
    exact ⟨a, c, e2, e3⟩
theorem look_at {w : World} {b q : Nat} {V : Int → Option Value} {x : Int} {v : Value} (h : MapI w b q V) (hv : V x = some v) (hx : i64r x) : (Instr.lookup 43 (.map (some b)) (.int .i64 x) false).run Try.prog w = .ok v w := by
  have := (h.look Try.underlying43 (zeroL _) hx).2
  rw [hv] at this
  exact this

end Go.Proofs.Ytgmelcdgnjcojaf

namespace Go.Proofs.Ytgmelcdgnjcojaf
open Go.RowKit Crm

set_option maxRecDepth 100000 in
set_option maxHeartbeats 1000000 in
theorem cDealB (s : Int) (a : Option Addr) (m c : Nat) (xs : List Int) (n : Nat) (w : World) (h : Rd w a m c xs) (hs0 : 0 ≤ s) (hs1 : s ≤ 18446744073709551615) (hm : m ≤ 4) (hn : m < n) (hn9 : n ≤ 9) :
    Calls Try.prog 26 #[.int .u64 s, .slice a m c, .int .i64 n] w fun e w' => ∃ v, e = .returned (.tuple #[v, .int .i64 0]) ∧ w'.ownsRow w.heap.size 23 1 v n ((dl (s :: xs) n).map (Value.int .u64)) ∧ Below w.heap.size w w' := by
  obtain ⟨i0, hi, hz0, hz1, hz2⟩ := info_parts info23
  have hlen := h.len
  go_enter Try.func26, Try.ntmps26
  go_wp2_with (first | (at_builtin; refine wpList_appR Try.underlying22 info23 _ rfl _ _ rfl s hs0 hs1 a m c xs h rfl rfl (by omega) ?_; intro a1 c1 w1 hr1 hb1) | (at_make; refine wpList_make_full _ rfl _ _ 22 rfl w1.heap.size 23 i0 (.int .u64 0) 1 Try.underlying22 hi hz0 hz1 .i64 .i64 _ _ n rfl rfl (by omega) (by omega) (by rw [hz2]; omega) (by unfold maxLen; omega) (Nat.le_refl _) ?_; intro w2 hown hgrow))
  have hs1 := hb1.size
  have hB2 : Blk w2 w1.heap.size (fil (dlf (s :: xs)) n 0) := by rw [← fil_zero]; exact Blk.made hown
  have hb2 : Below w1.heap.size w1 w2 := (Below.refl _ _).grown hgrow (Nat.le_refl _) (by simp)
  have hb12 : Below w.heap.size w w2 := hb1.trans (hb2.mono hs1)
  clear hown hgrow
  go_loopw [32] (fun i wr => ∃ k : Nat, k ≤ n ∧ i = .int .i64 k ∧ Blk wr w1.heap.size (fil (dlf (s :: xs)) n k) ∧ Below w1.heap.size w1 wr ∧ Below w.heap.size w wr) (fun i _ => n - (intOf i).toNat)
  case atStart => exact ⟨0, Nat.zero_le _, rfl, hB2, hb2, hb12⟩
  case round =>
    clear hB2 hb2 hb12
    obtain ⟨k, hk, rfl, hblk, hbe1, hbel⟩ := hrel
    by_cases hlt : k < n
    · have hr := hr1.below hbe1
      have HF : Hid (nm (ev (s :: xs) ((k : Int) + 1)) = dlf (s :: xs) k) := rfl
      go_wp2_with fail
      refine (cEvalOK _ _ _ _ _ _ hr (by omega) (by omega) (by omega)).mono ?_
      rintro e w3 ⟨rfl, hb3⟩
      rw [HF.out]
      have hblk3 := hblk.below hb3 hblk.lt
      have hcell := hblk3.cell (i := k) (by rw [fil_len]; exact hlt)
      have hfz := hblk3.frozen k
      have hlt3 := hblk3.lt
      have hblk4 := hblk3.set k (dlf (s :: xs) k)
      rw [fil_set rfl] at hblk4
      have hbe3 := hbe1.trans (hb3.mono hbe1.size)
      have hbel3 := hbel.trans (hb3.mono hbel.size)
      have Hb4 : Hid (Below w1.heap.size w1 (w3.setCell ⟨w1.heap.size, k, none⟩ (.int .u64 (dlf (s :: xs) k)))) := hbe3.setCell (Nat.le_refl _) _
      have Hb5 : Hid (Below w.heap.size w (w3.setCell ⟨w1.heap.size, k, none⟩ (.int .u64 (dlf (s :: xs) k)))) := hbel3.setCell hs1 _
      clear hbe1 hbel hb3 hblk hblk3 hbe3 hbel3 hr
      go_wp2
      go_roundw
      case rel => exact ⟨k + 1, by omega, by go_num, hblk4, Hb4.out, Hb5.out⟩
      case measure => simp [intOf]; omega
    · have hkn : k = n := by omega
      subst hkn
      have hr : wr.ownsRow w.heap.size 23 1 (.slice (some ⟨w1.heap.size, 0, none⟩) k k) k ((dl (s :: xs) k).map (Value.int .u64)) := by
        rw [fil_full] at hblk
        exact ⟨by rw [List.length_map, dl_len, Nat.mul_one], .inr ⟨_, k, _, rfl, hs1, hblk, Nat.le_refl _, by unfold maxLen; omega, by simp, by rw [List.toList_toArray, Nat.mul_one, List.take_of_length_le (by simp)]; rfl⟩⟩
      go_wp2
      go_ret2
      exact ⟨_, rfl, hr, hbel⟩
end Go.Proofs.Ytgmelcdgnjcojaf
