/- Package circuit: readNumber, readNumbers. · What is printed is read as it was: plain facts. · The first piece of a text and the rest: plain facts. -/
import Derived.Test.YtoifklkdfgfbdahDoorToShLay
import Derived.Test.YtoifklkdfgfbdahDoorToDealC
import Derived.Test.YtoifklkdfgfbdahDoorToNewtonM
import Derived.Lib.Bytealg
import Derived.Lib.IndexLaws
import Derived.Lib.IndexBytes
import Derived.Lib.SplitLaws
import Derived.Lib.Strings
namespace Go.Proofs.YtoifklkdfgfbdahDoor
open Go.RowKit Crm

/-- What readNumber answers. -/
def Rnb (s : ByteArray) (w : World) (e : Ending) (w' : World) : Prop := ((okd s ∧ e = .returned (.tuple #[.int .u64 (dgn s s.size), .bool true])) ∨ (¬ okd s ∧ e = .returned (.tuple #[.int .u64 0, .bool false]))) ∧ w' = w

set_option maxRecDepth 100000 in
set_option maxHeartbeats 2000000 in
theorem cNumber (s : ByteArray) (w : World) (hs : s.size ≤ 9223372036854775807) :
    Calls Tryd.prog 48 #[.string s] w fun e w' => Rnb s w e w' := by
  go_enter Tryd.func48, Tryd.ntmps48
  by_cases h1 : s.size < 1
  · have HN : Hid (¬ okd s) := fun o => by have := o.1; omega
    go_wp2
    go_ret2
    exact ⟨.inr ⟨HN.out, rfl⟩, rfl⟩
  by_cases h10 : 10 < s.size
  · have HN : Hid (¬ okd s) := fun o => by have := o.1; omega
    go_wp2
    go_ret2
    exact ⟨.inr ⟨HN.out, rfl⟩, rfl⟩
  by_cases hz : 1 < s.size ∧ bt s 0 = 48
  · have HN : Hid (¬ okd s) := fun o => o.2.2 hz
    have hix := fun w => bt_run (P := Tryd.prog) Tryd.underlying9 s (i := 0) (by omega) w
    rw [hz.2] at hix
    simp only [Int.natCast_zero] at hix
    have hz1 := hz.1
    clear hz
    go_wp2
    go_ret2
    exact ⟨.inr ⟨HN.out, rfl⟩, rfl⟩
  have HZ : Hid (¬ (1 < s.size ∧ bt s 0 = 48)) := hz
  obtain ⟨x, HX⟩ : ∃ x, Hid (bt s 0 = x) := ⟨_, rfl⟩
  have hx := bt_bd s 0
  have hix := fun w => bt_run (P := Tryd.prog) Tryd.underlying9 s (i := 0) (by omega) w
  rw [HX.out] at hx hix hz
  simp only [Int.natCast_zero] at hix
  have hlp : (1 < s.size ∧ (x == 48) = false) ∨ s.size = 1 := by
    by_cases e : 1 < s.size
    · exact .inl ⟨e, by rw [beq_eq_false_iff_ne]; exact fun e' => hz ⟨e, e'⟩⟩
    · exact .inr (by omega)
  clear hz
  rcases hlp with ⟨hp1, hp2⟩ | hp1
  all_goals
    go_wp2
    clear hix
    try clear hp2
    go_loopw [4, 26] (fun v i wr => ∃ k : Nat, k ≤ s.size ∧ i = .int .i64 k ∧ v = .int .u64 (dgn s k) ∧ Hid (dgs s k) ∧ wr = w) (fun _ i _ => 11 - (intOf i).toNat)
    case atStart => exact ⟨0, Nat.zero_le _, rfl, rfl, dgs_zero s, rfl⟩
    case round =>
      obtain ⟨k, hk, rfl, rfl, HD, rfl⟩ := hrel
      by_cases hlt : k < s.size
      · obtain ⟨x, HX⟩ : ∃ x, Hid (bt s k = x) := ⟨_, rfl⟩
        have hx := bt_bd s k
        have hix := fun w => bt_run (P := Tryd.prog) Tryd.underlying9 s hlt w
        rw [HX.out] at hx hix
        have hd := dgn_bd HD.out
        have ht := ten_le (k := k) (by omega)
        obtain ⟨d, Hd⟩ : ∃ d, Hid (dgn s k = d) := ⟨_, rfl⟩
        rw [Hd.out] at hd ⊢
        have hd2 : d ≤ 9999999999 := by omega
        have hd0 := hd.1
        clear hd ht
        have HN : Hid (x < 48 ∨ 57 < x → ¬ okd s) := fun e o => dgs_not hlt (by rw [HX.out]; exact e) o.2.1
        by_cases hlo : x < 48
        · go_wp2
          go_ret2
          exact ⟨.inr ⟨HN.out (.inl hlo), rfl⟩, rfl⟩
        · by_cases hhi : 57 < x
          · go_wp2
            go_ret2
            exact ⟨.inr ⟨HN.out (.inr hhi), rfl⟩, rfl⟩
          · have HD2 : Hid (dgs s (k + 1)) := dgs_succ HD.out (by rw [HX.out]; omega) (by rw [HX.out]; omega)
            have HV : Hid (dgn s (k + 1) = d * 10 + (x - 48)) := by unfold Hid; rw [dgn, Hd.out, HX.out]; omega
            go_wp2
            go_roundw
            case rel => exact ⟨k + 1, by omega, by go_num, by rw [HV.out], HD2, trivial⟩
            case measure => simp [intOf]; omega
      · have hks : k = s.size := by omega
        have hn1 : ¬ ((k : Int) < (s.size : Int)) := by omega
        have HY : Hid (okd s) := ⟨⟨by omega, by omega⟩, by rw [← hks]; exact HD.out, HZ.out⟩
        have HV : Hid (dgn s k = dgn s s.size) := by unfold Hid; rw [hks]
        go_wp2
        go_ret2
        exact ⟨.inl ⟨HY.out, by first | (rw [← HV.out]; rfl) | (rw [hp1]; rfl)⟩, rfl⟩
theorem cNumberY (s : ByteArray) (w : World) (hs : s.size ≤ 9223372036854775807) (h : okd s) :
    Calls Tryd.prog 48 #[.string s] w fun e w' => e = .returned (.tuple #[.int .u64 (dgn s s.size), .bool true]) ∧ w' = w := by
  refine (cNumber s w hs).mono ?_
  rintro e w' ⟨⟨_, he⟩ | ⟨h', _⟩, hw⟩
  · exact ⟨he, hw⟩
  · exact absurd h h'
theorem cNumberN (s : ByteArray) (w : World) (hs : s.size ≤ 9223372036854775807) (h : ¬ okd s) :
    Calls Tryd.prog 48 #[.string s] w fun e w' => e = .returned (.tuple #[.int .u64 0, .bool false]) ∧ w' = w := by
  refine (cNumber s w hs).mono ?_
  rintro e w' ⟨⟨h', _⟩ | ⟨_, he⟩, hw⟩
  · exact absurd h' h
  · exact ⟨he, hw⟩
/-- What readNumbers answers. -/
def Nmc (L : List ByteArray) (n : Nat) (w : World) (e : Ending) (w' : World) : Prop :=
  ((¬ okn L n ∧ e = .returned (.tuple #[.slice none 0 0, .bool false])) ∨ (okn L n ∧ ∃ g, e = .returned (.tuple #[.slice (some ⟨g, 0, none⟩) n n, .bool true]) ∧ w.heap.size ≤ g ∧ Blk w' g (nbl L n))) ∧ Below w.heap.size w w'

set_option maxRecDepth 100000 in
set_option maxHeartbeats 2000000 in
theorem cNumbers (a : Option Addr) (n c : Nat) (L : List ByteArray) (w : World) (h : RdT w a n c L) (hn : n ≤ 100000) :
    Calls Tryd.prog 33 #[.slice a n c] w fun e w' => Nmc L n w e w' := by
  obtain ⟨i0, hi0, hz0, hz1, hz2⟩ := info_parts info42
  have hcap := h.cap
  go_enter Tryd.func33, Tryd.ntmps33
  go_wp2_with (at_make; refine wpList_make_full _ rfl _ _ 26 rfl w.heap.size 42 i0 (.int .u64 0) 1 Tryd.underlying26 hi0 hz0 hz1 .i64 .i64 _ _ n rfl rfl (by omega) (by omega) (by rw [hz2]; omega) (by unfold maxLen; omega) (Nat.le_refl _) ?_; intro w2 hown hgrow)
  have hB2 : Blk w2 w.heap.size (fil (fun i => dgn (tx L i) (tx L i).size) n 0) := by rw [← fil_zero]; exact Blk.made hown
  have hb2 : Below w.heap.size w w2 := (Below.refl _ _).grown hgrow (Nat.le_refl _) (by simp)
  clear hown hgrow
  go_loopw [14] (fun i wr => ∃ k : Nat, k ≤ n ∧ i = .int .i64 k ∧ Hid (okn L k) ∧ Blk wr w.heap.size (fil (fun i => dgn (tx L i) (tx L i).size) n k) ∧ Below w.heap.size w wr) (fun i _ => n - (intOf i).toNat)
  case atStart => exact ⟨0, Nat.zero_le _, rfl, fun i hi => by omega, hB2, hb2⟩
  case round =>
    clear hB2 hb2
    obtain ⟨k, hk, rfl, HO, hB, hbel⟩ := hrel
    by_cases hlt : k < n
    · obtain ⟨b, o, x, rfl, hbb, HX, hxs, hc⟩ := (h.below hbel).one hlt
      by_cases hok : okd x
      · have hcell := hB.cell (i := k) (by rw [fil_len]; exact hlt)
        have hfz := hB.frozen k
        have hlt3 := hB.lt
        have hk0 : (0 : Int) ≤ (k : Int) := by omega
        have hkn : (k : Int) < (n : Int) := by omega
        obtain ⟨d, Hd⟩ : ∃ d, Hid (dgn x x.size = d) := ⟨_, rfl⟩
        have hset := hB.set k d
        rw [fil_set (by show d = dgn (tx L k) (tx L k).size; rw [HX.out, Hd.out])] at hset
        have Hbl : Hid (Blk _ _ _) := hset
        have HO2 : Hid (okn L (k + 1)) := okn_succ HO.out (by rw [HX.out]; exact hok)
        have Hb5 : Hid (Below w.heap.size w (wr.setCell ⟨w.heap.size, k, none⟩ (.int .u64 d))) := hbel.setCell (Nat.le_refl _) _
        have HOK : Hid (okd x) := hok
        clear hB hset hbel hok
        go_wp2_with (go_at_call 48; refine (cNumberY _ _ hxs HOK.out).mono ?_; rintro e w' ⟨rfl, hw⟩; have hw := hw.symm; subst hw; rw [Hd.out])
        go_roundw
        case rel => exact ⟨k + 1, by omega, by go_num, HO2, Hbl.out, Hb5.out⟩
        case measure => simp [intOf]; omega
      · have HN : Hid (¬ okn L n) := fun e => hok (by rw [← HX.out]; exact e k hlt)
        have HOK : Hid (¬ okd x) := hok
        clear hok
        go_wp2_with (go_at_call 48; refine (cNumberN _ _ hxs HOK.out).mono ?_; rintro e w' ⟨rfl, hw⟩; have hw := hw.symm; subst hw)
        go_ret2
        exact ⟨.inl ⟨HN.out, rfl⟩, hbel⟩
    · have hkn : k = n := by omega
      subst hkn
      rw [fil_full] at hB
      go_wp2
      go_ret2
      exact ⟨.inr ⟨HO.out, _, rfl, Nat.le_refl _, hB⟩, hbel⟩
end Go.Proofs.YtoifklkdfgfbdahDoor

namespace Go.Proofs.YtoifklkdfgfbdahDoor
open Crm

/-- Bytes as a text. -/
def toB (l : List UInt8) : ByteArray := ⟨l.toArray⟩
theorem toB_size (l : List UInt8) : (toB l).size = l.length := by simp [toB, ByteArray.size]
theorem toB_app (l m : List UInt8) : toB l ++ toB m = toB (l ++ m) := by
  apply ByteArray.ext
  rw [ByteArray.data_append]
  simp [toB]
theorem toB_list (s : ByteArray) : toB s.data.toList = s := by simp [toB]
theorem toB_inj {l m : List UInt8} (h : toB l = toB m) : l = m := by
  have := congrArg (fun s => s.data.toList) h
  simpa [toB] using this
theorem bt_toB (l : List UInt8) {i : Nat} (h : i < l.length) : bt (toB l) i = ((l[i]'h).toNat : Int) := by
  have h' : i < (toB l).size := by rw [toB_size]; exact h
  rw [← bt_get _ h']
  rfl
theorem toB_ext (l : List UInt8) {i : Nat} (h : i < l.length) : (toB l).extract i (i + 1) = toB [l[i]'h] := by
  apply ByteArray.ext
  rw [ByteArray.data_extract]
  apply Array.ext'
  rw [Array.toList_extract]
  show (l.drop i).take (i + 1 - i) = [l[i]]
  rw [Nat.add_sub_cancel_left, List.drop_eq_getElem_cons h]
  rfl
/-- Pieces, byte by byte. -/
def pst (b : Int) (P : List (List UInt8)) (c : UInt8) : List (List UInt8) := if (c.toNat : Int) = b then P ++ [[]] else P.set (P.length - 1) (P.getD (P.length - 1) [] ++ [c])
def pll (b : Int) (l : List UInt8) : List (List UInt8) := l.foldl (pst b) [[]]
theorem pst_no {b : Int} {c : UInt8} (A : List (List UInt8)) (h : List UInt8) (hc : (c.toNat : Int) ≠ b) : pst b (A ++ [h]) c = A ++ [h ++ [c]] := by
  unfold pst
  rw [if_neg hc]
  simp
theorem pst_yes {b : Int} {c : UInt8} (P : List (List UInt8)) (hc : (c.toNat : Int) = b) : pst b P c = P ++ [[]] := by unfold pst; rw [if_pos hc]
theorem pll_run {b : Int} : ∀ (xs : List UInt8) (A : List (List UInt8)) (h : List UInt8), (∀ c ∈ xs, (c.toNat : Int) ≠ b) → xs.foldl (pst b) (A ++ [h]) = A ++ [h ++ xs]
  | [], A, h, _ => by simp
  | c :: xs, A, h, hx => by
    rw [List.foldl_cons, pst_no A h (hx c (by simp)), pll_run xs A (h ++ [c]) (fun d hd => hx d (by simp [hd]))]
    simp
theorem pll_cut {b : Int} {c : UInt8} (xs : List UInt8) (A : List (List UInt8)) (hx : ∀ d ∈ xs, (d.toNat : Int) ≠ b) (hc : (c.toNat : Int) = b) : (xs ++ [c]).foldl (pst b) (A ++ [[]]) = A ++ [xs] ++ [[]] := by
  rw [List.foldl_append, pll_run xs A [] hx, List.nil_append, List.foldl_cons, List.foldl_nil, pst_yes _ hc]
theorem pcs_toB (b : Int) (l : List UInt8) : ∀ k, k ≤ l.length → pcs (toB l) b k = (pll b (l.take k)).map toB
  | 0, _ => rfl
  | k + 1, hk => by
    have ih := pcs_toB b l k (by omega)
    have e : pll b (l.take (k + 1)) = pst b (pll b (l.take k)) (l[k]'hk) := by
      unfold pll
      rw [List.take_succ_eq_append_getElem hk, List.foldl_append]
      rfl
    rw [pcs, e, bt_toB l hk, ih]
    unfold pst
    split
    · simp [toB, mt]
    · rw [List.map_set, toB_ext l hk]
      congr 1
      · simp
      · rw [← toB_app]
        congr 1
        simp [List.getD_eq_getElem?_getD, List.getElem?_map]
        cases (pll b (l.take k))[(pll b (l.take k)).length - 1]? <;> rfl
theorem pcs_all (b : Int) (l : List UInt8) : pcs (toB l) b (toB l).size = (pll b l).map toB := by
  rw [toB_size, pcs_toB b l l.length (Nat.le_refl _), List.take_length]
/-- A text of lines. -/
def txt (L : List (List UInt8)) : List UInt8 := L.flatMap fun x => x ++ [10]
theorem pll_txt : ∀ (L : List (List UInt8)) (A : List (List UInt8)), (∀ x ∈ L, ∀ d ∈ x, (d.toNat : Int) ≠ 10) → (txt L).foldl (pst 10) (A ++ [[]]) = A ++ L ++ [[]]
  | [], A, _ => by simp [txt]
  | x :: L, A, h => by
    have e : txt (x :: L) = (x ++ [10]) ++ txt L := by simp [txt]
    rw [e, List.foldl_append, pll_cut x A (h x (by simp)) (by decide), pll_txt L (A ++ [x]) (fun y hy => h y (by simp [hy]))]
    simp
theorem lns_txt {L : List (List UInt8)} (h : ∀ x ∈ L, ∀ d ∈ x, (d.toNat : Int) ≠ 10) : lns (toB (txt L)) = L.map toB ++ [mt] := by
  unfold lns
  rw [pcs_all]
  have := pll_txt L [] h
  unfold pll
  rw [List.nil_append] at this
  rw [this]
  simp [toB, mt]
theorem lnn_txt {L : List (List UInt8)} (h : ∀ x ∈ L, ∀ d ∈ x, (d.toNat : Int) ≠ 10) : lnn (toB (txt L)) = L.length := by
  unfold lnn
  rw [lns_txt h]
  simp
theorem tx_txt {L : List (List UInt8)} (h : ∀ x ∈ L, ∀ d ∈ x, (d.toNat : Int) ≠ 10) {i : Nat} (hi : i < L.length) : tx (lns (toB (txt L))) i = toB (L.getD i []) := by
  rw [lns_txt h]
  unfold tx
  rw [List.getD_eq_getElem?_getD, List.getElem?_append_left (by simpa using hi), List.getElem?_map, List.getElem?_eq_getElem hi, List.getD_eq_getElem?_getD, List.getElem?_eq_getElem hi]
  rfl
theorem tx_last {L : List (List UInt8)} (h : ∀ x ∈ L, ∀ d ∈ x, (d.toNat : Int) ≠ 10) : tx (lns (toB (txt L))) L.length = mt := by
  rw [lns_txt h]
  simp [tx]
/-- A line of words. -/
theorem wds_two {a b : List UInt8} (ha : ∀ d ∈ a, (d.toNat : Int) ≠ 32) (hb : ∀ d ∈ b, (d.toNat : Int) ≠ 32) : wds (toB (a ++ [32] ++ b)) = [toB a, toB b] := by
  unfold wds
  rw [pcs_all]
  unfold pll
  have := pll_cut (b := 32) (c := 32) a [] ha (by decide)
  rw [List.nil_append] at this
  rw [List.foldl_append, this, pll_run b _ _ hb]
  simp
theorem wds_three {a b c : List UInt8} (ha : ∀ d ∈ a, (d.toNat : Int) ≠ 32) (hb : ∀ d ∈ b, (d.toNat : Int) ≠ 32) (hc : ∀ d ∈ c, (d.toNat : Int) ≠ 32) : wds (toB (a ++ [32] ++ b ++ [32] ++ c)) = [toB a, toB b, toB c] := by
  unfold wds
  rw [pcs_all]
  unfold pll
  have h1 := pll_cut (b := 32) (c := 32) a [] ha (by decide)
  rw [List.nil_append] at h1
  have h2 := pll_cut (b := 32) (c := 32) b [a] hb (by decide)
  have e : a ++ [32] ++ b ++ [32] ++ c = (a ++ [32]) ++ ((b ++ [32]) ++ c) := by simp
  rw [e, List.foldl_append, h1, List.foldl_append]
  have h2' : (b ++ [32]).foldl (pst 32) ([] ++ [a] ++ [[]]) = [a] ++ [b] ++ [[]] := h2
  rw [h2', pll_run c _ _ hc]
  simp

/-- Digits of a number. -/
def dd (u : Nat) : List UInt8 := Lib.decDigits u
theorem dd_lo {u : Nat} (h : u < 10) : dd u = [UInt8.ofNat (48 + u)] := Lib.decDigits_one h
theorem dd_hi {u : Nat} (h : ¬ u < 10) : dd u = dd (u / 10) ++ [UInt8.ofNat (48 + u % 10)] := by
  unfold dd
  rw [Lib.decDigits, dif_neg h]
theorem byte_of {k : Nat} (h : k < 10) : ((UInt8.ofNat (48 + k)).toNat : Int) = 48 + (k : Int) := by
  have : (UInt8.ofNat (48 + k)).toNat = 48 + k := by
    rw [UInt8.toNat_ofNat']
    omega
  omega
theorem dd_digit (u : Nat) : ∀ c ∈ dd u, 48 ≤ (c.toNat : Int) ∧ (c.toNat : Int) ≤ 57 := by
  induction u using Nat.strongRecOn with
  | _ u ih =>
    intro c hc
    by_cases h : u < 10
    · rw [dd_lo h] at hc
      obtain rfl := List.mem_singleton.1 hc
      rw [byte_of h]; omega
    · rw [dd_hi h] at hc
      rcases List.mem_append.1 hc with hc | hc
      · exact ih (u / 10) (by omega) c hc
      · obtain rfl := List.mem_singleton.1 hc
        rw [byte_of (by omega)]; omega
theorem dd_pos (u : Nat) : 1 ≤ (dd u).length := by
  by_cases h : u < 10
  · rw [dd_lo h]; exact Nat.le_refl 1
  · rw [dd_hi h]; simp
theorem dd_len : ∀ (k u : Nat), u < 10 ^ (k + 1) → (dd u).length ≤ k + 1
  | 0, u, h => by rw [dd_lo (by simpa using h)]; exact Nat.le_refl 1
  | k + 1, u, h => by
    by_cases h1 : u < 10
    · rw [dd_lo h1]; simp
    · rw [dd_hi h1]
      have := dd_len k (u / 10) (by rw [Nat.pow_succ] at h ⊢; omega)
      simp
      omega
theorem dgn_app (l m : List UInt8) : ∀ k, k ≤ l.length → dgn (toB (l ++ m)) k = dgn (toB l) k
  | 0, _ => rfl
  | k + 1, hk => by
    rw [dgn, dgn, dgn_app l m k (by omega), bt_toB l hk, bt_toB (l ++ m) (by simp; omega), List.getElem_append_left hk]
theorem dd_val (u : Nat) : dgn (toB (dd u)) (dd u).length = (u : Int) := by
  induction u using Nat.strongRecOn with
  | _ u ih =>
    by_cases h : u < 10
    · rw [dd_lo h]
      show dgn (toB [UInt8.ofNat (48 + u)]) (0 + 1) = _
      rw [dgn, dgn, bt_toB _ (by simp)]
      simp only [List.getElem_cons_zero]
      rw [byte_of h]
      omega
    · have h1 := ih (u / 10) (by omega)
      rw [dd_hi h, List.length_append, List.length_singleton, dgn, dgn_app _ _ _ (Nat.le_refl _), h1, bt_toB _ (by simp)]
      rw [List.getElem_append_right (Nat.le_refl _)]
      simp only [Nat.sub_self, List.getElem_cons_zero]
      rw [byte_of (by omega)]
      omega
theorem dd_first {u : Nat} (h : 1 ≤ u) : bt (toB (dd u)) 0 ≠ 48 := by
  induction u using Nat.strongRecOn with
  | _ u ih =>
    by_cases h1 : u < 10
    · rw [dd_lo h1, bt_toB _ (by simp)]
      simp only [List.getElem_cons_zero]
      rw [byte_of h1]
      omega
    · have h2 := ih (u / 10) (by omega) (by omega)
      have hp := dd_pos (u / 10)
      rw [dd_hi h1, bt_toB _ (by simp), List.getElem_append_left (by omega)]
      rw [bt_toB _ (by omega)] at h2
      exact h2
theorem dd_okd {u : Nat} (h : u < 10000000000) : okd (toB (dd u)) := by
  have hs := toB_size (dd u)
  refine ⟨⟨by rw [hs]; exact dd_pos u, by rw [hs]; exact dd_len 9 u (by simpa using h)⟩, fun i hi => ?_, fun e => ?_⟩
  · rw [hs] at hi
    rw [bt_toB _ hi]
    exact dd_digit u _ (List.getElem_mem _)
  · refine dd_first (u := u) ?_ e.2
    have h1 := e.1
    rw [hs] at h1
    rcases Nat.lt_or_ge u 10 with h2 | h2
    · rw [dd_lo h2] at h1; simp at h1
    · omega
theorem dd_dgn (u : Nat) : dgn (toB (dd u)) (toB (dd u)).size = (u : Int) := by rw [toB_size, dd_val]
theorem itb_dd (u : Nat) : itb (u : Int) = toB (dd u) := by
  unfold itb
  rw [Lib.itoa_nonneg]
  rfl
theorem dd_no32 (u : Nat) : ∀ d ∈ dd u, (d.toNat : Int) ≠ 32 := fun d hd => by have := dd_digit u d hd; omega
theorem dd_no10 (u : Nat) : ∀ d ∈ dd u, (d.toNat : Int) ≠ 10 := fun d hd => by have := dd_digit u d hd; omega
end Go.Proofs.YtoifklkdfgfbdahDoor

namespace Go.Proofs.YtoifklkdfgfbdahDoor
open Crm

theorem pst_pre {b : Int} {c : UInt8} (A P : List (List UInt8)) (hP : P ≠ []) : pst b (A ++ P) c = A ++ pst b P c := by
  rcases List.eq_nil_or_concat P with e | ⟨Q, h, rfl⟩
  · exact absurd e hP
  · by_cases hc : (c.toNat : Int) = b
    · rw [pst_yes _ hc, pst_yes _ hc, List.append_assoc]
    · rw [List.concat_eq_append, ← List.append_assoc, pst_no _ _ hc, pst_no _ _ hc, List.append_assoc]
theorem pst_ne {b : Int} {c : UInt8} (P : List (List UInt8)) (hP : P ≠ []) : pst b P c ≠ [] := by
  unfold pst
  split
  · simp
  · intro e
    have := congrArg List.length e
    simp at this
    exact hP this
theorem pll_pre {b : Int} : ∀ (l : List UInt8) (A P : List (List UInt8)), P ≠ [] → l.foldl (pst b) (A ++ P) = A ++ l.foldl (pst b) P
  | [], _, _, _ => rfl
  | c :: l, A, P, hP => by
    rw [List.foldl_cons, List.foldl_cons, pst_pre A P hP]
    exact pll_pre l A _ (pst_ne P hP)
/-- Where a byte first is. -/
theorem ixb (c : UInt8) : ∀ l : List UInt8, (Lib.indexByte l c = -1 ∧ ∀ d ∈ l, (d.toNat : Int) ≠ (c.toNat : Int)) ∨ ∃ xs ys, l = xs ++ c :: ys ∧ (∀ d ∈ xs, (d.toNat : Int) ≠ (c.toNat : Int)) ∧ Lib.indexByte l c = (xs.length : Int)
  | [] => .inl ⟨rfl, fun d hd => by simp at hd⟩
  | d :: l => by
    by_cases e : d = c
    · subst e
      exact .inr ⟨[], l, rfl, fun d hd => by simp at hd, by simp [Lib.indexByte]⟩
    · have hne : (d.toNat : Int) ≠ (c.toNat : Int) := fun e' => e (UInt8.toNat_inj.1 (by omega))
      have hb : (d == c) = false := by rw [beq_eq_false_iff_ne]; exact e
      rcases ixb c l with ⟨h1, h2⟩ | ⟨xs, ys, h1, h2, h3⟩
      · refine .inl ⟨by simp [Lib.indexByte, hb, h1], fun x hx => ?_⟩
        rcases List.mem_cons.1 hx with rfl | hx
        · exact hne
        · exact h2 x hx
      · refine .inr ⟨d :: xs, ys, by rw [h1]; rfl, fun x hx => ?_, ?_⟩
        · rcases List.mem_cons.1 hx with rfl | hx
          · exact hne
          · exact h2 x hx
        · simp [Lib.indexByte, hb, h3]
theorem ext_list (s : ByteArray) (a b : Nat) : s.extract a b = toB ((s.data.toList.drop a).take (b - a)) := Lib.extract_eq s a b
/-- A text has the byte or hasn't. -/
theorem cut_cases (s : ByteArray) (c : UInt8) : (Lib.indexByte s.data.toList c = -1 ∧ pcs s (c.toNat : Int) s.size = [s]) ∨
    ∃ j, Lib.indexByte s.data.toList c = ((j : Nat) : Int) ∧ j < s.size ∧ pcs s (c.toNat : Int) s.size = s.extract 0 j :: pcs (s.extract (j + 1) s.size) (c.toNat : Int) (s.extract (j + 1) s.size).size := by
  obtain ⟨l, rfl⟩ : ∃ l, s = toB l := ⟨_, (toB_list s).symm⟩
  have hl : (toB l).data.toList = l := by simp [toB]
  rw [hl, pcs_all]
  rcases ixb c l with ⟨h1, h2⟩ | ⟨xs, ys, rfl, h2, h3⟩
  · refine .inl ⟨h1, ?_⟩
    have := pll_run l [] [] h2
    simp only [List.nil_append] at this
    unfold pll
    rw [this]
    rfl
  · refine .inr ⟨xs.length, h3, by rw [toB_size]; simp, ?_⟩
    have e1 : (toB (xs ++ c :: ys)).extract 0 xs.length = toB xs := by rw [ext_list, hl]; simp
    have e2 : (toB (xs ++ c :: ys)).extract (xs.length + 1) (toB (xs ++ c :: ys)).size = toB ys := by
      rw [ext_list, hl, toB_size]
      have : (xs ++ c :: ys).drop (xs.length + 1) = ys := by
        rw [List.drop_append]
        simp
      rw [this, List.take_of_length_le (by simp; omega)]
    rw [e1, e2, pcs_all]
    have e3 : pll (c.toNat : Int) (xs ++ c :: ys) = xs :: pll (c.toNat : Int) ys := by
      unfold pll
      have hc := pll_cut (b := (c.toNat : Int)) (c := c) xs [] h2 rfl
      simp only [List.nil_append] at hc
      rw [show xs ++ c :: ys = (xs ++ [c]) ++ ys by simp, List.foldl_append, hc, pll_pre ys [xs] [[]] (by simp)]
      rfl
    rw [e3]
    rfl
theorem pcs_nil (b : Int) : pcs mt b mt.size = [mt] := rfl
/-- strings.Split tells the pieces. -/
theorem split_pcs (c : UInt8) : ∀ (k : Nat) (s : ByteArray), s.data.toList.count c = k → Lib.splitB ⟨#[c]⟩ 0 k s = pcs s (c.toNat : Int) s.size
  | k, s, hk => by
    have hix : Lib.indexB s ⟨#[c]⟩ = Lib.indexByte s.data.toList c := Lib.index_one _ _
    rcases cut_cases s c with ⟨h1, h2⟩ | ⟨j, h1, hj, h2⟩
    · rw [h2, Lib.splitB_miss _ _ _ _ (by rw [hix]; exact h1)]
    · have hrest : (s.extract (j + 1) s.size).data.toList = s.data.toList.drop (j + 1) := by
        rw [Lib.extract_data, List.take_of_length_le]
        rw [List.length_drop, Array.length_toList]
        exact Nat.le_refl _
      obtain ⟨hat, hbe⟩ := Lib.indexByte_some h1
      have hcount : s.data.toList.count c = (s.data.toList.drop (j + 1)).count c + 1 := by
        have e := List.take_append_drop (j + 1) s.data.toList
        have hjl : j < s.data.toList.length := (List.getElem?_eq_some_iff.1 hat).1
        have e2 : (s.data.toList.take (j + 1)).count c = 1 := by
          rw [List.take_add_one, hat, List.count_append]
          have : (s.data.toList.take j).count c = 0 := by
            rw [List.count_eq_zero]
            intro hm
            obtain ⟨i, hi, he⟩ := List.getElem_of_mem hm
            have hij : i < j := by simp at hi; omega
            refine hbe i hij ?_
            rw [List.getElem?_eq_getElem (by simp at hi; omega)]
            simpa using he
          rw [this]
          simp
        have := congrArg (List.count c) e
        rw [List.count_append, e2] at this
        omega
      obtain ⟨k', rfl⟩ : ∃ k', k = k' + 1 := ⟨k - 1, by omega⟩
      have ih := split_pcs c k' (s.extract (j + 1) s.size) (by rw [hrest]; omega)
      have hh := Lib.splitB_hit ⟨#[c]⟩ 0 k' s j (by rw [hix]; exact h1)
      have hsz : (⟨#[c]⟩ : ByteArray).size = 1 := rfl
      rw [h2, hh, hsz, ih]
      rfl
end Go.Proofs.YtoifklkdfgfbdahDoor
