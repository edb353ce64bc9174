/- croftkeep.some, crofttop.some: some of the parties, none twice. · Two lists of rows, all rows of both the call's own, no two of them one. · shamir.weight, shamir.Weights. -/
import Derived.Test.YtnofegdlainjaagDoorToFieldC
import Derived.Test.YtnofegdlainjaagDoorToOcC
import Derived.Test.YtnofegdlainjaagDoorToOpenG
import Derived.Test.YtnofegdlainjaagDoorToPadC
import Derived.Test.YtnofegdlainjaagDoorToHidS
import Derived.Test.YtnofegdlainjaagDoorToCheckC
import Derived.Test.YtnofegdlainjaagDoorToDealC
namespace Go.Proofs.YtnofegdlainjaagDoor
open Go.RowKit Crm

/-- Some of n parties, none twice, at most t. -/
def Som (L : List Int) (t n : Nat) : Prop := L.length ≤ t ∧ dis (fi L) L.length ∧ ∀ j, j < L.length → L.getD j 0 ≤ (n : Int)
theorem som_nil (t n : Nat) : Som [] t n := ⟨Nat.zero_le _, dis_zero _, fun j hj => by simp at hj⟩
theorem som_bd {L : List Int} {t n : Nat} (h : Som L t n) : ∀ x ∈ L, -9223372036854775808 ≤ x ∧ x ≤ 9223372036854775807 := fun x hx => by
  obtain ⟨j, hj, rfl⟩ := List.getElem_of_mem hx
  have := (h.2.1 j hj).1
  unfold fi at this
  rw [List.getD_eq_getElem?_getD, List.getElem?_eq_getElem hj] at this
  simp only [Option.getD_some] at this
  omega
theorem som_add {L : List Int} {t n q : Nat} (h : Som L t n) (hl : L.length < t) (hq : q < n) (hn : n ≤ 9) (hno : ∀ j, j < L.length → L.getD j 0 ≠ (q : Int) + 1) : Som (L ++ [(q : Int) + 1]) t n := by
  have g1 : ∀ j, j < L.length → (L ++ [(q : Int) + 1]).getD j 0 = L.getD j 0 := fun j hj => by simp [List.getElem?_append_left hj]
  have g2 : (L ++ [(q : Int) + 1]).getD L.length 0 = (q : Int) + 1 := by simp
  have hle : (L ++ [(q : Int) + 1]).length = L.length + 1 := by simp
  refine ⟨by omega, ?_, fun j hj => ?_⟩
  · rw [hle]
    refine dis_succ (x := (q : Int) + 1) (fun i hi => ?_) g2 (by omega) (by omega) (fun j hj => by show (L ++ [(q : Int) + 1]).getD j 0 ≠ _; rw [g1 j hj]; exact hno j hj)
    obtain ⟨h1, h2⟩ := h.2.1 i hi
    unfold fi at h1 h2 ⊢
    rw [g1 i hi]
    exact ⟨h1, fun j hj => by rw [g1 j (by omega)]; exact h2 j hj⟩
  · rw [hle] at hj
    by_cases e : j = L.length
    · rw [e, g2]; omega
    · rw [g1 j (by omega)]; exact h.2.2 j (by omega)

set_option maxRecDepth 100000 in
set_option maxHeartbeats 2000000 in
theorem tSome (a : Option Addr) (m c : Nat) (ps : List Int) (t n : Nat) (w : World) (h : RdI w a m c ps) (hn : 0 < n) (hn9 : n ≤ 9) (ht : t ≤ 4) :
    Calls Tryd.prog 32 #[.slice a m c, .int .i64 (t : Int), .int .i64 (n : Int)] w fun e w' => ∃ v L, e = .returned v ∧ w'.ownsRow w.heap.size 3 1 v L.length (zns L) ∧ Som L t n ∧ Below w.heap.size w w' := by
  have hcap := h.cap
  have hmax := h.max
  unfold maxLen at hmax
  go_enter Tryd.func32, Tryd.ntmps32
  go_wp2
  go_loopw [7, 13] (fun v i wr => ∃ (j : Nat) (L : List Int), j ≤ m ∧ i = .int .i64 j ∧ wr.ownsRow w.heap.size 3 1 v L.length (zns L) ∧ Hid (Som L t n) ∧ Below w.heap.size w wr) (fun _ i _ => m - (intOf i).toNat)
  case atStart => exact ⟨0, [], Nat.zero_le _, rfl, World.ownsRow_nil _ _ _ _, som_nil t n, Below.refl _ _⟩
  case round =>
    obtain ⟨j, L, hj, rfl, hown, HS, hbel⟩ := hrel
    have hs := hbel.size
    by_cases hlt : j < m
    · obtain ⟨b, o, x, rfl, hbb, HX, hx0, hx1, hcx⟩ := (h.below hbel).one hlt
      obtain ⟨aL, cL, rfl, hrL⟩ := RdI.own hown (som_bd HS.out)
      have hlt4 := HS.out.1
      have hcL := hrL.cap
      have hmL := hrL.max
      unfold maxLen at hmL
      obtain ⟨l, HL⟩ : ∃ l, Hid (L.length = l) := ⟨_, rfl⟩
      rw [HL.out] at hown hrL hlt4 hcL ⊢
      go_wp2_with fail
      refine (rRest x n _ hn (by omega)).mono ?_
      rintro e w1 ⟨⟨q, hq, rfl⟩, hw⟩
      have hw := hw.symm
      subst hw
      have hq1 : (1 : Int) + (q : Int) = (q : Int) + 1 := by omega
      by_cases hl : l < t
      · have hli : (l : Int) < (t : Int) := by omega
        by_cases hc : ∃ j0, j0 < l ∧ L.getD j0 0 = (q : Int) + 1
        · obtain ⟨j0, hj0, hxe⟩ := hc
          have HJ : Hid (L.getD j0 0 = (q : Int) + 1) := hxe
          clear hxe
          go_wp2_with (go_at_call 33; refine (iContT _ _ _ _ ((q : Int) + 1) _ hrL hj0 HJ.out).mono ?_; rintro e w3 ⟨rfl, hw⟩; have hw := hw.symm; subst hw)
          go_roundw
          case rel => exact ⟨j + 1, L, by omega, by go_num, by rw [HL.out]; exact hown, HS, hbel⟩
          case measure => simp [intOf]; omega
        · have HNO : Hid (∀ j0, j0 < l → L.getD j0 0 ≠ (q : Int) + 1) := fun j0 h1 h2 => hc ⟨j0, h1, h2⟩
          have HSA : Hid (Som (L ++ [(q : Int) + 1]) t n) := som_add HS.out (by rw [HL.out]; exact hl) hq hn9 (by rw [HL.out]; exact HNO.out)
          have HZN : Hid (zns L ++ [.int .i64 ((q : Int) + 1)] = zns (L ++ [(q : Int) + 1])) := zns_snoc _ _
          have HLA : Hid ((L ++ [(q : Int) + 1]).length = l + 1) := by unfold Hid; rw [List.length_append, HL.out]; rfl
          clear hc
          go_wp2_with (first | (go_at_call 33; refine (iContF _ _ _ _ ((q : Int) + 1) _ hrL HNO.out).mono ?_; rintro e w3 ⟨rfl, hw⟩; have hw := hw.symm; subst hw) | (at_builtin; refine wpList_appV Tryd.underlying24 infoZ rfl (by omega) _ rfl _ _ rfl w.heap.size _ _ _ rfl hown (.int .i64 ((q : Int) + 1)) rfl rfl (by omega) hs ?_; intro v8 w8 hob8 hgr8 _; rw [HZN.out] at hob8; have hB8 := hbel.grown hgr8 hs (fun j hj => (hown.lt j hj).1); clear hgr8))
          go_roundw
          case rel => exact ⟨j + 1, _, by omega, by go_num, by rw [HLA.out]; exact hob8, HSA, hB8⟩
          case measure => simp [intOf]; omega
      · have hli : ¬ ((l : Int) < (t : Int)) := by omega
        go_wp2
        go_roundw
        case rel => exact ⟨j + 1, L, by omega, by go_num, by rw [HL.out]; exact hown, HS, hbel⟩
        case measure => simp [intOf]; omega
    · have hjm : j = m := by omega
      subst hjm
      go_wp2
      go_ret
      exact ⟨_, L, rfl, hown, HS.out, hbel⟩
end Go.Proofs.YtnofegdlainjaagDoor

namespace Go.Proofs.YtnofegdlainjaagDoor
open Go.RowKit Crm

/-- The blocks of A are none of B's. -/
def Apt (A B : List Value) : Prop := ∀ i j, (A.getD i (.slice none 0 0)).ownBlock = none ∨ (A.getD i (.slice none 0 0)).ownBlock ≠ (B.getD j (.slice none 0 0)).ownBlock
theorem Apt.symm {A B : List Value} (h : Apt A B) : Apt B A := fun i j => by
  rcases h j i with e | e
  · by_cases hb : (B.getD i (.slice none 0 0)).ownBlock = none
    · exact .inl hb
    · exact .inr (by rw [e]; exact hb)
  · exact .inr (fun e' => e e'.symm)
theorem apt_nil (B : List Value) : Apt [] B := fun _ _ => .inl rfl
theorem apt_rep (n : Nat) (B : List Value) : Apt (List.replicate n (.slice none 0 0)) B := fun _ _ => .inl (by
  rw [List.getD_eq_getElem?_getD, List.getElem?_replicate]
  split <;> rfl)
/-- A row of A is laid anew: where it lay, or where nothing lay. -/
theorem Apt.set {A B : List Value} {q H : Nat} {u : Value} (h : Apt A B) (hq : q < A.length) (hB : ∀ j k, (B.getD j (.slice none 0 0)).ownBlock = some k → k < H) (hu : u.ownBlock = (A.getD q (.slice none 0 0)).ownBlock ∨ ∃ k, u.ownBlock = some k ∧ H ≤ k) : Apt (A.set q u) B := fun i j => by
  rw [getD_setV _ _ _ _ _ hq]
  by_cases e : i = q
  · rw [if_pos e]
    rcases hu with hu | ⟨k, hu, hk⟩
    · rw [hu]; exact h q j
    · right
      rw [hu]
      intro e'
      have := hB j k e'.symm
      omega
  · rw [if_neg e]; exact h i j
/-- One row more in A. -/
theorem Apt.add {A B : List Value} {u : Value} (h : Apt A B) (hu : ∀ j, u.ownBlock = none ∨ u.ownBlock ≠ (B.getD j (.slice none 0 0)).ownBlock) : Apt (A ++ [u]) B := fun i j => by
  rw [List.getD_eq_getElem?_getD]
  rcases Nat.lt_trichotomy i A.length with e | e | e
  · rw [List.getElem?_append_left e, ← List.getD_eq_getElem?_getD]; exact h i j
  · rw [List.getElem?_append_right (by omega), e, Nat.sub_self]; exact hu j
  · rw [List.getElem?_eq_none (by simp; omega)]; exact .inl rfl
/-- Rows that are there lie below. -/
theorem LsV.blk {w : World} {B : Nat} {v : Value} {L : List Value} {rows : List (List Int)} (h : LsV w B v L rows) : ∀ j k, (L.getD j (.slice none 0 0)).ownBlock = some k → B ≤ k ∧ k < w.heap.size := fun j k hk => by
  rcases Nat.lt_or_ge j rows.length with hj | hj
  · exact (h.row j hj).lt k hk
  · rw [List.getD_eq_getElem?_getD, List.getElem?_eq_none (by rw [h.len]; exact hj)] at hk
    simp [Value.ownBlock] at hk
/-- One row more: the outer list grows. -/
theorem LsV.add {w w' : World} {B : Nat} {v v' u : Value} {L : List Value} {rows : List (List Int)} {row : List Int} (h : LsV w B v L rows) (hr : w.ownsRow B 34 1 u row.length (row.map (Value.int .u64)))
    (hnew : ∀ i, i < rows.length → (L.getD i (.slice none 0 0)).ownBlock = none ∨ (L.getD i (.slice none 0 0)).ownBlock ≠ u.ownBlock)
    (ho : w'.ownsRow B 22 1 v' (rows.length + 1) (L ++ [u])) (hg : w.grownBy w' v.ownBlock) : LsV w' B v' (L ++ [u]) (rows ++ [row]) := by
  have hl := h.len
  have gl : ∀ i, i < rows.length → (rows ++ [row]).getD i [] = rows.getD i [] := fun i hi => by simp [List.getElem?_append_left hi]
  have gL : ∀ i, i < rows.length → (L ++ [u]).getD i (.slice none 0 0) = L.getD i (.slice none 0 0) := fun i hi => by simp [List.getElem?_append_left (show i < L.length by omega)]
  have gl' : (rows ++ [row]).getD rows.length [] = row := by simp
  have gL' : (L ++ [u]).getD rows.length (.slice none 0 0) = u := by rw [← hl]; simp
  have hE : (22 : TypeId) ≠ 34 := by decide
  refine ⟨by simpa using ho, by simp [hl], fun i hi => ?_, fun i j hij hj => ?_⟩
  · have hi2 : i < rows.length + 1 := by simpa using hi
    by_cases e : i = rows.length
    · subst e; rw [gl', gL']; exact hr.kept hg (own_apart h.own hr hE)
    · rw [gl i (by omega), gL i (by omega)]; exact (h.row i (by omega)).kept hg (own_apart h.own (h.row i (by omega)) hE)
  · have hj2 : j < rows.length + 1 := by simpa using hj
    by_cases e : j = rows.length
    · subst e; rw [gL', gL i hij]; exact hnew i hij
    · rw [gL i (by omega), gL j (by omega)]; exact h.inj i j hij (by omega)
/-- A list of rows stays while one row of the other grows. -/
theorem LsV.beside {w w' : World} {B : Nat} {v : Value} {L M : List Value} {rows : List (List Int)} {q : Nat} {E : TypeId} {k : Nat} {xs : List Value} {B2 : Nat} (h : LsV w B v L rows) (ha : Apt L M) (hr : w.ownsRow B2 E 1 (M.getD q (.slice none 0 0)) k xs) (hE : E = 34) (hg : w.grownBy w' (M.getD q (.slice none 0 0)).ownBlock) : LsV w' B v L rows := by
  subst hE
  exact h.grown hg (own_apart hr h.own (by decide)) (fun i _ => ha i q)
end Go.Proofs.YtnofegdlainjaagDoor

namespace Go.Proofs.YtnofegdlainjaagDoor
open Go.RowKit Crm

theorem neq_bool {x y : Int} (h : x ≠ y) : (x != y) = true := by rw [bne_iff_ne]; exact h

set_option maxRecDepth 100000 in
set_option maxHeartbeats 1000000 in
theorem cWeight (a : Option Addr) (n c : Nat) (ts : List Int) (i : Nat) (w : World) (h : RdI w a n c ts) (hd : dis (fi ts) n) (hi : i < n) :
    Calls Tryd.prog 95 #[.int .i64 (ts.getD i 0), .slice a n c] w fun e w' => e = .returned (.int .u64 (wt ts n i)) ∧ w' = w := by
  have HD : Hid (dis (fi ts) n) := hd
  have hn9 := dis_nine hd
  obtain ⟨T, HT⟩ : ∃ T, Hid (ts.getD i 0 = T) := ⟨_, rfl⟩
  have hT1 := (hd i hi).1
  unfold fi at hT1
  rw [HT.out] at hT1 ⊢
  have hT2 := hT1.2
  have hT1 := hT1.1
  clear hd
  go_enter Tryd.func95, Tryd.ntmps95
  go_wp2
  go_loop [5, 6, 13] (fun u v q => ∃ (k : Nat) (A B : Int), k ≤ n ∧ q = .int .i64 k ∧ u = .int .u64 A ∧ v = .int .u64 B ∧ 0 ≤ A ∧ A ≤ 2147483646 ∧ 0 ≤ B ∧ B ≤ 2147483646 ∧ Hid (A = nm (pr ts T 0 k)) ∧ Hid (B = nm (pr ts T T k))) (fun _ _ q => n - (intOf q).toNat)
  case atStart => exact ⟨0, 1, 1, Nat.zero_le _, rfl, rfl, rfl, by omega, by omega, by omega, by omega, by rw [pr]; rfl, by rw [pr]; rfl⟩
  case round =>
    obtain ⟨k, A, B, hk, rfl, rfl, rfl, hA0, hA1, hB0, hB1, HA, HB⟩ := hrel
    by_cases hlt : k < n
    · obtain ⟨b, o, x, rfl, hbb, HX, hx0, hx1, hcx⟩ := h.one hlt
      have hx := (HD.out k hlt).1
      unfold fi at hx
      rw [HX.out] at hx
      have hx9 := hx.2
      have hx1 := hx.1
      clear hx
      by_cases hxT : x = T
      · have hb : (x != T) = false := by rw [hxT]; simp
        have HA2 : Hid (A = nm (pr ts T 0 (k + 1))) := by unfold Hid; rw [pr_skip (by rw [HX.out]; exact hxT)]; exact HA.out
        have HB2 : Hid (B = nm (pr ts T T (k + 1))) := by unfold Hid; rw [pr_skip (by rw [HX.out]; exact hxT)]; exact HB.out
        clear hxT
        go_wp2
        go_round
        case rel => exact ⟨k + 1, A, B, by omega, by go_num, rfl, rfl, hA0, hA1, hB0, hB1, HA2, HB2⟩
        case measure => simp [intOf]; omega
      · have hb : (x != T) = true := neq_bool hxT
        have HA2 : Hid (nm (A * x) = nm (pr ts T 0 (k + 1))) := by
          unfold Hid; rw [pr_take (by rw [HX.out]; exact hxT), HX.out, HA.out, nm_mull, Int.sub_zero]
        have HB2 : Hid (nm (B * nm (x - T)) = nm (pr ts T T (k + 1))) := by
          unfold Hid; rw [pr_take (by rw [HX.out]; exact hxT), HX.out, HB.out, nm_mull, nm_mulr]
        have n1 := nm_bd (A * x)
        have n2 := nm_bd (x - T)
        have n3 := nm_bd (B * nm (x - T))
        clear hxT
        go_wp2_with (first | (go_at_call 47; refine (fMul _ _ _ (by omega) (by omega) (by omega) (by omega)).mono ?_; rintro e w3 ⟨rfl, hw⟩; have hw := hw.symm; subst hw) | (go_at_call 53; refine (fSub _ _ _ (by omega) (by omega) (by omega) (by omega)).mono ?_; rintro e w3 ⟨rfl, hw⟩; have hw := hw.symm; subst hw))
        go_round
        case rel => exact ⟨k + 1, _, _, by omega, by go_num, rfl, rfl, n1.1, n1.2, n3.1, n3.2, HA2, HB2⟩
        case measure => simp [intOf]; omega
    · have hkn : k = n := by omega
      subst hkn
      have HW : Hid (nm (A * iv B) = wt ts k i) := by unfold Hid wt; rw [HT.out, HA.out, HB.out]
      have HNZ : Hid (nm B ≠ 0) := by
        unfold Hid; rw [HB.out, nm_nm, ← HT.out]; exact pr_own HD.out hi k (Nat.le_refl _)
      have hib := iv_bd B
      have hnb := nm_bd (A * iv B)
      go_wp2_with (first | (go_at_call 76; refine (fInv1 _ _ (by omega) (by omega) HNZ.out).mono ?_; rintro e w3 ⟨rfl, hw⟩; have hw := hw.symm; subst hw) | (go_at_call 47; refine (fMul _ _ _ (by omega) (by omega) (by omega) (by omega)).mono ?_; rintro e w3 ⟨rfl, hw⟩; have hw := hw.symm; subst hw))
      go_ret
      rw [HW.out]
      exact ⟨rfl, rfl⟩

set_option maxRecDepth 100000 in
theorem cWeights0 (a : Option Addr) (c : Nat) (w : World) :
    Calls Tryd.prog 75 #[.slice a 0 c] w fun e w' => e = .returned (.tuple #[.slice none 0 0, .int .i64 5]) ∧ w' = w := by
  go_enter Tryd.func75, Tryd.ntmps75
  go_wp2
  go_ret2
  exact ⟨rfl, rfl⟩

/-- What Weights answers: a list of weights, or ErrForm. -/
def Wts (ts : List Int) (n : Nat) (w : World) (e : Ending) (w' : World) : Prop :=
  ((¬ dis (fi ts) n ∧ e = .returned (.tuple #[.slice none 0 0, .int .i64 5])) ∨ (dis (fi ts) n ∧ ∃ g, e = .returned (.tuple #[.slice (some ⟨g, 0, none⟩) n n, .int .i64 0]) ∧ Rd w' (some ⟨g, 0, none⟩) n n ((List.range n).map (wt ts n)) ∧ w.heap.size ≤ g)) ∧ Below w.heap.size w w'

set_option maxRecDepth 100000 in
set_option maxHeartbeats 1000000 in
theorem cWeights1 (a : Option Addr) (n c : Nat) (ts : List Int) (w : World) (h : RdI w a n c ts) (hn0 : 0 < n) :
    Calls Tryd.prog 75 #[.slice a n c] w fun e w' => Wts ts n w e w' := by
  obtain ⟨i0, hi, hz0, hz1, hz2⟩ := info_parts info34
  have hcap := h.cap
  have hmax := h.max
  unfold maxLen at hmax
  have hnb : ((n : Int) == 0) = false := by rw [beq_eq_false_iff_ne]; omega
  go_enter Tryd.func75, Tryd.ntmps75
  go_wp2
  go_loopw [15] (fun i wr => ∃ (k : Nat) (M : List Bool), k ≤ n ∧ i = .int .i64 k ∧ Hid (Mk (fi ts) k M) ∧ BlkB wr w.heap.size M ∧ Below w.heap.size w wr) (fun i _ => n - (intOf i).toNat)
  case atStart => exact ⟨0, _, Nat.zero_le _, rfl, mk_start _, heap_alloc_new w _, (Below.refl _ _).alloc (Nat.le_refl _) _⟩
  case round =>
    obtain ⟨k, M, hk, rfl, HM, hB2, hbel2⟩ := hrel
    have hs1 := hbel2.size
    have hlM := HM.out.len
    by_cases hlt : k < n
    · obtain ⟨b, o, x, rfl, hbb, HX, hx0, hx1, hcx⟩ := (h.below hbel2).one hlt
      go_wp2_with fail
      clear hcx
      by_cases hx : x < 1 ∨ 9 < x
      · have HN : Hid (¬ dis (fi ts) n) := mk_out hlt HX.out hx
        refine (cJoinO _ _ _ hx).mono ?_
        rintro e w' ⟨rfl, hw⟩
        have hw := hw.symm
        subst hw
        clear hx
        go_wp2
        go_ret2
        exact ⟨Or.inl ⟨HN.out, rfl⟩, hbel2⟩
      · obtain ⟨p, rfl⟩ : ∃ p : Nat, x = p := ⟨x.toNat, by omega⟩
        cases hm : M.getD p false with
        | true =>
          have HN : Hid (¬ dis (fi ts) n) := mk_twice HM.out hlt HX.out (by omega) (by omega) hm
          refine (cJoinN _ _ _ _ hB2 hlM (by omega) (by omega) hm).mono ?_
          rintro e w' ⟨rfl, hw⟩
          have hw := hw.symm
          subst hw
          clear hm
          go_wp2
          go_ret2
          exact ⟨Or.inl ⟨HN.out, rfl⟩, hbel2⟩
        | false =>
          have HM2 : Hid (Mk (fi ts) (k + 1) (M.set p true)) := mk_step HM.out HX.out (by omega) (by omega) hm
          refine (cJoinY _ _ _ _ hB2 hlM (by omega) (by omega) hm).mono ?_
          rintro e w' ⟨rfl, rfl⟩
          have hB3 := hB2.set p true
          have hbel3 := below_grown hbel2 (grown_set wr w.heap.size p (.bool true)) (Nat.le_refl _)
          generalize wr.setCell ⟨w.heap.size, p, none⟩ (.bool true) = W3 at *
          clear hm
          go_wp2
          go_roundw
          case rel => exact ⟨k + 1, _, by omega, by go_num, HM2, hB3, hbel3⟩
          case measure => simp [intOf]; omega
    · have hkn : k = n := by omega
      subst hkn
      have HD : Hid (dis (fi ts) k) := HM.out.dis
      have hk9 := dis_nine HD.out
      obtain ⟨wo, hwo⟩ : ∃ wo, wo = wr := ⟨_, rfl⟩
      subst hwo
      clear hB2 hlM HM
      go_wp2_with (at_make; refine wpList_make_full _ rfl _ _ 22 rfl wo.heap.size 34 i0 (.int .u64 0) 1 Tryd.underlying22 hi hz0 hz1 .i64 .i64 _ _ k rfl rfl (by omega) (by omega) (by rw [hz2]; omega) (by unfold maxLen; omega) (Nat.le_refl _) ?_; intro w2 hown hgrow)
      have hB2 : Blk w2 wo.heap.size (fil (wt ts k) k 0) := by rw [← fil_zero]; exact Blk.made hown
      have hb2 : Below wo.heap.size wo w2 := (Below.refl _ _).grown hgrow (Nat.le_refl _) (by simp)
      have hb12 : Below w.heap.size w w2 := hbel2.trans (hb2.mono hs1)
      clear hown hgrow hb2
      go_loopw [28] (fun i wr => ∃ j : Nat, j ≤ k ∧ i = .int .i64 j ∧ Blk wr wo.heap.size (fil (wt ts k) k j) ∧ Below w.heap.size w wr) (fun i _ => k - (intOf i).toNat)
      case atStart => exact ⟨0, Nat.zero_le _, rfl, hB2, hb12⟩
      case round =>
        clear hB2 hb12
        obtain ⟨j, hj, rfl, hblk, hbel⟩ := hrel
        by_cases hlt2 : j < k
        · have hI := h.below hbel
          obtain ⟨b, o, x, rfl, hbb, HX, hx0, hx1, hcx⟩ := hI.one hlt2
          have hcell := hblk.cell (i := j) (by rw [fil_len]; exact hlt2)
          have hfz := hblk.frozen j
          have hlt3 := hblk.lt
          have hblk4 := hblk.set j (wt ts k j)
          rw [fil_set rfl] at hblk4
          have Hb5 : Hid (Below w.heap.size w (wr.setCell ⟨wo.heap.size, j, none⟩ (.int .u64 (wt ts k j)))) := hbel.setCell hs1 _
          have hcw := cWeight _ _ _ _ j wr hI HD.out hlt2
          rw [HX.out] at hcw
          clear hbel hblk
          go_wp2_with (go_at_call 95; refine hcw.mono ?_; rintro e w3 ⟨rfl, hw⟩; have hw := hw.symm; subst hw; clear hcw)
          go_roundw
          case rel => exact ⟨j + 1, by omega, by go_num, hblk4, Hb5.out⟩
          case measure => simp [intOf]; omega
        · have hjk : j = k := by omega
          subst hjk
          have hr : Rd wr (some ⟨wo.heap.size, 0, none⟩) j j ((List.range j).map (wt ts j)) := by
            rw [fil_full] at hblk
            exact Blk.whole hblk j (by simp) (by unfold maxLen; omega) (bd_u64 (by rw [← fil_full]; exact fil_bd (wt_bd ts j) j j))
          go_wp2
          go_ret2
          exact ⟨Or.inr ⟨HD.out, _, rfl, hr, hs1⟩, hbel⟩
end Go.Proofs.YtnofegdlainjaagDoor
