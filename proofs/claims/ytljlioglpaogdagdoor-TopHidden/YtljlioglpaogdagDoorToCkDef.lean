/- croftkeep.some, crofttop.some: some of the parties, none twice. · What the calls of package circuit answer. -/
import Derived.Test.YtljlioglpaogdagDoorToBadM
import Derived.Test.YtljlioglpaogdagDoorToContC
import Derived.Test.YtljlioglpaogdagDoorToShpM
import Derived.Test.YtljlioglpaogdagDoorToSortM
namespace Go.Proofs.YtljlioglpaogdagDoor
set_option linter.unusedVariables false
set_option maxRecDepth 100000
set_option maxHeartbeats 8000000
section
open Crm Go.RowKit
/-- Some of n parties, none twice, at most t. -/
def Som (L : List Int) (t n : Nat) : Prop := L.length ≤ t ∧ dis (fi L) L.length ∧ ∀ j, j < L.length → L.getD j 0 ≤ (n : Int)
theorem som_nil (t n : Nat) : Som [] t n := ⟨Nat.zero_le _, dis_zero _, fun j hj => by simp at hj⟩
theorem som_bd {L : List Int} {t n : Nat} (h : Som L t n) : ∀ x ∈ L, -9223372036854775808 ≤ x ∧ x ≤ 9223372036854775807 := fun x hx => by
  obtain ⟨j, hj, rfl⟩ := List.getElem_of_mem hx
  have := (h.2.1 j hj).1
  unfold fi at this
  rw [List.getD_eq_getElem?_getD, List.getElem?_eq_getElem hj] at this
  simp only [Option.getD_some] at this
  omega
theorem som_add {L : List Int} {t n q : Nat} (h : Som L t n) (hl : L.length < t) (hq : q < n) (hn : n ≤ 9) (hno : ∀ j, j < L.length → L.getD j 0 ≠ (q : Int) + 1) : Som (L ++ [(q : Int) + 1]) t n := by
  have g1 : ∀ j, j < L.length → (L ++ [(q : Int) + 1]).getD j 0 = L.getD j 0 := fun j hj => by simp [List.getElem?_append_left hj]
  have g2 : (L ++ [(q : Int) + 1]).getD L.length 0 = (q : Int) + 1 := by simp
  have hle : (L ++ [(q : Int) + 1]).length = L.length + 1 := by simp
  refine ⟨by omega, ?_, fun j hj => ?_⟩
  · rw [hle]
    refine dis_succ (x := (q : Int) + 1) (fun i hi => ?_) g2 (by omega) (by omega) (fun j hj => by show (L ++ [(q : Int) + 1]).getD j 0 ≠ _; rw [g1 j hj]; exact hno j hj)
    obtain ⟨h1, h2⟩ := h.2.1 i hi
    unfold fi at h1 h2 ⊢
    rw [g1 i hi]
    exact ⟨h1, fun j hj => by rw [g1 j (by omega)]; exact h2 j hj⟩
  · rw [hle] at hj
    by_cases e : j = L.length
    · rw [e, g2]; omega
    · rw [g1 j (by omega)]; exact h.2.2 j (by omega)

theorem tSome (a : Option Addr) (m c : Nat) (ps : List Int) (t n : Nat) (w : World) (h : RdI w a m c ps) (hn : 0 < n) (hn9 : n ≤ 9) (ht : t ≤ 4) :
    Calls Tryd.prog 33 #[.slice a m c, .int .i64 (t : Int), .int .i64 (n : Int)] w fun e w' => ∃ v L, e = .returned v ∧ w'.ownsRow w.heap.size 3 1 v L.length (zns L) ∧ Som L t n ∧ Below w.heap.size w w' := by
  have hcap := h.cap
  have hmax := h.max
  unfold maxLen at hmax
  go_enter Tryd.func33, Tryd.ntmps33
  go_wp2
  go_loopw [7, 13] (fun v i wr => ∃ (j : Nat) (L : List Int), j ≤ m ∧ i = .int .i64 j ∧ wr.ownsRow w.heap.size 3 1 v L.length (zns L) ∧ Hid (Som L t n) ∧ Below w.heap.size w wr) (fun _ i _ => m - (intOf i).toNat)
  case atStart => exact ⟨0, [], Nat.zero_le _, rfl, World.ownsRow_nil _ _ _ _, som_nil t n, Below.refl _ _⟩
  case round =>
    obtain ⟨j, L, hj, rfl, hown, HS, hbel⟩ := hrel
    have hs := hbel.size
    by_cases hlt : j < m
    · obtain ⟨b, o, x, rfl, hbb, HX, hx0, hx1, hcx⟩ := (h.below hbel).one hlt
      obtain ⟨aL, cL, rfl, hrL⟩ := RdI.own hown (som_bd HS.out)
      have hlt4 := HS.out.1
      have hcL := hrL.cap
      have hmL := hrL.max
      unfold maxLen at hmL
      obtain ⟨l, HL⟩ : ∃ l, Hid (L.length = l) := ⟨_, rfl⟩
      rw [HL.out] at hown hrL hlt4 hcL ⊢
      go_wp2_with fail
      refine (rRest x n _ hn (by omega)).mono ?_
      rintro e w1 ⟨⟨q, hq, rfl⟩, hw⟩
      have hw := hw.symm
      subst hw
      have hq1 : (1 : Int) + (q : Int) = (q : Int) + 1 := by omega
      by_cases hl : l < t
      · have hli : (l : Int) < (t : Int) := by omega
        by_cases hc : ∃ j0, j0 < l ∧ L.getD j0 0 = (q : Int) + 1
        · obtain ⟨j0, hj0, hxe⟩ := hc
          have HJ : Hid (L.getD j0 0 = (q : Int) + 1) := hxe
          clear hxe
          go_wp2_with (go_at_call 34; refine (iContT _ _ _ _ ((q : Int) + 1) _ hrL hj0 HJ.out).mono ?_; rintro e w3 ⟨rfl, hw⟩; have hw := hw.symm; subst hw)
          go_roundw
          case rel => exact ⟨j + 1, L, by omega, by go_num, by rw [HL.out]; exact hown, HS, hbel⟩
          case measure => simp [intOf]; omega
        · have HNO : Hid (∀ j0, j0 < l → L.getD j0 0 ≠ (q : Int) + 1) := fun j0 h1 h2 => hc ⟨j0, h1, h2⟩
          have HSA : Hid (Som (L ++ [(q : Int) + 1]) t n) := som_add HS.out (by rw [HL.out]; exact hl) hq hn9 (by rw [HL.out]; exact HNO.out)
          have HZN : Hid (zns L ++ [.int .i64 ((q : Int) + 1)] = zns (L ++ [(q : Int) + 1])) := zns_snoc _ _
          have HLA : Hid ((L ++ [(q : Int) + 1]).length = l + 1) := by unfold Hid; rw [List.length_append, HL.out]; rfl
          clear hc
          go_wp2_with (first | (go_at_call 34; refine (iContF _ _ _ _ ((q : Int) + 1) _ hrL HNO.out).mono ?_; rintro e w3 ⟨rfl, hw⟩; have hw := hw.symm; subst hw) | (at_builtin; refine wpList_appV Tryd.underlying24 infoZ rfl (by omega) _ rfl _ _ rfl w.heap.size _ _ _ rfl hown (.int .i64 ((q : Int) + 1)) rfl rfl (by omega) hs ?_; intro v8 w8 hob8 hgr8 _; rw [HZN.out] at hob8; have hB8 := hbel.grown hgr8 hs (fun j hj => (hown.lt j hj).1); clear hgr8))
          go_roundw
          case rel => exact ⟨j + 1, _, by omega, by go_num, by rw [HLA.out]; exact hob8, HSA, hB8⟩
          case measure => simp [intOf]; omega
      · have hli : ¬ ((l : Int) < (t : Int)) := by omega
        go_wp2
        go_roundw
        case rel => exact ⟨j + 1, L, by omega, by go_num, by rw [HL.out]; exact hown, HS, hbel⟩
        case measure => simp [intOf]; omega
    · have hjm : j = m := by omega
      subst hjm
      go_wp2
      go_ret
      exact ⟨_, L, rfl, hown, HS.out, hbel⟩
/-- What Inputs answers. -/
def Cin (G : List Gt) (O : List Int) (n m : Nat) (w : World) (e : Ending) (w' : World) : Prop :=
  ((∃ r, r ≠ 0 ∧ Cke G O n m r ∧ e = .returned (.tuple #[.slice none 0 0, .int .i64 r])) ∨
   (Cke G O n m 0 ∧ ∃ v, e = .returned (.tuple #[v, .int .i64 0]) ∧ w'.ownsRow w.heap.size 3 1 v (ci G n) (zns (whl G n)))) ∧ Below w.heap.size w w'
/-- What is wrong with a circuit and its inputs. -/
def Cre (G : List Gt) (O : List Int) (n m q : Nat) (r : Int) : Prop :=
  (r ≠ 0 ∧ Cke G O n m r) ∨ (Cke G O n m 0 ∧ ((q ≠ ci G n ∧ r = 5) ∨ (q = ci G n ∧ r = 0)))
theorem Cre.one {G : List Gt} {O : List Int} {n m q : Nat} {r s : Int} (h : Cre G O n m q r) (k : Cre G O n m q s) : r = s := by
  rcases h with ⟨h1, h2⟩ | ⟨h1, ⟨h2, rfl⟩ | ⟨h2, rfl⟩⟩ <;> rcases k with ⟨k1, k2⟩ | ⟨k1, ⟨k2, rfl⟩ | ⟨k2, rfl⟩⟩
  all_goals first
    | rfl
    | exact h2.one k2
    | exact absurd (h2.one k1) h1
    | exact absurd (k2.one h1) k1
    | exact absurd k2 h2
    | exact absurd h2 k2
theorem Cre.ok {G : List Gt} {O : List Int} {n m q : Nat} (h : Cre G O n m q 0) : Cke G O n m 0 ∧ q = ci G n := by
  rcases h with ⟨h1, _⟩ | ⟨h1, ⟨_, h2⟩ | ⟨h2, _⟩⟩
  · exact absurd rfl h1
  · omega
  · exact ⟨h1, h2⟩
/-- What Run answers. -/
def Crn (G : List Gt) (O ins : List Int) (n m q : Nat) (w : World) (e : Ending) (w' : World) : Prop :=
  ((∃ r, r ≠ 0 ∧ Cre G O n m q r ∧ e = .returned (.tuple #[.slice none 0 0, .int .i64 r])) ∨
   (Cre G O n m q 0 ∧ ∃ v, e = .returned (.tuple #[v, .int .i64 0]) ∧ w'.ownsRow w.heap.size 34 1 v m ((otl G O ins m).map (Value.int .u64)))) ∧ Below w.heap.size w w'
end
end Go.Proofs.YtljlioglpaogdagDoor
