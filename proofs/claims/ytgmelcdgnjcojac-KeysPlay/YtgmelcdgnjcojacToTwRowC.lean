/- The square of numbers of a dealing in two variables: plain facts, and its block. · twine.Need, value, allHave. · (*twine.square).row. -/
import Derived.Test.YtgmelcdgnjcojacToTwineM
import Derived.Laws.Rows
import Derived.Laws.Tables
import Derived.Test.YtgmelcdgnjcojacToTellsM
namespace Go.Proofs.Ytgmelcdgnjcojac
open Go.RowKit Crm

theorem dn_cons {s z : Int} {ds : List Int} {q : Nat} (h : (q : Int) = z + 1) : (s :: ds).getD q 0 = dn s ds z := by
  unfold dn
  cases q with
  | zero => rw [if_pos (by omega)]; rfl
  | succ q => rw [if_neg (by omega), cons_getDs]; congr 1; omega
/-- The numbers ahead of (i, j) are laid. -/
structure Sqr (s : Int) (ds : List Int) (t i j : Nat) (C : List Int) : Prop where
  len : C.length = 25
  bd : ∀ x ∈ C, 0 ≤ x ∧ x ≤ 18446744073709551615
  val : ∀ a b : Nat, a ≤ b → b ≤ t → (a < i ∨ (a = i ∧ b < j)) → C.getD (a * 5 + b) 0 = dn s ds (nd2 t a + ((b : Int) - a)) ∧ C.getD (b * 5 + a) 0 = dn s ds (nd2 t a + ((b : Int) - a))
theorem sqr_start (s : Int) (ds : List Int) (t : Nat) : Sqr s ds t 0 0 (List.replicate 25 0) :=
  ⟨by simp, fun x hx => by rw [List.eq_of_mem_replicate hx]; omega, fun a b _ _ h => by omega⟩
theorem sqr_step {s v : Int} {ds C : List Int} {t i j : Nat} (h : Sqr s ds t i j C) (ht : t ≤ 4) (hij : i ≤ j) (hj : j ≤ t) (hv : v = dn s ds (nd2 t i + ((j : Int) - i))) (hv0 : 0 ≤ v) (hv1 : v ≤ 18446744073709551615) : Sqr s ds t i (j + 1) ((C.set (i * 5 + j) v).set (j * 5 + i) v) := by
  have hl := h.len
  refine ⟨by simp [hl], bd_set (bd_set h.bd _ ⟨hv0, hv1⟩) _ ⟨hv0, hv1⟩, fun a b hab hb hd => ?_⟩
  by_cases e : a = i ∧ b = j
  · obtain ⟨rfl, rfl⟩ := e
    rw [getD_set, getD_set, getD_set, getD_set, ← hv]
    rw [List.length_set, hl]
    refine ⟨?_, ?_⟩
    · by_cases e : b * 5 + a = a * 5 + b
      · rw [if_pos ⟨e, by omega⟩]
      · rw [if_neg (fun h => e h.1), if_pos ⟨rfl, by omega⟩]
    · rw [if_pos ⟨rfl, by omega⟩]
  · have := h.val a b hab hb (by omega)
    rw [getD_set, getD_set, getD_set, getD_set]
    rw [if_neg (fun h => by omega), if_neg (fun h => by omega), if_neg (fun h => by omega), if_neg (fun h => by omega)]
    exact this
theorem sqr_row {s : Int} {ds C : List Int} {t i j : Nat} (h : Sqr s ds t i j C) (hj : t < j) : Sqr s ds t (i + 1) (i + 1) C :=
  ⟨h.len, h.bd, fun a b hab hb hd => h.val a b hab hb (by omega)⟩
theorem sqr_end {s : Int} {ds C : List Int} {t i j a b : Nat} (h : Sqr s ds t i j C) (hi : t < i) (ha : a ≤ t) (hb : b ≤ t) : nm (C.getD (a * 5 + b) 0) = A2 s ds t a b := by
  unfold A2
  by_cases e : a ≤ b
  · rw [if_pos e, (h.val a b e hb (by omega)).1]
  · rw [if_neg e, (h.val b a (by omega) ha (by omega)).2]
/-- Row j of it tells the row's number j. -/
theorem sqr_ev {s : Int} {ds C : List Int} {t i j k : Nat} (h : Sqr s ds t i j C) (hi : t < i) (hk : k ≤ t) (x : Int) : nm (ev ((C.drop (k * 5)).take (t + 1)) x) = nm (ev (colA s ds t k) x) := by
  refine ev_congr _ _ _ fun q => ?_
  by_cases hq : q ≤ t
  · rw [colA_getD s ds t k hq, take_getD, if_pos (by omega), A2_sym, ← sqr_end h hi hk hq, nm_nm]
    congr 1
    simp
  · rw [getD_big (show (colA s ds t k).length ≤ q by rw [colA_len]; omega), take_getD, if_neg (by omega)]
/-- What is left of a list when its first number is taken. -/
theorem Rd.tail {w : World} {b o n c : Nat} {xs : List Int} {a : Option Addr} (h : Rd w (some ⟨b, o, none⟩) (n + 1) (c + 1) xs) (ha : (0 < n → a = some ⟨b, o + 1, none⟩) ∧ a ≠ none) : Rd w a n c (xs.drop 1) := by
  have h1 := h.cap
  have h2 := h.max
  refine ⟨by have := h.len; simp; omega, by omega, by omega, fun x hx => h.bd x (List.mem_of_mem_drop hx), fun e => absurd e ha.2, fun x hx i hi => ?_⟩
  rw [ha.1 (by omega)] at hx
  obtain rfl := Option.some.inj hx
  have := h.cell _ rfl (i + 1) (by omega)
  rw [Addr.add_lit] at this ⊢
  rw [show o + 1 + i = o + (i + 1) by omega, this]
  congr 2
  simp
end Go.Proofs.Ytgmelcdgnjcojac

namespace Go.Proofs.Ytgmelcdgnjcojac
open Go.RowKit Crm

set_option maxRecDepth 100000 in
theorem cTwNeed (t : Int) (w : World) : Calls Try.prog 44 #[.int .i64 t] w fun e w' => Nds t w e w' := by
  by_cases h1 : t < 0
  · have HT : Hid (t < 0 ∨ 4 < t) := .inl h1
    go_enter Try.func44, Try.ntmps44
    go_wp2
    go_ret2
    exact ⟨.inl ⟨HT.out, rfl⟩, Below.refl _ _⟩
  · by_cases h2 : 4 < t
    · have HT : Hid (t < 0 ∨ 4 < t) := .inr h2
      go_enter Try.func44, Try.ntmps44
      go_wp2
      go_ret2
      exact ⟨.inl ⟨HT.out, rfl⟩, Below.refl _ _⟩
    · have hk : t = 0 ∨ t = 1 ∨ t = 2 ∨ t = 3 ∨ t = 4 := by omega
      clear h1 h2
      rcases hk with rfl | rfl | rfl | rfl | rfl
      · go_enter Try.func44, Try.ntmps44
        go_wp2
        go_ret2
        exact ⟨.inr ⟨0, rfl, by omega, rfl⟩, Below.refl _ _⟩
      · go_enter Try.func44, Try.ntmps44
        go_wp2
        go_ret2
        exact ⟨.inr ⟨1, rfl, by omega, rfl⟩, Below.refl _ _⟩
      · go_enter Try.func44, Try.ntmps44
        go_wp2
        go_ret2
        exact ⟨.inr ⟨2, rfl, by omega, rfl⟩, Below.refl _ _⟩
      · go_enter Try.func44, Try.ntmps44
        go_wp2
        go_ret2
        exact ⟨.inr ⟨3, rfl, by omega, rfl⟩, Below.refl _ _⟩
      · go_enter Try.func44, Try.ntmps44
        go_wp2
        go_ret2
        exact ⟨.inr ⟨4, rfl, by omega, rfl⟩, Below.refl _ _⟩

end Go.Proofs.Ytgmelcdgnjcojac

namespace Go.Proofs.Ytgmelcdgnjcojac
open Go.RowKit Crm

/-- A row of the call's own, all of it. -/
theorem Blk.own {w : World} {g n B : Nat} {L : List Int} (h : Blk w g L) (hl : L.length = n) (hB : B ≤ g) (hn : n ≤ 1000) : w.ownsRow B 23 1 (.slice (some ⟨g, 0, none⟩) n n) n (L.map (Value.int .u64)) :=
  ⟨by simp [hl], .inr ⟨g, n, _, rfl, hB, h, Nat.le_refl _, by unfold maxLen; omega, by simp [hl], by rw [List.take_of_length_le (by simp [hl])]⟩⟩

end Go.Proofs.Ytgmelcdgnjcojac
