/- What a right circuit lets be known. · Circuits that are told alike reckon alike: plain facts. · slices.EqualFunc of lists of lists, as crofttop.TopTexts asks it. -/
import Derived.Test.YtoifklkdfgfbdahDoorToLsV
import Derived.Test.YtoifklkdfgfbdahDoorToRLineC
import Derived.Test.YtoifklkdfgfbdahDoorToCktP
import Derived.Test.YtoifklkdfgfbdahDoorToRefA
namespace Go.Proofs.YtoifklkdfgfbdahDoor
open Crm

/-- What a right circuit lets be known. -/
theorem Nde.facts {G : List Gt} {O : List Int} {N m : Nat} {n t : Int} (h : Nde G O N m n t 0) : Cke G O N m 0 ∧ ∃ n' t' : Nat, n = n' ∧ t = t' ∧ 2 * t' + 1 ≤ n' ∧ n' ≤ 9 ∧ t' ≤ 4 := by
  obtain ⟨c1, o1, o2, o3, _⟩ := h.ok
  exact ⟨c1, n.toNat, t.toNat, by omega, by omega, by omega, by omega, by omega⟩
end Go.Proofs.YtoifklkdfgfbdahDoor

namespace Go.Proofs.YtoifklkdfgfbdahDoor
open Crm

/-- Gates that are alike, but for numbers that have one rest. -/
def Alk (A B : List Gt) (N : Nat) : Prop := ∀ i, i < N → (gt A i).k = (gt B i).k ∧ (gt A i).a = (gt B i).a ∧ (gt A i).b = (gt B i).b ∧ nm (gt A i).n = nm (gt B i).n
theorem Alk.whl {A B : List Gt} {N : Nat} (h : Alk A B N) : ∀ i, i ≤ N → whl A i = whl B i
  | 0, _ => rfl
  | i + 1, hi => by
    obtain ⟨h1, h2, _, _⟩ := h i (by omega)
    show (if (gt A i).k = 1 then Go.Proofs.YtoifklkdfgfbdahDoor.whl A i ++ [(gt A i).a] else Go.Proofs.YtoifklkdfgfbdahDoor.whl A i) = (if (gt B i).k = 1 then Go.Proofs.YtoifklkdfgfbdahDoor.whl B i ++ [(gt B i).a] else Go.Proofs.YtoifklkdfgfbdahDoor.whl B i)
    rw [h1, h2, Alk.whl h i (by omega)]
theorem Alk.ci {A B : List Gt} {N : Nat} (h : Alk A B N) {i : Nat} (hi : i ≤ N) : ci A i = ci B i := by unfold Go.Proofs.YtoifklkdfgfbdahDoor.ci; rw [h.whl i hi]
theorem Alk.dwn {A B : List Gt} {N : Nat} (h : Alk A B N) (n t : Nat) : ∀ i, i ≤ N → dwn A n t i = dwn B n t i
  | 0, _ => rfl
  | i + 1, hi => by
    obtain ⟨h1, _, _, _⟩ := h i (by omega)
    rw [Go.Proofs.YtoifklkdfgfbdahDoor.dwn, Go.Proofs.YtoifklkdfgfbdahDoor.dwn, h1, Alk.dwn h n t i (by omega)]
theorem Alk.gv {A B : List Gt} {N : Nat} (h : Alk A B N) (W : List Int) (q : Int) {i : Nat} (hi : i < N) : gv W q (gt A i) = gv W q (gt B i) := by
  obtain ⟨h1, h2, h3, h4⟩ := h i hi
  unfold Go.Proofs.YtoifklkdfgfbdahDoor.gv
  rw [h1, h2, h3, h4]
  have e : nm (W.getD (gt B i).a.toNat 0 * (gt A i).n) = nm (W.getD (gt B i).a.toNat 0 * (gt B i).n) := by rw [← nm_mulr, h4, nm_mulr]
  rw [e]
theorem Alk.wv {A B : List Gt} {N : Nat} (h : Alk A B N) (ins : List Int) : ∀ i, i ≤ N → wv A ins i = wv B ins i
  | 0, _ => rfl
  | i + 1, hi => by
    rw [Go.Proofs.YtoifklkdfgfbdahDoor.wv, Go.Proofs.YtoifklkdfgfbdahDoor.wv, Alk.wv h ins i (by omega), h.ci (show i ≤ N by omega), h.gv _ _ (show i < N by omega)]
theorem Alk.wi {A B : List Gt} {N : Nat} (h : Alk A B N) (ins : List Int) {i : Nat} (hi : i < N) : wi A ins i = wi B ins i := by
  unfold Go.Proofs.YtoifklkdfgfbdahDoor.wi
  rw [h.wv ins i (by omega), h.ci (show i ≤ N by omega), h.gv _ _ hi]
theorem Alk.otl {A B : List Gt} {N m : Nat} {O : List Int} (h : Alk A B N) (ins : List Int) (hO : okO O N m) : otl A O ins m = otl B O ins m := by
  unfold Go.Proofs.YtoifklkdfgfbdahDoor.otl
  refine List.map_congr_left fun j hj => h.wi ins ?_
  have := hO j (List.mem_range.1 hj)
  omega
theorem mxl_alk {x y : List Int} {a a' b c : Int} {n : Nat} (h : nm a = nm a') : mxl x y a b c n = mxl x y a' b c n := by
  unfold mxl
  refine List.map_congr_left fun i _ => ?_
  unfold nm at h ⊢
  rw [Int.add_assoc, Int.add_assoc, Int.add_emod, Int.mul_emod, h, ← Int.mul_emod, ← Int.add_emod]
theorem Alk.esh {A B : List Gt} {N : Nat} (h : Alk A B N) (n t : Nat) (ins ds : List Int) (W : List (List Int)) {i : Nat} (hi : i < N) : esh A n t ins ds W i = esh B n t ins ds W i := by
  obtain ⟨h1, h2, h3, h4⟩ := h i hi
  unfold Go.Proofs.YtoifklkdfgfbdahDoor.esh edr
  rw [h1, h2, h3, h4, h.ci (show i ≤ N by omega), h.dwn n t i (by omega), mxl_alk h4]
theorem Alk.ewr {A B : List Gt} {N : Nat} (h : Alk A B N) (n t : Nat) (ins ds : List Int) : ∀ i, i ≤ N → ewr A n t ins ds i = ewr B n t ins ds i
  | 0, _ => rfl
  | i + 1, hi => by rw [Go.Proofs.YtoifklkdfgfbdahDoor.ewr, Go.Proofs.YtoifklkdfgfbdahDoor.ewr, Alk.ewr h n t ins ds i (by omega), h.esh n t ins ds _ (show i < N by omega)]
theorem Alk.ew {A B : List Gt} {N : Nat} (h : Alk A B N) (n t : Nat) (ins ds : List Int) {i : Nat} (hi : i < N) : ew A n t ins ds i = ew B n t ins ds i := by
  unfold Go.Proofs.YtoifklkdfgfbdahDoor.ew
  rw [h.ewr n t ins ds i (by omega), h.esh n t ins ds _ hi]
theorem Alk.esn {A B : List Gt} {N : Nat} (h : Alk A B N) (hG : okG B N) (n t : Nat) (ins ds : List Int) {i : Nat} (hi : i < N) (j : Nat) : esn A n t ins ds i j = esn B n t ins ds i j := by
  obtain ⟨h1, h2, h3, _⟩ := h i hi
  unfold Go.Proofs.YtoifklkdfgfbdahDoor.esn edr
  rw [h1, h2, h3, h.ew n t ins ds hi, h.dwn n t i (by omega)]
  by_cases e1 : (gt B i).k = 1
  · rw [if_pos e1, if_pos e1]
  · rw [if_neg e1, if_neg e1]
    by_cases e5 : (gt B i).k = 5
    · rw [if_pos e5, if_pos e5]
      rcases hG i hi with ⟨k, _⟩ | ⟨k, _⟩ | ⟨k, _⟩ | ⟨_, k1, k2, _⟩
      · omega
      · omega
      · omega
      · rw [h.ew n t ins ds (show (gt B i).a.toNat < N by omega), h.ew n t ins ds (show (gt B i).b.toNat < N by omega)]
    · rw [if_neg e5, if_neg e5]
theorem flatMap_eq {α β : Type} {f g : α → List β} : ∀ {l : List α}, (∀ x ∈ l, f x = g x) → l.flatMap f = l.flatMap g
  | [], _ => rfl
  | x :: l, h => by rw [List.flatMap_cons, List.flatMap_cons, h x (by simp), flatMap_eq fun y hy => h y (by simp [hy])]
theorem Alk.snl {A B : List Gt} {N m : Nat} {O : List Int} (h : Alk A B N) (hG : okG B N) (hO : okO O N m) (n t : Nat) (ins ds : List Int) : snl A O n t ins ds N m = snl B O n t ins ds N m := by
  unfold Go.Proofs.YtoifklkdfgfbdahDoor.snl sno sng
  refine List.map_congr_left fun j _ => ?_
  congr 1
  · exact flatMap_eq fun i hi => h.esn hG n t ins ds (List.mem_range.1 hi) j
  · refine flatMap_eq fun o ho => h.ew n t ins ds ?_
    have := hO o (List.mem_range.1 ho)
    omega
theorem Alk.okG {A B : List Gt} {N : Nat} (h : Alk A B N) (hG : okG B N) (hz : ∀ i, i < N → ((gt B i).n = 0 → (gt A i).n = 0)) : okG A N := fun i hi => by
  obtain ⟨h1, h2, h3, _⟩ := h i hi
  unfold okg
  rw [h1, h2, h3]
  rcases hG i hi with ⟨k1, k2, k3, k4⟩ | k | k | ⟨k1, k2, k3, k4⟩
  · exact .inl ⟨k1, k2, k3, hz i hi k4⟩
  · exact .inr (.inl k)
  · exact .inr (.inr (.inl k))
  · exact .inr (.inr (.inr ⟨k1, k2, k3, hz i hi k4⟩))
/-- The circuit that is read again is alike. -/
theorem alk_nm (G : List Gt) (N : Nat) : Alk ((nmG G N).map nmg) G N := fun i hi => by
  rw [gt_map, nmG_gt G hi]
  exact ⟨rfl, rfl, rfl, by show nm (nm (nm _)) = _; rw [nm_nm, nm_nm]⟩
theorem alk_run {G : List Gt} {O : List Int} {N m q d : Nat} {n t : Int} (h : Ere G O N m n t q d 0) : Ere ((nmG G N).map nmg) O N m n t q d 0 := by
  have ha := alk_nm G N
  rcases h with ⟨h1, _⟩ | ⟨h1, h2⟩
  · exact absurd rfl h1
  obtain ⟨c1, c2⟩ := h1.ok
  obtain ⟨k1, k2, k3, k4⟩ := c1.ok
  have hG : okG ((nmG G N).map nmg) N := Alk.okG ha k3 fun i hi e => by
    rw [gt_map, nmG_gt G hi]
    show nm (nm (gt G i).n) = 0
    rw [e]
    rfl
  refine .inr ⟨.inr ⟨.inr ⟨⟨by omega, by omega⟩, .inr ⟨⟨k1.2, k2.2⟩, .inr ⟨⟨hG, k4⟩, rfl⟩⟩⟩, .inr ⟨⟨c2.1, c2.2.1, c2.2.2.1, by rw [ha.whl N (Nat.le_refl _)]; exact c2.2.2.2⟩, rfl⟩⟩, ?_⟩
  rw [ha.ci (Nat.le_refl N), ha.dwn _ _ N (Nat.le_refl _)]
  exact h2
/-- The text of nothing is no circuit's. -/
theorem par_mt : Par ⟨#[]⟩ [] [] 0 1 := by
  refine .inr ⟨by decide, .inr ⟨[], [], ?_, .inr ⟨?_, rfl, .inl ⟨.inl rfl, rfl⟩, .inl ⟨by decide, rfl, rfl⟩⟩⟩⟩
  · exact ⟨rfl, rfl⟩
  · rfl
end Go.Proofs.YtoifklkdfgfbdahDoor

namespace Go.Proofs.YtoifklkdfgfbdahDoor
open Go.RowKit Crm

set_option maxRecDepth 100000 in
theorem tSame1 (a : Option Addr) (n c : Nat) (b : Option Addr) (m d : Nat) (xs : List Int) (w : World) (h : Rd w a n c xs) (g : Rd w b m d xs) :
    Calls Tryd.prog 13 #[.slice a n c, .slice b m d] w fun e w' => e = .returned (.bool true) ∧ Below w.heap.size w w' := by
  go_enter Tryd.func13, Tryd.ntmps13
  go_wp2_with fail
  refine (cSame _ _ _ _ _ _ _ _ h g).mono ?_
  rintro e w1 ⟨rfl, hb1⟩
  go_wp2
  go_ret
  exact ⟨rfl, hb1⟩

set_option maxRecDepth 100000 in
set_option maxHeartbeats 1000000 in
theorem tEqualFunc (a : Option Addr) (n c : Nat) (b : Option Addr) (d : Nat) (l : List (List Int)) (w : World) (h : RdR w a n c l) (g : RdR w b n d l) :
    Calls Tryd.prog 12 #[.slice a n c, .slice b n d, .func (.func 13) #[] #[]] w fun e w' => e = .returned (.bool true) ∧ Below w.heap.size w w' := by
  have hcap := h.cap
  have hmax := h.max
  unfold maxLen at hmax
  go_enter Tryd.func12, Tryd.ntmps12
  go_wp2
  go_loopw [17] (fun i wr => ∃ k : Nat, k ≤ n ∧ i = .int .i64 k ∧ Below w.heap.size w wr) (fun i _ => n - (intOf i).toNat)
  case atStart => exact ⟨0, Nat.zero_le _, rfl, Below.refl _ _⟩
  case round =>
    obtain ⟨k, hk, rfl, hbel⟩ := hrel
    have hs1 := hbel.size
    by_cases hlt : k < n
    · obtain ⟨b1, o1, a1, n1, c1, row, rfl, hbb, HRow, hcr, hrow⟩ := (h.below hbel).one hlt
      obtain ⟨b2, o2, a2, n2, c2, row2, rfl, hbb2, HRow2, hcr2, hrow2⟩ := (g.below hbel).one hlt
      obtain rfl : row = row2 := HRow.out.symm.trans HRow2.out
      clear HRow HRow2
      go_wp2_with fail
      refine (tSame1 _ _ _ _ _ _ _ _ hrow hrow2).mono ?_
      rintro e w3 ⟨rfl, hb3⟩
      have hw3 := hbel.trans (hb3.mono hs1)
      clear hrow hrow2 hbel hb3
      go_wp2
      go_roundw
      case rel => exact ⟨k + 1, by omega, by go_num, hw3⟩
      case measure => simp [intOf]; omega
    · have hkn : k = n := by omega
      subst hkn
      go_wp2
      go_ret
      exact ⟨rfl, hbel⟩
end Go.Proofs.YtoifklkdfgfbdahDoor
