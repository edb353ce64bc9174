/- croftkeep.picked. -/
import Derived.Test.YtenbmdibbnlljadDelC
namespace Go.Proofs.Ytenbmdibbnlljad
open Go.RowKit Crm

theorem own_keepB {w w' : World} {base B n c g : Nat} {E : TypeId} {xs : List Value} (h : w.ownsRow base E 2 (.slice (some ⟨g, 0, none⟩) n c) n xs) (hb : Below B w w') (hg : g < B) : w'.ownsRow base E 2 (.slice (some ⟨g, 0, none⟩) n c) n xs := by
  refine ⟨h.1, .inr ?_⟩
  rcases h.2 with ⟨e, _⟩ | ⟨g', cap, cur, e, hb', hgr, h1, h2, hs, ht⟩
  · simp at e
  · simp only [Value.slice.injEq, Option.some.injEq, Addr.mk.injEq, and_true, true_and] at e
    obtain ⟨rfl, rfl⟩ := e
    exact ⟨g, c, cur, rfl, hb', by rw [hb.block g hg]; exact hgr, h1, h2, hs, ht⟩
theorem own_keepG {w w' : World} {base n g : Nat} {E : TypeId} {v : Value} {xs : List Value} (h : w.ownsRow base E 2 v n xs) (hg : w.grownBy w' (some g)) (hlt : g < base) : w'.ownsRow base E 2 v n xs := by
  refine ⟨h.1, ?_⟩
  rcases h.2 with h' | ⟨g', cap, cur, e, hb', hgr, h1⟩
  · exact .inl h'
  · refine .inr ⟨g', cap, cur, e, hb', ?_, h1⟩
    rw [hg.block g' (Array.getElem?_eq_some_iff.1 hgr).1 (by simp; omega)]
    exact hgr
theorem er_perm : ∀ (l : List (Int × Int)) (q : Nat) (h : q < l.length), (l[q] :: l.eraseIdx q).Perm l
  | [], q, h => by simp at h
  | a :: l, 0, _ => List.Perm.refl _
  | a :: l, q + 1, h => by
    have hq : q < l.length := by simpa using h
    have ih := er_perm l q hq
    show (l[q] :: a :: l.eraseIdx q).Perm (a :: l)
    exact (List.Perm.swap a _ _).trans (ih.cons a)
/-- One more is picked. -/
structure Pk (l out rem : List (Int × Int)) (n k : Nat) : Prop where
  lo : out.length = k
  lr : rem.length = n - k
  perm : (out ++ rem).Perm l
theorem pk_start {l : List (Int × Int)} {n : Nat} (hl : l.length = n) : Pk l [] l n 0 := ⟨rfl, by omega, List.Perm.refl _⟩
theorem pk_step {l out rem : List (Int × Int)} {n k q : Nat} {x y : Int} (h : Pk l out rem n k) (hq : q < n - k) (hx : (rem.getD q (0, 0)).1 = x) (hy : (rem.getD q (0, 0)).2 = y) : Pk l (out ++ [(x, y)]) (rem.eraseIdx q) n (k + 1) := by
  have hlr := h.lr
  have e : rem[q]'(by omega) = (x, y) := by
    have e1 : rem.getD q (0, 0) = rem[q]'(by omega) := by simp [List.getElem?_eq_getElem (show q < rem.length by omega)]
    rw [← e1, ← hx, ← hy]
  refine ⟨by simp [h.lo], by rw [List.length_eraseIdx_of_lt (by omega)]; omega, ?_⟩
  have h1 := er_perm rem q (by omega)
  rw [e] at h1
  rw [List.append_assoc]
  exact (List.Perm.append_left out h1).trans h.perm

/-- What picked leaves. -/
def Picks (l : List (Int × Int)) (K : Nat) (w : World) (e : Ending) (w' : World) : Prop :=
  ∃ out rem v', e = .returned v' ∧ out.length = K ∧ (out ++ rem).Perm l ∧ w'.ownsRow w.heap.size 38 2 v' K (shc out) ∧ Below w.heap.size w w'

set_option maxHeartbeats 2000000 in
set_option maxRecDepth 100000 in
theorem kPicked (v : Value) (n base : Nat) (l : List (Int × Int)) (a1 : Option Addr) (n1 c1 : Nat) (ts : List Int) (K : Nat) (w : World) (h : w.ownsRow base 38 2 v n (shc l)) (hl : l.length = n) (hn : 0 < n) (hn9 : n ≤ 9) (hK : K ≤ n)
    (hbd : ∀ p ∈ l, (1 ≤ p.1 ∧ p.1 ≤ 9) ∧ 0 ≤ p.2 ∧ p.2 ≤ 2147483646) (hT : RdI w a1 n1 c1 ts) :
    Calls Try.prog 30 #[v, .slice a1 n1 c1, .int .i64 K] w fun e w' => Picks l K w e w' := by
  have hTc := hT.cap
  have hTm := hT.max
  unfold maxLen at hTm
  have HBD : Hid (∀ p ∈ l, (1 ≤ p.1 ∧ p.1 ≤ 9) ∧ 0 ≤ p.2 ∧ p.2 ≤ 2147483646) := hbd
  clear hbd
  obtain ⟨g0, c0, rfl, _, _, _, _⟩ := own_at2 h hn
  go_enter Try.func30, Try.ntmps30
  go_wp2_with fail
  refine (cCloneS _ _ _ _ _ h hn hn9).mono ?_
  rintro e w1 ⟨v1, rfl, hown1, hb1⟩
  obtain ⟨g, c, rfl, hg1, hg2, hnc, hcm⟩ := own_at2 hown1 hn
  unfold maxLen at hcm
  have hs1 := hb1.size
  clear h
  go_wp2
  go_loopw [0, 7, 13] (fun r v i wr => ∃ (k : Nat) (out rem : List (Int × Int)), k ≤ K ∧ i = .int .i64 k ∧ r = .slice (some ⟨g, 0, none⟩) (n - k) c ∧ Hid (Pk l out rem n k) ∧ wr.ownsRow w.heap.size 38 2 r (n - k) (shc rem) ∧ wr.ownsRow w1.heap.size 38 2 v k (shc out) ∧ Below w.heap.size w wr ∧ w1.heap.size ≤ wr.heap.size) (fun _ _ i _ => K - (intOf i).toNat)
  case atStart => exact ⟨0, [], l, Nat.zero_le _, rfl, rfl, pk_start hl, hown1, World.ownsRow_nil _ _ _ _, hb1, Nat.le_refl _⟩
  case round =>
    clear hown1 hb1
    obtain ⟨k, out, rem, hk, rfl, rfl, HP, hownR, hownO, hbel, hsz⟩ := hrel
    have hlr := HP.out.lr
    have hlo := HP.out.lo
    by_cases hlt : k < K
    · have HF : Hid (∀ (q : Nat), q < n - k → ∃ x y, Hid ((rem.getD q (0, 0)).1 = x) ∧ Hid ((rem.getD q (0, 0)).2 = y) ∧ (1 ≤ x ∧ x ≤ 9) ∧ (0 ≤ y ∧ y ≤ 2147483646) ∧ wr.cell? ⟨g, q * 2, none⟩ = some (.int .i64 x) ∧ wr.cell? ⟨g, q * 2 + 1, none⟩ = some (.int .u64 y)) := fun q hq => by
        have h1 := sh_cell hownR hlr hq
        have h2 := HBD.out (rem.getD q (0, 0)) (HP.out.perm.subset (List.mem_append_right _ (by
          rw [List.getD_eq_getElem?_getD, List.getElem?_eq_getElem (show q < rem.length by omega)]; exact List.getElem_mem _)))
        exact ⟨_, _, rfl, rfl, h2.1, h2.2, h1.1, h1.2⟩
      by_cases hkp : k < n1
      · obtain ⟨b, o, t, rfl, hbb, HX, ht0, ht1, hct⟩ := (hT.below hbel).one hkp
        go_wp2_with fail
        refine (rRest _ (n - k) _ (by omega) (by omega)).mono ?_
        rintro e w2 ⟨⟨q, hq, rfl⟩, hw⟩
        have hw := hw.symm
        subst hw
        obtain ⟨x, y, HXX, HYY, hx, hy, hcx, hcy⟩ := HF.out q hq
        have HP2 : Hid (Pk l (out ++ [(x, y)]) (rem.eraseIdx q) n (k + 1)) := pk_step HP.out hq HXX.out HYY.out
        clear HF
        go_wp2_with (at_builtin; refine wpList_appS Try.underlying39 infoSh _ rfl _ _ rfl w1.heap.size _ _ _ rfl hownO _ _ rfl (by omega) (by omega) ?_; intro v' w7 hown7 hbel7)
        have hownR7 := own_keepB hownR hbel7 hg2
        have hbw7 := hbel.trans (hbel7.mono hs1)
        have hsz7 := hbel7.size
        clear hownR hownO hbel hbel7 hcx hcy hct
        refine (cDelete g (n - k) c w.heap.size q _ _ hownR7 hlr hq (by omega) (by omega)).mono ?_
        rintro e w8 ⟨rfl, hownR8, hgr8⟩
        have e8 : n - k - 1 = n - (k + 1) := by omega
        rw [e8] at hownR8 ⊢
        have hown8 := own_keepG hown7 hgr8 hg2
        have hbw8 := below_grown hbw7 hgr8 hg1
        have hsz8 : w1.heap.size ≤ w8.heap.size := by have := hgr8.size; omega
        clear hgr8 hown7 hbw7 hownR7 e8
        go_wp2
        go_roundw
        case rel => exact ⟨k + 1, _, _, by omega, by go_num, rfl, HP2, hownR8, hown8, hbw8, hsz8⟩
        case measure => simp [intOf]; omega
      · obtain ⟨x, y, HXX, HYY, hx, hy, hcx, hcy⟩ := HF.out 0 (by omega)
        have HP2 : Hid (Pk l (out ++ [(x, y)]) (rem.eraseIdx 0) n (k + 1)) := pk_step HP.out (by omega) HXX.out HYY.out
        clear HF
        go_wp2_with (at_builtin; refine wpList_appS Try.underlying39 infoSh _ rfl _ _ rfl w1.heap.size _ _ _ rfl hownO _ _ rfl (by omega) (by omega) ?_; intro v' w7 hown7 hbel7)
        have hownR7 := own_keepB hownR hbel7 hg2
        have hbw7 := hbel.trans (hbel7.mono hs1)
        have hsz7 := hbel7.size
        clear hownR hownO hbel hbel7 hcx hcy
        refine (cDelete g (n - k) c w.heap.size 0 _ _ hownR7 hlr (by omega) (by omega) (by omega)).mono ?_
        rintro e w8 ⟨rfl, hownR8, hgr8⟩
        have e8 : n - k - 1 = n - (k + 1) := by omega
        rw [e8] at hownR8 ⊢
        have hown8 := own_keepG hown7 hgr8 hg2
        have hbw8 := below_grown hbw7 hgr8 hg1
        have hsz8 : w1.heap.size ≤ w8.heap.size := by have := hgr8.size; omega
        clear hgr8 hown7 hbw7 hownR7 e8
        go_wp2
        go_roundw
        case rel => exact ⟨k + 1, _, _, by omega, by go_num, rfl, HP2, hownR8, hown8, hbw8, hsz8⟩
        case measure => simp [intOf]; omega
    · have hkK : k = K := by omega
      subst hkK
      have hownO2 : wr.ownsRow w.heap.size 38 2 u7 k (shc out) := by
        rcases hownO.2 with h' | ⟨g', cap, cur, e1, e2, e3⟩
        · exact ⟨hownO.1, Or.inl h'⟩
        · exact ⟨hownO.1, Or.inr ⟨g', cap, cur, e1, by omega, e3⟩⟩
      go_wp2
      go_ret
      exact ⟨out, rem, _, rfl, HP.out.lo, HP.out.perm, hownO2, hbel⟩
end Go.Proofs.Ytenbmdibbnlljad
