/- Wrong shares of a dealing are told: plain facts. · decode.misses. -/
import Derived.Test.YtljlioglpaogdaeToBwM
import Derived.Test.YtljlioglpaogdaeToDivF
import Derived.Test.YtljlioglpaogdaeToRows2
import Derived.Test.YtljlioglpaogdaeToTwoC
import Derived.Test.YtljlioglpaogdaeSortC
namespace Go.Proofs.Ytljlioglpaogdae
set_option linter.unusedVariables false
set_option maxRecDepth 100000
set_option maxHeartbeats 8000000
section
open Crm
theorem bdl_iff {l : List (Int × Int)} {p : List Int} {x : Int} : ∀ {n : Nat}, x ∈ bdl l p n ↔ ∃ i, i < n ∧ (l.getD i (0, 0)).1 = x ∧ ¬ nm (ev p (l.getD i (0, 0)).1) = nm (l.getD i (0, 0)).2
  | 0 => by simp [bdl]
  | n + 1 => by
    have ih := bdl_iff (l := l) (p := p) (x := x) (n := n)
    by_cases h : nm (ev p (l.getD n (0, 0)).1) = nm (l.getD n (0, 0)).2
    · rw [bdl_ok h, ih]
      constructor
      · rintro ⟨i, h1, h2⟩; exact ⟨i, by omega, h2⟩
      · rintro ⟨i, h1, h2, h3⟩
        by_cases e : i = n
        · subst e; exact absurd h h3
        · exact ⟨i, by omega, h2, h3⟩
    · rw [bdl_bad h, List.mem_append, ih, List.mem_singleton]
      constructor
      · rintro (⟨i, h1, h2⟩ | rfl)
        · exact ⟨i, by omega, h2⟩
        · exact ⟨n, by omega, rfl, h⟩
      · rintro ⟨i, h1, h2, h3⟩
        by_cases e : i = n
        · subst e; exact .inr h2.symm
        · exact .inl ⟨i, by omega, h2, h3⟩
theorem bdl_nodup {l : List (Int × Int)} {p : List Int} : ∀ {n : Nat}, dis (fa l) n → (bdl l p n).Nodup
  | 0, _ => by simp [bdl]
  | n + 1, h => by
    have ih := bdl_nodup (p := p) (dis_le h (show n ≤ n + 1 by omega))
    rw [bdl]
    split
    · exact ih
    · rw [List.nodup_append]
      refine ⟨ih, by simp, fun a ha b hb e => ?_⟩
      obtain ⟨i, h1, h2, _⟩ := bdl_iff.1 ha
      rw [List.mem_singleton] at hb
      have := (h n (by omega)).2 i h1
      unfold fa at this
      rw [h2, e, hb] at this
      exact this rfl

/-- Shares of a dealing of which those of D are wrong. -/
structure MdI (C : List Int) (m : Nat) (L : List (Int × Int)) (D : List Int) : Prop where
  len : L.length = m
  at_ : ∀ j, j < m → (L.getD j (0, 0)).1 = (j : Int) + 1
  bd : ∀ j, j < m → 0 ≤ (L.getD j (0, 0)).2 ∧ (L.getD j (0, 0)).2 ≤ 2147483646
  ok : ∀ j : Nat, j < m → (j : Int) + 1 ∉ D → (L.getD j (0, 0)).2 = dlf C j
  no : ∀ j : Nat, j < m → (j : Int) + 1 ∈ D → (L.getD j (0, 0)).2 ≠ dlf C j
  nd : D.Nodup
  rng : ∀ d ∈ D, ∃ j : Nat, j < m ∧ d = (j : Int) + 1
theorem md_dis {C : List Int} {m : Nat} {L : List (Int × Int)} {D : List Int} (h : MdI C m L D) (hm : m ≤ 9) : dis (fa L) m := fun i hi => by
  have e : ∀ j, j < m → fa L j = (j : Int) + 1 := fun j hj => h.at_ j hj
  rw [e i hi]
  exact ⟨⟨by omega, by omega⟩, fun j hj => by rw [e j (by omega)]; omega⟩
theorem md_step {C : List Int} {m q : Nat} {L : List (Int × Int)} {D : List Int} {b z : Int} (h : MdI C m L D) (hq : q < m) (hD : (q : Int) + 1 ∉ D) (hb : nm b ≠ 0) (hz : z = nm ((L.getD q (0, 0)).2 + b)) : MdI C m (L.set q ((q : Int) + 1, z)) (D ++ [(q : Int) + 1]) := by
  have hl := h.len
  have hg : ∀ j, j < m → (L.set q ((q : Int) + 1, z)).getD j (0, 0) = if j = q then ((q : Int) + 1, z) else L.getD j (0, 0) := fun j hj => by
    by_cases e : j = q
    · subst e; simp [show j < L.length by omega]
    · simp [e, show ¬ q = j from fun e' => e e'.symm]
  refine ⟨by rw [List.length_set]; exact hl, fun j hj => ?_, fun j hj => ?_, fun j hj hn => ?_, fun j hj hn => ?_, ?_, fun d hd => ?_⟩
  · rw [hg j hj]; split
    · rename_i e; rw [e]
    · exact h.at_ j hj
  · rw [hg j hj]; split
    · rw [hz]; exact nm_bd _
    · exact h.bd j hj
  · rw [List.mem_append, List.mem_singleton, not_or] at hn
    rw [hg j hj, if_neg (fun e => hn.2 (by rw [e]))]
    exact h.ok j hj hn.1
  · rw [hg j hj]
    by_cases e : j = q
    · subst e
      rw [if_pos rfl, hz, h.ok j hj hD]
      simp only
      intro e2
      apply hb
      have h1 := dlf_bd C j
      have h2 : nm (dlf C j) = dlf C j := nm_small h1.1 h1.2
      rw [← h2] at e2
      rw [nm_addl] at e2
      unfold nm at e2 ⊢
      omega
    · rw [if_neg e]
      refine h.no j hj ?_
      rcases List.mem_append.1 hn with h1 | h1
      · exact h1
      · rw [List.mem_singleton] at h1; omega
  · rw [List.nodup_append]
    refine ⟨h.nd, by simp, fun a ha b hb e => ?_⟩
    rw [List.mem_singleton] at hb
    rw [e, hb] at ha
    exact hD ha
  · rcases List.mem_append.1 hd with h1 | h1
    · exact h.rng d h1
    · rw [List.mem_singleton] at h1; exact ⟨q, hq, h1⟩
/-- Those of D, and no others. -/
theorem md_bdl {C : List Int} {m : Nat} {L : List (Int × Int)} {D : List Int} (h : MdI C m L D) (hm : m ≤ 9) : (bdl L C m).Perm D := by
  refine (List.perm_ext_iff_of_nodup (bdl_nodup (md_dis h hm)) h.nd).2 fun x => ?_
  have key : ∀ j, j < m → (nm (ev C (L.getD j (0, 0)).1) = nm (L.getD j (0, 0)).2 ↔ (L.getD j (0, 0)).2 = dlf C j) := fun j hj => by
    rw [h.at_ j hj]
    have hb := h.bd j hj
    rw [nm_small hb.1 hb.2]
    exact ⟨fun e => e.symm, fun e => e.symm⟩
  rw [bdl_iff]
  constructor
  · rintro ⟨i, hi, h1, h2⟩
    rw [key i hi] at h2
    rw [← h1, h.at_ i hi]
    exact Decidable.byContradiction fun hn => h2 (h.ok i hi hn)
  · intro hx
    obtain ⟨j, hj, rfl⟩ := h.rng x hx
    exact ⟨j, hj, h.at_ j hj, fun e => h.no j hj hx ((key j hj).1 e)⟩
/-- What Open tells of them. -/
theorem mend_told {C : List Int} {m k : Nat} {L : List (Int × Int)} {D D' B : List Int} {x r : Int} (h : MdI C m L D) (hk : k ≤ 4) (hkm : k < m) (hm : m ≤ 9) (hC : C.length ≤ k + 1) (hD : (D.length : Int) ≤ mayb m k) (hO : OuI D D' D.length) (hR : Rob L m k x B r) : x = nm (C.getD 0 0) ∧ B = D' ∧ r = 0 := by
  have hp := md_bdl h hm
  have hpl := hp.length_eq
  have hS : She L m k 0 := .inr (.inr (.inr ⟨⟨by omega, by omega⟩, md_dis h hm, by omega, rfl⟩))
  have hm2 : 0 ≤ mayb m k ∧ mayb m k ≤ 4 ∧ (k : Int) + 1 + 2 * mayb m k ≤ (m : Int) := by unfold mayb; omega
  have hDc : Dcd L m k (mayb m k) (pdn C (k + 1)) D' 0 := .inr (.inr (.inr (.inl ⟨⟨⟨by omega, by omega⟩, md_dis h hm⟩, ⟨hm2.1, hm2.2.1⟩, hm2.2.2, ⟨C, ⟨by omega, by omega⟩, by congr 1, ⟨hO.perm.trans hp.symm, by rw [hpl]; exact hO.srt⟩⟩, rfl⟩)))
  have hR2 : Rob L m k ((pdn C (k + 1)).getD 0 0) D' 0 := .inr ⟨hS, _, _, 0, hDc, .inr ⟨rfl, rfl, rfl, rfl⟩⟩
  obtain ⟨h1, h2, h3⟩ := hR.one h.len hR2
  rw [pdn_getD C (by omega)] at h1
  exact ⟨h1, h2, h3⟩

/-- The sample. -/
theorem known_told {B : List Int} {x r : Int} (h : Rob [(1, 5), (2, 6), (3, 5)] 3 0 x B r) : x = 5 ∧ B = [2] ∧ r = 0 := by
  have hd : dis (fa [(1, 5), (2, 6), (3, 5)]) 3 := by
    intro i hi
    match i, hi with
    | 0, _ => exact ⟨by decide, fun j hj => by omega⟩
    | 1, _ => exact ⟨by decide, fun j hj => by
        match j, hj with
        | 0, _ => decide⟩
    | 2, _ => exact ⟨by decide, fun j hj => by
        match j, hj with
        | 0, _ => decide
        | 1, _ => decide⟩
  have hb : bdl [(1, 5), (2, 6), (3, 5)] [5] 3 = [2] := by decide
  have hS : She [(1, 5), (2, 6), (3, 5)] 3 0 0 := .inr (.inr (.inr ⟨⟨by omega, by omega⟩, hd, by omega, rfl⟩))
  have hm : mayb 3 0 = 1 := by decide
  have hDc : Dcd [(1, 5), (2, 6), (3, 5)] 3 0 (mayb 3 0) (pdn [5] 1) [2] 0 := by
    rw [hm]
    refine .inr (.inr (.inr (.inl ⟨⟨⟨by omega, by omega⟩, hd⟩, ⟨by omega, by omega⟩, by omega, ⟨[5], ⟨by simp, by rw [hb]; simp⟩, rfl, ?_⟩, rfl⟩)))
    rw [hb]
    exact ⟨List.Perm.refl _, fun p q h1 h2 => by simp at h2; omega⟩
  exact h.one rfl (.inr ⟨hS, _, _, 0, hDc, .inr ⟨rfl, by decide, rfl, rfl⟩⟩)
end
section
open Crm Go.RowKit
theorem cMisses (ap : Option Addr) (m cp : Nat) (p : List Int) (a : Option Addr) (n c : Nat) (l : List (Int × Int)) (w : World) (hp : Rd w ap m cp p) (h : RdS w a n c l) (hm : m ≤ 40) (hd : dis (fa l) n) :
    Calls Try.prog 63 #[.slice ap m cp, .slice a n c] w fun e w' => ∃ (B : List Int) (ab : Option Addr) (cb : Nat), e = .returned (.slice ab (bdl l p n).length cb) ∧
      w'.ownsRow w.heap.size 3 1 (.slice ab (bdl l p n).length cb) (bdl l p n).length (zns B) ∧ OuI (bdl l p n) B (bdl l p n).length ∧ Below w.heap.size w w' := by
  have hn9 := dis_nine hd
  have HD : Hid (dis (fa l) n) := hd
  clear hd
  have hcap := h.cap
  have hmax := h.max
  unfold maxLen at hmax
  go_enter Try.func63, Try.ntmps63
  go_wp2
  go_loopw [5, 12] (fun v i wr => ∃ k : Nat, k ≤ n ∧ i = .int .i64 k ∧ wr.ownsRow w.heap.size 3 1 v (bdl l p k).length (zns (bdl l p k)) ∧ Below w.heap.size w wr) (fun _ i _ => n - (intOf i).toNat)
  case atStart => exact ⟨0, Nat.zero_le _, rfl, World.ownsRow_nil _ _ _ _, Below.refl _ _⟩
  case round =>
    obtain ⟨k, hk, rfl, hown, hbel⟩ := hrel
    have hs3 := hbel.size
    have hbk := bdl_le l p k
    by_cases hlt : k < n
    · obtain ⟨b, o, x, y, rfl, hbb, HX, HY, hx0, hx1, hy0, hy1, hcx, hcy⟩ := (h.below hbel).one hlt
      have hx9 := (HD.out k hlt).1
      unfold fa at hx9
      rw [HX.out] at hx9
      have hx1 := hx9.1
      have hx9 := hx9.2
      have hcA0 := cell_alloc0 wr (.int .i64 x) (.int .u64 y) 29
      have hcA1 := cell_alloc1 wr (.int .i64 x) (.int .u64 y) 29
      have hbA : Below w.heap.size w (wr.alloc (.cells #[.int .i64 x, .int .u64 y] 29)) := hbel.alloc hs3 _
      have hownA : (wr.alloc (.cells #[.int .i64 x, .int .u64 y] 29)).ownsRow w.heap.size 3 1 u5 (bdl l p k).length (zns (bdl l p k)) := hown.alloc _
      have hszA : (wr.alloc (.cells #[.int .i64 x, .int .u64 y] 29)).heap.size = wr.heap.size + 1 := by simp
      have hsA : w.heap.size ≤ (wr.alloc (.cells #[.int .i64 x, .int .u64 y] 29)).heap.size := by omega
      have hltA : wr.heap.size < (wr.alloc (.cells #[.int .i64 x, .int .u64 y] 29)).heap.size := by omega
      go_wp2_with fail
      generalize wr.alloc (.cells #[.int .i64 x, .int .u64 y] 29) = wd at *
      clear hszA
      have hpA := hp.below hbA
      refine (cEvalOK _ _ _ _ _ _ hpA (by omega) (by omega) (by omega)).mono ?_
      rintro e w2 ⟨rfl, hb2⟩
      have hcB0 : w2.cell? ⟨wr.heap.size, 0, none⟩ = some (.int .i64 x) := by rw [hb2.cell hltA]; exact hcA0
      have hcB1 : w2.cell? ⟨wr.heap.size, 1, none⟩ = some (.int .u64 y) := by rw [hb2.cell hltA]; exact hcA1
      have hownB := own_below hownA hb2
      have hbB := hbA.trans (hb2.mono hbA.size)
      have hsB := hbB.size
      clear hcx hcy hown hbel hcA0 hcA1 hbA hownA hpA hb2
      by_cases hm : nm (ev p x) = nm y
      · have hmb : (nm (ev p x) != nm y) = false := by rw [hm]; simp
        have HB : Hid (bdl l p (k + 1) = bdl l p k) := bdl_ok (by rw [HX.out, HY.out]; exact hm)
        clear hm
        go_wp2_with (go_at_call 16; refine (fNorm _ _ (by omega) (by omega)).mono ?_; rintro e w3 ⟨rfl, hw⟩; have hw := hw.symm; subst hw)
        go_roundw
        case rel => exact ⟨k + 1, by omega, by go_num, by rw [HB.out]; exact hownB, hbB⟩
        case measure => simp [intOf]; omega
      · have hmb : (nm (ev p x) != nm y) = true := by rw [bne_iff_ne]; exact hm
        have HB : Hid (bdl l p (k + 1) = bdl l p k ++ [x]) := by
          have := bdl_bad (l := l) (p := p) (k := k) (by rw [HX.out, HY.out]; exact hm)
          rwa [HX.out] at this
        clear hm
        go_wp2_with (first | (go_at_call 16; refine (fNorm _ _ (by omega) (by omega)).mono ?_; rintro e w3 ⟨rfl, hw⟩; have hw := hw.symm; subst hw) | (at_builtin; refine wpList_appV Try.underlying24 infoZ rfl (by omega) _ rfl _ _ rfl w.heap.size _ _ _ rfl hownB (.int .i64 x) rfl rfl (by omega) hsB ?_; intro v' w7 hown7 hgr7 _; rw [zns_snoc, ← HB.out] at hown7; have hlB : (bdl l p k).length + 1 = (bdl l p (k + 1)).length := (by rw [HB.out]; simp); rw [hlB] at hown7; have hbel7 := hbB.grown hgr7 hsB (fun j hj => (hownB.lt j hj).1); clear hgr7 hownB hbB hlB))
        go_roundw
        case rel => exact ⟨k + 1, by omega, by go_num, hown7, hbel7⟩
        case measure => simp [intOf]; omega
    · have hkn : k = n := by omega
      subst hkn
      obtain ⟨ab, cb, rfl, hcb⟩ := own_slice hown
      obtain ⟨NB, HNB⟩ : ∃ NB, Hid ((bdl l p k).length = NB) := ⟨_, rfl⟩
      rw [HNB.out] at hown hcb hbk ⊢
      go_wp2_with fail
      refine (zSorts _ _ _ _ _ hown (by omega)).mono ?_
      rintro e w3 ⟨rfl, B, hO, hown3, hgr3⟩
      have hlt2 := hown.lt
      have hb3 : Below w.heap.size w w3 := hbel.grown hgr3 hs3 (fun j hj => (hlt2 j hj).1)
      have HO : Hid (OuI (bdl l p k) B NB) := hO
      clear hown hgr3 hlt2 hO hbel
      go_wp2
      go_ret
      refine ⟨B, ab, cb, ?_, ?_, ?_, hb3⟩
      · rw [HNB.out]; rfl
      · rw [HNB.out]; exact hown3
      · rw [HNB.out]; exact HO.out
end
end Go.Proofs.Ytljlioglpaogdae
