/- Wrong shares of a dealing are told: plain facts. · croftref.Rest. · What make and copy leave. -/
import Derived.Test.YtoifklkdfgfbdagDoorToFieldC
import Derived.Test.YtoifklkdfgfbdagDoorToDealC
import Derived.Test.YtoifklkdfgfbdagDoorProg
import Derived.Test.YtoifklkdfgfbdagDoorToPolyM
import Derived.Laws.CopyOwn
namespace Go.Proofs.YtoifklkdfgfbdagDoor
open Crm

theorem bdl_iff {l : List (Int × Int)} {p : List Int} {x : Int} : ∀ {n : Nat}, x ∈ bdl l p n ↔ ∃ i, i < n ∧ (l.getD i (0, 0)).1 = x ∧ ¬ nm (ev p (l.getD i (0, 0)).1) = nm (l.getD i (0, 0)).2
  | 0 => by simp [bdl]
  | n + 1 => by
    have ih := bdl_iff (l := l) (p := p) (x := x) (n := n)
    by_cases h : nm (ev p (l.getD n (0, 0)).1) = nm (l.getD n (0, 0)).2
    · rw [bdl_ok h, ih]
      constructor
      · rintro ⟨i, h1, h2⟩; exact ⟨i, by omega, h2⟩
      · rintro ⟨i, h1, h2, h3⟩
        by_cases e : i = n
        · subst e; exact absurd h h3
        · exact ⟨i, by omega, h2, h3⟩
    · rw [bdl_bad h, List.mem_append, ih, List.mem_singleton]
      constructor
      · rintro (⟨i, h1, h2⟩ | rfl)
        · exact ⟨i, by omega, h2⟩
        · exact ⟨n, by omega, rfl, h⟩
      · rintro ⟨i, h1, h2, h3⟩
        by_cases e : i = n
        · subst e; exact .inr h2.symm
        · exact .inl ⟨i, by omega, h2, h3⟩
theorem bdl_nodup {l : List (Int × Int)} {p : List Int} : ∀ {n : Nat}, dis (fa l) n → (bdl l p n).Nodup
  | 0, _ => by simp [bdl]
  | n + 1, h => by
    have ih := bdl_nodup (p := p) (dis_le h (show n ≤ n + 1 by omega))
    rw [bdl]
    split
    · exact ih
    · rw [List.nodup_append]
      refine ⟨ih, by simp, fun a ha b hb e => ?_⟩
      obtain ⟨i, h1, h2, _⟩ := bdl_iff.1 ha
      rw [List.mem_singleton] at hb
      have := (h n (by omega)).2 i h1
      unfold fa at this
      rw [h2, e, hb] at this
      exact this rfl

/-- Shares of a dealing of which those of D are wrong. -/
structure MdI (C : List Int) (m : Nat) (L : List (Int × Int)) (D : List Int) : Prop where
  len : L.length = m
  at_ : ∀ j, j < m → (L.getD j (0, 0)).1 = (j : Int) + 1
  bd : ∀ j, j < m → 0 ≤ (L.getD j (0, 0)).2 ∧ (L.getD j (0, 0)).2 ≤ 2147483646
  ok : ∀ j : Nat, j < m → (j : Int) + 1 ∉ D → (L.getD j (0, 0)).2 = dlf C j
  no : ∀ j : Nat, j < m → (j : Int) + 1 ∈ D → (L.getD j (0, 0)).2 ≠ dlf C j
  nd : D.Nodup
  rng : ∀ d ∈ D, ∃ j : Nat, j < m ∧ d = (j : Int) + 1
theorem md_dis {C : List Int} {m : Nat} {L : List (Int × Int)} {D : List Int} (h : MdI C m L D) (hm : m ≤ 9) : dis (fa L) m := fun i hi => by
  have e : ∀ j, j < m → fa L j = (j : Int) + 1 := fun j hj => h.at_ j hj
  rw [e i hi]
  exact ⟨⟨by omega, by omega⟩, fun j hj => by rw [e j (by omega)]; omega⟩
theorem md_step {C : List Int} {m q : Nat} {L : List (Int × Int)} {D : List Int} {b z : Int} (h : MdI C m L D) (hq : q < m) (hD : (q : Int) + 1 ∉ D) (hb : nm b ≠ 0) (hz : z = nm ((L.getD q (0, 0)).2 + b)) : MdI C m (L.set q ((q : Int) + 1, z)) (D ++ [(q : Int) + 1]) := by
  have hl := h.len
  have hg : ∀ j, j < m → (L.set q ((q : Int) + 1, z)).getD j (0, 0) = if j = q then ((q : Int) + 1, z) else L.getD j (0, 0) := fun j hj => by
    by_cases e : j = q
    · subst e; simp [show j < L.length by omega]
    · simp [e, show ¬ q = j from fun e' => e e'.symm]
  refine ⟨by rw [List.length_set]; exact hl, fun j hj => ?_, fun j hj => ?_, fun j hj hn => ?_, fun j hj hn => ?_, ?_, fun d hd => ?_⟩
  · rw [hg j hj]; split
    · rename_i e; rw [e]
    · exact h.at_ j hj
  · rw [hg j hj]; split
    · rw [hz]; exact nm_bd _
    · exact h.bd j hj
  · rw [List.mem_append, List.mem_singleton, not_or] at hn
    rw [hg j hj, if_neg (fun e => hn.2 (by rw [e]))]
    exact h.ok j hj hn.1
  · rw [hg j hj]
    by_cases e : j = q
    · subst e
      rw [if_pos rfl, hz, h.ok j hj hD]
      simp only
      intro e2
      apply hb
      have h1 := dlf_bd C j
      have h2 : nm (dlf C j) = dlf C j := nm_small h1.1 h1.2
      rw [← h2] at e2
      rw [nm_addl] at e2
      unfold nm at e2 ⊢
      omega
    · rw [if_neg e]
      refine h.no j hj ?_
      rcases List.mem_append.1 hn with h1 | h1
      · exact h1
      · rw [List.mem_singleton] at h1; omega
  · rw [List.nodup_append]
    refine ⟨h.nd, by simp, fun a ha b hb e => ?_⟩
    rw [List.mem_singleton] at hb
    rw [e, hb] at ha
    exact hD ha
  · rcases List.mem_append.1 hd with h1 | h1
    · exact h.rng d h1
    · rw [List.mem_singleton] at h1; exact ⟨q, hq, h1⟩
/-- Those of D, and no others. -/
theorem md_bdl {C : List Int} {m : Nat} {L : List (Int × Int)} {D : List Int} (h : MdI C m L D) (hm : m ≤ 9) : (bdl L C m).Perm D := by
  refine (List.perm_ext_iff_of_nodup (bdl_nodup (md_dis h hm)) h.nd).2 fun x => ?_
  have key : ∀ j, j < m → (nm (ev C (L.getD j (0, 0)).1) = nm (L.getD j (0, 0)).2 ↔ (L.getD j (0, 0)).2 = dlf C j) := fun j hj => by
    rw [h.at_ j hj]
    have hb := h.bd j hj
    rw [nm_small hb.1 hb.2]
    exact ⟨fun e => e.symm, fun e => e.symm⟩
  rw [bdl_iff]
  constructor
  · rintro ⟨i, hi, h1, h2⟩
    rw [key i hi] at h2
    rw [← h1, h.at_ i hi]
    exact Decidable.byContradiction fun hn => h2 (h.ok i hi hn)
  · intro hx
    obtain ⟨j, hj, rfl⟩ := h.rng x hx
    exact ⟨j, hj, h.at_ j hj, fun e => h.no j hj hx ((key j hj).1 e)⟩
/-- What Open tells of them. -/
theorem mend_told {C : List Int} {m k : Nat} {L : List (Int × Int)} {D D' B : List Int} {x r : Int} (h : MdI C m L D) (hk : k ≤ 4) (hkm : k < m) (hm : m ≤ 9) (hC : C.length ≤ k + 1) (hD : (D.length : Int) ≤ mayb m k) (hO : OuI D D' D.length) (hR : Rob L m k x B r) : x = nm (C.getD 0 0) ∧ B = D' ∧ r = 0 := by
  have hp := md_bdl h hm
  have hpl := hp.length_eq
  have hS : She L m k 0 := .inr (.inr (.inr ⟨⟨by omega, by omega⟩, md_dis h hm, by omega, rfl⟩))
  have hm2 : 0 ≤ mayb m k ∧ mayb m k ≤ 4 ∧ (k : Int) + 1 + 2 * mayb m k ≤ (m : Int) := by unfold mayb; omega
  have hDc : Dcd L m k (mayb m k) (pdn C (k + 1)) D' 0 := .inr (.inr (.inr (.inl ⟨⟨⟨by omega, by omega⟩, md_dis h hm⟩, ⟨hm2.1, hm2.2.1⟩, hm2.2.2, ⟨C, ⟨by omega, by omega⟩, by congr 1, ⟨hO.perm.trans hp.symm, by rw [hpl]; exact hO.srt⟩⟩, rfl⟩)))
  have hR2 : Rob L m k ((pdn C (k + 1)).getD 0 0) D' 0 := .inr ⟨hS, _, _, 0, hDc, .inr ⟨rfl, rfl, rfl, rfl⟩⟩
  obtain ⟨h1, h2, h3⟩ := hR.one h.len hR2
  rw [pdn_getD C (by omega)] at h1
  exact ⟨h1, h2, h3⟩

/-- The example. -/
theorem known_told {B : List Int} {x r : Int} (h : Rob [(1, 5), (2, 6), (3, 5)] 3 0 x B r) : x = 5 ∧ B = [2] ∧ r = 0 := by
  have hd : dis (fa [(1, 5), (2, 6), (3, 5)]) 3 := by
    intro i hi
    match i, hi with
    | 0, _ => exact ⟨by decide, fun j hj => by omega⟩
    | 1, _ => exact ⟨by decide, fun j hj => by
        match j, hj with
        | 0, _ => decide⟩
    | 2, _ => exact ⟨by decide, fun j hj => by
        match j, hj with
        | 0, _ => decide
        | 1, _ => decide⟩
  have hb : bdl [(1, 5), (2, 6), (3, 5)] [5] 3 = [2] := by decide
  have hS : She [(1, 5), (2, 6), (3, 5)] 3 0 0 := .inr (.inr (.inr ⟨⟨by omega, by omega⟩, hd, by omega, rfl⟩))
  have hm : mayb 3 0 = 1 := by decide
  have hDc : Dcd [(1, 5), (2, 6), (3, 5)] 3 0 (mayb 3 0) (pdn [5] 1) [2] 0 := by
    rw [hm]
    refine .inr (.inr (.inr (.inl ⟨⟨⟨by omega, by omega⟩, hd⟩, ⟨by omega, by omega⟩, by omega, ⟨[5], ⟨by simp, by rw [hb]; simp⟩, rfl, ?_⟩, rfl⟩)))
    rw [hb]
    exact ⟨List.Perm.refl _, fun p q h1 h2 => by simp at h2; omega⟩
  exact h.one rfl (.inr ⟨hS, _, _, 0, hDc, .inr ⟨rfl, by decide, rfl, rfl⟩⟩)
end Go.Proofs.YtoifklkdfgfbdagDoor

namespace Go.Proofs.YtoifklkdfgfbdagDoor
open Go.RowKit

/-- A place of m. -/
def Placed (m : Nat) (e : Ending) : Prop := ∃ q : Nat, q < m ∧ e = .returned (.int .i64 q)
set_option maxRecDepth 100000 in
theorem rRest (i : Int) (m : Nat) (w : World) (hm : 0 < m) (hm2 : m ≤ 1000) :
    Calls Tryd.prog 34 #[.int .i64 i, .int .i64 m] w fun e w' => Placed m e ∧ w' = w := by
  have hm3 : ¬ (m : Int) = 0 := by omega
  have h1 : -(m : Int) < Int.tmod i m := by have := Int.lt_tmod_of_pos i (show (0 : Int) < m by omega); omega
  have h2 : Int.tmod i m < m := Int.tmod_lt_of_pos i (show (0 : Int) < m by omega)
  obtain ⟨r, hr⟩ : ∃ r, Int.tmod i m = r := ⟨_, rfl⟩
  rw [hr] at h1 h2
  by_cases h3 : r < 0
  · go_enter Tryd.func34, Tryd.ntmps34
    go_wp2
    go_ret
    exact ⟨⟨(r + m).toNat, by omega, by show Ending.returned (Value.int .i64 (r + m)) = _; rw [Int.toNat_of_nonneg (by omega)]⟩, rfl⟩
  · go_enter Tryd.func34, Tryd.ntmps34
    go_wp2
    go_ret
    exact ⟨⟨r.toNat, by omega, by show Ending.returned (Value.int .i64 r) = _; rw [Int.toNat_of_nonneg (by omega)]⟩, rfl⟩
end Go.Proofs.YtoifklkdfgfbdagDoor

namespace Go.Proofs.YtoifklkdfgfbdagDoor
open Go.RowKit

/-- The first k numbers of a row, with noughts where it has none. -/
def padded (xs : List Int) (k : Nat) : List Int := xs.take k ++ List.replicate (k - xs.length) 0
theorem padded_len (xs : List Int) (k : Nat) : (padded xs k).length = k := by unfold padded; simp; omega
theorem padded_bd {xs : List Int} (h : ∀ x ∈ xs, 0 ≤ x ∧ x ≤ 18446744073709551615) (k : Nat) : ∀ x ∈ padded xs k, 0 ≤ x ∧ x ≤ 18446744073709551615 := fun x hx => by
  unfold padded at hx
  rcases List.mem_append.1 hx with h1 | h1
  · exact h x (List.mem_of_mem_take h1)
  · rw [List.eq_of_mem_replicate h1]; omega
theorem padded_splice (xs : List Int) (k : Nat) : Go.splice ((List.replicate k (0 : Int)).map (Value.int .u64)) 0 ((xs.take k).map (Value.int .u64)) = (padded xs k).map (Value.int .u64) := by
  unfold Go.splice padded
  simp
  omega

/-- What copy reads. -/
theorem copy_src {w : World} {a : Option Addr} {n c : Nat} {xs : List Int} (h : Rd w a n c xs) (k : Nat) (hp : 0 < ((xs.take k).map (Value.int .u64)).length) : ∃ ad, a = some ad ∧ ∀ j v, ((xs.take k).map (Value.int .u64))[j]? = some v → w.cell? (ad.add j) = some v := by
  have hl := h.len
  have hn : 0 < n := by simp at hp; omega
  obtain ⟨b, o, rfl, _, hc⟩ := h.at hn
  refine ⟨_, rfl, fun j v hj => ?_⟩
  have hjl := (List.getElem?_eq_some_iff.1 hj).1
  simp at hjl
  have hv : v = .int .u64 (xs.getD j 0) := by
    rw [List.getElem?_map, List.getElem?_take, if_pos (by omega), List.getElem?_eq_getElem (show j < xs.length by omega)] at hj
    rw [List.getD_eq_getElem?_getD, List.getElem?_eq_getElem (show j < xs.length by omega)]
    exact (Option.some.inj hj).symm
  rw [hv, Addr.add_lit]
  exact hc j (by omega)
theorem copy_len {xs : List Int} {n k : Nat} (h : xs.length = n) : ((xs.take k).map (Value.int .u64)).length = Nat.min n k := by
  show _ = min n k
  simp; omega
theorem one_ints (xs : List Int) : ∀ v ∈ xs.map (Value.int .u64), v.oneCell' = true := fun v hv => by obtain ⟨x, _, rfl⟩ := List.mem_map.1 hv; rfl
end Go.Proofs.YtoifklkdfgfbdagDoor
