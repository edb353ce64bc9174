/- Circuits without products: what a few see is the same for other inputs: plain facts. · croftref.Played: what each party has seen so far, and the wires' numbers: memory. · What the calls of package engine answer. · What the calls of package gate answer. · Package gate: wires, reckonBoth, reckonEach, and Add, Sub, Scale, Plus by them. · gate.Add, Sub, Scale, Plus. · croftkeep.dealt; shares that are written. -/
import Derived.Test.YtljlioglpaogdagDoorToTopRightM
import Derived.Test.YtljlioglpaogdagDoorToLsV2
import Derived.Test.YtljlioglpaogdagDoorToShpM
import Derived.Test.YtljlioglpaogdagDoorToContC
import Derived.Test.YtljlioglpaogdagDoorToWireC
import Derived.Test.YtljlioglpaogdagDoorToOpenC
import Derived.Deep.RegionWith
import Derived.BigQuiet
import Derived.Test.YtljlioglpaogdagDoorToTopC
namespace Go.Proofs.YtljlioglpaogdagDoor
set_option linter.unusedVariables false
set_option maxRecDepth 100000
set_option maxHeartbeats 8000000
section
open Crm
theorem dwn_nomul {G : List Gt} {N : Nat} (h : ∀ i, i < N → (gt G i).k ≠ 5) (n t : Nat) : ∀ i, i ≤ N → dwn G n t i = ci G i * t
  | 0, _ => by rw [ci_zero, Nat.zero_mul]; rfl
  | i + 1, hi => by
    rw [dwn, dwn_nomul h n t i (by omega)]
    by_cases h1 : (gt G i).k = 1
    · rw [if_pos h1, ci_in h1, Nat.add_mul, Nat.one_mul]
    · rw [if_neg h1, if_neg (h i (by omega)), ci_no h1, Nat.add_zero]
theorem flat_len {f : Nat → List Int} {t : Nat} (hf : ∀ i, (f i).length = t) : ∀ q, ((List.range q).flatMap f).length = q * t
  | 0 => by simp
  | q + 1 => by rw [List.range_succ, List.flatMap_append, List.length_append, flat_len hf q, List.flatMap_cons, List.flatMap_nil, List.append_nil, hf, Nat.add_mul, Nat.one_mul]
theorem flat_snoc (f : Nat → List Int) (q : Nat) : (List.range q).flatMap f ++ f q = (List.range (q + 1)).flatMap f := by rw [List.range_succ, List.flatMap_append, List.flatMap_cons, List.flatMap_nil, List.append_nil]
theorem flat_block {f : Nat → List Int} {t : Nat} (hf : ∀ i, (f i).length = t) : ∀ q i, i < q → (((List.range q).flatMap f).drop (i * t)).take t = f i
  | 0, i, h => by omega
  | q + 1, i, h => by
    have hl := flat_len hf q
    rw [← flat_snoc]
    by_cases e : i = q
    · subst e
      rw [List.drop_append, hl, Nat.sub_self, List.drop_zero, List.drop_eq_nil_of_le (by omega), List.nil_append, List.take_of_length_le (by rw [hf]; exact Nat.le_refl _)]
    · have h1 : i * t + t ≤ q * t := by
        have : (i + 1) * t ≤ q * t := Nat.mul_le_mul_right t (by omega)
        rwa [Nat.add_mul, Nat.one_mul] at this
      rw [List.drop_append_of_le_length (by omega), List.take_append_of_le_length (by rw [List.length_drop]; omega)]
      exact flat_block hf q i (by omega)
/-- The draws of each input, shifted. -/
def esf (who : List Int) (k t : Nat) (xs ys ds : List Int) (i : Nat) : List Int := shf who k (xs.getD i 0) (ys.getD i 0) ((ds.drop (i * t)).take t) t
def esl (who : List Int) (k t : Nat) (xs ys ds : List Int) (q : Nat) : List Int := (List.range q).flatMap (esf who k t xs ys ds)
theorem esf_len (who : List Int) (k t : Nat) (xs ys ds : List Int) (i : Nat) : (esf who k t xs ys ds i).length = t := shf_len _ _ _ _ _ _
theorem esl_snoc (who : List Int) (k t : Nat) (xs ys ds : List Int) (q : Nat) : esl who k t xs ys ds q ++ esf who k t xs ys ds q = esl who k t xs ys ds (q + 1) := flat_snoc _ _
theorem esl_bd (who : List Int) (k t : Nat) (xs ys ds : List Int) (q : Nat) : ∀ z ∈ esl who k t xs ys ds q, 0 ≤ z ∧ z ≤ 2147483646 := fun z hz => by
  obtain ⟨i, _, hi⟩ := List.mem_flatMap.1 hz
  exact shf_bd _ _ _ _ _ _ z hi
theorem esl_block (who : List Int) (k t : Nat) (xs ys ds : List Int) {q i : Nat} (h : i < q) : ((esl who k t xs ys ds q).drop (i * t)).take t = esf who k t xs ys ds i := flat_block (esf_len who k t xs ys ds) q i h
/-- Of each wire, each party's number has turned by what the wire has turned, times the polynomial there. -/
theorem hid_wire {G : List Gt} {N n t k : Nat} {who xs ys ds : List Int} (hG : okG G N) (hno : ∀ i, i < N → (gt G i).k ≠ 5) (hk : k ≤ t) (hd : ds.length = ci G N * t) :
    ∀ i, i < N → ∀ p, p < n → (ew G n t ys (esl who k t xs ys ds (ci G N)) i).getD p 0 = nm ((ew G n t xs ds i).getD p 0 + (wi G ys i - wi G xs i) * ev (bl who k) ((p : Int) + 1)) := by
  intro i
  induction i using Nat.strongRecOn with
  | _ i ih =>
    intro hi p hp
    obtain ⟨E, hE⟩ : ∃ E, ev (bl who k) ((p : Int) + 1) = E := ⟨_, rfl⟩
    rw [hE]
    have hbd : ∀ (s d : List Int) (j : Nat), nm ((ew G n t s d j).getD p 0) = (ew G n t s d j).getD p 0 := fun s d j => by
      have := getD_bd' (ew_bd G n t s d j) p
      exact nm_small this.1 this.2
    rcases hG i hi with ⟨h1, _, _, _⟩ | ⟨h1, _, _⟩ | ⟨h1, h2, _⟩ | ⟨h1, h2, h3, _⟩
    · have hc := ci_lt hi h1
      have hcl : ci G i * t + t ≤ ds.length := by
        have : (ci G i + 1) * t ≤ ci G N * t := Nat.mul_le_mul_right t hc
        rw [Nat.add_mul, Nat.one_mul] at this
        omega
      rw [ew_in h1, ew_in h1, dl_getD _ hp, dl_getD _ hp, wi_in h1, wi_in h1]
      unfold dlf edr
      rw [dwn_nomul hno n t i (by omega), esl_block who k t xs ys ds hc]
      unfold esf
      rw [shf_ev hk (by rw [List.length_take, List.length_drop]; omega), hE, nm_addl]
      refine nm_add_congr rfl (nm_mul_congr ?_ rfl)
      rw [nm_subl, nm_subr]
    · rw [ew_const h1, ew_const h1, wi_const h1, wi_const h1, Int.sub_self, Int.zero_mul, Int.add_zero]
      have e : (List.replicate n (nm (gt G i).n)).getD p 0 = nm (gt G i).n := by simp [hp]
      rw [e, nm_nm]
    · obtain ⟨a, ha⟩ : ∃ a : Nat, (gt G i).a = a := ⟨(gt G i).a.toNat, by omega⟩
      have h := ih a (by omega) (by omega) p hp
      rw [hE] at h
      rw [ew_scale h1 ha (by omega), ew_scale h1 ha (by omega), mxl_getD _ _ _ _ _ hp, mxl_getD _ _ _ _ _ hp, wi_scale h1 ha (by omega), wi_scale h1 ha (by omega), h]
      generalize (ew G n t xs ds a).getD p 0 = A
      generalize wi G ys a = u
      generalize wi G xs a = v
      generalize (gt G i).n = c
      rw [Int.zero_mul, Int.zero_mul, Int.add_zero, Int.add_zero, Int.add_zero, Int.add_zero, nm_mulr, nm_addl]
      have e1 : nm ((nm (u * c) - nm (v * c)) * E) = nm ((u * c - v * c) * E) := nm_mul_congr (by rw [nm_subl, nm_subr]) rfl
      rw [← nm_addr (c * A), e1, nm_addr]
      congr 1
      rw [Int.mul_add, ← Int.sub_mul, Int.mul_comm (u - v) c, Int.mul_assoc]
    · obtain ⟨a, ha⟩ : ∃ a : Nat, (gt G i).a = a := ⟨(gt G i).a.toNat, by omega⟩
      obtain ⟨b, hb⟩ : ∃ b : Nat, (gt G i).b = b := ⟨(gt G i).b.toNat, by omega⟩
      have ha1 := ih a (by omega) (by omega) p hp
      have hb1 := ih b (by omega) (by omega) p hp
      rw [hE] at ha1 hb1
      rcases h1 with h1 | h1 | h1
      · rw [ew_add h1 ha (by omega) hb (by omega), ew_add h1 ha (by omega) hb (by omega), mxl_getD _ _ _ _ _ hp, mxl_getD _ _ _ _ _ hp, wi_add h1 ha (by omega) hb (by omega), wi_add h1 ha (by omega) hb (by omega), ha1, hb1]
        generalize (ew G n t xs ds a).getD p 0 = A
        generalize (ew G n t xs ds b).getD p 0 = B
        generalize wi G ys a = u
        generalize wi G xs a = v
        generalize wi G ys b = x
        generalize wi G xs b = y
        rw [Int.one_mul, Int.one_mul, Int.one_mul, Int.one_mul, Int.add_zero, Int.add_zero, nm_addl, nm_addr, nm_addl]
        have e1 : nm ((nm (u + x) - nm (v + y)) * E) = nm ((u + x - (v + y)) * E) := nm_mul_congr (by rw [nm_subl, nm_subr]) rfl
        rw [← nm_addr (A + B), e1, nm_addr]
        congr 1
        rw [show u + x - (v + y) = (u - v) + (x - y) by omega, Int.add_mul (u - v) (x - y) E]
        omega
      · rw [ew_sub h1 ha (by omega) hb (by omega), ew_sub h1 ha (by omega) hb (by omega), mxl_getD _ _ _ _ _ hp, mxl_getD _ _ _ _ _ hp, wi_sub h1 ha (by omega) hb (by omega), wi_sub h1 ha (by omega) hb (by omega), ha1, hb1]
        generalize (ew G n t xs ds a).getD p 0 = A
        generalize (ew G n t xs ds b).getD p 0 = B
        generalize wi G ys a = u
        generalize wi G xs a = v
        generalize wi G ys b = x
        generalize wi G xs b = y
        have neg : ∀ X Y : Int, nm (1 * X + 2147483646 * Y + 0) = nm (X - Y) := fun X Y => by unfold nm; omega
        rw [neg, neg, nm_subl, nm_subr, nm_addl]
        have e1 : nm ((nm (u - x) - nm (v - y)) * E) = nm ((u - x - (v - y)) * E) := nm_mul_congr (by rw [nm_subl, nm_subr]) rfl
        rw [← nm_addr (A - B), e1, nm_addr]
        congr 1
        rw [show u - x - (v - y) = (u - v) - (x - y) by omega, Int.sub_mul (u - v) (x - y) E]
        omega
      · exact absurd h1 (hno i hi)
/-- What those who look see is the same. -/
theorem hid_seen {G : List Gt} {O : List Int} {N m n t k j p : Nat} {who xs ys ds : List Int} (hG : okG G N) (hO : okO O N m) (hno : ∀ i, i < N → (gt G i).k ≠ 5) (hk : k ≤ t) (hd : ds.length = ci G N * t) (ho : otl G O xs m = otl G O ys m) (hj : j < k) (hz : nm (who.getD j 0) ≠ 0) (hp : who.getD j 0 = (p : Int) + 1) (hpn : p < n) :
    sno G O n t ys (esl who k t xs ys ds (ci G N)) N m p = sno G O n t xs ds N m p := by
  have hw := hid_wire (n := n) (who := who) (xs := xs) (ys := ys) hG hno hk hd
  have hb : ∀ (s d : List Int) (i p : Nat), nm ((ew G n t s d i).getD p 0) = (ew G n t s d i).getD p 0 := fun s d i p => by
    have := getD_bd' (ew_bd G n t s d i) p
    exact nm_small this.1 this.2
  have hr := bl_root (k := k) hj hz
  rw [hp] at hr
  have hfe : ∀ {f g : Nat → List Int} {q : Nat}, (∀ i, i < q → f i = g i) → (List.range q).flatMap f = (List.range q).flatMap g := fun {f g q} h => by
    induction q with
    | zero => rfl
    | succ q ih => rw [← flat_snoc, ← flat_snoc, ih fun i hi => h i (by omega), h q (by omega)]
  unfold sno sng
  congr 1
  · refine hfe fun i hi => ?_
    unfold esn
    by_cases h1 : (gt G i).k = 1
    · rw [if_pos h1, if_pos h1, hw i hi p hpn, ← nm_addr, ← nm_mulr, hr, Int.mul_zero]
      show [nm (_ + nm 0)] = _
      rw [nm_addr, Int.add_zero, hb]
    · rw [if_neg h1, if_neg h1, if_neg (hno i hi), if_neg (hno i hi)]
  · refine hfe fun o hoq => ?_
    have hlt := hO o hoq
    have hoe : wi G ys (O.getD o 0).toNat = wi G xs (O.getD o 0).toNat := by
      rw [← otl_getD G O ys hoq, ← otl_getD G O xs hoq, ho]
    refine list_ext (by rw [ew_len, ew_len]) fun q hq => ?_
    rw [ew_len] at hq
    rw [hw _ (by omega) q hq, hoe, Int.sub_self, Int.zero_mul, Int.add_zero, hb]
end
section
open Crm Go.RowKit
/-- append of a list that is read to a slice that the call itself gathers, a step of a region that draws; where it lies. -/
theorem step_appM {P : Program} {T E : TypeId} (hT : P.underlying T = some (.slice E)) (info : (P.info? E).map (fun i => (i.zero, i.size, i.bytes)) = some (some (.int .u64 0), 1, 8))
    (w : World) {ops : Array Oper} {o : Oper} {a : Act} {K : Act → World → Prop} {Q : Exit → Act → World → Prop} {F : Prop} (hgd : o.guard = none) (s x : Operand)
    (ho : o.op = .call { callee := .builtin .append, args := #[s, x], argTypes := #[T, T] })
    (base : Nat) (v : Value) (n : Nat) (xs : List Int) (hs : a.eval s = v) (hown : w.ownsRow base E 1 v n (xs.map (Value.int .u64))) (b o2 m c : Nat) (ys : List Int) (hr : Rd w (some ⟨b, o2, none⟩) m c ys) (hx : a.eval x = .slice (some ⟨b, o2, none⟩) m c)
    (hm : 0 < m) (hn : n + m ≤ 1000000) (hbase : base ≤ w.heap.size)
    (h : ∀ g cap w', w'.ownsRow base E 1 (.slice (some ⟨g, 0, none⟩) (n + m) cap) (n + m) ((xs ++ ys).map (Value.int .u64)) → w.grownBy w' v.ownBlock → ((Value.slice (some ⟨g, 0, none⟩) (n + m) cap).ownBlock = v.ownBlock ∨ ∃ k, (Value.slice (some ⟨g, 0, none⟩) (n + m) cap).ownBlock = some k ∧ w.heap.size ≤ k) → K (a.put o.dst (.slice (some ⟨g, 0, none⟩) (n + m) cap)) w') :
    if Region.wanted o (yielded ops a.tmps) = true then Oper.wp P o a w K Q else F := by
  obtain ⟨i0, hi, hz0, hz1, hz2⟩ := info_parts info
  have hyl := hr.len
  refine step_append_lies _ hgd s x T ho base E i0 (.int .u64 0) 1 8 hT hi hz0 hz1 hz2 rfl (by decide) v n _ hs hown ⟨b, o2, none⟩ m c (ys.map (Value.int .u64)) hx (by simp [hyl]) ?_ ?_ hm (by unfold maxLen; omega) (by omega) hbase _ rfl ?_
  · intro j u hj
    have hjm : j < m := by
      have := (List.getElem?_eq_some_iff.1 hj).1
      simp at this
      omega
    rw [hr.cell _ rfl j hjm]
    rw [List.getElem?_map, List.getElem?_eq_getElem (by omega)] at hj
    simp only [Option.map_some, Option.some.injEq] at hj
    rw [← hj, List.getD_eq_getElem?_getD, List.getElem?_eq_getElem (by omega)]
    rfl
  · intro u hu
    obtain ⟨z, _, rfl⟩ := List.mem_map.1 hu
    rfl
  · intro g cap w' hown' hgrow h4 _
    refine h g cap w' (by rw [List.map_append]; exact hown') hgrow ?_
    rcases h4 with e | e
    · exact .inl (by rw [e]; rfl)
    · exact .inr ⟨g, rfl, by omega⟩
/-- What is gathered: what each party has seen, and the wires; what was made between lo and hi lies apart from what is seen. -/
structure Sen (w wr : World) (gs n : Nat) (Ls : List Value) (S : List (List Int)) (vW : Value) (LW : List Value) (W : List (List Int)) (lo hi : Nat) : Prop where
  seen : LsV wr w.heap.size (.slice (some ⟨gs, 0, none⟩) n n) Ls S
  len : S.length = n
  wires : LsV wr w.heap.size vW LW W
  apt : Apt Ls LW
  out : vW.ownBlock ≠ some gs
  far : Far Ls n lo hi
  gl : gs < lo
  hi : hi ≤ wr.heap.size
  bel : Below w.heap.size w wr
theorem Sen.drew {w wr : World} {gs n : Nat} {Ls : List Value} {S : List (List Int)} {vW : Value} {LW : List Value} {W : List (List Int)} {lo hi : Nat} (h : Sen w wr gs n Ls S vW LW W lo hi) : Sen w wr.drew gs n Ls S vW LW W lo hi :=
  ⟨h.seen.drew, h.len, h.wires.drew, h.apt, h.out, h.far, h.gl, h.hi, h.bel.drew⟩
theorem Sen.below {w wr w' : World} {gs n : Nat} {Ls : List Value} {S : List (List Int)} {vW : Value} {LW : List Value} {W : List (List Int)} {lo hi : Nat} (h : Sen w wr gs n Ls S vW LW W lo hi) (hb : Below wr.heap.size wr w') : Sen w w' gs n Ls S vW LW W lo hi :=
  ⟨h.seen.below hb, h.len, h.wires.below hb, h.apt, h.out, h.far, h.gl, Nat.le_trans h.hi hb.size, h.bel.trans (hb.mono h.bel.size)⟩
/-- A row of the call's that was made between lo and hi stays while what is seen grows. -/
def Btw (lo hi : Nat) (v : Value) : Prop := ∀ b, v.ownBlock = some b → lo ≤ b ∧ b < hi
/-- What party j has seen grows. -/
theorem Sen.put {w wr w7 : World} {gs n j : Nat} {Ls : List Value} {S : List (List Int)} {vW v7 : Value} {LW : List Value} {W : List (List Int)} {lo hi : Nat} {row : List Int} (h : Sen w wr gs n Ls S vW LW W lo hi) (hj : j < n)
    (ho : w7.ownsRow w.heap.size 34 1 v7 row.length (row.map (Value.int .u64))) (hg : wr.grownBy w7 (Ls.getD j (.slice none 0 0)).ownBlock) (hat : v7.ownBlock = (Ls.getD j (.slice none 0 0)).ownBlock ∨ ∃ k, v7.ownBlock = some k ∧ wr.heap.size ≤ k) :
    Sen w (w7.setCell ⟨gs, j, none⟩ v7) gs n (Ls.set j v7) (S.set j row) vW LW W lo hi := by
  have hrow := h.seen.row j (by rw [h.len]; exact hj)
  have hE : (34 : TypeId) ≠ 22 := by decide
  have hg2 : w7.grownBy (w7.setCell ⟨gs, j, none⟩ v7) (some gs) := grown_set _ _ _ _
  have hgs := (h.seen.cell h.len hj).2.2
  have hLl : j < Ls.length := by rw [h.seen.len, h.len]; exact hj
  have hWb := h.wires.blk
  have hW7 : LsV w7 w.heap.size vW LW W := h.wires.grown hg (own_apart hrow h.wires.own hE) (fun i _ => h.apt.symm i j)
  have hW8 : LsV (w7.setCell ⟨gs, j, none⟩ v7) w.heap.size vW LW W := by
    refine hW7.grown hg2 (.inr h.out) (fun i hi => ?_)
    have ho7 := h.seen.own.kept hg (own_apart hrow h.seen.own hE)
    exact own_apart ho7 (hW7.row i hi) (by decide)
  refine ⟨h.seen.upd h.len hj ho hg hat, by rw [List.length_set]; exact h.len, hW8, h.apt.set hLl (H := wr.heap.size) (fun i k hk => (hWb i k hk).2) hat, h.out, fun p hp gg hgg => ?_, h.gl, ?_, ?_⟩
  · rw [getD_setV _ _ _ _ _ hLl] at hgg
    split at hgg
    · rcases hat with e | ⟨k, e, hk⟩
      · rw [e] at hgg
        exact h.far j hj gg hgg
      · rw [e] at hgg
        obtain rfl := Option.some.inj hgg
        right
        exact Nat.le_trans h.hi hk
    · exact h.far p hp gg hgg
  · exact Nat.le_trans h.hi (Nat.le_trans hg.size hg2.size)
  · have hb7 : Below w.heap.size w w7 := h.bel.grown hg h.bel.size (fun q hq => (hrow.lt q hq).1)
    exact hb7.setCell (p := ⟨gs, j, none⟩) (h.seen.own.lt gs rfl).1 _
theorem Sen.keep {w wr w7 : World} {gs n j : Nat} {Ls : List Value} {S : List (List Int)} {vW v7 : Value} {LW : List Value} {W : List (List Int)} {lo hi B2 k z : Nat} {E : TypeId} {v : Value} {xs : List Value} (h : Sen w wr gs n Ls S vW LW W lo hi) (hj : j < n)
    (hx : wr.ownsRow B2 E z v k xs) (hv : Btw lo hi v) (hg : wr.grownBy w7 (Ls.getD j (.slice none 0 0)).ownBlock) : (w7.setCell ⟨gs, j, none⟩ v7).ownsRow B2 E z v k xs := by
  have h1 : v.ownBlock = none ∨ v.ownBlock ≠ (Ls.getD j (.slice none 0 0)).ownBlock := by
    cases hb : v.ownBlock with
    | none => exact .inl rfl
    | some b =>
      right
      intro e
      have h2 := hv b hb
      have h3 := h.far j hj b e.symm
      omega
  refine (hx.kept hg h1).kept (grown_set _ _ _ _) ?_
  cases hb : v.ownBlock with
  | none => exact .inl rfl
  | some b =>
    right
    intro e
    have h2 := hv b hb
    have h3 := h.gl
    have := Option.some.inj e
    omega
/-- Rows of which the first q are longer. -/
def sgx (S : Nat → List Int) (X : Nat → List Int) (n q : Nat) : List (List Int) := (List.range n).map fun p => if p < q then S p ++ X p else S p
theorem sgx_len (S X : Nat → List Int) (n q : Nat) : (sgx S X n q).length = n := by simp [sgx]
theorem sgx_zero (S X : Nat → List Int) (n : Nat) : sgx S X n 0 = (List.range n).map S := by simp [sgx]
theorem sgx_full (S X : Nat → List Int) (n : Nat) : sgx S X n n = (List.range n).map fun p => S p ++ X p := by
  unfold sgx
  refine List.map_congr_left fun p hp => ?_
  rw [if_pos (List.mem_range.1 hp)]
theorem sgx_getD (S X : Nat → List Int) {n q : Nat} (h : q < n) : (sgx S X n q).getD q [] = S q := by simp [sgx, h]
theorem sgx_set (S X : Nat → List Int) (n q : Nat) : (sgx S X n q).set q (S q ++ X q) = sgx S X n (q + 1) := by
  apply List.ext_getElem?
  intro p
  rw [List.getElem?_set]
  by_cases hp : p < n
  · by_cases e : q = p
    · subst e; simp [sgx, hp]
    · have : (p < q + 1) = (p < q) := by apply propext; omega
      simp [sgx, hp, e, this]
  · by_cases e : q = p
    · subst e; simp [sgx, hp]
    · simp [sgx, hp, e]
/-- What Need answers. -/
def Enn (G : List Gt) (O : List Int) (N m : Nat) (n t : Int) (w : World) (e : Ending) (w' : World) : Prop :=
  ((∃ r, r ≠ 0 ∧ Nde G O N m n t r ∧ e = .returned (.tuple #[.int .i64 0, .int .i64 r])) ∨
   (Nde G O N m n t 0 ∧ e = .returned (.tuple #[.int .i64 (dwn G n.toNat t.toNat N : Int), .int .i64 0]))) ∧ Below w.heap.size w w'
/-- What Run answers. -/
def Enr (G : List Gt) (O ins ds : List Int) (N m : Nat) (n t : Int) (q d : Nat) (w : World) (e : Ending) (w' : World) : Prop :=
  ((∃ r, r ≠ 0 ∧ Ere G O N m n t q d r ∧ e = .returned (.tuple #[.slice none 0 0, .slice none 0 0, .int .i64 r])) ∨
   (Ere G O N m n t q d 0 ∧ ∃ a c b k, e = .returned (.tuple #[.slice a m c, .slice b n.toNat k, .int .i64 0]) ∧ Rd w' a m c (otl G O ins m) ∧ RdR w' b n.toNat k (snl G O n.toNat t.toNat ins ds N m))) ∧ Below w.heap.size w w'
theorem Ere.ok {G : List Gt} {O : List Int} {N m : Nat} {n t : Int} {q d : Nat} (h : Ere G O N m n t q d 0) : Nde G O N m n t 0 ∧ q = ci G N ∧ d = dwn G n.toNat t.toNat N := by
  rcases h with ⟨h1, _⟩ | ⟨h1, ⟨_, h2⟩ | ⟨h2, ⟨_, h3⟩ | ⟨h3, _⟩⟩⟩
  · exact absurd rfl h1
  · omega
  · omega
  · exact ⟨h1, h2, h3⟩
/-- What was seen is read. -/
theorem snl_rd {w : World} {B : Nat} {u : Value} {L : List Value} {G : List Gt} {O : List Int} {n t : Nat} {ins ds : List Int} {N m : Nat} (h : LsV w B u L (snl G O n t ins ds N m)) : ∃ a c, u = .slice a n c ∧ RdR w a n c (snl G O n t ins ds N m) :=
  h.rdR (snl_len _ _ _ _ _ _ _ _) fun i hi x hx => by
    rw [snl_getD _ _ _ _ _ _ _ _ hi] at hx
    have := sno_bd _ _ _ _ _ _ _ _ hi x hx
    omega
/-- Wires that may be. -/
def Wr1 (n : Nat) : Prop := 1 ≤ n ∧ n ≤ 9
def Wr2 (n m : Nat) : Prop := (1 ≤ n ∧ n ≤ 9) ∧ m = n
theorem wk_one (n : Nat) : Wk [n] 1 ↔ Wr1 n := by
  unfold Wk Wr1
  constructor
  · intro h; exact h.1
  · intro h
    refine ⟨h, fun i hi => ?_⟩
    obtain rfl : i = 0 := by omega
    rfl
theorem wk_two (n m : Nat) : Wk [n, m] 2 ↔ Wr2 n m := by
  unfold Wk Wr2
  constructor
  · intro h; exact ⟨h.1, h.2 1 (by omega)⟩
  · intro h
    refine ⟨h.1, fun i hi => ?_⟩
    match i, hi with
    | 0, _ => rfl
    | 1, _ => exact h.2
theorem len_two {n m : Nat} (h0 : n ≤ 9223372036854775807) (h1 : m ≤ 9223372036854775807) : ∀ i, [n, m].getD i 0 ≤ 9223372036854775807
  | 0 => h0
  | 1 => h1
  | i + 2 => by simp
theorem len_one {n : Nat} (h0 : n ≤ 9223372036854775807) : ∀ i, [n].getD i 0 ≤ 9223372036854775807
  | 0 => h0
  | i + 1 => by simp
/-- What Add, Sub, Scale, Plus answer. -/
def Gts (ok : Prop) (L : List Int) (n : Nat) (w : World) (e : Ending) (w' : World) : Prop :=
  ((¬ ok ∧ e = .returned (.tuple #[.slice none 0 0, .int .i64 5])) ∨ (ok ∧ ∃ v, e = .returned (.tuple #[v, .int .i64 0]) ∧ w'.ownsRow w.heap.size 34 1 v n (L.map (Value.int .u64)))) ∧ Below w.heap.size w w'
/-- What is wrong with what is multiplied. -/
def Gme (t : Int) (n m q : Nat) (r : Int) : Prop :=
  ((t < 0 ∨ 4 < t) ∧ r = 1) ∨ ((0 ≤ t ∧ t ≤ 4) ∧ ((¬ Wr2 n m ∧ r = 5) ∨ (Wr2 n m ∧ (((n : Int) < 2 * t + 1 ∧ r = 4) ∨ (2 * t + 1 ≤ (n : Int) ∧ (((q : Int) ≠ (n : Int) * t ∧ r = 1) ∨ ((q : Int) = (n : Int) * t ∧ r = 0)))))))
theorem Gme.one {t : Int} {n m q : Nat} {r s : Int} (h : Gme t n m q r) (k : Gme t n m q s) : r = s := by
  rcases h with ⟨h1, rfl⟩ | ⟨h1, h2⟩ <;> rcases k with ⟨k1, rfl⟩ | ⟨k1, k2⟩
  · rfl
  · exfalso; omega
  · exfalso; omega
  · rcases h2 with ⟨h2, rfl⟩ | ⟨h2, h3⟩ <;> rcases k2 with ⟨k2, rfl⟩ | ⟨k2, k3⟩
    · rfl
    · exact absurd k2 h2
    · exact absurd h2 k2
    · rcases h3 with ⟨h3, rfl⟩ | ⟨h3, ⟨h4, rfl⟩ | ⟨h4, rfl⟩⟩ <;> rcases k3 with ⟨k3, rfl⟩ | ⟨k3, ⟨k4, rfl⟩ | ⟨k4, rfl⟩⟩
      all_goals first
        | rfl
        | (exfalso; omega)
        | exact absurd k4 h4
        | exact absurd h4 k4
theorem Gme.ok {t : Int} {n m q : Nat} (h : Gme t n m q 0) : ∃ k : Nat, t = (k : Int) ∧ k ≤ 4 ∧ 1 ≤ n ∧ n ≤ 9 ∧ m = n ∧ 2 * k + 1 ≤ n ∧ q = n * k := by
  rcases h with ⟨_, h⟩ | ⟨h1, ⟨_, h⟩ | ⟨h2, ⟨_, h⟩ | ⟨h3, ⟨_, h⟩ | ⟨h4, _⟩⟩⟩⟩
  · omega
  · omega
  · omega
  · omega
  · obtain ⟨k, rfl⟩ : ∃ k : Nat, t = k := ⟨t.toNat, by omega⟩
    refine ⟨k, rfl, by omega, h2.1.1, h2.1.2, h2.2, by omega, ?_⟩
    have : ((q : Nat) : Int) = ((n * k : Nat) : Int) := by rw [h4]; push_cast; rfl
    omega
/-- What Mul answers. -/
def Gtm (t : Int) (xs ys ds : List Int) (n m q : Nat) (w : World) (e : Ending) (w' : World) : Prop :=
  ((∃ r, r ≠ 0 ∧ Gme t n m q r ∧ e = .returned (.tuple #[.slice none 0 0, .slice none 0 0, .int .i64 r])) ∨
   (Gme t n m q 0 ∧ ∃ v u L, e = .returned (.tuple #[v, u, .int .i64 0]) ∧ w'.ownsRow w.heap.size 34 1 v n ((tmO t.toNat xs ys ds n n).map (Value.int .u64)) ∧ LsV w' w.heap.size u L (tmG t.toNat xs ys ds n))) ∧ Below w.heap.size w w'
/-- A row of the call's own, all of it. -/
theorem Blk.mine {w : World} {g n B : Nat} {L : List Int} (h : Blk w g L) (hl : L.length = n) (hB : B ≤ g) (hn : n ≤ 1000) : w.ownsRow B 34 1 (.slice (some ⟨g, 0, none⟩) n n) n (L.map (Value.int .u64)) :=
  ⟨by simp [hl], .inr ⟨g, n, _, rfl, hB, h, Nat.le_refl _, by unfold maxLen; omega, by simp [hl], by rw [List.take_of_length_le (by simp [hl])]⟩⟩

theorem cWires (g k : Nat) (ns : List Nat) (w : World) (h : RdL w g k ns) (hk0 : 0 < k) (hk : k ≤ 100) (hm : ∀ i, ns.getD i 0 ≤ 9223372036854775807) :
    Calls Tryd.prog 85 #[.slice (some ⟨g, 0, none⟩) k k] w fun e w' => Tells (Wk ns k) w e w' := by
  have hgl := h.lt
  obtain ⟨a0, c0, hc0⟩ := h.cell 0 hk0
  obtain ⟨N, HN⟩ : ∃ N, Hid (ns.getD 0 0 = N) := ⟨_, rfl⟩
  have hN := hm 0
  rw [HN.out] at hc0 hN
  have HM : Hid (∀ i, ns.getD i 0 ≤ 9223372036854775807) := hm
  clear hm
  go_enter Tryd.func85, Tryd.ntmps85
  go_wp2
  go_loop [7] (fun q => ∃ i : Nat, i ≤ k ∧ q = .int .i64 i ∧ Hid (∀ j, j < i → (1 ≤ ns.getD j 0 ∧ ns.getD j 0 ≤ 9) ∧ ns.getD j 0 = N)) (fun q => k - (intOf q).toNat)
  case atStart => exact ⟨0, Nat.zero_le _, rfl, fun j hj => by omega⟩
  case round =>
    obtain ⟨i, hi, rfl, HB⟩ := hrel
    by_cases hlt : i < k
    · obtain ⟨ai, ci, hci⟩ := h.cell i hlt
      obtain ⟨M, HMi⟩ : ∃ M, Hid (ns.getD i 0 = M) := ⟨_, rfl⟩
      have hM := HM.out i
      rw [HMi.out] at hci hM
      by_cases h1 : M < 1
      · have HX : Hid (¬ Wk ns k) := fun e => by have h2 := e.2 i hlt; have h3 := e.1; rw [← h2, HMi.out] at h3; omega
        clear HB
        go_wp2
        go_ret
        exact .no HX.out (Below.refl _ _)
      · by_cases h9 : 9 < M
        · have HX : Hid (¬ Wk ns k) := fun e => by have h2 := e.2 i hlt; have h3 := e.1; rw [← h2, HMi.out] at h3; omega
          clear HB
          go_wp2
          go_ret
          exact .no HX.out (Below.refl _ _)
        · by_cases hMN : M = N
          · have hmb : ((M : Int) != (N : Int)) = false := by rw [bne_eq_false_iff_eq]; omega
            have HB2 : Hid (∀ j, j < i + 1 → (1 ≤ ns.getD j 0 ∧ ns.getD j 0 ≤ 9) ∧ ns.getD j 0 = N) := fun j hj => by
              by_cases e : j = i
              · rw [e, HMi.out]; exact ⟨by omega, hMN⟩
              · exact HB.out j (by omega)
            clear hMN HB
            go_wp2
            go_round
            case rel => exact ⟨i + 1, by omega, by go_num, HB2⟩
            case measure => simp [intOf]; omega
          · have hmb : ((M : Int) != (N : Int)) = true := by rw [bne_iff_ne]; omega
            have HX : Hid (¬ Wk ns k) := fun e => hMN (by have h2 := e.2 i hlt; rw [HMi.out, HN.out] at h2; exact h2)
            clear hMN HB
            go_wp2
            go_ret
            exact .no HX.out (Below.refl _ _)
    · have hik : i = k := by omega
      subst hik
      have HE : Hid (Wk ns i) := by
        unfold Hid Wk
        rw [HN.out]
        have h0 := HB.out 0 hk0
        rw [HN.out] at h0
        exact ⟨h0.1, fun j hj => (HB.out j hj).2⟩
      clear HB
      go_wp2
      go_ret
      exact .yes HE.out (Below.refl _ _)

theorem cBoth (F : Nat) (op : Int → Int → Int) (eg : ∀ args w, (callFunc F args).run Tryd.prog w = .ok (.enter F args) w) (HF : Hid (∀ (x y : Int) (w : World), 0 ≤ x → x ≤ 18446744073709551615 → 0 ≤ y → y ≤ 18446744073709551615 → Calls Tryd.prog F #[.int .u64 x, .int .u64 y] w fun e w' => e = .returned (.int .u64 (nm (op x y))) ∧ w' = w)) (a : Option Addr) (n c : Nat) (xs : List Int) (b : Option Addr) (m d : Nat) (ys : List Int) (w : World) (h : Rd w a n c xs) (g : Rd w b m d ys) :
    Calls Tryd.prog 54 #[.func (.func F) #[] #[], .slice a n c, .slice b m d] w fun e w' => Gts (Wr2 n m) ((List.range n).map fun i => nm (op (xs.getD i 0) (ys.getD i 0))) n w e w' := by
  obtain ⟨i0, hi, hz0, hz1, hz2⟩ := info_parts info34
  have hmx := h.max
  have hgx := g.max
  have hc := h.cap
  have gc := g.cap
  unfold maxLen at hmx hgx
  have hRL := rdL_two w a n c b m d 22
  have hbA : Below w.heap.size w (w.alloc (.cells #[.slice a n c, .slice b m d] 22)) := (Below.refl _ _).alloc (Nat.le_refl _) _
  go_enter Tryd.func54, Tryd.ntmps54
  go_wp2_with fail
  generalize w.alloc (.cells #[.slice a n c, .slice b m d] 22) = wA at *
  refine (cWires _ _ _ _ hRL (by omega) (by omega) (len_two (by omega) (by omega))).mono ?_
  rintro e w1 ⟨r, rfl, hr, hb1⟩
  rw [wk_two] at hr
  have HR : Hid (_ ↔ _) := hr
  have hbw := hbA.trans (hb1.mono hbA.size)
  clear hr hb1 hbA hRL
  cases r with
  | false =>
    have HN : Hid (¬ Wr2 n m) := fun e => by have := HR.out.2 e; cases this
    go_wp2
    go_ret2
    exact ⟨.inl ⟨HN.out, rfl⟩, hbw⟩
  | true =>
    have HY : Hid (Wr2 n m) := HR.out.1 rfl
    obtain rfl : m = n := HY.out.2
    have hn9 := HY.out.1.2
    have hs1 := hbw.size
    go_wp2_with (at_make; refine wpList_make_full _ rfl _ _ 22 rfl w1.heap.size 34 i0 (.int .u64 0) 1 Tryd.underlying22 hi hz0 hz1 .i64 .i64 _ _ m rfl rfl (by omega) (by omega) (by rw [hz2]; omega) (by unfold maxLen; omega) (Nat.le_refl _) ?_; intro w2 hown hgrow)
    have hB2 : Blk w2 w1.heap.size (fil (fun i => nm (op (xs.getD i 0) (ys.getD i 0))) m 0) := by rw [← fil_zero]; exact Blk.made hown
    have hb2 : Below w1.heap.size w1 w2 := (Below.refl _ _).grown hgrow (Nat.le_refl _) (by simp)
    have hb12 : Below w.heap.size w w2 := hbw.trans (hb2.mono hs1)
    clear hown hgrow hb2
    go_loopw [20] (fun i wr => ∃ k : Nat, k ≤ m ∧ i = .int .i64 k ∧ Blk wr w1.heap.size (fil (fun i => nm (op (xs.getD i 0) (ys.getD i 0))) m k) ∧ Below w.heap.size w wr) (fun i _ => m - (intOf i).toNat)
    case atStart => exact ⟨0, Nat.zero_le _, rfl, hB2, hb12⟩
    case round =>
      clear hB2 hb12
      obtain ⟨k, hk, rfl, hblk, hbel⟩ := hrel
      by_cases hlt : k < m
      · obtain ⟨b1, o1, x, rfl, hbb1, HX, hx0, hx1, hcx⟩ := (h.below hbel).one hlt
        obtain ⟨b2, o2, y, rfl, hbb2, HY2, hy0, hy1, hcy⟩ := (g.below hbel).one hlt
        have hcell := hblk.cell (i := k) (by rw [fil_len]; exact hlt)
        have hfz := hblk.frozen k
        have hlt3 := hblk.lt
        have hblk4 := hblk.set k (nm (op x y))
        rw [fil_set (by rw [← HX.out, ← HY2.out])] at hblk4
        have Hbl : Hid (Blk _ _ _) := hblk4
        have Hb5 : Hid (Below w.heap.size w (wr.setCell ⟨w1.heap.size, k, none⟩ (.int .u64 (nm (op x y))))) := hbel.setCell hs1 _
        have hk0 : (0 : Int) ≤ (k : Int) := by omega
        have hkn : (k : Int) < (m : Int) := by omega
        clear hbel hblk hblk4
        go_wp2
        go_region_with (refine (HF.out _ _ _ (by omega) (by omega) (by omega) (by omega)).mono ?_; rintro e w' ⟨rfl, rfl⟩)
        all_goals
          go_wp2
          go_roundw
          case rel => exact ⟨k + 1, by omega, by go_num, Hbl.out, Hb5.out.drew⟩
          case measure => simp [intOf]; omega
      · have hkm : k = m := by omega
        subst hkm
        rw [fil_full] at hblk
        have ho := hblk.mine (B := w.heap.size) (by simp) hs1 (show k ≤ 1000 by omega)
        go_wp2
        go_ret2
        exact ⟨.inr ⟨HY.out, _, rfl, ho⟩, hbel⟩

theorem cEach (F : Nat) (op : Int → Int → Int) (eg : ∀ args w, (callFunc F args).run Tryd.prog w = .ok (.enter F args) w) (HF : Hid (∀ (x y : Int) (w : World), 0 ≤ x → x ≤ 18446744073709551615 → 0 ≤ y → y ≤ 18446744073709551615 → Calls Tryd.prog F #[.int .u64 x, .int .u64 y] w fun e w' => e = .returned (.int .u64 (nm (op x y))) ∧ w' = w)) (a : Option Addr) (n c : Nat) (xs : List Int) (q : Int) (w : World) (h : Rd w a n c xs) (q0 : 0 ≤ q) (q1 : q ≤ 18446744073709551615) :
    Calls Tryd.prog 105 #[.func (.func F) #[] #[], .slice a n c, .int .u64 q] w fun e w' => Gts (Wr1 n) ((List.range n).map fun i => nm (op (xs.getD i 0) q)) n w e w' := by
  obtain ⟨i0, hi, hz0, hz1, hz2⟩ := info_parts info34
  have hmx := h.max
  have hc := h.cap
  unfold maxLen at hmx
  have hRL := rdL_one w a n c 22
  have hbA : Below w.heap.size w (w.alloc (.cells #[.slice a n c] 22)) := (Below.refl _ _).alloc (Nat.le_refl _) _
  go_enter Tryd.func105, Tryd.ntmps105
  go_wp2_with fail
  generalize w.alloc (.cells #[.slice a n c] 22) = wA at *
  refine (cWires _ _ _ _ hRL (by omega) (by omega) (len_one (by omega))).mono ?_
  rintro e w1 ⟨r, rfl, hr, hb1⟩
  rw [wk_one] at hr
  have HR : Hid (_ ↔ _) := hr
  have hbw := hbA.trans (hb1.mono hbA.size)
  clear hr hb1 hbA hRL
  cases r with
  | false =>
    have HN : Hid (¬ Wr1 n) := fun e => by have := HR.out.2 e; cases this
    go_wp2
    go_ret2
    exact ⟨.inl ⟨HN.out, rfl⟩, hbw⟩
  | true =>
    have HY : Hid (Wr1 n) := HR.out.1 rfl
    have hn9 := HY.out.2
    have hs1 := hbw.size
    go_wp2_with (at_make; refine wpList_make_full _ rfl _ _ 22 rfl w1.heap.size 34 i0 (.int .u64 0) 1 Tryd.underlying22 hi hz0 hz1 .i64 .i64 _ _ n rfl rfl (by omega) (by omega) (by rw [hz2]; omega) (by unfold maxLen; omega) (Nat.le_refl _) ?_; intro w2 hown hgrow)
    have hB2 : Blk w2 w1.heap.size (fil (fun i => nm (op (xs.getD i 0) q)) n 0) := by rw [← fil_zero]; exact Blk.made hown
    have hb2 : Below w1.heap.size w1 w2 := (Below.refl _ _).grown hgrow (Nat.le_refl _) (by simp)
    have hb12 : Below w.heap.size w w2 := hbw.trans (hb2.mono hs1)
    clear hown hgrow hb2
    go_loopw [19] (fun i wr => ∃ k : Nat, k ≤ n ∧ i = .int .i64 k ∧ Blk wr w1.heap.size (fil (fun i => nm (op (xs.getD i 0) q)) n k) ∧ Below w.heap.size w wr) (fun i _ => n - (intOf i).toNat)
    case atStart => exact ⟨0, Nat.zero_le _, rfl, hB2, hb12⟩
    case round =>
      clear hB2 hb12
      obtain ⟨k, hk, rfl, hblk, hbel⟩ := hrel
      by_cases hlt : k < n
      · obtain ⟨b1, o1, x, rfl, hbb1, HX, hx0, hx1, hcx⟩ := (h.below hbel).one hlt
        have hcell := hblk.cell (i := k) (by rw [fil_len]; exact hlt)
        have hfz := hblk.frozen k
        have hlt3 := hblk.lt
        have hblk4 := hblk.set k (nm (op x q))
        rw [fil_set (by rw [← HX.out])] at hblk4
        have Hbl : Hid (Blk _ _ _) := hblk4
        have Hb5 : Hid (Below w.heap.size w (wr.setCell ⟨w1.heap.size, k, none⟩ (.int .u64 (nm (op x q))))) := hbel.setCell hs1 _
        have hk0 : (0 : Int) ≤ (k : Int) := by omega
        have hkn : (k : Int) < (n : Int) := by omega
        clear hbel hblk hblk4
        go_wp2_with fail
        refine (HF.out _ _ _ (by omega) (by omega) (by omega) (by omega)).mono ?_
        rintro e w' ⟨rfl, hw⟩
        have hw := hw.symm
        subst hw
        go_wp2
        go_roundw
        case rel => exact ⟨k + 1, by omega, by go_num, Hbl.out, Hb5.out⟩
        case measure => simp [intOf]; omega
      · have hkm : k = n := by omega
        subst hkm
        rw [fil_full] at hblk
        have ho := hblk.mine (B := w.heap.size) (by simp) hs1 (show k ≤ 1000 by omega)
        go_wp2
        go_ret2
        exact ⟨.inr ⟨HY.out, _, rfl, ho⟩, hbel⟩

theorem cBothAdd (a : Option Addr) (n c : Nat) (xs : List Int) (b : Option Addr) (m d : Nat) (ys : List Int) (w : World) (h : Rd w a n c xs) (g : Rd w b m d ys) :
    Calls Tryd.prog 54 #[.func (.func 45) #[] #[], .slice a n c, .slice b m d] w fun e w' => Gts (Wr2 n m) ((List.range n).map fun i => nm (xs.getD i 0 + ys.getD i 0)) n w e w' :=
  cBoth 45 (fun x y => x + y) Tryd.call45 (fun x y w a b c d => fAdd x y w a b c d) a n c xs b m d ys w h g
theorem cBothSub (a : Option Addr) (n c : Nat) (xs : List Int) (b : Option Addr) (m d : Nat) (ys : List Int) (w : World) (h : Rd w a n c xs) (g : Rd w b m d ys) :
    Calls Tryd.prog 54 #[.func (.func 59) #[] #[], .slice a n c, .slice b m d] w fun e w' => Gts (Wr2 n m) ((List.range n).map fun i => nm (xs.getD i 0 - ys.getD i 0)) n w e w' :=
  cBoth 59 (fun x y => x - y) Tryd.call59 (fun x y w a b c d => fSub x y w a b c d) a n c xs b m d ys w h g
theorem cBothMul (a : Option Addr) (n c : Nat) (xs : List Int) (b : Option Addr) (m d : Nat) (ys : List Int) (w : World) (h : Rd w a n c xs) (g : Rd w b m d ys) :
    Calls Tryd.prog 54 #[.func (.func 49) #[] #[], .slice a n c, .slice b m d] w fun e w' => Gts (Wr2 n m) ((List.range n).map fun i => nm (xs.getD i 0 * ys.getD i 0)) n w e w' :=
  cBoth 49 (fun x y => x * y) Tryd.call49 (fun x y w a b c d => fMul x y w a b c d) a n c xs b m d ys w h g
theorem cEachMul (a : Option Addr) (n c : Nat) (xs : List Int) (q : Int) (w : World) (h : Rd w a n c xs) (q0 : 0 ≤ q) (q1 : q ≤ 18446744073709551615) :
    Calls Tryd.prog 105 #[.func (.func 49) #[] #[], .slice a n c, .int .u64 q] w fun e w' => Gts (Wr1 n) ((List.range n).map fun i => nm (xs.getD i 0 * q)) n w e w' :=
  cEach 49 (fun x y => x * y) Tryd.call49 (fun x y w a b c d => fMul x y w a b c d) a n c xs q w h q0 q1
theorem cGAdd (a : Option Addr) (n c : Nat) (xs : List Int) (b : Option Addr) (m d : Nat) (ys : List Int) (w : World) (h : Rd w a n c xs) (g : Rd w b m d ys) :
    Calls Tryd.prog 17 #[.slice a n c, .slice b m d] w fun e w' => Gts (Wr2 n m) (mxl xs ys 1 1 0 n) n w e w' := by
  have HE : Hid ((List.range n).map (fun i => nm (xs.getD i 0 + ys.getD i 0)) = mxl xs ys 1 1 0 n) := mxl_ext fun i _ => by rw [Int.one_mul, Int.one_mul, Int.add_zero]
  go_enter Tryd.func17, Tryd.ntmps17
  go_wp2_with fail
  refine (cBothAdd _ _ _ _ _ _ _ _ _ h g).mono ?_
  rintro e w1 ⟨⟨hn, rfl⟩ | ⟨hn, v, rfl, ho⟩, hb⟩
  · have HN : Hid (¬ Wr2 n m) := hn
    clear hn
    go_wp2
    go_ret2
    exact ⟨.inl ⟨HN.out, rfl⟩, hb⟩
  · have HN : Hid (Wr2 n m) := hn
    clear hn
    rw [HE.out] at ho
    go_wp2
    go_ret2
    exact ⟨.inr ⟨HN.out, v, rfl, ho⟩, hb⟩

theorem cGSub (a : Option Addr) (n c : Nat) (xs : List Int) (b : Option Addr) (m d : Nat) (ys : List Int) (w : World) (h : Rd w a n c xs) (g : Rd w b m d ys) :
    Calls Tryd.prog 93 #[.slice a n c, .slice b m d] w fun e w' => Gts (Wr2 n m) (mxl xs ys 1 2147483646 0 n) n w e w' := by
  have HE : Hid ((List.range n).map (fun i => nm (xs.getD i 0 - ys.getD i 0)) = mxl xs ys 1 2147483646 0 n) := mxl_ext fun i _ => by
    unfold nm
    omega
  go_enter Tryd.func93, Tryd.ntmps93
  go_wp2_with fail
  refine (cBothSub _ _ _ _ _ _ _ _ _ h g).mono ?_
  rintro e w1 ⟨⟨hn, rfl⟩ | ⟨hn, v, rfl, ho⟩, hb⟩
  · have HN : Hid (¬ Wr2 n m) := hn
    clear hn
    go_wp2
    go_ret2
    exact ⟨.inl ⟨HN.out, rfl⟩, hb⟩
  · have HN : Hid (Wr2 n m) := hn
    clear hn
    rw [HE.out] at ho
    go_wp2
    go_ret2
    exact ⟨.inr ⟨HN.out, v, rfl, ho⟩, hb⟩

theorem cGScale (a : Option Addr) (n c : Nat) (xs : List Int) (k : Int) (w : World) (h : Rd w a n c xs) (hk0 : 0 ≤ k) (hk1 : k ≤ 18446744073709551615) :
    Calls Tryd.prog 83 #[.slice a n c, .int .u64 k] w fun e w' => Gts (Wr1 n) (mxl xs xs k 0 0 n) n w e w' := by
  have HE : Hid ((List.range n).map (fun i => nm (xs.getD i 0 * k)) = mxl xs xs k 0 0 n) := mxl_ext fun i _ => by rw [Int.zero_mul, Int.add_zero, Int.add_zero, Int.mul_comm]
  go_enter Tryd.func83, Tryd.ntmps83
  go_wp2_with fail
  refine (cEachMul _ _ _ _ _ _ h hk0 hk1).mono ?_
  rintro e w1 ⟨⟨hn, rfl⟩ | ⟨hn, v, rfl, ho⟩, hb⟩
  · have HN : Hid (¬ Wr1 n) := hn
    clear hn
    go_wp2
    go_ret2
    exact ⟨.inl ⟨HN.out, rfl⟩, hb⟩
  · have HN : Hid (Wr1 n) := hn
    clear hn
    rw [HE.out] at ho
    go_wp2
    go_ret2
    exact ⟨.inr ⟨HN.out, v, rfl, ho⟩, hb⟩
theorem own_set2 {w : World} {B n c g : Nat} {E : TypeId} {xs : List Value} (h : w.ownsRow B E 2 (.slice (some ⟨g, 0, none⟩) n c) n xs) (i : Nat) (u : Value) : (w.setCell ⟨g, i, none⟩ u).ownsRow B E 2 (.slice (some ⟨g, 0, none⟩) n c) n (xs.set i u) := by
  refine ⟨by rw [List.length_set]; exact h.1, .inr ?_⟩
  rcases h.2 with ⟨e, _⟩ | ⟨g', cap, cur, e, hb, hg, h1, h2, hs, ht⟩
  · simp at e
  · simp only [Value.slice.injEq, Option.some.injEq, Addr.mk.injEq, and_true, true_and] at e
    obtain ⟨rfl, rfl⟩ := e
    refine ⟨g, c, _, rfl, hb, heap_setCell_same w g i _ _ _ hg, h1, h2, by simpa using hs, ?_⟩
    rw [← ht]
    simp [List.take_set]
theorem own_frozen2 {w : World} {B n c g : Nat} {E : TypeId} {xs : List Value} (h : w.ownsRow B E 2 (.slice (some ⟨g, 0, none⟩) n c) n xs) (i : Nat) : w.frozen? ⟨g, i, none⟩ = false := by
  rcases h.2 with ⟨e, _⟩ | ⟨g', cap, cur, e, hb, hg, _⟩
  · simp at e
  · simp only [Value.slice.injEq, Option.some.injEq, Addr.mk.injEq, and_true, true_and] at e
    obtain ⟨rfl, rfl⟩ := e
    exact frozen_of_row w g i _ _ hg
/-- Its address, where there is a share. -/
theorem own_at2 {w : World} {base n : Nat} {E : TypeId} {v : Value} {xs : List Value} (h : w.ownsRow base E 2 v n xs) (hn : 0 < n) : ∃ g c, v = .slice (some ⟨g, 0, none⟩) n c ∧ base ≤ g ∧ g < w.heap.size ∧ n ≤ c ∧ c ≤ maxLen := by
  rcases h.2 with ⟨_, rfl⟩ | ⟨g, cap, cur, rfl, hb, hg, h1, h2, _⟩
  · omega
  · exact ⟨g, cap, rfl, hb, (Array.getElem?_eq_some_iff.1 hg).1, h1, h2⟩
theorem sh_cell {w : World} {base n c g : Nat} {E : TypeId} {l : List (Int × Int)} (h : w.ownsRow base E 2 (.slice (some ⟨g, 0, none⟩) n c) n (shc l)) (hl : l.length = n) {k : Nat} (hk : k < n) :
    w.cell? ⟨g, k * 2, none⟩ = some (.int .i64 (l.getD k (0, 0)).1) ∧ w.cell? ⟨g, k * 2 + 1, none⟩ = some (.int .u64 (l.getD k (0, 0)).2) := by
  have h1 := shc_get l k (by omega)
  have a1 := h.cells (g := g) rfl _ _ h1.1
  have a2 := h.cells (g := g) rfl _ _ h1.2
  rw [Addr.add_lit] at a1 a2
  exact ⟨by simpa using a1, by simpa using a2⟩
end
end Go.Proofs.YtljlioglpaogdagDoor
