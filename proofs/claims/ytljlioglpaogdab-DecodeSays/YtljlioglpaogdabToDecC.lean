/- decode.find: the equations of shares. · decode.check, Decode, Open. -/
import Derived.Test.YtljlioglpaogdabEqnC
import Derived.Test.YtljlioglpaogdabToSolveC
import Derived.Test.YtljlioglpaogdabToDivF
import Derived.Test.YtljlioglpaogdabToPadC
import Derived.Test.YtljlioglpaogdabToMissC
import Derived.Test.YtljlioglpaogdabToTwoC
namespace Go.Proofs.Ytljlioglpaogdab
set_option linter.unusedVariables false
set_option maxRecDepth 100000
set_option maxHeartbeats 8000000
section
open Crm Go.RowKit
/-- Of the list in row gl the first k rows are made. -/
structure Rws (w : World) (gl n W k : Nat) (R : Nat → List Int) : Prop where
  lst : ∃ cur : Array Value, w.heap[gl]? = some (.cells cur 23 (0, 0)) ∧ cur.size = n ∧ ∀ r, r < k → ∃ ai ci, cur[r]? = some (.slice ai W ci) ∧ Rd w ai W ci (R r) ∧ ∀ x, ai = some x → x.block ≠ gl
theorem Rws.lt {w : World} {gl n W k : Nat} {R : Nat → List Int} (h : Rws w gl n W k R) : gl < w.heap.size := by
  obtain ⟨cur, h1, _⟩ := h.lst
  exact (Array.getElem?_eq_some_iff.1 h1).1
theorem Rws.has {w : World} {gl n W k : Nat} {R : Nat → List Int} (h : Rws w gl n W k R) {r : Nat} (hr : r < n) : ∃ u, w.cell? ⟨gl, r, none⟩ = some u := by
  obtain ⟨cur, h1, h2, h3⟩ := h.lst
  rw [cell_of_row w gl r _ _ (0, 0) h1]
  exact ⟨_, Array.getElem?_eq_getElem (by omega)⟩
theorem Rws.frozen {w : World} {gl n W k : Nat} {R : Nat → List Int} (h : Rws w gl n W k R) (r : Nat) : w.frozen? ⟨gl, r, none⟩ = false := by
  obtain ⟨cur, h1, h2, h3⟩ := h.lst
  exact frozen_of_row w gl r _ _ h1
theorem Rws.below {w w' : World} {gl n W k : Nat} {R : Nat → List Int} (h : Rws w gl n W k R) (hb : Below w.heap.size w w') : Rws w' gl n W k R := by
  have hl := h.lt
  obtain ⟨cur, h1, h2, h3⟩ := h.lst
  refine ⟨cur, by rw [hb.block gl hl]; exact h1, h2, fun r hr => ?_⟩
  obtain ⟨ai, ci, e1, e2, e3⟩ := h3 r hr
  exact ⟨ai, ci, e1, e2.below hb, e3⟩
theorem Rws.next {w : World} {gl n W k : Nat} {R : Nat → List Int} (h : Rws w gl n W k R) (hk : k < n) {a : Option Addr} {c : Nat} (hr : Rd w a W c (R k)) (hne : ∀ x, a = some x → x.block ≠ gl) : Rws (w.setCell ⟨gl, k, none⟩ (.slice a W c)) gl n W (k + 1) R := by
  obtain ⟨cur, h1, h2, h3⟩ := h.lst
  have hg := grown_set w gl k (.slice a W c)
  refine ⟨_, heap_setCell_same w gl k _ _ _ h1, by simpa using h2, fun r hr2 => ?_⟩
  by_cases e : r = k
  · subst e
    exact ⟨a, c, by rw [Array.getElem?_setIfInBounds]; simp [h2, hk], hr.grown hg (fun x hx => by simpa using hne x hx), hne⟩
  · obtain ⟨ai, ci, e1, e2, e3⟩ := h3 r (by omega)
    exact ⟨ai, ci, by rw [Array.getElem?_setIfInBounds, if_neg (fun e' => e e'.symm)]; exact e1, e2.grown hg (fun x hx => by simpa using e3 x hx), e3⟩
theorem Rws.rdr {w : World} {gl n W : Nat} {R : Nat → List Int} (h : Rws w gl n W n R) (hn : n ≤ 1000) : RdR w (some ⟨gl, 0, none⟩) n n ((List.range n).map R) := by
  obtain ⟨cur, h1, h2, h3⟩ := h.lst
  refine ⟨by simp, Nat.le_refl _, by unfold maxLen; omega, by simp, fun x hx i hi => ?_⟩
  obtain rfl := Option.some.inj hx
  obtain ⟨ai, ci, e1, e2, _⟩ := h3 i hi
  have e : ((List.range n).map R).getD i [] = R i := by simp [hi]
  rw [e, e2.len, Addr.add_lit, Nat.zero_add, cell_of_row w gl i _ _ (0, 0) h1]
  exact ⟨ai, ci, e1, e2⟩

/-- slices.Clone of what is not nil. -/
theorem cCloneN (b o n c : Nat) (xs : List Int) (w : World) (h : Rd w (some ⟨b, o, none⟩) n c xs) (hn2 : n ≤ 1000) :
    Calls Try.prog 70 #[.slice (some ⟨b, o, none⟩) n c] w fun e w' => ∃ v, e = .returned v ∧ w'.ownsRow w.heap.size 28 1 v n (xs.map (Value.int .u64)) ∧ Below w.heap.size w w' := by
  obtain ⟨i0, hi, hz0, hz1, hz2⟩ := info_parts infoU
  have hlen := h.len
  have hnil := fun W : World => eql_nil (P := Try.prog) W _ _ ⟨b, o, none⟩ n c Try.underlying23
  go_enter Try.func70, Try.ntmps70
  go_wp2_with (at_builtin; refine wpList_append_own _ rfl _ _ 23 rfl w.heap.size 28 i0 (.int .u64 0) 1 8 Try.underlying23 hi hz0 hz1 hz2 rfl (by decide) (.slice (some ⟨w.heap.size, 0, none⟩) 0 0) 0 [] (by rfl) (World.ownsRow_made w #[] 0 (Nat.le_refl _) (Nat.zero_le _) rfl) ⟨b, o, none⟩ n c (xs.map (Value.int .u64)) (by rfl) (by simp [hlen]) ?c1 ?c2 (by unfold maxLen; omega) (by omega) (by simp) ?_)
  case c1 =>
    intro j u hj
    have hjn : j < n := by have := (List.getElem?_eq_some_iff.1 hj).1; simp at this; omega
    have hu : u = .int .u64 (xs.getD j 0) := by
      simp [List.getElem?_eq_getElem (show j < xs.length by omega)] at hj
      rw [← hj]; simp [List.getElem?_eq_getElem (show j < xs.length by omega)]
    have hc := h.cell _ rfl j hjn
    have hb := World.block_lt_of_cell? w _ hc
    rw [hu, World.cell?_of_block (w := w) (Below.heap_alloc _ _ _ hb)]
    exact hc
  case c2 => intro u hu; obtain ⟨x, _, rfl⟩ := List.mem_map.1 hu; rfl
  · intro v' w1 hown hgrow _
    have hbel : Below w.heap.size w w1 := ((Below.refl w.heap.size w).alloc (Nat.le_refl _) _).grown hgrow (by simp) (fun k hk => by simp [Value.ownBlock] at hk; omega)
    go_wp2
    go_ret
    exact ⟨_, rfl, hown, hbel⟩

/-- A slice that the call itself gathers, and one number more that lies in a row of its own: a step of a region that draws. -/
theorem step_appG {P : Program} {T E : TypeId} (hT : P.underlying T = some (.slice E)) (info : (P.info? E).map (fun i => (i.zero, i.size, i.bytes)) = some (some (.int .u64 0), 1, 8))
    {w : World} {ops : Array Oper} {o : Oper} {a : Act} {K : Act → World → Prop} {Q : Exit → Act → World → Prop} {F : Prop} (hgd : o.guard = none) (s x : Operand)
    (ho : o.op = .call { callee := .builtin .append, args := #[s, x], argTypes := #[T, T] })
    (base : Nat) (v : Value) (n : Nat) (xs : List Int) (hs : a.eval s = v) (hown : w.ownsRow base E 1 v n (xs.map (Value.int .u64))) (y : Int) (B : Nat) (hx : a.eval x = .slice (some ⟨B, 0, none⟩) 1 1) (hc : w.cell? ⟨B, 0, none⟩ = some (.int .u64 y))
    (hn : n ≤ 1000000) (hbase : base ≤ w.heap.size)
    (h : ∀ v' w', w'.ownsRow base E 1 v' (n + 1) ((xs ++ [y]).map (Value.int .u64)) → Below base w w' → K (a.put o.dst v') w') :
    if Region.wanted o (yielded ops a.tmps) = true then Oper.wp P o a w K Q else F := by
  obtain ⟨i0, hi, hz0, hz1, hz2⟩ := info_parts info
  refine step_append_lies _ hgd s x T ho base E i0 (.int .u64 0) 1 8 hT hi hz0 hz1 hz2 rfl (by decide) v n _ hs hown ⟨B, 0, none⟩ 1 1 [.int .u64 y] hx rfl ?_ ?_ (by decide) (by unfold maxLen; omega) (by omega) hbase _ rfl ?_
  · intro j u hj
    match j, hj with
    | 0, hj => simp at hj; subst hj; rw [Addr.add_lit]; exact hc
  · intro u hu; simp at hu; subst hu; rfl
  · intro g cap w' hown' hgrow _ _
    refine h _ w' (by rw [List.map_append]; exact hown') ?_
    exact (Below.refl _ _).grown hgrow hbase (fun k hk => (hown.lt k hk).1)

theorem cell_lit (w : World) (v : Value) (E : TypeId) : (w.alloc (.cells #[v] E)).cell? ⟨w.heap.size, 0, none⟩ = some v := by
  rw [cell_of_row _ w.heap.size 0 _ _ (0, 0) (heap_alloc_new w _)]; rfl
theorem zeros_nml {V : List Int} {C : Nat} (hb : ∀ x ∈ V, 0 ≤ x ∧ x ≤ 2147483646) : Nml (V.drop C ++ [1]) := by
  refine ⟨fun x hx => ?_, fun _ => ?_⟩
  · rcases List.mem_append.1 hx with h | h
    · exact hb x (List.mem_of_mem_drop h)
    · rw [List.mem_singleton.1 h]; omega
  · rw [List.length_append, List.length_singleton, Nat.add_sub_cancel, getD_appR (Nat.le_refl _), Nat.sub_self]; decide
theorem pdn_pad {Q : List Int} {m : Nat} (hb : ∀ x ∈ Q, 0 ≤ x ∧ x ≤ 2147483646) (hl : Q.length ≤ m) : padded Q m = pdn Q m := by
  refine list_ext (by rw [padded_len, pdn_len]) fun i hi => ?_
  rw [padded_len] at hi
  rw [pdn_getD Q hi]
  have h1 := getD_bd' hb i
  rw [nm_small h1.1 h1.2]
  unfold padded
  rw [List.take_of_length_le hl]
  by_cases h : i < Q.length
  · rw [getD_appL h]
  · rw [getD_appR (by omega), getD_big (show Q.length ≤ i by omega), zeros_getD]

/-- What find gives. -/
def Found (l : List (Int × Int)) (n t e : Nat) (w : World) (en : Ending) (w' : World) : Prop :=
  ((∃ g Q, en = .returned (.tuple #[.slice (some ⟨g, 0, none⟩) (t + 1) (t + 1), .bool true]) ∧ Rd w' (some ⟨g, 0, none⟩) (t + 1) (t + 1) (pdn Q (t + 1)) ∧ Few l n t e Q) ∨
   (en = .returned (.tuple #[.slice none 0 0, .bool false]) ∧ ∀ p, ¬ Few l n t e p)) ∧ Below w.heap.size w w'

theorem cFind (t e : Nat) (a : Option Addr) (n c : Nat) (l : List (Int × Int)) (w : World) (h : RdS w a n c l) (hd : dis (fa l) n) (ht : t ≤ 4) (hn : t + 1 + 2 * e ≤ n) :
    Calls Try.prog 36 #[.int .i64 t, .int .i64 e, .slice a n c] w fun en w' => Found l n t e w en w' := by
  obtain ⟨i0, hi, hz0, hz1, hz2⟩ := info_parts infoU
  obtain ⟨i1, gi, gz0, gz1, gz2⟩ := info_parts infoV
  have hn9 := dis_nine hd
  have HD : Hid (dis (fa l) n) := hd
  obtain ⟨C, HC⟩ : ∃ C, Hid (C = t + 1 + e) := ⟨_, rfl⟩
  obtain ⟨K, HK⟩ : ∃ K, Hid (K = C + e) := ⟨_, rfl⟩
  have hci : (t : Int) + 1 + (e : Int) = (C : Int) := by have := HC.out; omega
  have hki : (C : Int) + (e : Int) = (K : Int) := by have := HK.out; omega
  have hCe : e < C := by have := HC.out; omega
  have hCK : C ≤ K := by have := HK.out; omega
  have hKn : K ≤ n := by have := HK.out; have := HC.out; omega
  have hKe : K = C + e := HK.out
  have HKe : Hid (K = C + e) := hKe
  clear hd hKe
  obtain ⟨R, HR⟩ : ∃ R : Nat → List Int, Hid (R = fun i => eqn (l.getD i (0, 0)).1 (l.getD i (0, 0)).2 C e (K + 1)) := ⟨_, rfl⟩
  go_enter Try.func36, Try.ntmps36
  go_wp2_with (at_make; refine wpList_make_full _ rfl _ _ 60 rfl w.heap.size 23 i1 (.slice none 0 0) 1 Try.underlying60 gi gz0 gz1 .i64 .i64 _ _ n rfl rfl (by omega) (by omega) (by rw [gz2]; omega) (by unfold maxLen; omega) (Nat.le_refl _) ?_; intro w1 hown hgrow)
  have hM : Rws w1 w.heap.size n (K + 1) 0 R := by
    rcases hown.2 with ⟨h', _⟩ | ⟨g', cap', cur, h', _, hg, _, _, hs, htake⟩
    · simp at h'
    · simp only [Value.slice.injEq, Option.some.injEq, Addr.mk.injEq, and_true, true_and] at h'
      obtain ⟨rfl, rfl⟩ := h'
      exact ⟨cur, hg, by omega, fun r hr => by omega⟩
  have hbel : Below w.heap.size w w1 := (Below.refl _ _).grown hgrow (Nat.le_refl _) (by simp)
  clear hown hgrow
  go_loopw [28] (fun i wr => ∃ k : Nat, k ≤ n ∧ i = .int .i64 k ∧ Rws wr w.heap.size n (K + 1) k R ∧ Below w.heap.size w wr) (fun i _ => n - (intOf i).toNat)
  case atStart => exact ⟨0, Nat.zero_le _, rfl, hM, hbel⟩
  case round =>
    clear hM hbel
    obtain ⟨k, hk, rfl, hM, hbel⟩ := hrel
    have hgl := hM.lt
    have hs3 := hbel.size
    by_cases hlt : k < n
    · obtain ⟨b, o, x, y, rfl, hbb, HX, HY, hx0, hx1, hy0, hy1, hcx, hcy⟩ := (h.below hbel).one hlt
      have hx9 := (HD.out k hlt).1
      unfold fa at hx9
      rw [HX.out] at hx9
      have hx1 := hx9.1
      have hx9 := hx9.2
      have HRk : Hid (R k = eqn x y C e (K + 1)) := by unfold Hid; rw [HR.out]; simp only; rw [HX.out, HY.out]
      have hbA : Below wr.heap.size wr (wr.alloc (.cells #[.int .i64 x, .int .u64 y] 73)) := (Below.refl _ _).alloc (Nat.le_refl _) _
      have hcA0 := cell_alloc0 wr (.int .i64 x) (.int .u64 y) 73
      have hcA1 := cell_alloc1 wr (.int .i64 x) (.int .u64 y) 73
      go_wp2_with fail
      generalize wr.alloc (.cells #[.int .i64 x, .int .u64 y] 73) = wd at *
      refine (cEquation x y C e wd (by omega) (by omega) hy0 hy1 (by omega) hCe).mono ?_
      rintro en w2 ⟨a2, c2, rfl, hr2, hf2, hb2⟩
      rw [← HKe.out] at hr2 ⊢
      rw [← HRk.out] at hr2
      have hbd2 : Below wr.heap.size wr w2 := hbA.trans (hb2.mono hbA.size)
      have hM2 := hM.below hbd2
      obtain ⟨u0, hu0⟩ := hM2.has hlt
      have hfz := hM2.frozen k
      have hM3 := hM2.next hlt hr2 (fun q hq => by have := hf2 q hq; have := hbA.size; omega)
      have hbel2 := (hbel.trans (hbd2.mono hs3)).setCell (p := ⟨w.heap.size, k, none⟩) (Nat.le_refl _) (.slice a2 (K + 1) c2)
      have HM3 : Hid (_) := hM3
      have Hb3 : Hid (_) := hbel2
      clear hM3 hbel2 hM2 hM hbd2 hb2 hbA hcA0 hcA1 hcx hcy hbel hr2 hf2
      go_wp2
      go_roundw
      case rel => exact ⟨k + 1, by omega, by go_num, HM3.out, Hb3.out⟩
      case measure => simp [intOf]; omega
    · have hkn : k = n := by omega
      subst hkn
      have hRd := hM.rdr (by omega)
      have hchk : chk ((List.range k).map R) k (K : Int) = 0 := chk_ok (by omega) (by omega) (fun i hi => by
        have : ((List.range k).map R).getD i [] = R i := by simp [hi]
        rw [this, HR.out, eqn_len]; omega)
      have HB : Hid (Bwe (mat ((List.range k).map R)) l k C e) := fun i j hi hj => by
        unfold mat
        have : ((List.range k).map R).getD i [] = R i := by simp [hi]
        rw [this, HR.out, eqn_getD _ _ _ _ (by have := HKe.out; omega)]
      have HCHK : Hid (chk ((List.range k).map R) k (K : Int) = 0) := hchk
      clear hchk hM
      generalize (List.range k).map R = rs at *
      go_wp2_with fail
      refine (cSolve1 _ _ _ _ _ _ hRd HCHK.out).mono ?_
      rintro en w2 ⟨⟨hno, rfl⟩ | ⟨g, V, hyes, rfl, hV, hB2, hg⟩, hb2⟩
      · have HN : Hid (∀ p, ¬ Few l k t e p) := fun p hp => by
          refine hno ?_
          have h1 := hp.1
          have h2 := hp.2
          have hB3 := HB.out
          rw [HC.out] at hB3
          rw [HKe.out, HC.out]
          exact bw_dep (p := p) hB3 (by omega) (by omega)
        clear hno
        go_wp2
        go_ret2
        exact ⟨.inr ⟨rfl, HN.out⟩, hbel.trans (hb2.mono hs3)⟩
      · have hVl := hV.len
        have hVb := bd_u64 hV.bd
        have HV : Hid (Sol (mat rs) k K V) := hV
        have hKe := HKe.out
        have hCz : ((K - C : Nat) : Int) = (K : Int) - (C : Int) := by omega
        have hr1 : Rd w2 (some ⟨g, 0, none⟩) C K (V.take C) := by
          have := hB2.rd 0 C K (by omega) (by unfold maxLen; omega) (by omega) hVb
          rwa [List.drop_zero] at this
        obtain ⟨O, HO, hr2⟩ : ∃ O, Hid ((if K = C then some (⟨g, 0, none⟩ : Addr) else some ⟨g, C, none⟩) = some ⟨g, O, none⟩) ∧ Rd w2 (some ⟨g, O, none⟩) (K - C) (K - C) (V.drop C) := by
          by_cases hKC : K = C
          · refine ⟨0, if_pos hKC, ?_⟩
            have := hB2.rd 0 (K - C) (K - C) (Nat.le_refl _) (by unfold maxLen; omega) (by omega) hVb
            rw [show K - C = 0 by omega] at this ⊢
            rw [List.drop_eq_nil_of_le (by omega)]
            simpa using this
          · refine ⟨C, if_neg hKC, ?_⟩
            have := hB2.rd C (K - C) (K - C) (Nat.le_refl _) (by unfold maxLen; omega) (by omega) hVb
            rwa [List.take_of_length_le (by simp; omega)] at this
        have hgl2 := hB2.lt
        have hr2d : Rd w2.drew (some ⟨g, O, none⟩) (K - C) (K - C) (V.drop C) := hr2.drew
        have hr2a := hr2d.below ((Below.refl _ _).alloc (Nat.le_refl _) (.cells #[.int .u64 1] 28))
        have hr1d := hr1.drew
        have hr1a := hr1d.below ((Below.refl _ _).alloc (Nat.le_refl _) (.cells #[.int .u64 1] 28))
        have hlitA : (w2.drew.alloc (.cells #[.int .u64 1] 28)).cell? ⟨w2.drew.heap.size, 0, none⟩ = some (.int .u64 1) := cell_lit _ _ _
        have hbd2 : Below w.heap.size w w2.drew := (hbel.trans (hb2.mono hs3)).drew
        have hbd2a := hbd2.alloc hbd2.size (.cells #[.int .u64 1] 28)
        have hsda : (w2.drew.alloc (.cells #[.int .u64 1] 28)).heap.size = w2.drew.heap.size + 1 := by simp
        clear hKe hV hyes
        go_wp2
        go_region_law (first | (go_simp; go_at_call 70; rw [HO.out]; refine (cCloneN _ _ _ _ _ _ (by first | exact hr2d | exact hr2a) (by omega)).mono ?_; rintro en w4 ⟨v4, rfl, hown4, hb4⟩) | (refine step_app1 Try.underlying23 infoU w4 rfl _ _ rfl w2.drew.heap.size _ _ _ rfl hown4 1 rfl rfl (by omega) hb4.size ?_; intro v5 w5 hown5 hbel5; have hb5 := hb4.trans hbel5; have hr5 := hr1d.below hb5; have hw5 := hbd2.trans (hb5.mono hbd2.size); obtain ⟨az, cz, rfl, hrz, _⟩ := Rd.own hown5 (bd_u64 (zeros_nml HV.out.bd).bd)) | (refine step_appG Try.underlying23 infoU rfl _ _ rfl (w2.drew.alloc (.cells #[.int .u64 1] 28)).heap.size _ _ _ rfl hown4 1 w2.drew.heap.size rfl (by rw [hb4.cell (by show w2.heap.size < (w2.alloc _).heap.size; simp)]; exact hlitA) (by omega) hb4.size ?_; intro v5 w5 hown5 hbel5; have hb5 := hb4.trans hbel5; have hr5 := hr1a.below hb5; have hw5 := hbd2a.trans (hb5.mono hbd2a.size); obtain ⟨az, cz, rfl, hrz, _⟩ := Rd.own hown5 (bd_u64 (zeros_nml HV.out.bd).bd)))
        all_goals
          have hs5 := hw5.size
          clear hown4 hb4 hown5 hbel5 hb5 hr1d hr1a hr2d hr2a hr1 hr2 hlitA hbd2 hbd2a hsda hB2 hb2 hbel
          have HZN : Hid (Nml (V.drop C ++ [1])) := zeros_nml HV.out.bd
          obtain ⟨Z, HZ⟩ : ∃ Z : List Int, Hid (Z = V.drop C ++ [1]) := ⟨V.drop C ++ [1], rfl⟩
          rw [← HZ.out] at hrz HZN
          have hZl := hrz.len
          have HT : Hid (0 < tl (nz Z) (K - C + 1)) := by have := tl_nrm HZN.out; rw [hZl] at this; unfold Hid; omega
          have HTe : Hid (nrm Z = Z) := nrm_id HZN.out
          go_wp2_with fail
          refine (cDivOK _ _ _ _ _ _ _ _ _ hr5 hrz (by omega) (by omega) HT.out).mono ?_
          rintro en w6 ⟨Q, R', aq, ar, cq, cr, rfl, hrq, hrr, nQ, nR, hRl, hQl, hdiv, hb6⟩
          rw [HTe.out] at hRl hdiv
          have HF : Hid ((R' = [] → Q.length ≤ t + 1 ∧ (bdl l Q k).length ≤ e) ∧ (R' ≠ [] → ∀ p : List Int, p.length ≤ t + 1 → ¬ (bdl l p k).length ≤ e)) := by
            have hB3 := HB.out
            have hV3 := HV.out
            have hZ3 := HZ.out
            have hK3 := HKe.out
            have hC3 := HC.out
            rw [hK3] at hV3
            rw [hC3] at hB3 hV3 hZ3 hdiv
            exact bw_find h.len HD.out hn hB3 hV3 hZ3 nQ nR (by omega) hdiv
          have HQb : Hid (∀ x ∈ Q, 0 ≤ x ∧ x ≤ 2147483646) := nQ.bd
          have hb56 := hw5.trans (hb6.mono hs5)
          obtain ⟨LQ, HLQ⟩ : ∃ LQ, Hid (Q.length = LQ) := ⟨_, rfl⟩
          obtain ⟨LR, HLR⟩ : ∃ LR, Hid (R'.length = LR) := ⟨_, rfl⟩
          rw [HLQ.out] at hrq hQl ⊢
          rw [HLR.out] at hrr hRl ⊢
          clear hrz hr5 nQ nR hdiv hb6 hw5 hs5 hZl hVl hVb
          by_cases hR0 : LR = 0
          · subst hR0
            have hR1 : R' = [] := List.eq_nil_of_length_eq_zero HLR.out
            obtain ⟨f1, f2⟩ := HF.out.1 hR1
            have HFew : Hid (Few l k t e Q) := ⟨by omega, by omega⟩
            have HPP : Hid (padded Q (t + 1) = pdn Q (t + 1)) := pdn_pad HQb.out f1
            have HPl : Hid ((padded Q (t + 1)).length = t + 1) := padded_len Q (t + 1)
            have HPb : Hid (∀ x ∈ padded Q (t + 1), 0 ≤ x ∧ x ≤ 18446744073709551615) := padded_bd (bd_u64 HQb.out) (t + 1)
            obtain ⟨PP, HP⟩ : ∃ PP : List Int, Hid (padded Q (t + 1) = PP) := ⟨_, rfl⟩
            rw [HP.out] at HPP HPl HPb
            obtain ⟨cs, HCS⟩ : ∃ cs : List Value, Hid ((Q.take (t + 1)).map (Value.int .u64) = cs) := ⟨_, rfl⟩
            obtain ⟨cu, HCU⟩ : ∃ cu : List Value, Hid ((List.replicate (t + 1) (0 : Int)).map (Value.int .u64) = cu) := ⟨_, rfl⟩
            have hcl := copy_len (k := t + 1) HLQ.out
            have h1c := one_ints (Q.take (t + 1))
            have hsrcs := fun w' (hh : Rd w' aq LQ cq Q) => copy_src hh (t + 1)
            have HSPL : Hid (Go.splice cu 0 cs = PP.map (Value.int .u64)) := by unfold Hid; rw [← HCU.out, ← HCS.out, ← HP.out]; exact padded_splice Q (t + 1)
            have hcul : cu.length = t + 1 := by rw [← HCU.out]; simp
            rw [HCS.out] at hcl h1c hsrcs
            have hcl2 : cs.length ≤ t + 1 := by rw [hcl]; exact Nat.min_le_right _ _
            clear f1 f2 hR1
            go_wp2_with (first | (at_make; refine wpList_make_full _ rfl _ _ 23 rfl w6.heap.size 28 i0 (.int .u64 0) 1 Try.underlying23 hi hz0 hz1 .i64 .i64 _ _ (t + 1) rfl rfl (by omega) (by omega) (by rw [hz2]; omega) (by unfold maxLen; omega) (Nat.le_refl _) ?_; intro w7 hown hgrow; have hb7 : Blk w7 w6.heap.size (List.replicate (t + 1) 0) := Blk.made hown; have hbel7 : Below w6.heap.size w6 w7 := (Below.refl _ _).grown hgrow (Nat.le_refl _) (by simp); have hrow7 := hrq.below hbel7; unfold Blk at hb7; rw [HCU.out] at hb7; clear hown hgrow) | (refine wpList_copy_splice rfl _ _ 23 23 rfl 28 Try.underlying23 (by rw [hi, Option.map_some, hz1]) (some ⟨w6.heap.size, 0, none⟩) aq (t + 1) (t + 1) LQ cq (by rfl) (by rfl) w6.heap.size 0 cu 28 hb7 cs hcl (fun hp => ⟨rfl, hsrcs w7 hrow7 hp⟩) (by omega) h1c w6.heap.size w6 hbel7 (Nat.le_refl _) ?_; intro w8 HC8 hbel8))
            have hb8 : Blk w8 w6.heap.size PP := by unfold Blk; rw [← HSPL.out]; exact HC8.out
            have hr8 : Rd w8 (some ⟨w6.heap.size, 0, none⟩) (t + 1) (t + 1) PP := hb8.whole (t + 1) HPl.out.symm (by unfold maxLen; omega) HPb.out
            rw [HPP.out] at hr8
            clear HC8 hb7 hbel7 hrow7 hsrcs hcl h1c HCS HCU hcul hcl2 HSPL hb8
            go_wp2
            go_ret2
            exact ⟨.inl ⟨_, Q, rfl, hr8, HFew.out⟩, hb56.trans (hbel8.mono hb56.size)⟩
          · have HN : Hid (∀ p, ¬ Few l k t e p) := fun p hp => by
              have h1 := hp.1
              have h2 := hp.2
              exact HF.out.2 (fun e => hR0 (by rw [← HLR.out, e]; rfl)) p (by omega) (by omega)
            have hR1 : (0 : Int) < (LR : Int) := by omega
            go_wp2
            go_ret2
            exact ⟨.inr ⟨rfl, HN.out⟩, hb56⟩
/-- What check tells. -/
def Dck (l : List (Int × Int)) (n : Nat) (t e r : Int) : Prop :=
  (She l n t r ∧ r ≠ 0 ∧ r ≠ 4) ∨ (Shd l n t ∧ (e < 0 ∨ 4 < e) ∧ r = 1) ∨ (Shd l n t ∧ (0 ≤ e ∧ e ≤ 4) ∧ (n : Int) < t + 1 + 2 * e ∧ r = 4) ∨ (Shd l n t ∧ (0 ≤ e ∧ e ≤ 4) ∧ t + 1 + 2 * e ≤ (n : Int) ∧ r = 0)
theorem Dck.err {l : List (Int × Int)} {n : Nat} {t e r : Int} (h : Dck l n t e r) (hr : r ≠ 0) : Dcd l n t e [] [] r := by
  rcases h with h | ⟨h1, h2, h3⟩ | ⟨h1, h2, h3, h4⟩ | ⟨h1, h2, h3, h4⟩
  · exact .inl ⟨h, rfl, rfl⟩
  · exact .inr (.inl ⟨h1, h2, rfl, rfl, h3⟩)
  · exact .inr (.inr (.inl ⟨h1, h2, h3, rfl, rfl, h4⟩))
  · exact absurd h4 hr
theorem Dck.ok {l : List (Int × Int)} {n : Nat} {t e : Int} (h : Dck l n t e 0) : Shd l n t ∧ (0 ≤ e ∧ e ≤ 4) ∧ t + 1 + 2 * e ≤ (n : Int) := by
  rcases h with ⟨_, h, _⟩ | ⟨_, _, h3⟩ | ⟨_, _, _, h4⟩ | ⟨h1, h2, h3, h4⟩
  · exact absurd rfl h
  · omega
  · omega
  · exact ⟨h1, h2, h3⟩

theorem bdl_mem {l : List (Int × Int)} {p : List Int} {x : Int} : ∀ {n : Nat}, x ∈ bdl l p n → ∃ i, i < n ∧ (l.getD i (0, 0)).1 = x
  | 0, h => by simp [bdl] at h
  | n + 1, h => by
    rw [bdl] at h
    split at h
    · obtain ⟨i, h1, h2⟩ := bdl_mem h; exact ⟨i, by omega, h2⟩
    · rcases List.mem_append.1 h with h | h
      · obtain ⟨i, h1, h2⟩ := bdl_mem h; exact ⟨i, by omega, h2⟩
      · exact ⟨n, by omega, (List.mem_singleton.1 h).symm⟩
theorem bdl_bd {l : List (Int × Int)} {p B : List Int} {n m : Nat} (hd : dis (fa l) n) (h : OuI (bdl l p n) B m) : ∀ x ∈ B, -9223372036854775808 ≤ x ∧ x ≤ 9223372036854775807 := fun x hx => by
  obtain ⟨i, hi, e⟩ := bdl_mem (h.perm.mem_iff.1 hx)
  have := (hd i hi).1
  unfold fa at this
  omega

theorem cDcheck (t e : Int) (a : Option Addr) (n c : Nat) (l : List (Int × Int)) (w : World) (h : RdS w a n c l) :
    Calls Try.prog 35 #[.int .i64 t, .int .i64 e, .slice a n c] w fun en w' => ∃ r, en = .returned (.int .i64 r) ∧ Dck l n t e r ∧ Below w.heap.size w w' := by
  have hcap := h.cap
  have hmax := h.max
  unfold maxLen at hmax
  go_enter Try.func35, Try.ntmps35
  go_wp2_with fail
  refine (cCheckS _ _ _ _ _ _ h).mono ?_
  rintro en w1 ⟨r, rfl, hS, hb1⟩
  by_cases hr : r = 0 ∨ r = 4
  · have HS : Hid (Shd l n t) := hS.shd hr
    have hS1 := (hS.shd hr).1
    have hr1 : (r == 1) = false := by rw [beq_eq_false_iff_ne]; omega
    have hr5 : (r == 5) = false := by rw [beq_eq_false_iff_ne]; omega
    clear hr hS
    by_cases h0 : e < 0
    · have HN : Hid (Dck l n t e 1) := .inr (.inl ⟨HS.out, .inl h0, rfl⟩)
      go_wp2
      go_ret
      exact ⟨1, rfl, HN.out, hb1⟩
    · by_cases h4 : 4 < e
      · have HN : Hid (Dck l n t e 1) := .inr (.inl ⟨HS.out, .inr h4, rfl⟩)
        go_wp2
        go_ret
        exact ⟨1, rfl, HN.out, hb1⟩
      · by_cases hn : (n : Int) < t + 1 + 2 * e
        · have HN : Hid (Dck l n t e 4) := .inr (.inr (.inl ⟨HS.out, ⟨by omega, by omega⟩, hn, rfl⟩))
          go_wp2
          go_ret
          exact ⟨4, rfl, HN.out, hb1⟩
        · have HN : Hid (Dck l n t e 0) := .inr (.inr (.inr ⟨HS.out, ⟨by omega, by omega⟩, by omega, rfl⟩))
          go_wp2
          go_ret
          exact ⟨0, rfl, HN.out, hb1⟩
  · have HN : Hid (Dck l n t e r) := .inl ⟨hS, fun e => hr (.inl e), fun e => hr (.inr e)⟩
    have hr2 : r = 1 ∨ r = 5 := by
      rcases hS with ⟨_, h2⟩ | ⟨_, _, h2⟩ | ⟨_, _, _, h2⟩ | ⟨_, _, _, h2⟩ <;> omega
    clear hr hS
    rcases hr2 with rfl | rfl
    · go_wp2
      go_ret
      exact ⟨1, rfl, HN.out, hb1⟩
    · go_wp2
      go_ret
      exact ⟨5, rfl, HN.out, hb1⟩

/-- What Decode answers. -/
def Dcs (l : List (Int × Int)) (n : Nat) (t e : Int) (w : World) (en : Ending) (w' : World) : Prop :=
  ∃ (P B : List Int) (r : Int) (a1 : Option Addr) (k1 c1 : Nat) (a2 : Option Addr) (k2 c2 : Nat), en = .returned (.tuple #[.slice a1 k1 c1, .slice a2 k2 c2, .int .i64 r]) ∧ Dcd l n t e P B r ∧ Rd w' a1 k1 c1 P ∧ RdI w' a2 k2 c2 B ∧ Below w.heap.size w w'
theorem nil_rdI (w : World) : RdI w none 0 0 [] := ⟨rfl, Nat.le_refl _, Nat.zero_le _, by simp, fun _ => rfl, by simp⟩

theorem cDecode (t e : Int) (a : Option Addr) (n c : Nat) (l : List (Int × Int)) (w : World) (h : RdS w a n c l) :
    Calls Try.prog 8 #[.int .i64 t, .int .i64 e, .slice a n c] w fun en w' => Dcs l n t e w en w' := by
  go_enter Try.func8, Try.ntmps8
  go_wp2_with fail
  refine (cDcheck _ _ _ _ _ _ _ h).mono ?_
  rintro en w1 ⟨r, rfl, hC, hb1⟩
  by_cases hr : r = 0
  · subst hr
    obtain ⟨hS, he, hn⟩ := hC.ok
    have ht := hS.1
    have HD : Hid (dis (fa l) n) := hS.2
    have HS : Hid (Shd l n t) := hS
    clear hC hS
    obtain ⟨k, rfl⟩ : ∃ k : Nat, t = k := ⟨t.toNat, by omega⟩
    obtain ⟨d, rfl⟩ : ∃ d : Nat, e = d := ⟨e.toNat, by omega⟩
    go_wp2_with fail
    refine (cFind _ _ _ _ _ _ _ (h.below hb1) HD.out (by omega) (by omega)).mono ?_
    rintro en w2 ⟨⟨g, Q, rfl, hrQ, hF⟩ | ⟨rfl, hF⟩, hb2⟩
    · have HF : Hid (Few l n k d Q) := hF
      have hb12 := hb1.trans (hb2.mono hb1.size)
      clear hF hb1 hb2
      go_wp2_with fail
      refine (cMisses _ _ _ _ _ _ _ _ _ hrQ (h.below hb12) (by omega) HD.out).mono ?_
      rintro en w3 ⟨B, ab, cb, rfl, hown, hO, hb3⟩
      have hl := h.len
      have HE : Hid (bdl l (pdn Q (k + 1)) n = bdl l Q n) := by
        unfold Hid
        rw [← hl]
        refine bdl_same (nrm_ext fun i => ?_) l
        by_cases hi : i < k + 1
        · rw [pdn_getD Q hi, nm_nm]
        · have := HF.out.1
          rw [getD_big (by rw [pdn_len]; omega), getD_big (show Q.length ≤ i by omega)]
      rw [HE.out] at hown hO ⊢
      have HDc : Hid (Dcd l n k d (pdn Q (k + 1)) B 0) := .inr (.inr (.inr (.inl ⟨HS.out, he, hn, ⟨Q, HF.out, by congr 1, hO⟩, rfl⟩)))
      obtain ⟨a2, c2, e2, hrB⟩ := RdI.own hown (bdl_bd HD.out hO)
      simp only [Value.slice.injEq, true_and] at e2
      obtain ⟨rfl, rfl⟩ := e2
      have hrQ3 := hrQ.below hb3
      have hb13 := hb12.trans (hb3.mono hb12.size)
      obtain ⟨NB, HNB⟩ : ∃ NB, Hid ((bdl l Q n).length = NB) := ⟨_, rfl⟩
      rw [HNB.out] at hrB ⊢
      clear hO hown hb3 hb12 hrQ
      go_wp2
      go_ret3
      exact ⟨_, B, 0, _, _, _, _, _, _, rfl, HDc.out, hrQ3, hrB, hb13⟩
    · have HDc : Hid (Dcd l n k d [] [] 6) := .inr (.inr (.inr (.inr ⟨HS.out, he, hn, hF, rfl, rfl, rfl⟩)))
      clear hF
      go_wp2
      go_ret3
      exact ⟨_, _, 6, _, _, _, _, _, _, rfl, HDc.out, nil_rd _, nil_rdI _, hb1.trans (hb2.mono hb1.size)⟩
  · have hrb : (r != 0) = true := by rw [bne_iff_ne]; exact hr
    have HDc : Hid (Dcd l n t e [] [] r) := hC.err hr
    clear hr hC
    go_wp2
    go_ret3
    exact ⟨_, _, r, _, _, _, _, _, _, rfl, HDc.out, nil_rd _, nil_rdI _, hb1⟩

/-- What Open answers. -/
def Ros (l : List (Int × Int)) (n : Nat) (t : Int) (w : World) (en : Ending) (w' : World) : Prop :=
  ∃ (x : Int) (B : List Int) (r : Int) (a2 : Option Addr) (k2 c2 : Nat), en = .returned (.tuple #[.int .u64 x, .slice a2 k2 c2, .int .i64 r]) ∧ Rob l n t x B r ∧ RdI w' a2 k2 c2 B ∧ Below w.heap.size w w'
theorem dcd_head {l : List (Int × Int)} {n : Nat} {t e : Int} {P B : List Int} (h : Dcd l n t e P B 0) : 0 < P.length ∧ ∀ x ∈ P, 0 ≤ x ∧ x ≤ 2147483646 := by
  rcases h with ⟨⟨_, h, _⟩, _⟩ | ⟨_, _, _, _, h⟩ | ⟨_, _, _, _, _, h⟩ | ⟨h1, _, _, ⟨p, _, rfl, _⟩, _⟩ | ⟨_, _, _, _, _, _, h⟩
  · exact absurd rfl h
  · omega
  · omega
  · have := h1.1
    exact ⟨by rw [pdn_len]; omega, pdn_bd _ _⟩
  · omega

theorem cOpenD (t : Int) (a : Option Addr) (n c : Nat) (l : List (Int × Int)) (w : World) (h : RdS w a n c l) :
    Calls Try.prog 10 #[.int .i64 t, .slice a n c] w fun en w' => Ros l n t w en w' := by
  go_enter Try.func10, Try.ntmps10
  go_wp2_with fail
  refine (cCheckS _ _ _ _ _ _ h).mono ?_
  rintro en w1 ⟨r, rfl, hS, hb1⟩
  by_cases hr : r = 0
  · subst hr
    have HS : Hid (She l n t 0) := hS
    obtain ⟨t0, t4, hd, htn, hn9⟩ := hS.ok
    clear hd hS
    have HM : Hid (((n : Int) - t - 1) / 2 = mayb n t) := by unfold Hid mayb; omega
    have hd2 : 0 ≤ ((n : Int) - t - 1) / 2 := by omega
    have hd3 : ((n : Int) - t - 1) / 2 ≤ 4 := by omega
    go_wp2_with fail
    refine (cDecode _ _ _ _ _ _ _ (h.below hb1)).mono ?_
    rintro en w2 ⟨P, B, s, a1, k1, c1, a2, k2, c2, rfl, hD, hrP, hrB, hb2⟩
    rw [HM.out] at hD
    have hb12 := hb1.trans (hb2.mono hb1.size)
    by_cases hs : s = 0
    · subst hs
      have HD : Hid (Dcd l n t (mayb n t) P B 0) := hD
      obtain ⟨hPl, hPb⟩ := dcd_head hD
      have hk1 := hrP.len
      obtain ⟨b, o, x, rfl, hbb, HX, hx0, hx1, hcx⟩ := hrP.one (show 0 < k1 by omega)
      rw [Nat.add_zero] at hcx
      have hk0 : (0 : Int) < (k1 : Int) := by omega
      have HN : Hid (Rob l n t x B 0) := .inr ⟨HS.out, P, B, 0, HD.out, .inr ⟨rfl, HX.out.symm, rfl, rfl⟩⟩
      clear hD hPb hb1 hb2
      go_wp2
      go_ret3
      exact ⟨x, B, 0, _, _, _, rfl, HN.out, hrB, hb12⟩
    · have hsb : (s != 0) = true := by rw [bne_iff_ne]; exact hs
      have HN : Hid (Rob l n t 0 [] s) := .inr ⟨HS.out, P, B, s, hD, .inl ⟨hs, rfl, rfl, rfl⟩⟩
      clear hD hs hb1 hb2
      go_wp2
      go_ret3
      exact ⟨0, [], s, _, _, _, rfl, HN.out, nil_rdI _, hb12⟩
  · have hrb : (r != 0) = true := by rw [bne_iff_ne]; exact hr
    have HN : Hid (Rob l n t 0 [] r) := .inl ⟨hS, hr, rfl, rfl⟩
    clear hr hS
    go_wp2
    go_ret3
    exact ⟨0, [], r, _, _, _, rfl, HN.out, nil_rdI _, hb1⟩
end
end Go.Proofs.Ytljlioglpaogdab
