/- Package keys: New, Tweak, Combine, Multiply, Shares, Drop. · croftref.Played: what each party has seen so far, and the wires' numbers: memory. · What the calls of package engine answer. -/
import Derived.Test.YtljlioglpaogdafGreatDoorToKyG
import Derived.Test.YtljlioglpaogdafGreatDoorToTwByM
import Derived.Test.YtljlioglpaogdafGreatDoorToTwM
import Derived.Test.YtljlioglpaogdafGreatDoorToSolveC
import Derived.Test.YtljlioglpaogdafGreatDoorProg
import Derived.Test.YtljlioglpaogdafGreatDoorToLsV2
import Derived.Test.YtljlioglpaogdafGreatDoorToShpM
import Derived.Test.YtljlioglpaogdafGreatDoorToChkC
namespace Go.Proofs.YtljlioglpaogdafGreatDoor
set_option linter.unusedVariables false
set_option maxRecDepth 100000
set_option maxHeartbeats 8000000
section
open Crm Go.RowKit
theorem cNewK : KcNew := by
  intro n t w hn ht
  have hmm := @run_makeMap Tryz.prog
  unfold i64r at hn ht
  by_cases h0 : t < 0
  · have HB : Hid (¬ ((0 ≤ t ∧ t ≤ 4) ∧ n ≤ 9 ∧ 2 * t + 1 ≤ n)) := by unfold Hid; omega
    go_enter Tryz.func94, Tryz.ntmps94
    go_wp2
    go_ret2
    exact ⟨.inl ⟨HB.out, rfl⟩, Below.refl _ _⟩
  by_cases h1 : 4 < t
  · have HB : Hid (¬ ((0 ≤ t ∧ t ≤ 4) ∧ n ≤ 9 ∧ 2 * t + 1 ≤ n)) := by unfold Hid; omega
    go_enter Tryz.func94, Tryz.ntmps94
    go_wp2
    go_ret2
    exact ⟨.inl ⟨HB.out, rfl⟩, Below.refl _ _⟩
  by_cases h2 : n < 2 * t + 1
  · have HB : Hid (¬ ((0 ≤ t ∧ t ≤ 4) ∧ n ≤ 9 ∧ 2 * t + 1 ≤ n)) := by unfold Hid; omega
    go_enter Tryz.func94, Tryz.ntmps94
    go_wp2
    go_ret2
    exact ⟨.inl ⟨HB.out, rfl⟩, Below.refl _ _⟩
  by_cases h3 : 9 < n
  · have HB : Hid (¬ ((0 ≤ t ∧ t ≤ 4) ∧ n ≤ 9 ∧ 2 * t + 1 ≤ n)) := by unfold Hid; omega
    go_enter Tryz.func94, Tryz.ntmps94
    go_wp2
    go_ret2
    exact ⟨.inl ⟨HB.out, rfl⟩, Below.refl _ _⟩
  obtain ⟨t', rfl⟩ : ∃ k : Nat, t = k := ⟨t.toNat, by omega⟩
  obtain ⟨n', rfl⟩ : ∃ k : Nat, n = k := ⟨n.toNat, by omega⟩
  have ht4 : t' ≤ 4 := by omega
  have hn9 : n' ≤ 9 := by omega
  have hnt : 2 * t' + 1 ≤ n' := by omega
  obtain ⟨hX, hB⟩ := sto_new w ht4 hn9 hnt 118 rfl
  have HX : Hid (Stx _ _ _ _ _) := hX
  have HB : Hid (Below _ _ _) := hB
  clear hX hB
  go_enter Tryz.func94, Tryz.ntmps94
  go_wp2
  go_ret2
  exact ⟨.inr ⟨n', t', _, _, rfl, rfl, ht4, hn9, hnt, rfl, HX.out, fun i hi => hi.1⟩, HB.out⟩

theorem cTweakK : KcTweak := by
  intro p G s x u w h hx hu0 hu1 hlast
  have HH : Hid (Kst w p G s) := h
  have hn9 := h.wf.n9
  have hnt := h.wf.nt
  have hGl := h.lt
  obtain ⟨⟨b, V, hS, _⟩, _⟩ := h
  obtain ⟨c0, c1, c2, c3⟩ := hS.four
  have hpl := hS.lt
  have hM := hS.map
  rcases hS.val x with ⟨fx, vx⟩ | ⟨l, ax, cx, fx, vx, rx⟩
  · have HE : Hid (kmix s x x 1 0 u = (0, 4, s)) := by unfold Hid kmix; rw [fx]
    have HV : Hid (V x = none) := vx
    clear hS fx vx
    go_enter Tryz.func51, Tryz.ntmps51
    go_wp2_with (at_lookup; refine wpList_lookK _ rfl _ _ 116 rfl 53 Tryz.underlying116 _ (zeroL _) b s.cnt V rfl hM x rfl hx ?_; rw [HV.out]; simp only [Option.getD_none, Option.isSome_none])
    go_ret2
    rw [HE.out]
    exact ⟨rfl, HH.out.below (Below.refl _ _), Tch.refl _ _⟩
  · have HE : Hid (kmix s x x 1 0 u = kadd s (mxl l l 1 0 u s.n)) := by unfold Hid kmix; rw [fx]
    have HV : Hid (V x = some (.slice ax s.n cx)) := vx
    clear hS fx vx
    go_enter Tryz.func51, Tryz.ntmps51
    go_wp2_with (at_lookup; refine wpList_lookK _ rfl _ _ 116 rfl 53 Tryz.underlying116 _ (zeroL _) b s.cnt V rfl hM x rfl hx ?_; rw [HV.out]; simp only [Option.getD_some, Option.isSome_some])
    refine (cGPlus _ _ _ _ _ _ rx hu0 hu1).mono ?_
    rintro e w1 ⟨⟨hbad, _⟩ | ⟨_, v1, rfl, ho1⟩, hb1⟩
    · exact absurd ⟨by omega, by omega⟩ hbad
    obtain ⟨a1, k1, rfl, hr1, hx1⟩ := Rd.own ho1 (bd_u64 (mxl_bd _ _ _ _ _ _))
    have hG1 := gnx_new (G := G) hr1 (by omega) hx1
    have h1 := HH.out.below hb1
    clear ho1 hx1 c0 c1 c2 c3 hpl hM
    go_wp2_with fail
    refine (cKeepK p _ s _ _ _ _ h1 hr1 (mxl_bd _ _ _ _ _ _) hG1 hlast).mono ?_
    intro e w2 hK
    have HR : Hid (Kke p G (kadd s (mxl l l 1 0 u s.n)) w e w2) := Kde.behind hb1 hK hGl
    obtain ⟨rfl, _, _⟩ := hK
    clear h1 hr1 hG1 hb1
    go_wp2
    go_ret2
    rw [HE.out]
    exact HR.out

theorem cCombineK : KcCombine := by
  intro p G s g x u v w h hg hx hu0 hu1 hv0 hv1 hlast
  have hn9 := h.wf.n9
  have hnt := h.wf.nt
  have hGl := h.lt
  go_enter Tryz.func53, Tryz.ntmps53
  go_wp2_with fail
  refine (cBothK p G s g x w h hg hx).mono ?_
  rintro e w1 ⟨⟨hno, v1, u1, rfl⟩ | ⟨l, m, ag, cg, ax, cx, fg, fx, rfl, rg, rx⟩, hb1⟩
  · have HE : Hid (kmix s g x u v 0 = (0, 4, s)) := by
      unfold Hid kmix
      rcases hno with e | e
      · rw [e]
      · rw [e]; cases s.f g <;> rfl
    clear hno
    go_wp2
    go_ret2
    rw [HE.out]
    exact ⟨rfl, h.below hb1, Tch.of_below hb1⟩
  · have HE : Hid (kmix s g x u v 0 = kadd s (mxl l m u v 0 s.n)) := by unfold Hid kmix; rw [fg, fx]
    clear fg fx
    go_wp2_with fail
    refine (cGScale _ _ _ _ _ _ rg hu0 hu1).mono ?_
    rintro e w2 ⟨⟨hbad, _⟩ | ⟨_, v2, rfl, ho2⟩, hb2⟩
    · exact absurd ⟨by omega, by omega⟩ hbad
    obtain ⟨a2, k2, rfl, hr2, _⟩ := Rd.own ho2 (bd_u64 (mxl_bd _ _ _ _ _ _))
    have rx2 := rx.below hb2
    clear ho2 rx rg
    go_wp2_with fail
    refine (cGScale _ _ _ _ _ _ rx2 hv0 hv1).mono ?_
    rintro e w3 ⟨⟨hbad, _⟩ | ⟨_, v3, rfl, ho3⟩, hb3⟩
    · exact absurd ⟨by omega, by omega⟩ hbad
    obtain ⟨a3, k3, rfl, hr3, _⟩ := Rd.own ho3 (bd_u64 (mxl_bd _ _ _ _ _ _))
    have hr2' := hr2.below hb3
    clear ho3 rx2 hr2
    go_wp2_with fail
    refine (cGAdd _ _ _ _ _ _ _ _ _ hr2' hr3).mono ?_
    rintro e w4 ⟨⟨hbad, _⟩ | ⟨_, v4, rfl, ho4⟩, hb4⟩
    · exact absurd ⟨⟨by omega, by omega⟩, rfl⟩ hbad
    rw [mxl_two] at ho4
    have hb13 := hb1.trans ((hb2.trans (hb3.mono hb2.size)).mono hb1.size)
    have hb14 := hb13.trans (hb4.mono hb13.size)
    obtain ⟨a4, k4, rfl, hr4, hx4⟩ := Rd.own ho4 (bd_u64 (mxl_bd _ _ _ _ _ _))
    have hG4 := gnx_new (G := G) hr4 (by omega) (fun y hy => Nat.le_trans hb13.size (hx4 y hy))
    have h4 := h.below hb14
    clear ho4 hx4 hr2' hr3 hb1 hb2 hb3 hb4 hb13
    go_wp2_with fail
    refine (cKeepK p _ s _ _ _ _ h4 hr4 (mxl_bd _ _ _ _ _ _) hG4 hlast).mono ?_
    intro e w5 hK
    have HR : Hid (Kke p G (kadd s (mxl l m u v 0 s.n)) w e w5) := Kde.behind hb14 hK hGl
    obtain ⟨rfl, _, _⟩ := hK
    clear h4 hr4 hG4 hb14
    go_wp2
    go_ret2
    rw [HE.out]
    exact HR.out

theorem cMultiplyK : KcMultiply := by
  intro p G s g x ad q cd ds w h hg hx r hlast
  have ht4 := h.wf.t4
  have hn9 := h.wf.n9
  have hnt := h.wf.nt
  have hGl := h.lt
  have hlen := r.len
  go_enter Tryz.func55, Tryz.ntmps55
  go_wp2_with fail
  refine (cBothK p G s g x w h hg hx).mono ?_
  rintro e w1 ⟨⟨hno, v1, u1, rfl⟩ | ⟨l, m, ag, cg, ax, cx, fg, fx, rfl, rg, rx⟩, hb1⟩
  · have HE : Hid (kmul s g x ds = (0, 4, s)) := by
      unfold Hid kmul
      rcases hno with e | e
      · rw [e]
      · rw [e]; cases s.f g <;> rfl
    clear hno
    go_wp2
    go_ret2
    rw [HE.out]
    exact ⟨rfl, h.below hb1, Tch.of_below hb1⟩
  · obtain ⟨⟨b, V, hS, _⟩, _⟩ := h.same hb1
    obtain ⟨c0, c1, c2, c3⟩ := hS.four
    have hpl := hS.lt
    have rd := r.below hb1
    have HK : Hid (kmul s g x ds = if ds.length = s.n * s.t then kadd s (tmO s.t l m ds s.n s.n) else (0, 1, s)) := by unfold Hid kmul; rw [fg, fx]
    clear hS fg fx
    go_wp2_with fail
    refine (cGMul _ _ _ _ _ _ _ _ _ _ _ _ _ _ rg rx rd).mono ?_
    rintro e w2 ⟨⟨ε, hε, hG, rfl⟩ | ⟨hG, v2, u2, L2, rfl, ho2, _⟩, hb2⟩
    · have hb12 := hb1.trans (hb2.mono hb1.size)
      obtain ⟨rfl, hne⟩ : ε = 1 ∧ ds.length ≠ s.n * s.t := by
        rcases hG with ⟨h1, _⟩ | ⟨_, ⟨h1, _⟩ | ⟨_, ⟨h1, _⟩ | ⟨_, ⟨h1, e1⟩ | ⟨_, e1⟩⟩⟩⟩
        · exfalso; omega
        · exact absurd ⟨⟨by omega, by omega⟩, rfl⟩ h1
        · exfalso; omega
        · refine ⟨e1, fun e => h1 ?_⟩
          rw [← hlen, e]; push_cast; rfl
        · exact absurd e1 hε
      have HE : Hid (kmul s g x ds = (0, 1, s)) := by unfold Hid; rw [HK.out, if_neg hne]
      clear hG hne hε c0 c1 c2 c3 hpl rg rx rd
      go_wp2
      go_ret2
      rw [HE.out]
      exact ⟨rfl, h.below hb12, Tch.of_below hb12⟩
    · obtain ⟨k, hk, _, _, _, _, _, hq⟩ := hG.ok
      obtain rfl : k = s.t := by omega
      have HE : Hid (kmul s g x ds = kadd s (tmO s.t l m ds s.n s.n)) := by unfold Hid; rw [HK.out, if_pos (by rw [hlen]; exact hq)]
      have e0 : ((s.t : Int)).toNat = s.t := rfl
      rw [e0] at ho2
      obtain ⟨a2, k2, rfl, hr2, hx2⟩ := Rd.own ho2 (bd_u64 (tmO_bd' _ _ _ _ _ _))
      have hb12 := hb1.trans (hb2.mono hb1.size)
      have hG2 := gnx_new (G := G) hr2 (by omega) (fun y hy => Nat.le_trans hb1.size (hx2 y hy))
      have h2 := h.below hb12
      clear ho2 hx2 hG hk hq e0 c0 c1 c2 c3 hpl rg rx rd hb1 hb2
      go_wp2_with fail
      refine (cKeepK p _ s _ _ _ _ h2 hr2 (tmO_bd' _ _ _ _ _ _) hG2 hlast).mono ?_
      intro e w5 hK
      have HR : Hid (Kke p G (kadd s (tmO s.t l m ds s.n s.n)) w e w5) := Kde.behind hb12 hK hGl
      obtain ⟨rfl, _, _⟩ := hK
      clear h2 hr2 hG2 hb12
      go_wp2
      go_ret2
      rw [HE.out]
      exact HR.out

theorem cDropK : KcDrop := by
  intro p G s x w h hx
  have HH : Hid (Kst w p G s) := h
  obtain ⟨⟨b, V, hS, hF⟩, hGl⟩ := h
  obtain ⟨c0, c1, c2, c3⟩ := hS.four
  have hpl := hS.lt
  have hM := hS.map
  rcases hS.val x with ⟨fx, vx⟩ | ⟨l, ax, cx, fx, vx, rx⟩
  · have HE : Hid (kdrp s x = (4, s)) := by unfold Hid kdrp; rw [fx]
    have HV : Hid (V x = none) := vx
    clear hS fx vx
    go_enter Tryz.func60, Tryz.ntmps60
    go_wp2_with (at_lookup; refine wpList_lookK _ rfl _ _ 116 rfl 53 Tryz.underlying116 _ (zeroL _) b s.cnt V rfl hM x rfl hx ?_; rw [HV.out]; simp only [Option.getD_none, Option.isSome_none])
    go_ret
    rw [HE.out]
    exact ⟨rfl, HH.out.below (Below.refl _ _), Tch.refl _ _⟩
  · have HE : Hid (kdrp s x = (0, kout s x)) := by unfold Hid kdrp; rw [fx]
    have HF : Hid (s.f x = some l) := fx
    have HV : Hid (V x = some (.slice ax s.n cx)) := vx
    have HS : Hid (Sto 118 w p b V s) := hS
    clear hS fx vx rx
    go_enter Tryz.func60, Tryz.ntmps60
    go_wp2_with (first | (at_lookup; refine wpList_lookK _ rfl _ _ 116 rfl 53 Tryz.underlying116 _ (zeroL _) b s.cnt V rfl hM x rfl hx ?_; rw [HV.out]; simp only [Option.getD_some, Option.isSome_some]) | (at_delete; refine wpList_delK _ rfl _ _ 116 rfl 53 Tryz.underlying116 b s.cnt V rfl hM x rfl hx ?_; intro w2 hM2 hgr2))
    have hk : ∀ i, i < w.heap.size → i ≠ b → w2.heap[i]? = w.heap[i]? := fun i hi hne => hgr2.block i hi (by simpa using hne)
    have HP := HS.out.out HF.out hM2 hk
    have HR : Hid (Kkt p G (0, kout s x) w (.returned (.int .i64 0)) w2) := by
      refine ⟨rfl, ⟨⟨b, _, HP, fun i hi => .inl ?_⟩, Gnx.lt hGl hgr2.size⟩, ⟨hgr2.os, hgr2.tape, hgr2.output, hgr2.size, fun i hi hn => hk i hi (fun e => hn (hF _ (.inr (.inl e))))⟩⟩
      rcases hi with rfl | rfl | ⟨hh, a', m, c', e, rfl⟩
      · exact hF _ (.inl rfl)
      · exact hF _ (.inr (.inl rfl))
      · unfold mset at e
        split at e
        · cases e
        · exact hF _ (.inr (.inr ⟨hh, a', m, c', e, rfl⟩))
    clear hM hM2 hgr2 hk HP c0 c1 c2 c3 hpl hF hGl
    go_wp2
    go_ret
    rw [HE.out]
    exact HR.out
theorem step_appM {P : Program} {T E : TypeId} (hT : P.underlying T = some (.slice E)) (info : (P.info? E).map (fun i => (i.zero, i.size, i.bytes)) = some (some (.int .u64 0), 1, 8))
    (w : World) {ops : Array Oper} {o : Oper} {a : Act} {K : Act → World → Prop} {Q : Exit → Act → World → Prop} {F : Prop} (hgd : o.guard = none) (s x : Operand)
    (ho : o.op = .call { callee := .builtin .append, args := #[s, x], argTypes := #[T, T] })
    (base : Nat) (v : Value) (n : Nat) (xs : List Int) (hs : a.eval s = v) (hown : w.ownsRow base E 1 v n (xs.map (Value.int .u64))) (b o2 m c : Nat) (ys : List Int) (hr : Rd w (some ⟨b, o2, none⟩) m c ys) (hx : a.eval x = .slice (some ⟨b, o2, none⟩) m c)
    (hm : 0 < m) (hn : n + m ≤ 1000000) (hbase : base ≤ w.heap.size)
    (h : ∀ g cap w', w'.ownsRow base E 1 (.slice (some ⟨g, 0, none⟩) (n + m) cap) (n + m) ((xs ++ ys).map (Value.int .u64)) → w.grownBy w' v.ownBlock → ((Value.slice (some ⟨g, 0, none⟩) (n + m) cap).ownBlock = v.ownBlock ∨ ∃ k, (Value.slice (some ⟨g, 0, none⟩) (n + m) cap).ownBlock = some k ∧ w.heap.size ≤ k) → K (a.put o.dst (.slice (some ⟨g, 0, none⟩) (n + m) cap)) w') :
    if Region.wanted o (yielded ops a.tmps) = true then Oper.wp P o a w K Q else F := by
  obtain ⟨i0, hi, hz0, hz1, hz2⟩ := info_parts info
  have hyl := hr.len
  refine step_append_lies _ hgd s x T ho base E i0 (.int .u64 0) 1 8 hT hi hz0 hz1 hz2 rfl (by decide) v n _ hs hown ⟨b, o2, none⟩ m c (ys.map (Value.int .u64)) hx (by simp [hyl]) ?_ ?_ hm (by unfold maxLen; omega) (by omega) hbase _ rfl ?_
  · intro j u hj
    have hjm : j < m := by
      have := (List.getElem?_eq_some_iff.1 hj).1
      simp at this
      omega
    rw [hr.cell _ rfl j hjm]
    rw [List.getElem?_map, List.getElem?_eq_getElem (by omega)] at hj
    simp only [Option.map_some, Option.some.injEq] at hj
    rw [← hj, List.getD_eq_getElem?_getD, List.getElem?_eq_getElem (by omega)]
    rfl
  · intro u hu
    obtain ⟨z, _, rfl⟩ := List.mem_map.1 hu
    rfl
  · intro g cap w' hown' hgrow h4 _
    refine h g cap w' (by rw [List.map_append]; exact hown') hgrow ?_
    rcases h4 with e | e
    · exact .inl (by rw [e]; rfl)
    · exact .inr ⟨g, rfl, by omega⟩
structure Sen (w wr : World) (gs n : Nat) (Ls : List Value) (S : List (List Int)) (vW : Value) (LW : List Value) (W : List (List Int)) (lo hi : Nat) : Prop where
  seen : LsV wr w.heap.size (.slice (some ⟨gs, 0, none⟩) n n) Ls S
  len : S.length = n
  wires : LsV wr w.heap.size vW LW W
  apt : Apt Ls LW
  out : vW.ownBlock ≠ some gs
  far : Far Ls n lo hi
  gl : gs < lo
  hi : hi ≤ wr.heap.size
  bel : Below w.heap.size w wr
theorem Sen.drew {w wr : World} {gs n : Nat} {Ls : List Value} {S : List (List Int)} {vW : Value} {LW : List Value} {W : List (List Int)} {lo hi : Nat} (h : Sen w wr gs n Ls S vW LW W lo hi) : Sen w wr.drew gs n Ls S vW LW W lo hi :=
  ⟨h.seen.drew, h.len, h.wires.drew, h.apt, h.out, h.far, h.gl, h.hi, h.bel.drew⟩
theorem Sen.below {w wr w' : World} {gs n : Nat} {Ls : List Value} {S : List (List Int)} {vW : Value} {LW : List Value} {W : List (List Int)} {lo hi : Nat} (h : Sen w wr gs n Ls S vW LW W lo hi) (hb : Below wr.heap.size wr w') : Sen w w' gs n Ls S vW LW W lo hi :=
  ⟨h.seen.below hb, h.len, h.wires.below hb, h.apt, h.out, h.far, h.gl, Nat.le_trans h.hi hb.size, h.bel.trans (hb.mono h.bel.size)⟩
def Btw (lo hi : Nat) (v : Value) : Prop := ∀ b, v.ownBlock = some b → lo ≤ b ∧ b < hi
theorem Sen.put {w wr w7 : World} {gs n j : Nat} {Ls : List Value} {S : List (List Int)} {vW v7 : Value} {LW : List Value} {W : List (List Int)} {lo hi : Nat} {row : List Int} (h : Sen w wr gs n Ls S vW LW W lo hi) (hj : j < n)
    (ho : w7.ownsRow w.heap.size 77 1 v7 row.length (row.map (Value.int .u64))) (hg : wr.grownBy w7 (Ls.getD j (.slice none 0 0)).ownBlock) (hat : v7.ownBlock = (Ls.getD j (.slice none 0 0)).ownBlock ∨ ∃ k, v7.ownBlock = some k ∧ wr.heap.size ≤ k) :
    Sen w (w7.setCell ⟨gs, j, none⟩ v7) gs n (Ls.set j v7) (S.set j row) vW LW W lo hi := by
  have hrow := h.seen.row j (by rw [h.len]; exact hj)
  have hE : (77 : TypeId) ≠ 53 := by decide
  have hg2 : w7.grownBy (w7.setCell ⟨gs, j, none⟩ v7) (some gs) := grown_set _ _ _ _
  have hgs := (h.seen.cell h.len hj).2.2
  have hLl : j < Ls.length := by rw [h.seen.len, h.len]; exact hj
  have hWb := h.wires.blk
  have hW7 : LsV w7 w.heap.size vW LW W := h.wires.grown hg (own_apart hrow h.wires.own hE) (fun i _ => h.apt.symm i j)
  have hW8 : LsV (w7.setCell ⟨gs, j, none⟩ v7) w.heap.size vW LW W := by
    refine hW7.grown hg2 (.inr h.out) (fun i hi => ?_)
    have ho7 := h.seen.own.kept hg (own_apart hrow h.seen.own hE)
    exact own_apart ho7 (hW7.row i hi) (by decide)
  refine ⟨h.seen.upd h.len hj ho hg hat, by rw [List.length_set]; exact h.len, hW8, h.apt.set hLl (H := wr.heap.size) (fun i k hk => (hWb i k hk).2) hat, h.out, fun p hp gg hgg => ?_, h.gl, ?_, ?_⟩
  · rw [getD_setV _ _ _ _ _ hLl] at hgg
    split at hgg
    · rcases hat with e | ⟨k, e, hk⟩
      · rw [e] at hgg
        exact h.far j hj gg hgg
      · rw [e] at hgg
        obtain rfl := Option.some.inj hgg
        right
        exact Nat.le_trans h.hi hk
    · exact h.far p hp gg hgg
  · exact Nat.le_trans h.hi (Nat.le_trans hg.size hg2.size)
  · have hb7 : Below w.heap.size w w7 := h.bel.grown hg h.bel.size (fun q hq => (hrow.lt q hq).1)
    exact hb7.setCell (p := ⟨gs, j, none⟩) (h.seen.own.lt gs rfl).1 _
theorem Sen.keep {w wr w7 : World} {gs n j : Nat} {Ls : List Value} {S : List (List Int)} {vW v7 : Value} {LW : List Value} {W : List (List Int)} {lo hi B2 k z : Nat} {E : TypeId} {v : Value} {xs : List Value} (h : Sen w wr gs n Ls S vW LW W lo hi) (hj : j < n)
    (hx : wr.ownsRow B2 E z v k xs) (hv : Btw lo hi v) (hg : wr.grownBy w7 (Ls.getD j (.slice none 0 0)).ownBlock) : (w7.setCell ⟨gs, j, none⟩ v7).ownsRow B2 E z v k xs := by
  have h1 : v.ownBlock = none ∨ v.ownBlock ≠ (Ls.getD j (.slice none 0 0)).ownBlock := by
    cases hb : v.ownBlock with
    | none => exact .inl rfl
    | some b =>
      right
      intro e
      have h2 := hv b hb
      have h3 := h.far j hj b e.symm
      omega
  refine (hx.kept hg h1).kept (grown_set _ _ _ _) ?_
  cases hb : v.ownBlock with
  | none => exact .inl rfl
  | some b =>
    right
    intro e
    have h2 := hv b hb
    have h3 := h.gl
    have := Option.some.inj e
    omega
def sgx (S : Nat → List Int) (X : Nat → List Int) (n q : Nat) : List (List Int) := (List.range n).map fun p => if p < q then S p ++ X p else S p
theorem sgx_len (S X : Nat → List Int) (n q : Nat) : (sgx S X n q).length = n := by simp [sgx]
theorem sgx_zero (S X : Nat → List Int) (n : Nat) : sgx S X n 0 = (List.range n).map S := by simp [sgx]
theorem sgx_full (S X : Nat → List Int) (n : Nat) : sgx S X n n = (List.range n).map fun p => S p ++ X p := by
  unfold sgx
  refine List.map_congr_left fun p hp => ?_
  rw [if_pos (List.mem_range.1 hp)]
theorem sgx_getD (S X : Nat → List Int) {n q : Nat} (h : q < n) : (sgx S X n q).getD q [] = S q := by simp [sgx, h]
theorem sgx_set (S X : Nat → List Int) (n q : Nat) : (sgx S X n q).set q (S q ++ X q) = sgx S X n (q + 1) := by
  apply List.ext_getElem?
  intro p
  rw [List.getElem?_set]
  by_cases hp : p < n
  · by_cases e : q = p
    · subst e; simp [sgx, hp]
    · have : (p < q + 1) = (p < q) := by apply propext; omega
      simp [sgx, hp, e, this]
  · by_cases e : q = p
    · subst e; simp [sgx, hp]
    · simp [sgx, hp, e]
def Enn (G : List Gt) (O : List Int) (N m : Nat) (n t : Int) (w : World) (e : Ending) (w' : World) : Prop :=
  ((∃ r, r ≠ 0 ∧ Nde G O N m n t r ∧ e = .returned (.tuple #[.int .i64 0, .int .i64 r])) ∨
   (Nde G O N m n t 0 ∧ e = .returned (.tuple #[.int .i64 (dwn G n.toNat t.toNat N : Int), .int .i64 0]))) ∧ Below w.heap.size w w'
def Enr (G : List Gt) (O ins ds : List Int) (N m : Nat) (n t : Int) (q d : Nat) (w : World) (e : Ending) (w' : World) : Prop :=
  ((∃ r, r ≠ 0 ∧ Ere G O N m n t q d r ∧ e = .returned (.tuple #[.slice none 0 0, .slice none 0 0, .int .i64 r])) ∨
   (Ere G O N m n t q d 0 ∧ ∃ a c b k, e = .returned (.tuple #[.slice a m c, .slice b n.toNat k, .int .i64 0]) ∧ Rd w' a m c (otl G O ins m) ∧ RdR w' b n.toNat k (snl G O n.toNat t.toNat ins ds N m))) ∧ Below w.heap.size w w'
theorem Ere.ok {G : List Gt} {O : List Int} {N m : Nat} {n t : Int} {q d : Nat} (h : Ere G O N m n t q d 0) : Nde G O N m n t 0 ∧ q = ci G N ∧ d = dwn G n.toNat t.toNat N := by
  rcases h with ⟨h1, _⟩ | ⟨h1, ⟨_, h2⟩ | ⟨h2, ⟨_, h3⟩ | ⟨h3, _⟩⟩⟩
  · exact absurd rfl h1
  · omega
  · omega
  · exact ⟨h1, h2, h3⟩
theorem snl_rd {w : World} {B : Nat} {u : Value} {L : List Value} {G : List Gt} {O : List Int} {n t : Nat} {ins ds : List Int} {N m : Nat} (h : LsV w B u L (snl G O n t ins ds N m)) : ∃ a c, u = .slice a n c ∧ RdR w a n c (snl G O n t ins ds N m) :=
  h.rdR (snl_len _ _ _ _ _ _ _ _) fun i hi x hx => by
    rw [snl_getD _ _ _ _ _ _ _ _ hi] at hx
    have := sno_bd _ _ _ _ _ _ _ _ hi x hx
    omega
end
end Go.Proofs.YtljlioglpaogdafGreatDoor
