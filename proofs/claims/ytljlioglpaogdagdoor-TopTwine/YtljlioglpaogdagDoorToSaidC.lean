/- The parties' reckon, whole; a wire more; what is told lies aside. · engine.Run. · crofttop.said. -/
import Derived.Test.YtljlioglpaogdagDoorToEnKK
import Derived.Test.YtljlioglpaogdagDoorToEnN
import Derived.Deep.RegionWith
import Derived.Test.YtljlioglpaogdagDoorToTopTinyC
namespace Go.Proofs.YtljlioglpaogdagDoor
set_option linter.unusedVariables false
set_option maxRecDepth 100000
set_option maxHeartbeats 8000000
section
open Crm Go.RowKit
theorem eReckon {G : List Gt} {n t : Nat} {ins ds : List Int} {w wr : World} {gp gs i N q d lo hh cW : Nat} {vi vd : Value} {aW : Option Addr} {Ls LW : List Value} {k x y z : Int} (h : PSt w wr gp gs n t vi vd Ls (sgl G n t ins ds i) (.slice aW i cW) LW (ewr G n t ins ds i) lo hh)
    (hvi : Lft w ins q (ci G i) vi) (hvd : Lft w ds d (dwn G n t i) vd) (HGi : Hid (gt G i = ⟨k, x, y, z⟩)) (hok : okg i ⟨k, x, y, z⟩) (hz : 0 ≤ z ∧ z ≤ 18446744073709551615) (hi : i < N) (hN : N ≤ 30) (hq : q = ci G N) (hd : d = dwn G n t N) (hn : 2 * t + 1 ≤ n) (hn9 : n ≤ 9) :
    Calls Tryd.prog 65 #[.pointer (some ⟨gp, 0, none⟩), .agg #[.int .i64 k, .int .i64 x, .int .i64 y, .int .u64 z]] wr fun e w' => ∃ u, e = .returned u ∧ Pgt G n t ins ds q d w gp gs i (.slice aW i cW) LW u w' := by
  rcases hok with ⟨h1, _⟩ | ⟨h1, _⟩ | ⟨h1, h2, _⟩ | ⟨h1, h2, h3, _⟩
  · simp only at h1
    subst h1
    exact eRkInput h hvi hvd HGi hi hN hq hd hn hn9
  · simp only at h1
    subst h1
    exact eRkConst h hvi hvd HGi hz.1 hz.2 hn hn9
  · simp only at h1 h2
    subst h1
    obtain ⟨p, rfl⟩ : ∃ p : Nat, x = p := ⟨x.toNat, by omega⟩
    exact eRkScale h hvi hvd HGi (by omega) hz.1 hz.2 hn hn9
  · simp only at h1 h2 h3
    obtain ⟨p, rfl⟩ : ∃ p : Nat, x = p := ⟨x.toNat, by omega⟩
    obtain ⟨r, rfl⟩ : ∃ p : Nat, y = p := ⟨y.toNat, by omega⟩
    rcases h1 with h1 | h1 | h1
    · subst h1
      exact eRkAdd h hvi hvd HGi (by omega) (by omega) hn hn9
    · subst h1
      exact eRkSub h hvi hvd HGi (by omega) (by omega) hn hn9
    · subst h1
      exact eRkMul h hvi hvd HGi (by omega) (by omega) hi hN hd hn hn9

/-- append of one element of one cell, a step of a region that draws; where it lies. -/
theorem step_appVL {P : Program} {T E : TypeId} {z0 : Value} {by_ : Nat} (hT : P.underlying T = some (.slice E)) (info : (P.info? E).map (fun i => (i.zero, i.size, i.bytes)) = some (some z0, 1, by_)) (hz : z0.cells.size = 1) (hby : by_ ≤ 100)
    (w : World) {w1 : World} {ops : Array Oper} {o : Oper} {a : Act} {K : Act → World → Prop} {Q : Exit → Act → World → Prop} {F : Prop} (hgd : o.guard = none) (s x : Operand)
    (ho : o.op = .call { callee := .builtin .append, args := #[s, x], argTypes := #[T, T] })
    (base : Nat) (v : Value) (n : Nat) (xs : List Value) (hs : a.eval s = v) (hown : w.ownsRow base E 1 v n xs) (y : Value) (hy : y.oneCell' = true) (hx : a.eval x = .slice (some ⟨w.heap.size, 0, none⟩) 1 1)
    (hw1 : w1 = w.alloc (.cells #[y] E)) (hn : n ≤ 1000000) (hbase : base ≤ w.heap.size)
    (h : ∀ g cap w', w'.ownsRow base E 1 (.slice (some ⟨g, 0, none⟩) (n + 1) cap) (n + 1) (xs ++ [y]) → w.grownBy w' v.ownBlock → ((Value.slice (some ⟨g, 0, none⟩) (n + 1) cap).ownBlock = v.ownBlock ∨ ∃ k, (Value.slice (some ⟨g, 0, none⟩) (n + 1) cap).ownBlock = some k ∧ w.heap.size ≤ k) → K (a.put o.dst (.slice (some ⟨g, 0, none⟩) (n + 1) cap)) w') :
    if Region.wanted o (yielded ops a.tmps) = true then Oper.wp P o a w1 K Q else F := by
  subst hw1
  obtain ⟨i0, hi, hz0, hz1, hz2⟩ := info_parts info
  refine step_append_lies _ hgd s x T ho base E i0 z0 1 by_ hT hi hz0 hz1 hz2 hz (by decide) v n _ hs (hown.alloc _) ⟨w.heap.size, 0, none⟩ 1 1 [y] hx rfl ?_ ?_ (by decide) (by unfold maxLen; omega) ?_ (by simp; omega) _ rfl ?_
  · exact cell_one_new _ _ _
  · intro u hu; simp at hu; subst hu; exact hy
  · have : (n + 1) * by_ ≤ 1000001 * 100 := Nat.mul_le_mul (by omega) hby
    omega
  · intro g cap w' hown' hgrow h4 _
    refine h g cap w' hown' ⟨hgrow.os, hgrow.tape, hgrow.output, ?_, fun k hk hne => ?_⟩ ?_
    · have := hgrow.size; simp at this; omega
    · rw [hgrow.block k (by simp; omega) hne]; exact Below.heap_alloc _ _ _ hk
    · rcases h4 with e | e
      · exact .inl (by rw [e]; rfl)
      · exact .inr ⟨g, rfl, by simp at e; omega⟩
theorem Sen.turn {w wr w' : World} {gp gs n t : Nat} {vi vd vX vS : Value} {Ls : List Value} {S : List (List Int)} {vW : Value} {LW : List Value} {W : List (List Int)} {lo hi : Nat} (hs : Sen w wr gs n Ls S vW LW W lo hi) (hb : PBox wr gp n t vi vd vX vS) (low : w.heap.size ≤ gp) (hg : wr.grownBy w' (some gp)) : Sen w w' gs n Ls S vW LW W lo hi :=
  ⟨hs.seen.grown hg (hb.off hs.seen.own eVP) (fun i hi => hb.off (hs.seen.row i hi) eUP), hs.len, hs.wires.grown hg (hb.off hs.wires.own eVP) (fun i hi => hb.off (hs.wires.row i hi) eUP), hs.apt, hs.out, hs.far, hs.gl, Nat.le_trans hs.hi hg.size, hs.bel.grown hg hs.bel.size (fun q hq => by
    obtain rfl := Option.some.inj hq
    exact low)⟩
/-- The gate's numbers are laid beside the wires. -/
theorem Pgt.next {G : List Gt} {n t : Nat} {ins ds : List Int} {w wc w2 : World} {gp gs i q d : Nat} {vW v2 u : Value} {LW : List Value} (h : Pgt G n t ins ds q d w gp gs i vW LW u wc) (hn : 0 < n) (ho : w2.ownsRow w.heap.size 22 1 v2 (i + 1) (LW ++ [u])) (hg : wc.grownBy w2 vW.ownBlock)
    (hat : v2.ownBlock = vW.ownBlock ∨ ∃ k, v2.ownBlock = some k ∧ wc.heap.size ≤ k) : (∃ x, w2.cell? ⟨gp, 4, none⟩ = some x) ∧ w2.frozen? ⟨gp, 4, none⟩ = false ∧ gp < w2.heap.size ∧ ∃ vi vd Ls lo hi, PSt w (w2.setCell ⟨gp, 4, none⟩ v2) gp gs n t vi vd Ls (sgl G n t ins ds (i + 1)) v2 (LW ++ [u]) (ewr G n t ins ds (i + 1)) lo hi ∧ Lft w ins q (ci G (i + 1)) vi ∧ Lft w ds d (dwn G n t (i + 1)) vd := by
  obtain ⟨vi, vd, Ls, lo, hi, hP, hvi, hvd, hu, hb, hlw⟩ := h
  obtain ⟨Ls', hS⟩ := Psw.next ⟨Ls, lo, hi, hP.sen, hu, hb, hlw⟩ hn ho hg hat
  have hb2 := hP.box.grown hg (hP.box.off' hP.sen.wires.own eVP)
  exact ⟨⟨_, hb2.cells.2.2.2.2.1⟩, hb2.frozen 4, hb2.lt, vi, vd, Ls', _, _, ⟨hS.turn hb2 hP.low (grown_set _ _ _ _), hb2.set4 v2, hP.low⟩, hvi, hvd⟩
/-- What is told lies aside: it is written. -/
theorem PSt.aside {w wr w' : World} {gp gs n t : Nat} {vi vd : Value} {Ls : List Value} {S : List (List Int)} {vW : Value} {LW : List Value} {W : List (List Int)} {lo hi B m c g : Nat} {xs : List Value} (h : PSt w wr gp gs n t vi vd Ls S vW LW W lo hi) (hLW : ∀ p b, (LW.getD p (.slice none 0 0)).ownBlock = some b → b < lo) (ho : wr.ownsRow B 34 1 (.slice (some ⟨g, 0, none⟩) m c) m xs) (h1 : lo ≤ g) (h2 : g < hi) (hB : w.heap.size ≤ B) (hg : wr.grownBy w' (some g)) : PSt w w' gp gs n t vi vd Ls S vW LW W lo hi := by
  have hs := h.sen
  have hE : (34 : TypeId) ≠ 22 := by decide
  refine ⟨⟨hs.seen.grown hg (own_apart ho hs.seen.own hE) (fun p hp => ?_), hs.len, hs.wires.grown hg (own_apart ho hs.wires.own hE) (fun p hp => ?_), hs.apt, hs.out, hs.far, hs.gl, Nat.le_trans hs.hi hg.size, hs.bel.grown hg hs.bel.size (fun q hq => Nat.le_trans hB (ho.lt q hq).1)⟩, h.box.grown hg (h.box.off' ho eUP), h.low⟩
  · cases hb : (Ls.getD p (.slice none 0 0)).ownBlock with
    | none => exact .inl rfl
    | some b =>
      right
      intro e
      have := hs.far p (by rw [← hs.len]; exact hp) b hb
      have := Option.some.inj e
      omega
  · cases hb : (LW.getD p (.slice none 0 0)).ownBlock with
    | none => exact .inl rfl
    | some b =>
      right
      intro e
      have := hLW p b hb
      have := Option.some.inj e
      omega
theorem PBox.new (w : World) (n t : Nat) (vi vd vW vS : Value) : PBox (w.alloc (.cells #[.int .i64 (n : Int), .int .i64 (t : Int), vi, vd, vW, vS] 113)) w.heap.size n t vi vd vW vS := heap_alloc_new w _
theorem infoVs2 : (Tryd.prog.info? 22).map (fun i => (i.zero, i.size, i.bytes)) = some (some (.slice none 0 0), 1, 24) := by kernel_rfl

/-- What Run answers, its lists the caller's own, each a list by itself. -/
def EnrO (G : List Gt) (O ins ds : List Int) (N m : Nat) (n t : Int) (q d : Nat) (w : World) (e : Ending) (w' : World) : Prop :=
  ((∃ r, r ≠ 0 ∧ Ere G O N m n t q d r ∧ e = .returned (.tuple #[.slice none 0 0, .slice none 0 0, .int .i64 r])) ∨
   (Ere G O N m n t q d 0 ∧ ∃ v u L, e = .returned (.tuple #[v, u, .int .i64 0]) ∧ w'.ownsRow w.heap.size 34 1 v m ((otl G O ins m).map (Value.int .u64)) ∧ LsV w' w.heap.size u L (snl G O n.toNat t.toNat ins ds N m) ∧
      ∀ i, i < n.toNat → (L.getD i (.slice none 0 0)).ownBlock = none ∨ (L.getD i (.slice none 0 0)).ownBlock ≠ v.ownBlock)) ∧ Below w.heap.size w w'
theorem EnrO.rd {G : List Gt} {O ins ds : List Int} {N m : Nat} {n t : Int} {q d : Nat} {w w' : World} {e : Ending} (h : EnrO G O ins ds N m n t q d w e w') : Enr G O ins ds N m n t q d w e w' := by
  obtain ⟨h1 | ⟨h1, v, u, L, rfl, h2, h3, _⟩, hb⟩ := h
  · exact ⟨.inl h1, hb⟩
  · obtain ⟨a, c, rfl, r1, _⟩ := Rd.own h2 (bd_u64 (otl_bd G O ins m))
    obtain ⟨b, k, rfl, r2⟩ := snl_rd h3
    exact ⟨.inr ⟨h1, a, c, b, k, rfl, r1, r2⟩, hb⟩

theorem eRunO (ag : Option Addr) (N cg : Nat) (G : List Gt) (ao : Option Addr) (m co : Nat) (O : List Int) (n t : Int) (ai : Option Addr) (q ca : Nat) (ins : List Int) (ad : Option Addr) (d cd : Nat) (ds : List Int) (w : World) (h : RdG w ag N cg G) (g : RdI w ao m co O) (ih : Rd w ai q ca ins) (dh : Rd w ad d cd ds) (hn : -9223372036854775808 ≤ n ∧ n ≤ 9223372036854775807) (ht : -9223372036854775808 ≤ t ∧ t ≤ 9223372036854775807) (hS : Shp w) :
    Calls Tryd.prog 27 #[.agg #[.slice ag N cg, .slice ao m co], .int .i64 n, .int .i64 t, .slice ai q ca, .slice ad d cd] w (EnrO G O ins ds N m n t q d w) := by
  have hC0 := CBox.new w ag N cg ao m co
  have hb0 : Below w.heap.size w (w.alloc (.cells #[.slice ag N cg, .slice ao m co] 26)) := (Below.refl _ _).alloc (Nat.le_refl _) _
  have hqc := ih.cap
  have hqm := ih.max
  have hdc := dh.cap
  have hdm := dh.max
  unfold maxLen at hqm hdm
  go_enter Tryd.func27, Tryd.ntmps27
  go_wp2_with fail
  generalize w.alloc (.cells #[.slice ag N cg, .slice ao m co] 26) = w0 at *
  refine (eNeed _ _ _ _ _ _ _ _ _ _ _ (h.below hb0) (g.below hb0) hn ht (hS.below hb0)).mono ?_
  rintro e w1 ⟨⟨r, hr, hE, rfl⟩ | ⟨hE, rfl⟩, hb1'⟩
  · have HE : Hid (Ere G O N m n t q d r) := .inl ⟨hr, hE⟩
    have hb1 := hb0.trans (hb1'.mono hb0.size)
    clear hE hb1' hC0 hb0
    go_wp2
    go_ret3
    exact ⟨.inl ⟨r, hr, HE.out, rfl⟩, hb1⟩
  · have hb1 := hb0.trans (hb1'.mono hb0.size)
    have hC1 := hC0.below hb1' hC0.lt
    obtain ⟨d0, d1⟩ := hC1.cells
    clear hC0 hb1' hb0
    obtain ⟨c1, c2⟩ := hE.ok
    have hN := c1.ok.1
    have hm := c1.ok.2.1
    have HG : Hid (okG G N) := c1.ok.2.2.1
    have HO : Hid (okO O N m) := c1.ok.2.2.2
    have HCK : Hid (Cke G O N m 0) := c1
    obtain ⟨o1, o2, o3, _⟩ := c2
    obtain ⟨n, rfl⟩ : ∃ n' : Nat, n = n' := ⟨n.toNat, by omega⟩
    obtain ⟨t, rfl⟩ : ∃ t' : Nat, t = t' := ⟨t.toNat, by omega⟩
    have HE : Hid (Nde G O N m n t 0) := hE
    have HWB : Hid (∀ x ∈ whl G N, -9223372036854775808 ≤ x ∧ x ≤ 9223372036854775807) := whl_bd (fun i hi => (h.bd i hi).2.1) N (Nat.le_refl _)
    have hdl := dwn_le G (n := n) (t := t) (by omega) (by omega) N
    have hcl := ci_le G N
    rw [Int.toNat_natCast, Int.toNat_natCast] at *
    clear hE c1
    go_wp2_with fail
    refine (cInputs _ _ _ _ _ _ _ _ _ (h.below hb1) (g.below hb1) (hS.below hb1)).mono ?_
    rintro e w2 ⟨⟨r, hr, hE, _⟩ | ⟨_, v, rfl, hown⟩, hb2'⟩
    · exact absurd (hE.one HCK.out) hr
    obtain ⟨a6, c6, rfl, hr6⟩ := RdI.own hown HWB.out
    have hb2 := hb1.trans (hb2'.mono hb1.size)
    have hC2 := hC1.below hb2' hC1.lt
    obtain ⟨e0, e1⟩ := hC2.cells
    have hc6 := hr6.cap
    have hm6 := hr6.max
    unfold maxLen at hm6
    obtain ⟨l, HL⟩ : ∃ l, Hid (ci G N = l) := ⟨_, rfl⟩
    obtain ⟨D, HD⟩ : ∃ D, Hid (dwn G n t N = D) := ⟨_, rfl⟩
    rw [HL.out] at hr6 hc6 hcl ⊢
    rw [HD.out] at hdl ⊢
    clear hb1 hC1 hown hb2' d0 d1
    by_cases hq : q = l
    · subst hq
      by_cases hd : d = D
      · subst hd
        obtain ⟨i0, hi0, hz0, hz1, hz2⟩ := info_parts infoVs2
        have hn1 : 1 ≤ n := by omega
        have hn9 : n ≤ 9 := by omega
        have hnt : 2 * t + 1 ≤ n := by omega
        have hl2 := hC2.lt
        go_upto_region 10 with (at_make; refine wpList_make_full _ rfl _ _ 36 rfl w2.heap.size 22 i0 (.slice none 0 0) 1 Tryd.underlying36 hi0 hz0 hz1 .i64 .i64 _ _ n rfl rfl (by omega) (by omega) (by rw [hz2]; omega) (by unfold maxLen; omega) (Nat.le_refl _) ?_; intro w3 hown hgrow)
        have hb3 : Below w2.heap.size w2 w3 := (Below.refl _ _).grown hgrow (Nat.le_refl _) (by simp)
        have hL3 := lsv_made hown
        have z0 : List.replicate n ([] : List Int) = sgl G n t ins ds 0 := by
          apply List.ext_getElem?
          intro i
          by_cases hi : i < n
          · simp [sgl, sng, hi]
          · simp [sgl, hi]
        rw [z0] at hL3
        have hbA : Below w3.heap.size w3 (w3.alloc (.cells #[.int .i64 (n : Int), .int .i64 (t : Int), .slice ai q ca, .slice ad d cd, .slice none 0 0, .slice (some ⟨w2.heap.size, 0, none⟩) n n] 113)) := (Below.refl _ _).alloc (Nat.le_refl _) _
        have hg3 : w2.heap.size < w3.heap.size := (hL3.cell (sgl_len _ _ _ _ _ _) (q := 0) (by omega)).2.2
        have hP4 : PSt w2 (w3.alloc (.cells #[.int .i64 (n : Int), .int .i64 (t : Int), .slice ai q ca, .slice ad d cd, .slice none 0 0, .slice (some ⟨w2.heap.size, 0, none⟩) n n] 113)) w3.heap.size w2.heap.size n t (.slice ai q ca) (.slice ad d cd) (List.replicate n (.slice none 0 0)) (sgl G n t ins ds 0) (.slice none 0 0) [] (ewr G n t ins ds 0) (w2.heap.size + 1) (w2.heap.size + 1) :=
          ⟨⟨hL3.below hbA, sgl_len _ _ _ _ _ _, lsv_nil _ _, apt_rep n [], by simp [Value.ownBlock], fun p _ gg _ => by omega, by omega, Nat.le_trans hg3 hbA.size, hb3.trans (hbA.mono hb3.size)⟩, PBox.new _ _ _ _ _ _ _, hb3.size⟩
        have hV1 : Lft w2 ins q (ci G 0) (.slice ai q ca) := ⟨ai, ca, by rw [ci_zero, Nat.sub_zero], by rw [ci_zero, Nat.sub_zero]; exact ih.below hb2⟩
        have hV2 : Lft w2 ds d (dwn G n t 0) (.slice ad d cd) := ⟨ad, cd, rfl, by show Rd w2 ad d cd ds; exact dh.below hb2⟩
        have hC4 := (hC2.below hb3 hl2).below hbA (Nat.lt_of_lt_of_le hl2 hb3.size)
        generalize w3.alloc (.cells #[.int .i64 (n : Int), .int .i64 (t : Int), .slice ai q ca, .slice ad d cd, .slice none 0 0, .slice (some ⟨w2.heap.size, 0, none⟩) n n] 113) = w4 at *
        obtain ⟨j0, j1⟩ := hC4.cells
        have hl4 := hC4.lt
        have hcap := h.cap
        have gcap := g.cap
        have HH : Hid (RdG w ag N cg G) := h
        have HGG : Hid (RdI w ao m co O) := g
        have HB2 : Hid (Below w.heap.size w w2) := hb2
        clear hown hgrow hL3 z0 hbA hb3 e0 e1 h g ih dh hS hr6
        obtain ⟨gp, HGP⟩ : ∃ gp, Hid (w3.heap.size = gp) := ⟨_, rfl⟩
        rw [HGP.out] at hP4 ⊢
        clear HGP hg3
        go_wp2
        go_loopw [57] (fun v wq => ∃ (i : Nat) (vi vd : Value) (Ls LW : List Value) (lo hi cW : Nat) (aW : Option Addr), i ≤ N ∧ v = .int .i64 i ∧ PSt w2 wq gp w2.heap.size n t vi vd Ls (sgl G n t ins ds i) (.slice aW i cW) LW (ewr G n t ins ds i) lo hi ∧ Hid (Lft w2 ins q (ci G i) vi) ∧ Hid (Lft w2 ds d (dwn G n t i) vd)) (fun v _ => N - (intOf v).toNat)
        case atStart => exact ⟨0, _, _, _, [], _, _, 0, none, Nat.zero_le _, rfl, hP4, hV1, hV2⟩
        case round =>
          clear hP4 hV1 hV2 j0 j1 hl4 hC4
          obtain ⟨i, vi, vd, Ls, LW, lo, hi, cW, aW, hiN, rfl, hP, HV1, HV2⟩ := hrel
          by_cases hlt : i < N
          · obtain ⟨b, o, k, x, y, z, rfl, hbb, HGi, hk, hx, hy, hz, k1, k2, k3, k4⟩ := (HH.out.below (HB2.out.trans (hP.sen.bel.mono HB2.out.size))).one hlt
            have hbA : Below wr.heap.size wr (wr.alloc (.cells #[.int .i64 k, .int .i64 x, .int .i64 y, .int .u64 z] 61)) := (Below.refl _ _).alloc (Nat.le_refl _) _
            obtain ⟨q1, q2, q3, q4⟩ := gate_box wr k x y z 61
            have hltA : wr.heap.size < (wr.alloc (.cells #[.int .i64 k, .int .i64 x, .int .i64 y, .int .u64 z] 61)).heap.size := by simp
            have hPA := hP.below hbA
            have hok := HG.out i hlt
            rw [HGi.out] at hok
            go_upto_region 13 with fail
            generalize wr.alloc (.cells #[.int .i64 k, .int .i64 x, .int .i64 y, .int .u64 z] 61) = W at *
            have hPD := hPA.drew
            obtain ⟨_, _, _, _, f4, _⟩ := hPA.box.cells
            have hlp := hPA.box.lt
            have HR : Hid (∀ u w5, Pgt G n t ins ds q d w2 gp w2.heap.size i (.slice aW i cW) LW u w5 → (∃ a c, u = .slice a n c) ∧ w5.ownsRow w2.heap.size 22 1 (.slice aW i cW) i LW ∧ w5.cell? ⟨gp, 4, none⟩ = some (.slice aW i cW) ∧ gp < w5.heap.size ∧ w2.heap.size ≤ w5.heap.size) := fun u w5 hp => by
              obtain ⟨vi', vd', Ls', lo', hi', hP', _, _, hu, _, _⟩ := hp
              obtain ⟨a', c', e', _⟩ := own_slice hu
              have ho' := hP'.sen.wires.own
              rw [ewr_len] at ho'
              exact ⟨⟨a', c', e'⟩, ho', hP'.box.cells.2.2.2.2.1, hP'.box.lt, hP'.sen.bel.size⟩
            clear hP hPA k1 k2 k3 k4 hbA hbb
            go_region_law (first | (refine step_appVL Tryd.underlying36 infoVs2 rfl (by decide) w5 rfl _ _ rfl w2.heap.size (.slice aW i cW) i LW (by simp [Act.eval]) hwo (.slice ua n uc) rfl (by simp [Act.eval]) rfl (by omega) hs5 ?_; intro g7 cap7 w7 ho7 hgr7 hat7; obtain ⟨⟨xx, dd⟩, ff, hl7, HNX⟩ := Pgt.next HPG.out (by omega) ho7 hgr7 hat7; have HNX2 : Hid _ := HNX; clear HNX ho7 hgr7 hat7) | (go_simp; go_at_call 65; refine (eReckon hPD HV1.out HV2.out HGi hok hz hlt hN.2 HL.out.symm HD.out.symm hnt hn9).mono ?_; rintro en w5 ⟨u, rfl, hPg⟩; have HPG : Hid (Pgt G n t ins ds q d w2 gp w2.heap.size i (.slice aW i cW) LW u w5) := hPg; clear hPg; obtain ⟨⟨ua, uc, rfl⟩, hwo, f5, hl5, hs5⟩ := HR.out u w5 HPG.out))
            all_goals
              obtain ⟨vi', vd', Ls', lo', hi', hP', l1, l2⟩ := HNX2.out
              clear HNX2 HPG hwo f5 hl5 hs5 HR hPD q1 q2 q3 q4 hltA f4 hlp dd ff hl7
              go_wp2
              go_roundw
              case rel => exact ⟨i + 1, vi', vd', Ls', _, lo', hi', cap7, _, by omega, by go_num, hP', l1, l2⟩
              case measure => simp [intOf]; omega
          · have hiN2 : i = N := by omega
            subst hiN2
            obtain ⟨i1, hi1, hy0, hy1, hy2⟩ := info_parts info34
            obtain ⟨wo, hwo⟩ : ∃ x, x = wr := ⟨_, rfl⟩
            subst hwo
            rw [snl_zero G O] at hP
            have hCo := hC2.below hP.sen.bel hl2
            obtain ⟨j0, j1⟩ := hCo.cells
            have hlo := hCo.lt
            obtain ⟨F, HF⟩ : ∃ F : Nat → Int, Hid ((fun j => wi G ins (O.getD j 0).toNat) = F) := ⟨_, rfl⟩
            go_upto_region 16 with (at_make; refine wpList_make_full _ rfl _ _ 22 rfl wo.heap.size 34 i1 (.int .u64 0) 1 Tryd.underlying22 hi1 hy0 hy1 .i64 .i64 _ _ m rfl rfl (by omega) (by omega) (by rw [hy2]; omega) (by unfold maxLen; omega) (Nat.le_refl _) ?_; intro w6 hown hgrow)
            have hb6 : Below wo.heap.size wo w6 := (Below.refl _ _).grown hgrow (Nat.le_refl _) (by simp)
            have hP6 := hP.fresh (by omega) hb6
            have ho6 : w6.ownsRow wo.heap.size 34 1 (.slice (some ⟨wo.heap.size, 0, none⟩) m m) m ((fil F m 0).map (Value.int .u64)) := by
              have e : (Value.int .u64 0).cells = #[Value.int .u64 0] := rfl
              rw [e, Nat.mul_one, toList_madeCells_one] at hown
              rw [← fil_zero, List.map_replicate]
              exact hown
            have HBt : Hid (Btw wo.heap.size w6.heap.size (.slice (some ⟨wo.heap.size, 0, none⟩) m m)) := fun b hb => ho6.lt b hb
            have hgt : wo.heap.size < w6.heap.size := (ho6.lt _ rfl).2
            have HLW : Hid (∀ p b, (LW.getD p (.slice none 0 0)).ownBlock = some b → b < wo.heap.size) := fun p b hb => (hP.sen.wires.blk p b hb).2
            have hwo2 : w2.heap.size ≤ wo.heap.size := hP.sen.bel.size
            obtain ⟨H6, HH6⟩ : ∃ H6, Hid (w6.heap.size = H6) := ⟨_, rfl⟩
            rw [HH6.out] at hP6 HBt hgt
            have hC6 := hCo.below hb6 hlo
            obtain ⟨l0, l1⟩ := hC6.cells
            have hl6 := hC6.lt
            clear hown hgrow hb6 hP hCo j0 j1 hlo HV1 HV2
            go_wp2
            go_loopw [76] (fun v wq => ∃ (j : Nat) (Ls : List Value), j ≤ m ∧ v = .int .i64 j ∧ PSt w2 wq gp w2.heap.size n t vi vd Ls (snl G O n t ins ds i j) (.slice aW i cW) LW (ewr G n t ins ds i) wo.heap.size H6 ∧ wq.ownsRow wo.heap.size 34 1 (.slice (some ⟨wo.heap.size, 0, none⟩) m m) m ((fil F m j).map (Value.int .u64))) (fun v _ => m - (intOf v).toNat)
            case atStart => exact ⟨0, Ls, Nat.zero_le _, rfl, hP6, ho6⟩
            case round =>
              clear hP6 ho6 l0 l1 hl6 hC6
              obtain ⟨j, Ls, hj, rfl, hP, ho⟩ := hrel
              by_cases hjm : j < m
              · obtain ⟨bo, oo, xo, rfl, hbo, HXo, hxo0, hxo1, hco⟩ := (HGG.out.below (HB2.out.trans (hP.sen.bel.mono HB2.out.size))).one hjm
                have hxo := HO.out j hjm
                rw [HXo.out] at hxo
                obtain ⟨po, rfl⟩ : ∃ p : Nat, xo = p := ⟨xo.toNat, by omega⟩
                have hpo : po < i := by omega
                have hpo0 : (0 : Int) ≤ (po : Int) := by omega
                have hpoi : (po : Int) < (i : Int) := by omega
                have hj0 : (0 : Int) ≤ (j : Int) := by omega
                have hjmi : (j : Int) < (m : Int) := by omega
                have HEX : Hid ((fun _ : Nat => ew G n t ins ds (O.getD j 0).toNat) = fun _ => ew G n t ins ds po) := by unfold Hid; rw [HXo.out]; rfl
                have HFj : Hid (wi G ins po = F j) := by unfold Hid; rw [← HF.out]; show _ = wi G ins (O.getD j 0).toNat; rw [HXo.out]; rfl
                rw [snl_first, HEX.out] at hP
                obtain ⟨gW, a3, c3, rfl, hgW, eg, el, r3⟩ := hP.wire hpo
                obtain ⟨_, _, _, _, f4, _⟩ := hP.box.cells
                have hlp := hP.box.lt
                have hsb : ∀ p, (sno G O n t ins ds i j p).length ≤ 5000 := fun p => by have := sno_bound G O n t ins ds i j p hn9; omega
                go_wp2_with fail
                refine (eOpen hP hpo el HG.out hsb hnt hn9).mono ?_
                rintro e w8 ⟨rfl, ⟨Ls', hP8⟩, hK⟩
                have ho8 := hK _ _ _ _ _ _ ho HBt.out
                rw [HFj.out]
                obtain ⟨g8, u8, eg8, _, hl8, _, d8⟩ := own_at ho8 hjm
                simp only [Option.some.injEq, Addr.mk.injEq, and_true] at eg8
                subst eg8
                have f8 := own_frozen ho8 j
                have hP9 := hP8.aside HLW.out ho8 (Nat.le_refl _) hgt hwo2 (grown_set w8 wo.heap.size j (.int .u64 (F j)))
                have ho9 := own_set ho8 j (.int .u64 (F j))
                rw [← List.map_set, fil_set rfl] at ho9
                rw [← HEX.out, snl_next] at hP9
                clear hP hP8 ho ho8 hK hco hbo eg r3 f4 hlp hgW hsb
                go_wp2
                go_roundw
                case rel => exact ⟨j + 1, Ls', by omega, by go_num, hP9, ho9⟩
                case measure => simp [intOf]; omega
              · have hjm2 : j = m := by omega
                subst hjm2
                have HOT : Hid (fil F j j = otl G O ins j) := by unfold Hid; rw [fil_full, ← HF.out]; rfl
                rw [HOT.out] at ho
                have hbw := HB2.out.trans (hP.sen.bel.mono HB2.out.size)
                obtain ⟨_, _, _, _, _, f5⟩ := hP.box.cells
                have hlp := hP.box.lt
                have r7D : wr.drew.ownsRow w.heap.size 34 1 (.slice (some ⟨wo.heap.size, 0, none⟩) j j) j ((otl G O ins j).map (Value.int .u64)) := own_baseV ho (Nat.le_trans HB2.out.size hwo2)
                have r8D : LsV wr.drew w.heap.size (.slice (some ⟨w2.heap.size, 0, none⟩) n n) Ls (snl G O n t ins ds i j) := (hP.sen.seen.base HB2.out.size).drew
                have r9D : Hid (∀ p, p < n → (Ls.getD p (.slice none 0 0)).ownBlock = none ∨ (Ls.getD p (.slice none 0 0)).ownBlock ≠ (Value.slice (some ⟨wo.heap.size, 0, none⟩) j j).ownBlock) := fun p hp => by
                  cases hb : (Ls.getD p (.slice none 0 0)).ownBlock with
                  | none => exact .inl rfl
                  | some gg =>
                    right
                    have := hP.sen.far p hp gg hb
                    simp only [Value.ownBlock, ne_eq, Option.some.injEq]
                    omega
                have hbD := hbw.drew
                clear hP ho
                go_wp2
                go_region
                all_goals
                  go_wp2
                  go_ret3
                  exact ⟨.inr ⟨.inr ⟨HE.out, .inr ⟨HL.out.symm, .inr ⟨HD.out.symm, rfl⟩⟩⟩, _, _, Ls, rfl, r7D, r8D, r9D.out⟩, hbD⟩
      · go_wp2
        go_ret3
        exact ⟨.inl ⟨1, by decide, .inr ⟨HE.out, .inr ⟨HL.out.symm, .inl ⟨fun e => hd (e.trans HD.out), rfl⟩⟩⟩, rfl⟩, hb2⟩
    · go_wp2
      go_ret3
      exact ⟨.inl ⟨5, by decide, .inr ⟨HE.out, .inl ⟨fun e => hq (e.trans HL.out), rfl⟩⟩, rfl⟩, hb2⟩

theorem eRun (ag : Option Addr) (N cg : Nat) (G : List Gt) (ao : Option Addr) (m co : Nat) (O : List Int) (n t : Int) (ai : Option Addr) (q ca : Nat) (ins : List Int) (ad : Option Addr) (d cd : Nat) (ds : List Int) (w : World) (h : RdG w ag N cg G) (g : RdI w ao m co O) (ih : Rd w ai q ca ins) (dh : Rd w ad d cd ds) (hn : -9223372036854775808 ≤ n ∧ n ≤ 9223372036854775807) (ht : -9223372036854775808 ≤ t ∧ t ≤ 9223372036854775807) (hS : Shp w) :
    Calls Tryd.prog 27 #[.agg #[.slice ag N cg, .slice ao m co], .int .i64 n, .int .i64 t, .slice ai q ca, .slice ad d cd] w (Enr G O ins ds N m n t q d w) :=
  (eRunO ag N cg G ao m co O n t ai q ca ins ad d cd ds w h g ih dh hn ht hS).mono fun _ _ h => h.rd
theorem lit_rd {w : World} {gb : Nat} {xs : List Int} {n : Nat} {E : TypeId} {z : Nat × Nat} (h : w.heap[gb]? = some (.cells (xs.map (Value.int .u64)).toArray E z)) (hl : xs.length = n) (hn : n ≤ 1000) (hb : ∀ x ∈ xs, 0 ≤ x ∧ x ≤ 18446744073709551615) : Rd w (some ⟨gb, 0, none⟩) n n xs := by
  refine ⟨hl, Nat.le_refl _, by unfold maxLen; omega, hb, by simp, fun x hx i hi => ?_⟩
  obtain rfl := Option.some.inj hx
  rw [Addr.add_lit, Nat.zero_add, cell_of_row w _ _ _ _ z h]
  simp [show i < xs.length by omega]
theorem tnyT_ok : Cke tnyT [3] 4 1 0 := by
  refine .inr ⟨⟨by decide, by decide⟩, .inr ⟨⟨by decide, by decide⟩, .inr ⟨⟨fun i hi => ?_, fun i hi => ?_⟩, rfl⟩⟩⟩
  · have : i = 0 ∨ i = 1 ∨ i = 2 ∨ i = 3 := by omega
    rcases this with rfl | rfl | rfl | rfl <;> (unfold okg; decide)
  · obtain rfl : i = 0 := by omega
    decide
theorem tnyT_run : Ere tnyT [3] 4 1 3 1 2 2 0 := .inr ⟨.inr ⟨tnyT_ok, .inr ⟨⟨by decide, by decide, by decide, by decide⟩, rfl⟩⟩, .inr ⟨by decide, .inr ⟨by decide, rfl⟩⟩⟩
theorem tnyT_out : otl tnyT [3] [5, 6] 1 = [21] := by decide
theorem tnyT_see : (snl tnyT [3] 3 1 [5, 6] [1, 2] 4 1).getD 1 [] = [7, 10, 26, 31, 36] := by decide

theorem tSaid (w : World) (hS : Shp w) :
    Calls Tryd.prog 28 #[] w fun e w' => e = .returned (.bool true) ∧ Below w.heap.size w w' := by
  go_enter Tryd.func28, Tryd.ntmps28
  go_wp2_with fail
  refine (tTiny _).mono ?_
  rintro e w1 ⟨ta, tb, rfl, hg1, ho1, hb1⟩
  go_wp2_with fail
  have hb2 : Below w1.heap.size w1 (w1.alloc (.cells #[.int .u64 5, .int .u64 6] 34)) := (Below.refl _ _).alloc (Nat.le_refl _) _
  have hx : Rd (w1.alloc (.cells #[.int .u64 5, .int .u64 6] 34)) (some ⟨w1.heap.size, 0, none⟩) 2 2 [5, 6] := lit_rd (xs := [5, 6]) (heap_alloc_new w1 _) rfl (by omega) (by decide)
  have hs2 : (w1.alloc (.cells #[.int .u64 5, .int .u64 6] 34)).heap.size = w1.heap.size + 1 := by simp
  generalize w1.alloc (.cells #[.int .u64 5, .int .u64 6] 34) = w2 at *
  rw [← hs2]
  have hb3' : Below w2.heap.size w2 (w2.alloc (.cells #[.int .u64 1, .int .u64 2] 34)) := (Below.refl _ _).alloc (Nat.le_refl _) _
  have hy : Rd (w2.alloc (.cells #[.int .u64 1, .int .u64 2] 34)) (some ⟨w2.heap.size, 0, none⟩) 2 2 [1, 2] := lit_rd (xs := [1, 2]) (heap_alloc_new w2 _) rfl (by omega) (by decide)
  generalize w2.alloc (.cells #[.int .u64 1, .int .u64 2] 34) = w3 at *
  have hb3 := hb2.trans (hb3'.mono hb2.size)
  refine (eRun _ _ _ _ _ _ _ _ 3 1 _ _ _ _ _ _ _ _ _ (hg1.below hb3) (ho1.below hb3) (hx.below hb3') hy (by omega) (by omega) (hS.below (hb1.trans (hb3.mono hb1.size)))).mono ?_
  rintro e w4 ⟨⟨r3, hr3, hE3, _⟩ | ⟨_, a7, c7, b7, k7, rfl, hr7, hr8⟩, hb4'⟩
  · exact absurd (hE3.one tnyT_run) hr3
  rw [tnyT_out] at hr7
  have e3 : (3 : Int).toNat = 3 := rfl
  have e1 : (1 : Int).toNat = 1 := rfl
  rw [e3, e1] at hr8
  rw [e3]
  obtain ⟨b, o, ai, ni, ci, row, rfl, hbl, HR, hc, hrow⟩ := hr8.one (k := 1) (by omega)
  have hrr := HR.out
  rw [tnyT_see] at hrr
  subst hrr
  obtain rfl : 5 = ni := hrow.len
  have hb4 := hb1.trans ((hb3.trans (hb4'.mono hb3.size)).mono hb1.size)
  have hk7 := hr8.cap
  have hm7 := hr8.max
  unfold maxLen at hm7
  clear hr8 hb1 hb2 hb3 hb3' hb4' hg1 ho1 hx hy hs2 HR e3 e1
  go_wp2_with fail
  have hb5' : Below w4.heap.size w4 (w4.alloc (.cells #[.int .u64 21] 34)) := (Below.refl _ _).alloc (Nat.le_refl _) _
  have hx5 : Rd (w4.alloc (.cells #[.int .u64 21] 34)) (some ⟨w4.heap.size, 0, none⟩) 1 1 [21] := lit_rd (xs := [21]) (heap_alloc_new w4 _) rfl (by omega) (by decide)
  generalize w4.alloc (.cells #[.int .u64 21] 34) = w5 at *
  refine (cSame _ _ _ _ _ _ _ _ (hr7.below hb5') hx5).mono ?_
  rintro e w6 ⟨rfl, hb6'⟩
  have hb46 := hb5'.trans (hb6'.mono hb5'.size)
  have hb6 := hb4.trans (hb46.mono hb4.size)
  have hrow6 := hrow.below hb46
  have hc6 : w6.cell? ⟨b, o + 1, none⟩ = some (.slice ai 5 ci) := by rw [hb46.cell hbl]; exact hc
  clear hb4 hb5' hb6' hx5 hr7 hrow hc
  go_wp2_with fail
  have hb7' : Below w6.heap.size w6 (w6.alloc (.cells #[.int .u64 7, .int .u64 10, .int .u64 26, .int .u64 31, .int .u64 36] 34)) := (Below.refl _ _).alloc (Nat.le_refl _) _
  have hx7 : Rd (w6.alloc (.cells #[.int .u64 7, .int .u64 10, .int .u64 26, .int .u64 31, .int .u64 36] 34)) (some ⟨w6.heap.size, 0, none⟩) 5 5 [7, 10, 26, 31, 36] := lit_rd (xs := [7, 10, 26, 31, 36]) (heap_alloc_new w6 _) rfl (by omega) (by decide)
  generalize w6.alloc (.cells #[.int .u64 7, .int .u64 10, .int .u64 26, .int .u64 31, .int .u64 36] 34) = w7 at *
  refine (cSame _ _ _ _ _ _ _ _ (hrow6.below hb7') hx7).mono ?_
  rintro e w8 ⟨rfl, hb8'⟩
  have hb8 := hb6.trans ((hb7'.trans (hb8'.mono hb7'.size)).mono hb6.size)
  clear hb7' hx7 hb8' hb6
  go_wp2
  go_ret
  exact ⟨rfl, hb8⟩
end
end Go.Proofs.YtljlioglpaogdagDoor
