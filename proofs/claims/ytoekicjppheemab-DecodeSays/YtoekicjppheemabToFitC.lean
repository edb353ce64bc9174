/- Slices of ints that are read; shares that a call gathers. · croftref.Fit, croftref.Open. -/
import Derived.Test.YtoekicjppheemabToAtsC
import Derived.Test.YtoekicjppheemabToPolyM2
import Derived.Test.YtoekicjppheemabToOwnC
import Derived.Test.YtoekicjppheemabToRefShC
import Derived.Test.YtoekicjppheemabToSortM
namespace Go.Proofs.Ytoekicjppheemab
open Go.RowKit Crm

/-- A slice of ints that is read. -/
structure RdI (w : World) (a : Option Addr) (n c : Nat) (xs : List Int) : Prop where
  len : xs.length = n
  cap : n ≤ c
  max : c ≤ maxLen
  bd : ∀ x ∈ xs, -9223372036854775808 ≤ x ∧ x ≤ 9223372036854775807
  nil : a = none → c = 0
  cell : ∀ x, a = some x → ∀ i, i < n → w.cell? (x.add i) = some (.int .i64 (xs.getD i 0))
theorem RdI.one {w : World} {a : Option Addr} {n c : Nat} {xs : List Int} (h : RdI w a n c xs) {k : Nat} (hk : k < n) :
    ∃ b o x, a = some ⟨b, o, none⟩ ∧ b < w.heap.size ∧ Hid (xs.getD k 0 = x) ∧ -9223372036854775808 ≤ x ∧ x ≤ 9223372036854775807 ∧ w.cell? ⟨b, o + k, none⟩ = some (.int .i64 x) := by
  cases ha : a with
  | none => have := h.nil ha; have := h.cap; omega
  | some x =>
    have h0 := h.cell x ha k hk
    have hs : x.spot = none := by
      have := spot_none (h.cell x ha 0 (by omega))
      unfold Addr.add at this
      split at this <;> simp_all
    obtain ⟨b, o, s⟩ := x
    simp only at hs
    subst hs
    rw [Addr.add_lit] at h0
    have hb := h.bd (xs.getD k 0) (getD_mem (by rw [h.len]; exact hk))
    exact ⟨b, o, _, rfl, World.block_lt_of_cell? w _ h0, rfl, hb.1, hb.2, h0⟩
theorem RdI.below {w w' : World} {a : Option Addr} {n c : Nat} {xs : List Int} (h : RdI w a n c xs) (hb : Below w.heap.size w w') : RdI w' a n c xs := by
  refine ⟨h.len, h.cap, h.max, h.bd, h.nil, fun x hx i hi => ?_⟩
  have := h.cell x hx i hi
  rw [hb.cell (World.block_lt_of_cell? w _ this)]
  exact this
theorem RdI.drewN {w : World} {a : Option Addr} {n c : Nat} {xs : List Int} (h : RdI w a n c xs) (q : Nat) : RdI (w.drewN q) a n c xs := ⟨h.len, h.cap, h.max, h.bd, h.nil, h.cell⟩
theorem RdI.take {w : World} {a : Option Addr} {n c : Nat} {xs : List Int} (h : RdI w a n c xs) {k : Nat} (hk : k ≤ n) : RdI w a k c (xs.take k) := by
  refine ⟨by have := h.len; simp; omega, by have := h.cap; omega, h.max, fun x hx => h.bd x (List.mem_of_mem_take hx), h.nil, fun x hx i hi => ?_⟩
  rw [h.cell x hx i (by omega)]
  congr 2
  simp [hi]

/-- The cells of shares. -/
def shc (l : List (Int × Int)) : List Value := l.flatMap fun p => [.int .i64 p.1, .int .u64 p.2]
theorem shc_snoc (l : List (Int × Int)) (p : Int × Int) : shc (l ++ [p]) = shc l ++ [.int .i64 p.1, .int .u64 p.2] := by simp [shc]
theorem shc_get : ∀ (l : List (Int × Int)) (i : Nat), i < l.length → (shc l)[i * 2]? = some (.int .i64 (l.getD i (0, 0)).1) ∧ (shc l)[i * 2 + 1]? = some (.int .u64 (l.getD i (0, 0)).2)
  | [], i, h => by simp at h
  | p :: l, 0, _ => ⟨rfl, rfl⟩
  | p :: l, i + 1, h => by
    have := shc_get l i (by simpa using h)
    have e1 : (i + 1) * 2 = i * 2 + 1 + 1 := by omega
    rw [e1]
    exact this

/-- A slice of shares that the call itself gathers, and one share more. -/
theorem wpList_appS {P : Program} {T E : TypeId} (hT : P.underlying T = some (.slice E)) (info : (P.info? E).map (fun i => (i.zero, i.size, i.bytes)) = some (some (.agg #[.int .i64 0, .int .u64 0]), 2, 16))
    (w : World) {ops : Array Oper} {rest : List Oper} {o : Oper} {a : Act} {Q : Exit → Act → World → Prop} (hgd : o.guard = none) (s x : Operand)
    (ho : o.op = .call { callee := .builtin .append, args := #[s, x], argTypes := #[T, T] })
    (base : Nat) (v : Value) (n : Nat) (l : List (Int × Int)) (hs : a.eval s = v) (hown : w.ownsRow base E 2 v n (shc l)) (p q : Int) (hx : a.eval x = .slice (some ⟨w.heap.size, 0, none⟩) 1 1)
    (hn : n ≤ 1000000) (hbase : base ≤ w.heap.size)
    (h : ∀ v' w', w'.ownsRow base E 2 v' (n + 1) (shc (l ++ [(p, q)])) → Below base w w' → wpList P ops Q rest (a.put o.dst v') w') : wpList P ops Q (o :: rest) a (w.alloc (.cells #[.int .i64 p, .int .u64 q] E)) := by
  obtain ⟨i0, hi, hz0, hz1, hz2⟩ := info_parts info
  refine wpList_append_own _ hgd s x T ho base E i0 (.agg #[.int .i64 0, .int .u64 0]) 2 16 hT hi hz0 hz1 hz2 rfl (by decide) v n _ hs (hown.alloc _) ⟨w.heap.size, 0, none⟩ 1 1 [.int .i64 p, .int .u64 q] hx rfl ?_ ?_ (by unfold maxLen; omega) (by omega) (by simp; omega) ?_
  · intro j u hj
    match j, hj with
    | 0, hj => simp at hj; subst hj; rw [Addr.add_lit]; exact cell_alloc0 _ _ _ _
    | 1, hj => simp at hj; subst hj; rw [Addr.add_lit]; exact cell_alloc1 _ _ _ _
  · intro u hu; simp at hu; rcases hu with rfl | rfl <;> rfl
  · intro v' w' hown' hgrow _
    refine h v' w' (by rw [shc_snoc]; exact hown') ?_
    exact ((Below.refl _ _).alloc hbase _).grown hgrow (by simp; omega) (fun k hk => (hown.lt k hk).1)

theorem RdS.own {w : World} {base n : Nat} {E : TypeId} {v : Value} {l : List (Int × Int)} (h : w.ownsRow base E 2 v n (shc l)) (hl : l.length = n)
    (hb : ∀ i, i < n → (-9223372036854775808 ≤ (l.getD i (0, 0)).1 ∧ (l.getD i (0, 0)).1 ≤ 9223372036854775807) ∧ 0 ≤ (l.getD i (0, 0)).2 ∧ (l.getD i (0, 0)).2 ≤ 18446744073709551615) : ∃ a c, v = .slice a n c ∧ RdS w a n c l := by
  rcases h.2 with ⟨rfl, rfl⟩ | ⟨g, cap, cur, rfl, hb', hg, h1, h2, hs, ht⟩
  · exact ⟨none, 0, rfl, ⟨hl, Nat.le_refl _, Nat.zero_le _, hb, fun _ => rfl, by simp⟩⟩
  · refine ⟨_, _, rfl, ⟨hl, h1, h2, hb, by simp, fun x hx i hi => ?_⟩⟩
    obtain rfl := Option.some.inj hx
    have := shc_get l i (by omega)
    exact ⟨h.cells (g := g) rfl _ _ this.1, h.cells (g := g) rfl _ _ this.2⟩

/-- What uint64 makes of an int. -/
def u64of (x : Int) : Int := IntKind.u64.wrap x
theorem u64of_bd (x : Int) : 0 ≤ u64of x ∧ u64of x ≤ 18446744073709551615 := by
  unfold u64of IntKind.wrap
  simp [IntKind.signed, IntKind.bits]
  omega
theorem u64of_id {x : Int} (h0 : 1 ≤ x) (h1 : x ≤ 2147483646) : u64of x = x := by
  unfold u64of IntKind.wrap
  simp [IntKind.signed, IntKind.bits]
  omega
theorem own_below2 {w w' : World} {base n : Nat} {E : TypeId} {v : Value} {xs : List Value} (h : w.ownsRow base E 2 v n xs) (hb : Below w.heap.size w w') : w'.ownsRow base E 2 v n xs :=
  h.kept (grown_below hb none) (by cases hv : v.ownBlock <;> simp)

theorem infoSh : (Try.prog.info? 41).map (fun i => (i.zero, i.size, i.bytes)) = some (some (.agg #[.int .i64 0, .int .u64 0]), 2, 16) := by kernel_rfl
theorem infoZ : (Try.prog.info? 3).map (fun i => (i.zero, i.size, i.bytes)) = some (some (.int .i64 0), 1, 8) := by kernel_rfl
/-- What append has gathered reads as the ints that it gathered. -/
theorem RdI.own {w : World} {base n : Nat} {E : TypeId} {v : Value} {L : List Int} (h : w.ownsRow base E 1 v n (zns L)) (hb : ∀ x ∈ L, -9223372036854775808 ≤ x ∧ x ≤ 9223372036854775807) : ∃ a c, v = .slice a n c ∧ RdI w a n c L := by
  have hl : L.length = n := by have := h.1; rw [zns_len] at this; omega
  rcases h.2 with ⟨rfl, rfl⟩ | ⟨g, cap, cur, rfl, hb', hg, h1, h2, hs, ht⟩
  · exact ⟨none, 0, rfl, ⟨hl, Nat.le_refl _, Nat.zero_le _, hb, fun _ => rfl, by simp⟩⟩
  · refine ⟨_, _, rfl, ⟨hl, h1, h2, hb, by simp, fun x hx i hi => ?_⟩⟩
    obtain rfl := Option.some.inj hx
    rw [Addr.add_lit, Nat.zero_add]
    exact zns_at h hi
end Go.Proofs.Ytoekicjppheemab

namespace Go.Proofs.Ytoekicjppheemab
open Go.RowKit Crm

theorem RdS.take {w : World} {a : Option Addr} {n c : Nat} {l : List (Int × Int)} (h : RdS w a n c l) {k : Nat} (hk : k ≤ n) : RdS w a k c (l.take k) := by
  have e : ∀ i, i < k → (l.take k).getD i (0, 0) = l.getD i (0, 0) := fun i hi => by simp [hi]
  refine ⟨by have := h.len; simp; omega, by have := h.cap; omega, h.max, fun i hi => ?_, h.nil, fun x hx i hi => ?_⟩
  · rw [e i hi]; exact h.bd i (by omega)
  · rw [e i hi]; exact h.cell x hx i (by omega)

/-- What Fit gives. -/
def FitsO (l : List (Int × Int)) (n m : Nat) (w : World) (e : Ending) (w' : World) : Prop :=
  ∃ (p : List Int) (ap : Option Addr) (cp : Nat) (B : List Int) (ab : Option Addr) (cb : Nat), e = .returned (.tuple #[.slice ap p.length cp, .slice ab (bdl l p n).length cb]) ∧ w'.ownsRow w.heap.size 28 1 (.slice ap p.length cp) p.length (p.map (Value.int .u64)) ∧ p.length ≤ m ∧ Hs l m p ∧ Nml p ∧
    w'.ownsRow w.heap.size 3 1 (.slice ab (bdl l p n).length cb) (bdl l p n).length (zns B) ∧ OuI (bdl l p n) B (bdl l p n).length ∧ Below w.heap.size w w'

set_option maxRecDepth 100000 in
set_option maxHeartbeats 1000000 in
theorem rFitO (a : Option Addr) (n c : Nat) (l : List (Int × Int)) (t : Nat) (w : World) (h : RdS w a n c l) (hd : dis (fa l) n) (ht : t < n) :
    Calls Try.prog 15 #[.int .i64 t, .slice a n c] w fun e w' => FitsO l n (t + 1) w e w' := by
  have hn9 := dis_nine hd
  have HD : Hid (dis (fa l) n) := hd
  clear hd
  have hcap := h.cap
  have hmax := h.max
  unfold maxLen at hmax
  have hT := h.take (k := t + 1) (by omega)
  have HOK : Hid (okk (l.take (t + 1)) (t + 1)) := by
    have h1 := dis_okk (dis_le HD.out (show t + 1 ≤ n by omega))
    have e : ∀ i, i < t + 1 → (l.take (t + 1)).getD i (0, 0) = l.getD i (0, 0) := fun i hi => by simp [hi]
    intro i hi
    rw [e i hi]
    refine ⟨(h1 i hi).1, fun j hj => ?_⟩
    rw [e j (by omega)]
    exact (h1 i hi).2 j hj
  go_enter Try.func15, Try.ntmps15
  go_wp2_with fail
  refine (rThroughO _ (t + 1) _ _ _ hT (by omega) HOK.out).mono ?_
  rintro e w2 ⟨p, ap, cp, rfl, hop, hLo, hb2⟩
  have hrp : Rd w2 ap p.length cp p := by
    obtain ⟨a2, c2, e2, hr, _⟩ := Rd.own hop (bd_u64 hLo.nml.bd)
    simp only [Value.slice.injEq, true_and] at e2
    obtain ⟨rfl, rfl⟩ := e2
    exact hr
  have HP : Hid (p.length ≤ t + 1 ∧ Hs l (t + 1) p ∧ Nml p) := by
    refine ⟨hLo.le, fun j hj => ?_, hLo.nml⟩
    have := hLo.val j hj
    rw [if_pos hj] at this
    have e : (l.take (t + 1)).getD j (0, 0) = l.getD j (0, 0) := by simp [hj]
    rwa [e] at this
  have hpl := hLo.le
  obtain ⟨N, hN⟩ : ∃ N, N = p.length := ⟨_, rfl⟩
  rw [← hN] at hrp hop hpl ⊢
  have HN : Hid (N = p.length) := hN
  clear hLo hT HOK hN
  have hs2 := hb2.size
  go_wp2
  go_loopw [7, 8] (fun v i wr => ∃ k : Nat, k ≤ n ∧ i = .int .i64 k ∧ wr.ownsRow w2.heap.size 3 1 v (bdl l p k).length (zns (bdl l p k)) ∧ Below w2.heap.size w2 wr) (fun _ i _ => n - (intOf i).toNat)
  case atStart => exact ⟨0, Nat.zero_le _, rfl, World.ownsRow_nil _ _ _ _, Below.refl _ _⟩
  case round =>
    obtain ⟨k, hk, rfl, hown, hbel⟩ := hrel
    have hbw : Below w.heap.size w wr := hb2.trans (hbel.mono hs2)
    have hs3 := hbel.size
    have hbk := bdl_le l p k
    by_cases hlt : k < n
    · obtain ⟨b, o, x, y, rfl, hbb, HX, HY, hx0, hx1, hy0, hy1, hcx, hcy⟩ := (h.below hbw).one hlt
      have hx9 := (HD.out k hlt).1
      unfold fa at hx9
      rw [HX.out] at hx9
      have hx1 := hx9.1
      have hx9 := hx9.2
      have hrp2 := hrp.below hbel
      have HWX : Hid (IntKind.u64.wrap x = x) := u64of_id hx1 (by omega)
      by_cases hm : nm (ev p x) = nm y
      · have hmb : (nm (ev p x) != nm y) = false := by rw [hm]; simp
        have HB : Hid (bdl l p (k + 1) = bdl l p k) := bdl_ok (by rw [HX.out, HY.out]; exact hm)
        clear hm
        go_wp2
        go_quiet ((first | (go_at_call 27; (first | rw [HWX.out] | skip); exact Calls.quiet_of_same (rEval _ _ _ _ _ _ (hrp2.drewN _) (by omega) (by omega) (by omega))) | (go_at_call 17; exact Calls.quiet_of_same (rNorm _ _ (by omega) (by omega)))))
        all_goals
          go_wp2
          go_roundw
          case rel => exact ⟨k + 1, by omega, by go_num, by rw [HB.out]; exact hown, drewN_below hbel _⟩
          case measure => simp [intOf]; omega
      · have hmb : (nm (ev p x) != nm y) = true := by rw [bne_iff_ne]; exact hm
        have HB : Hid (bdl l p (k + 1) = bdl l p k ++ [x]) := by
          have := bdl_bad (l := l) (p := p) (k := k) (by rw [HX.out, HY.out]; exact hm)
          rwa [HX.out] at this
        clear hm
        go_wp2
        go_quiet ((first | (go_at_call 27; (first | rw [HWX.out] | skip); exact Calls.quiet_of_same (rEval _ _ _ _ _ _ (hrp2.drewN _) (by omega) (by omega) (by omega))) | (go_at_call 17; exact Calls.quiet_of_same (rNorm _ _ (by omega) (by omega)))))
        have hcx2 : (wr.drewN nq).cell? ⟨b, o + k * 2, none⟩ = some (.int .i64 x) := hcx
        have hown2 : (wr.drewN nq).ownsRow w2.heap.size 3 1 u7 (bdl l p k).length (zns (bdl l p k)) := hown
        have hbel2 := drewN_below hbel nq
        have hsd : w2.heap.size ≤ (wr.drewN nq).heap.size := hs3
        generalize wr.drewN nq = wd at *
        go_wp2_with (at_builtin; refine wpList_appV Try.underlying24 infoZ rfl (by omega) _ rfl _ _ rfl w2.heap.size _ _ _ rfl hown2 (.int .i64 x) rfl rfl (by omega) hsd ?_; intro v' w7 hown7 hgr7 _; rw [zns_snoc, ← HB.out] at hown7; have hlB : (bdl l p k).length + 1 = (bdl l p (k + 1)).length := (by rw [HB.out]; simp); rw [hlB] at hown7; have hbel7 := hbel2.grown hgr7 hsd (fun j hj => (hown2.lt j hj).1); clear hgr7 hown2 hbel2 hlB)
        go_roundw
        case rel => exact ⟨k + 1, by omega, by go_num, hown7, hbel7⟩
        case measure => simp [intOf]; omega
    · have hkn : k = n := by omega
      subst hkn
      obtain ⟨ab, cb, rfl, hcb⟩ := own_slice hown
      obtain ⟨NB, HNB⟩ : ∃ NB, Hid ((bdl l p k).length = NB) := ⟨_, rfl⟩
      rw [HNB.out] at hown hcb hbk ⊢
      go_wp2_with fail
      refine (zSorts _ _ _ _ _ hown (by omega)).mono ?_
      rintro e w3 ⟨rfl, B, hO, hown3, hgr3⟩
      have hlt2 := hown.lt
      have hb3 : Below w2.heap.size w2 w3 := hbel.grown hgr3 hs3 (fun j hj => (hlt2 j hj).1)
      have hrp3 := own_below hop hb3
      have HO : Hid (OuI (bdl l p k) B NB) := hO
      have hown4 : w3.ownsRow w.heap.size 3 1 (.slice ab NB cb) NB (zns B) := by
        rcases hown3.2 with h' | ⟨g, cap, cur, e1, e2, e3⟩
        · exact ⟨hown3.1, Or.inl h'⟩
        · exact ⟨hown3.1, Or.inr ⟨g, cap, cur, e1, by omega, e3⟩⟩
      have hb4 := hb2.trans (hb3.mono hs2)
      clear hown hgr3 hlt2 hO hown3 hb3 hbel hbw
      go_wp2
      go_ret2
      refine ⟨p, ap, cp, B, ab, cb, ?_, ?_, HP.out.1, HP.out.2.1, HP.out.2.2, ?_, ?_, hb4⟩
      · rw [← HN.out, HNB.out]; rfl
      · rw [← HN.out]; exact hrp3
      · rw [HNB.out]; exact hown4
      · rw [HNB.out]; exact HO.out

/-- What Fit gives, to be read. -/
def Fits (l : List (Int × Int)) (n m : Nat) (w : World) (e : Ending) (w' : World) : Prop :=
  ∃ (p : List Int) (ap : Option Addr) (cp : Nat) (B : List Int) (ab : Option Addr) (cb : Nat), e = .returned (.tuple #[.slice ap p.length cp, .slice ab (bdl l p n).length cb]) ∧ Rd w' ap p.length cp p ∧ p.length ≤ m ∧ Hs l m p ∧ Nml p ∧
    w'.ownsRow w.heap.size 3 1 (.slice ab (bdl l p n).length cb) (bdl l p n).length (zns B) ∧ OuI (bdl l p n) B (bdl l p n).length ∧ Below w.heap.size w w'
theorem rFit (a : Option Addr) (n c : Nat) (l : List (Int × Int)) (t : Nat) (w : World) (h : RdS w a n c l) (hd : dis (fa l) n) (ht : t < n) :
    Calls Try.prog 15 #[.int .i64 t, .slice a n c] w fun e w' => Fits l n (t + 1) w e w' := by
  refine (rFitO _ _ _ _ _ _ h hd ht).mono ?_
  rintro e w' ⟨p, ap, cp, B, ab, cb, rfl, hown, h1, h2, h3, h4⟩
  obtain ⟨a2, c2, e2, hr, _⟩ := Rd.own hown (bd_u64 h3.bd)
  simp only [Value.slice.injEq, true_and] at e2
  obtain ⟨rfl, rfl⟩ := e2
  exact ⟨p, ap, cp, B, ab, cb, rfl, hr, h1, h2, h3, h4⟩

end Go.Proofs.Ytoekicjppheemab
