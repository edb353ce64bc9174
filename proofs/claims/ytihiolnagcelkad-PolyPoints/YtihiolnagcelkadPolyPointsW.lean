/- The walk of croftkeep.PolyPoints. -/
import Derived.Test.YtihiolnagcelkadThroughC
import Derived.Test.YtihiolnagcelkadPolyRestW
namespace Go.Proofs.Ytihiolnagcelkad
open Go.RowKit Crm

/-- A slice of ints that is read. -/
structure RdI (w : World) (a : Option Addr) (n c : Nat) (xs : List Int) : Prop where
  len : xs.length = n
  cap : n ≤ c
  max : c ≤ maxLen
  bd : ∀ x ∈ xs, -9223372036854775808 ≤ x ∧ x ≤ 9223372036854775807
  nil : a = none → c = 0
  cell : ∀ x, a = some x → ∀ i, i < n → w.cell? (x.add i) = some (.int .i64 (xs.getD i 0))
theorem RdI.one {w : World} {a : Option Addr} {n c : Nat} {xs : List Int} (h : RdI w a n c xs) {k : Nat} (hk : k < n) :
    ∃ b o x, a = some ⟨b, o, none⟩ ∧ b < w.heap.size ∧ Hid (xs.getD k 0 = x) ∧ -9223372036854775808 ≤ x ∧ x ≤ 9223372036854775807 ∧ w.cell? ⟨b, o + k, none⟩ = some (.int .i64 x) := by
  cases ha : a with
  | none => have := h.nil ha; have := h.cap; omega
  | some x =>
    have h0 := h.cell x ha k hk
    have hs : x.spot = none := by
      have := spot_none (h.cell x ha 0 (by omega))
      unfold Addr.add at this
      split at this <;> simp_all
    obtain ⟨b, o, s⟩ := x
    simp only at hs
    subst hs
    rw [Addr.add_lit] at h0
    have hb := h.bd (xs.getD k 0) (getD_mem (by rw [h.len]; exact hk))
    exact ⟨b, o, _, rfl, World.block_lt_of_cell? w _ h0, rfl, hb.1, hb.2, h0⟩
theorem RdI.below {w w' : World} {a : Option Addr} {n c : Nat} {xs : List Int} (h : RdI w a n c xs) (hb : Below w.heap.size w w') : RdI w' a n c xs := by
  refine ⟨h.len, h.cap, h.max, h.bd, h.nil, fun x hx i hi => ?_⟩
  have := h.cell x hx i hi
  rw [hb.cell (World.block_lt_of_cell? w _ this)]
  exact this
theorem RdI.take {w : World} {a : Option Addr} {n c : Nat} {xs : List Int} (h : RdI w a n c xs) {k : Nat} (hk : k ≤ n) : RdI w a k c (xs.take k) := by
  refine ⟨by have := h.len; simp; omega, by have := h.cap; omega, h.max, fun x hx => h.bd x (List.mem_of_mem_take hx), h.nil, fun x hx i hi => ?_⟩
  rw [h.cell x hx i (by omega)]
  congr 2
  simp [hi]

/-- The cells of shares. -/
def shc (l : List (Int × Int)) : List Value := l.flatMap fun p => [.int .i64 p.1, .int .u64 p.2]
theorem shc_snoc (l : List (Int × Int)) (p : Int × Int) : shc (l ++ [p]) = shc l ++ [.int .i64 p.1, .int .u64 p.2] := by simp [shc]
theorem shc_get : ∀ (l : List (Int × Int)) (i : Nat), i < l.length → (shc l)[i * 2]? = some (.int .i64 (l.getD i (0, 0)).1) ∧ (shc l)[i * 2 + 1]? = some (.int .u64 (l.getD i (0, 0)).2)
  | [], i, h => by simp at h
  | p :: l, 0, _ => ⟨rfl, rfl⟩
  | p :: l, i + 1, h => by
    have := shc_get l i (by simpa using h)
    have e1 : (i + 1) * 2 = i * 2 + 1 + 1 := by omega
    rw [e1]
    exact this

/-- A slice of shares that the call itself gathers, and one share more. -/
theorem wpList_appS {P : Program} {T E : TypeId} (hT : P.underlying T = some (.slice E)) (info : (P.info? E).map (fun i => (i.zero, i.size, i.bytes)) = some (some (.agg #[.int .i64 0, .int .u64 0]), 2, 16))
    (w : World) {ops : Array Oper} {rest : List Oper} {o : Oper} {a : Act} {Q : Exit → Act → World → Prop} (hgd : o.guard = none) (s x : Operand)
    (ho : o.op = .call { callee := .builtin .append, args := #[s, x], argTypes := #[T, T] })
    (base : Nat) (v : Value) (n : Nat) (l : List (Int × Int)) (hs : a.eval s = v) (hown : w.ownsRow base E 2 v n (shc l)) (p q : Int) (hx : a.eval x = .slice (some ⟨w.heap.size, 0, none⟩) 1 1)
    (hn : n ≤ 1000000) (hbase : base ≤ w.heap.size)
    (h : ∀ v' w', w'.ownsRow base E 2 v' (n + 1) (shc (l ++ [(p, q)])) → Below base w w' → wpList P ops Q rest (a.put o.dst v') w') : wpList P ops Q (o :: rest) a (w.alloc (.cells #[.int .i64 p, .int .u64 q] E)) := by
  obtain ⟨i0, hi, hz0, hz1, hz2⟩ := info_parts info
  refine wpList_append_own _ hgd s x T ho base E i0 (.agg #[.int .i64 0, .int .u64 0]) 2 16 hT hi hz0 hz1 hz2 rfl (by decide) v n _ hs (hown.alloc _) ⟨w.heap.size, 0, none⟩ 1 1 [.int .i64 p, .int .u64 q] hx rfl ?_ ?_ (by unfold maxLen; omega) (by omega) (by simp; omega) ?_
  · intro j u hj
    match j, hj with
    | 0, hj => simp at hj; subst hj; rw [Addr.add_lit]; exact cell_alloc0 _ _ _ _
    | 1, hj => simp at hj; subst hj; rw [Addr.add_lit]; exact cell_alloc1 _ _ _ _
  · intro u hu; simp at hu; rcases hu with rfl | rfl <;> rfl
  · intro v' w' hown' hgrow _
    refine h v' w' (by rw [shc_snoc]; exact hown') ?_
    exact ((Below.refl _ _).alloc hbase _).grown hgrow (by simp; omega) (fun k hk => (hown.lt k hk).1)

theorem RdS.own {w : World} {base n : Nat} {E : TypeId} {v : Value} {l : List (Int × Int)} (h : w.ownsRow base E 2 v n (shc l)) (hl : l.length = n)
    (hb : ∀ i, i < n → (-9223372036854775808 ≤ (l.getD i (0, 0)).1 ∧ (l.getD i (0, 0)).1 ≤ 9223372036854775807) ∧ 0 ≤ (l.getD i (0, 0)).2 ∧ (l.getD i (0, 0)).2 ≤ 18446744073709551615) : ∃ a c, v = .slice a n c ∧ RdS w a n c l := by
  rcases h.2 with ⟨rfl, rfl⟩ | ⟨g, cap, cur, rfl, hb', hg, h1, h2, hs, ht⟩
  · exact ⟨none, 0, rfl, ⟨hl, Nat.le_refl _, Nat.zero_le _, hb, fun _ => rfl, by simp⟩⟩
  · refine ⟨_, _, rfl, ⟨hl, h1, h2, hb, by simp, fun x hx i hi => ?_⟩⟩
    obtain rfl := Option.some.inj hx
    have := shc_get l i (by omega)
    exact ⟨h.cells (g := g) rfl _ _ this.1, h.cells (g := g) rfl _ _ this.2⟩

/-- What uint64 makes of an int. -/
def u64of (x : Int) : Int := IntKind.u64.wrap x
theorem u64of_bd (x : Int) : 0 ≤ u64of x ∧ u64of x ≤ 18446744073709551615 := by
  unfold u64of IntKind.wrap
  simp [IntKind.signed, IntKind.bits]
  omega
theorem u64of_id {x : Int} (h0 : 1 ≤ x) (h1 : x ≤ 2147483646) : u64of x = x := by
  unfold u64of IntKind.wrap
  simp [IntKind.signed, IntKind.bits]
  omega
theorem own_below2 {w w' : World} {base n : Nat} {E : TypeId} {v : Value} {xs : List Value} (h : w.ownsRow base E 2 v n xs) (hb : Below w.heap.size w w') : w'.ownsRow base E 2 v n xs :=
  h.kept (grown_below hb none) (by cases hv : v.ownBlock <;> simp)
/-- The shares of the first k places. -/
def shk (X : List Int) (ts : List Int) (k : Nat) : List (Int × Int) := (ts.take k).map fun t => (t, nm (ev X (u64of t)))
theorem shk_len (X ts : List Int) (k : Nat) (h : k ≤ ts.length) : (shk X ts k).length = k := by simp [shk]; omega
theorem shk_step (X ts : List Int) {k : Nat} (h : k < ts.length) {x : Int} (hx : ts.getD k 0 = x) : shk X ts k ++ [(x, nm (ev X (u64of x)))] = shk X ts (k + 1) := by
  unfold shk
  rw [List.take_succ_eq_append_getElem h, List.map_append]
  have e : ts[k] = x := by rw [← hx, List.getD_eq_getElem?_getD, List.getElem?_eq_getElem h]; rfl
  rw [e]
  rfl
theorem shk_getD (X ts : List Int) {k i : Nat} (h : k ≤ ts.length) (hi : i < k) : (shk X ts k).getD i (0, 0) = (ts.getD i 0, nm (ev X (u64of (ts.getD i 0)))) := by
  unfold shk
  simp [hi, List.getElem?_eq_getElem (show i < ts.length by omega)]

theorem infoSh : (Try.prog.info? 38).map (fun i => (i.zero, i.size, i.bytes)) = some (some (.agg #[.int .i64 0, .int .u64 0]), 2, 16) := by kernel_rfl

/-- The shares {1, 5}, {2, 7}, as the text lays them. -/
theorem rdS_known (w : World) (E : TypeId) : RdS (w.alloc (.cells #[.int .i64 1, .int .u64 5, .int .i64 2, .int .u64 7] E)) (some ⟨w.heap.size, 0, none⟩) 2 2 [(1, 5), (2, 7)] := by
  refine ⟨rfl, Nat.le_refl _, by unfold maxLen; omega, fun i hi => ?_, by simp, fun x hx i hi => ?_⟩
  · match i, hi with
    | 0, _ => decide
    | 1, _ => decide
  · obtain rfl := Option.some.inj hx
    rw [Addr.add_lit, Addr.add_lit, cell_of_row _ _ _ _ E (0, 0) (heap_alloc_new w _), cell_of_row _ _ _ _ E (0, 0) (heap_alloc_new w _)]
    match i, hi with
    | 0, _ => exact ⟨rfl, rfl⟩
    | 1, _ => exact ⟨rfl, rfl⟩
theorem okk_known : okk [(1, 5), (2, 7)] 2 := by
  intro i hi
  match i, hi with
  | 0, _ => exact ⟨by decide, fun j hj => by omega⟩
  | 1, _ => exact ⟨by decide, fun j hj => by
      match j, hj with
      | 0, _ => decide⟩
theorem through_known {S : List Int} (hl : S.length = 2) (hb : ∀ x ∈ S, 0 ≤ x ∧ x ≤ 2147483646) (hv : ∀ j, j < 2 → nm (ev S (([(1, 5), (2, 7)] : List (Int × Int)).getD j (0, 0)).1) = nm (([(1, 5), (2, 7)] : List (Int × Int)).getD j (0, 0)).2) : trm S = [3, 2] := by
  have h1 := one_through (l := [(1, 5), (2, 7)]) (n := 2) (p := S) (q := [3, 2]) rfl okk_known (by omega) (by decide) hv (fun j hj => by
    match j, hj with
    | 0, _ => decide
    | 1, _ => decide)
  have h2 : nrm S = trm S := by unfold nrm; rw [nz_id hb]
  rw [← h2, h1]
  decide

set_option maxHeartbeats 1000000 in
theorem polyPointsW (a0 : Option Addr) (len0 cap0 : Nat) (X0 : List Int) (a1 : Option Addr) (len1 cap1 : Nat) (T0 : List Int) (w : World) (h0 : Rd w a0 len0 cap0 X0) (g0 : RdI w a1 len1 cap1 T0) :
    Calls Try.prog 4 #[.slice a0 len0 cap0, .slice a1 len1 cap1] w fun e w' => e = .returned (.bool true) ∧ Below w.heap.size w w' := by
  have hc0 := h0.cap
  have hc1 := g0.cap
  have hm0 : cap0 ≤ 9223372036854775807 := by have := h0.max; unfold maxLen at this; omega
  have hm1 : cap1 ≤ 9223372036854775807 := by have := g0.max; unfold maxLen at this; omega
  have g := g0.take (k := min 12 len1) (by omega)
  obtain ⟨m, hm⟩ : ∃ m, m = min 12 len1 := ⟨_, rfl⟩
  rw [← hm] at g
  have hA := h0.take (k := min m len0) (by omega)
  obtain ⟨n, hn⟩ : ∃ n, n = min m len0 := ⟨_, rfl⟩
  rw [← hn] at hA
  have Hn : Hid (min m len0 = n) := hn.symm
  have hm12 : m ≤ 12 := by omega
  have hnm : n ≤ m := by omega
  have hml : m ≤ len1 := by omega
  generalize X0.take n = X at hA
  generalize T0.take m = T at g
  have hlT := g.len
  have hlX := hA.len
  go_enter Try.func4, Try.ntmps4
  go_wp2_with fail
  have hb1 := below_one w (.cells #[.int .i64 1, .int .u64 5, .int .i64 2, .int .u64 7] 38)
  have r1 := rdS_known w 38
  generalize w.alloc (.cells #[.int .i64 1, .int .u64 5, .int .i64 2, .int .u64 7] 38) = v1 at *
  refine (cThroughOK _ _ _ _ _ r1 (by omega) okk_known).mono ?_
  rintro e v2 ⟨S, g2, rfl, hls, hbs, hvs, hr2, hb2⟩
  rw [through_known hls hbs hvs] at hr2
  have hw2 := hb1.trans (hb2.mono hb1.size)
  obtain ⟨tS, htS⟩ : ∃ tS, tS = tl S 2 := ⟨_, rfl⟩
  rw [← htS] at hr2 ⊢
  clear htS hls hbs hvs hb1 hb2 r1
  have hb3 := below_one v2 (.cells #[.int .u64 3, .int .u64 2] 23)
  have r3 := rd_of2 v2 (x := 3) (y := 2) (by omega) (by omega)
  go_wp2_with fail
  generalize v2.alloc (.cells #[.int .u64 3, .int .u64 2] 23) = v3 at *
  have hw3 := hw2.trans (hb3.mono hw2.size)
  refine (cSame _ _ _ _ _ _ _ _ (hr2.below hb3) r3).mono ?_
  rintro e v4 ⟨rfl, hb4⟩
  have hw4 := hw3.trans (hb4.mono hw3.size)
  clear hb4 hw3 hb3 r3 hr2 hw2
  go_wp2_with fail
  case inl =>
    have e : len1 = m := by omega
    rw [e]
    clear e hml hm hn
    refine (kShort _ _ _ m _ (by omega) (by omega)).mono ?_
    rintro e v5 ⟨rfl, hw⟩
    have hw := hw.symm
    subst hw
    rw [Hn.out]
    go_wp2
    go_loopw [7, 42] (fun v i wr => ∃ k : Nat, k ≤ m ∧ i = .int .i64 k ∧ wr.ownsRow w.heap.size 38 2 v k (shc (shk X T k)) ∧ Below w.heap.size w wr) (fun _ i _ => m - (intOf i).toNat)
    case atStart => exact ⟨0, Nat.zero_le _, rfl, World.ownsRow_nil _ _ _ _, hw4⟩
    case round =>
      obtain ⟨k, hk, rfl, hown, hbel⟩ := hrel
      by_cases hlt : k < m
      · obtain ⟨b, o, x, rfl, hbb, HX, hx0, hx1, hcx⟩ := (g.below hbel).one hlt
        have hub := u64of_bd x
        have HU : Hid (IntKind.u64.wrap x = u64of x) := rfl
        have hyb := nm_bd (ev X (u64of x))
        have HS : Hid (shk X T k ++ [(x, nm (ev X (u64of x)))] = shk X T (k + 1)) := shk_step X T (by omega) HX.out
        go_wp2_with fail
        rw [HU.out]
        refine (cEvalOK _ _ _ _ _ _ (hA.below hbel) (by omega) hub.1 hub.2).mono ?_
        rintro e v6 ⟨rfl, hb6⟩
        have hown6 := own_below2 hown hb6
        have hbel6 := hbel.trans (hb6.mono hbel.size)
        have hs6 := hbel6.size
        clear hown hbel hb6 hcx
        go_wp2_with (at_builtin; refine wpList_appS Try.underlying39 infoSh _ rfl _ _ rfl w.heap.size _ _ _ rfl hown6 _ _ rfl (by omega) (by omega) ?_; intro v' w7 hown7 hbel7; rw [HS.out] at hown7; have hbel8 := hbel6.trans hbel7; clear hown6 hbel6 hbel7)
        go_roundw
        case rel => exact ⟨k + 1, by omega, by go_num, hown7, hbel8⟩
        case measure => simp [intOf]; omega
      · have hkm : k = m := by omega
        subst hkm
        have hlk := shk_len X T k (by omega)
        have hbd : ∀ i, i < k → (-9223372036854775808 ≤ ((shk X T k).getD i (0, 0)).1 ∧ ((shk X T k).getD i (0, 0)).1 ≤ 9223372036854775807) ∧ 0 ≤ ((shk X T k).getD i (0, 0)).2 ∧ ((shk X T k).getD i (0, 0)).2 ≤ 18446744073709551615 := fun i hi => by
          rw [shk_getD X T (by omega) hi]
          have h1 := g.bd (T.getD i 0) (getD_mem (by omega))
          have h2 := nm_bd (ev X (u64of (T.getD i 0)))
          exact ⟨h1, h2.1, by simp only; omega⟩
        obtain ⟨al, cl, rfl, hl⟩ := RdS.own hown hlk hbd
        by_cases ho : okk (shk X T k) k
        · have HO : Hid (okk (shk X T k) k) := ho
          clear ho hbd hown
          go_wp2_with fail
          refine (cThroughOK _ _ _ _ _ hl (by omega) HO.out).mono ?_
          rintro e v7 ⟨S, g7, rfl, hls, hbs, hvs, hr7, hb7⟩
          have HE : Hid (trm S = nrm X) := by
            have h1 := one_through hlk HO.out (p := S) (q := X) (by omega) (by omega) hvs (fun j hj => by
              have h2 := (HO.out j hj).1
              rw [shk_getD X T (by omega) hj] at h2 ⊢
              rw [nm_nm, u64of_id (by simp only at h2; omega) (by simp only at h2; omega)])
            unfold Hid
            rw [← h1]
            unfold nrm
            rw [nz_id hbs]
          rw [HE.out] at hr7
          have hw7 := hbel.trans (hb7.mono hbel.size)
          obtain ⟨tS, htS⟩ : ∃ tS, tS = tl S k := ⟨_, rfl⟩
          rw [← htS] at hr7 ⊢
          clear htS hls hbs hvs hb7 hl hbel
          go_wp2_with fail
          refine (cNormOK _ _ _ _ _ (hA.below hw7) (by omega)).mono ?_
          rintro e v8 ⟨rfl, hr8, hb8⟩
          have hw8 := hw7.trans (hb8.mono hw7.size)
          have hr7' := hr7.below hb8
          clear hr7 hb8 hw7
          go_wp2_with fail
          refine (cSame _ _ _ _ _ _ _ _ hr7' hr8).mono ?_
          rintro e v9 ⟨rfl, hb9⟩
          have hw9 := hw8.trans (hb9.mono hw8.size)
          clear hr7' hr8 hb9 hw8
          go_wp2
          go_ret
          exact ⟨rfl, hw9⟩
        · have HO : Hid (¬ okk (shk X T k) k) := ho
          clear ho hbd hown
          go_wp2_with fail
          refine (cThroughN _ _ _ _ _ hl (by omega) HO.out).mono ?_
          rintro e v7 ⟨rfl, hb7⟩
          have hw7 := hbel.trans (hb7.mono hbel.size)
          have hl7 := hl.below hb7
          clear hl hb7 hbel
          go_wp2_with fail
          refine (rAts _ _ _ _ _ hl7 (by omega)).mono ?_
          rintro e v8 ⟨r, rfl, hr, hb8⟩
          obtain rfl : r = false := by cases r with | false => rfl | true => exact absurd (hr.1 rfl) HO.out
          clear hr
          have hw8 := hw7.trans (hb8.mono hw7.size)
          go_wp2
          go_ret
          exact ⟨rfl, hw8⟩
  case inr =>
    have e : m = 12 := by omega
    rw [show (max 12 0 : Int) = (m : Int) from by rw [e]; rfl, show Value.slice a1 12 cap1 = Value.slice a1 m cap1 from by rw [e]]
    clear e hml hm hn
    refine (kShort _ _ _ m _ (by omega) (by omega)).mono ?_
    rintro e v5 ⟨rfl, hw⟩
    have hw := hw.symm
    subst hw
    rw [Hn.out]
    go_wp2
    go_loopw [7, 42] (fun v i wr => ∃ k : Nat, k ≤ m ∧ i = .int .i64 k ∧ wr.ownsRow w.heap.size 38 2 v k (shc (shk X T k)) ∧ Below w.heap.size w wr) (fun _ i _ => m - (intOf i).toNat)
    case atStart => exact ⟨0, Nat.zero_le _, rfl, World.ownsRow_nil _ _ _ _, hw4⟩
    case round =>
      obtain ⟨k, hk, rfl, hown, hbel⟩ := hrel
      by_cases hlt : k < m
      · obtain ⟨b, o, x, rfl, hbb, HX, hx0, hx1, hcx⟩ := (g.below hbel).one hlt
        have hub := u64of_bd x
        have HU : Hid (IntKind.u64.wrap x = u64of x) := rfl
        have hyb := nm_bd (ev X (u64of x))
        have HS : Hid (shk X T k ++ [(x, nm (ev X (u64of x)))] = shk X T (k + 1)) := shk_step X T (by omega) HX.out
        go_wp2_with fail
        rw [HU.out]
        refine (cEvalOK _ _ _ _ _ _ (hA.below hbel) (by omega) hub.1 hub.2).mono ?_
        rintro e v6 ⟨rfl, hb6⟩
        have hown6 := own_below2 hown hb6
        have hbel6 := hbel.trans (hb6.mono hbel.size)
        have hs6 := hbel6.size
        clear hown hbel hb6 hcx
        go_wp2_with (at_builtin; refine wpList_appS Try.underlying39 infoSh _ rfl _ _ rfl w.heap.size _ _ _ rfl hown6 _ _ rfl (by omega) (by omega) ?_; intro v' w7 hown7 hbel7; rw [HS.out] at hown7; have hbel8 := hbel6.trans hbel7; clear hown6 hbel6 hbel7)
        go_roundw
        case rel => exact ⟨k + 1, by omega, by go_num, hown7, hbel8⟩
        case measure => simp [intOf]; omega
      · have hkm : k = m := by omega
        subst hkm
        have hlk := shk_len X T k (by omega)
        have hbd : ∀ i, i < k → (-9223372036854775808 ≤ ((shk X T k).getD i (0, 0)).1 ∧ ((shk X T k).getD i (0, 0)).1 ≤ 9223372036854775807) ∧ 0 ≤ ((shk X T k).getD i (0, 0)).2 ∧ ((shk X T k).getD i (0, 0)).2 ≤ 18446744073709551615 := fun i hi => by
          rw [shk_getD X T (by omega) hi]
          have h1 := g.bd (T.getD i 0) (getD_mem (by omega))
          have h2 := nm_bd (ev X (u64of (T.getD i 0)))
          exact ⟨h1, h2.1, by simp only; omega⟩
        obtain ⟨al, cl, rfl, hl⟩ := RdS.own hown hlk hbd
        by_cases ho : okk (shk X T k) k
        · have HO : Hid (okk (shk X T k) k) := ho
          clear ho hbd hown
          go_wp2_with fail
          refine (cThroughOK _ _ _ _ _ hl (by omega) HO.out).mono ?_
          rintro e v7 ⟨S, g7, rfl, hls, hbs, hvs, hr7, hb7⟩
          have HE : Hid (trm S = nrm X) := by
            have h1 := one_through hlk HO.out (p := S) (q := X) (by omega) (by omega) hvs (fun j hj => by
              have h2 := (HO.out j hj).1
              rw [shk_getD X T (by omega) hj] at h2 ⊢
              rw [nm_nm, u64of_id (by simp only at h2; omega) (by simp only at h2; omega)])
            unfold Hid
            rw [← h1]
            unfold nrm
            rw [nz_id hbs]
          rw [HE.out] at hr7
          have hw7 := hbel.trans (hb7.mono hbel.size)
          obtain ⟨tS, htS⟩ : ∃ tS, tS = tl S k := ⟨_, rfl⟩
          rw [← htS] at hr7 ⊢
          clear htS hls hbs hvs hb7 hl hbel
          go_wp2_with fail
          refine (cNormOK _ _ _ _ _ (hA.below hw7) (by omega)).mono ?_
          rintro e v8 ⟨rfl, hr8, hb8⟩
          have hw8 := hw7.trans (hb8.mono hw7.size)
          have hr7' := hr7.below hb8
          clear hr7 hb8 hw7
          go_wp2_with fail
          refine (cSame _ _ _ _ _ _ _ _ hr7' hr8).mono ?_
          rintro e v9 ⟨rfl, hb9⟩
          have hw9 := hw8.trans (hb9.mono hw8.size)
          clear hr7' hr8 hb9 hw8
          go_wp2
          go_ret
          exact ⟨rfl, hw9⟩
        · have HO : Hid (¬ okk (shk X T k) k) := ho
          clear ho hbd hown
          go_wp2_with fail
          refine (cThroughN _ _ _ _ _ hl (by omega) HO.out).mono ?_
          rintro e v7 ⟨rfl, hb7⟩
          have hw7 := hbel.trans (hb7.mono hbel.size)
          have hl7 := hl.below hb7
          clear hl hb7 hbel
          go_wp2_with fail
          refine (rAts _ _ _ _ _ hl7 (by omega)).mono ?_
          rintro e v8 ⟨r, rfl, hr, hb8⟩
          obtain rfl : r = false := by cases r with | false => rfl | true => exact absurd (hr.1 rfl) HO.out
          clear hr
          have hw8 := hw7.trans (hb8.mono hw7.size)
          go_wp2
          go_ret
          exact ⟨rfl, hw8⟩
end Go.Proofs.Ytihiolnagcelkad
