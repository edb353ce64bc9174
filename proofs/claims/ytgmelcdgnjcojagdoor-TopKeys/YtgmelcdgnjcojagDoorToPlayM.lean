/- A piece of a slice: x[l:h]. · croftref.Times. · croftref.Played: what each party has seen so far, and the wires' numbers: memory. -/
import Derived.Test.YtgmelcdgnjcojagDoorToPolyM
import Derived.Test.YtgmelcdgnjcojagDoorToGateM
import Derived.Test.YtgmelcdgnjcojagDoorToLsV
import Derived.Test.YtgmelcdgnjcojagDoorToTellsM
import Derived.Test.YtgmelcdgnjcojagDoorToRefProdC
import Derived.Test.YtgmelcdgnjcojagDoorToRefPolyC
import Derived.Test.YtgmelcdgnjcojagDoorToIntsC
import Derived.Test.YtgmelcdgnjcojagDoorToRefWtC
import Derived.BigQuiet
import Derived.Test.YtgmelcdgnjcojagDoorToKeySt
namespace Go.Proofs.YtgmelcdgnjcojagDoor
open Go.RowKit

/-- Where a piece lies. -/
def subA (a : Option Addr) (c lo : Nat) : Option Addr := if c = lo then a else a.map (·.add lo)
theorem Rd.sub {w : World} {a : Option Addr} {n c : Nat} {xs : List Int} (h : Rd w a n c xs) {lo k : Nat} (hk : lo + k ≤ n) : Rd w (subA a c lo) k (c - lo) ((xs.drop lo).take k) := by
  have hl := h.len
  have hc := h.cap
  have hm := h.max
  refine ⟨by simp; omega, by omega, by omega, fun x hx => h.bd x (List.mem_of_mem_drop (List.mem_of_mem_take hx)), fun e => ?_, fun x hx i hi => ?_⟩
  · unfold subA at e
    split at e
    · omega
    · cases a with
      | none => have := h.nil rfl; omega
      | some y => simp at e
  · obtain ⟨b, o, rfl, _, hcell⟩ := h.at (k := lo + i) (by omega)
    unfold subA at hx
    rw [if_neg (by omega), Option.map_some] at hx
    obtain rfl := Option.some.inj hx
    rw [Addr.add_lit, Addr.add_lit, Nat.add_assoc, hcell (lo + i) (by omega)]
    congr 2
    simp [hi]
/-- .. as a walk meets it. -/
theorem run_sub {P : Program} {T E : TypeId} (hT : P.underlying T = some (.slice E)) (hE : (P.info? E).map (·.size) = some 1) (a : Option Addr) (n c lo k : Nat) {l h : Int} (hl : l = (lo : Int)) (hh : h = (lo : Int) + (k : Int)) (hc : lo + k ≤ c) (W : World) :
    (Instr.sliceAt T (.slice a n c) (some (.int .i64 l)) (some (.int .i64 h)) none).run P W = .ok (.slice (subA a c lo) k (c - lo)) W := by
  subst hl hh
  have he : P.elem T = E := by simp [Program.elem, hT]
  have hT' : P.underlying T = some (.slice (P.elem T)) := by rw [he]; exact hT
  have e1 : ((lo : Int) + (k : Int)).toNat = lo + k := by omega
  cases hi : P.info? E with
  | none => simp [hi] at hE
  | some i =>
    have hs : i.size = 1 := by simpa [hi] using hE
    rw [run_sliceAt_slice W T _ _ _ _ hT', run_slice_lh W T a n c hT' .i64 .i64 (lo : Int) ((lo : Int) + (k : Int)) (by omega) (by omega) (by omega), he, e1]
    simp [sizeOf, typeInfo, hi, hs, sliced, subA, Result.andThen]
theorem run_subl {P : Program} {T E : TypeId} (hT : P.underlying T = some (.slice E)) (hE : (P.info? E).map (·.size) = some 1) (a : Option Addr) (n c lo : Nat) {l : Int} (hl : l = (lo : Int)) (hn : lo ≤ n) (W : World) :
    (Instr.sliceAt T (.slice a n c) (some (.int .i64 l)) none none).run P W = .ok (.slice (subA a c lo) (n - lo) (c - lo)) W := by
  subst hl
  have he : P.elem T = E := by simp [Program.elem, hT]
  have hT' : P.underlying T = some (.slice (P.elem T)) := by rw [he]; exact hT
  cases hi : P.info? E with
  | none => simp [hi] at hE
  | some i =>
    have hs : i.size = 1 := by simpa [hi] using hE
    rw [run_sliceAt_slice W T _ _ _ _ hT', run_slice_l W T a n c hT' .i64 (lo : Int) (by omega) (by omega), he]
    simp [sizeOf, typeInfo, hi, hs, sliced, subA, Result.andThen]
end Go.Proofs.YtgmelcdgnjcojagDoor

namespace Go.Proofs.YtgmelcdgnjcojagDoor
open Go.RowKit Crm

theorem infoVs : (Tryd.prog.info? 22).map (fun i => (i.zero, i.size, i.bytes)) = some (some (.slice none 0 0), 1, 24) := by kernel_rfl

theorem wrap_i64 {x : Int} (h0 : -1000000 ≤ x) (h1 : x ≤ 1000000) : IntKind.i64.wrap x = x := by
  unfold IntKind.wrap
  simp [IntKind.signed, IntKind.bits]
  omega
/-- Rows that lie elsewhere. -/
def Far (L : List Value) (n lo hi : Nat) : Prop := ∀ p, p < n → ∀ gg, (L.getD p (.slice none 0 0)).ownBlock = some gg → gg < lo ∨ hi ≤ gg
theorem map_getDN {f : Nat → Int} {m i : Nat} (h : i < m) : ((List.range m).map f).getD i 0 = f i := by simp [h]
theorem infoS1 : (Tryd.prog.info? 34).map (·.size) = some 1 := by kernel_rfl
/-- What all were dealt by the first i. -/
def gti (t : Nat) (xs ys ds : List Int) (n i : Nat) : List (List Int) := (List.range n).map fun j => tmR t xs ys ds i j
theorem gti_len (t : Nat) (xs ys ds : List Int) (n i : Nat) : (gti t xs ys ds n i).length = n := by simp [gti]
theorem gti_zero (t : Nat) (xs ys ds : List Int) (n : Nat) : List.replicate n [] = gti t xs ys ds n 0 := by
  apply List.ext_getElem?
  intro i
  by_cases hi : i < n
  · simp [gti, tmR, hi]
  · simp [gti, hi]
/-- .. and the first j of them by one more. -/
def gtj (t : Nat) (xs ys ds : List Int) (n i j : Nat) : List (List Int) := (List.range n).map fun p => if p < j then tmR t xs ys ds (i + 1) p else tmR t xs ys ds i p
theorem gtj_len (t : Nat) (xs ys ds : List Int) (n i j : Nat) : (gtj t xs ys ds n i j).length = n := by simp [gtj]
theorem gtj_zero (t : Nat) (xs ys ds : List Int) (n i : Nat) : gtj t xs ys ds n i 0 = gti t xs ys ds n i := by simp [gtj, gti]
theorem gtj_full (t : Nat) (xs ys ds : List Int) (n i : Nat) : gtj t xs ys ds n i n = gti t xs ys ds n (i + 1) := by
  unfold gtj gti
  refine List.map_congr_left fun p hp => ?_
  rw [if_pos (List.mem_range.1 hp)]
theorem gtj_getD (t : Nat) (xs ys ds : List Int) {n i j : Nat} (h : j < n) : (gtj t xs ys ds n i j).getD j [] = tmR t xs ys ds i j := by simp [gtj, h]
theorem gti_getD (t : Nat) (xs ys ds : List Int) {n i j : Nat} (h : j < n) : (gti t xs ys ds n i).getD j [] = tmR t xs ys ds i j := by simp [gti, h]
theorem gtj_set (t : Nat) (xs ys ds : List Int) (n i j : Nat) : (gtj t xs ys ds n i j).set j (tmR t xs ys ds (i + 1) j) = gtj t xs ys ds n i (j + 1) := by
  apply List.ext_getElem?
  intro q
  rw [List.getElem?_set]
  by_cases hq : q < n
  · by_cases e : j = q
    · subst e; simp [gtj, hq]
    · have : (q < j + 1) = (q < j) := by apply propext; omega
      simp [gtj, hq, e, this]
  · by_cases e : j = q
    · subst e; simp [gtj, hq]
    · simp [gtj, hq, e]

end Go.Proofs.YtgmelcdgnjcojagDoor

namespace Go.Proofs.YtgmelcdgnjcojagDoor
open Go.RowKit Crm

/-- append of a list that is read to a slice that the call itself gathers, a step of a region that draws; where it lies. -/
theorem step_appM {P : Program} {T E : TypeId} (hT : P.underlying T = some (.slice E)) (info : (P.info? E).map (fun i => (i.zero, i.size, i.bytes)) = some (some (.int .u64 0), 1, 8))
    (w : World) {ops : Array Oper} {o : Oper} {a : Act} {K : Act → World → Prop} {Q : Exit → Act → World → Prop} {F : Prop} (hgd : o.guard = none) (s x : Operand)
    (ho : o.op = .call { callee := .builtin .append, args := #[s, x], argTypes := #[T, T] })
    (base : Nat) (v : Value) (n : Nat) (xs : List Int) (hs : a.eval s = v) (hown : w.ownsRow base E 1 v n (xs.map (Value.int .u64))) (b o2 m c : Nat) (ys : List Int) (hr : Rd w (some ⟨b, o2, none⟩) m c ys) (hx : a.eval x = .slice (some ⟨b, o2, none⟩) m c)
    (hm : 0 < m) (hn : n + m ≤ 1000000) (hbase : base ≤ w.heap.size)
    (h : ∀ g cap w', w'.ownsRow base E 1 (.slice (some ⟨g, 0, none⟩) (n + m) cap) (n + m) ((xs ++ ys).map (Value.int .u64)) → w.grownBy w' v.ownBlock → ((Value.slice (some ⟨g, 0, none⟩) (n + m) cap).ownBlock = v.ownBlock ∨ ∃ k, (Value.slice (some ⟨g, 0, none⟩) (n + m) cap).ownBlock = some k ∧ w.heap.size ≤ k) → K (a.put o.dst (.slice (some ⟨g, 0, none⟩) (n + m) cap)) w') :
    if Region.wanted o (yielded ops a.tmps) = true then Oper.wp P o a w K Q else F := by
  obtain ⟨i0, hi, hz0, hz1, hz2⟩ := info_parts info
  have hyl := hr.len
  refine step_append_lies _ hgd s x T ho base E i0 (.int .u64 0) 1 8 hT hi hz0 hz1 hz2 rfl (by decide) v n _ hs hown ⟨b, o2, none⟩ m c (ys.map (Value.int .u64)) hx (by simp [hyl]) ?_ ?_ hm (by unfold maxLen; omega) (by omega) hbase _ rfl ?_
  · intro j u hj
    have hjm : j < m := by
      have := (List.getElem?_eq_some_iff.1 hj).1
      simp at this
      omega
    rw [hr.cell _ rfl j hjm]
    rw [List.getElem?_map, List.getElem?_eq_getElem (by omega)] at hj
    simp only [Option.map_some, Option.some.injEq] at hj
    rw [← hj, List.getD_eq_getElem?_getD, List.getElem?_eq_getElem (by omega)]
    rfl
  · intro u hu
    obtain ⟨z, _, rfl⟩ := List.mem_map.1 hu
    rfl
  · intro g cap w' hown' hgrow h4 _
    refine h g cap w' (by rw [List.map_append]; exact hown') hgrow ?_
    rcases h4 with e | e
    · exact .inl (by rw [e]; rfl)
    · exact .inr ⟨g, rfl, by omega⟩
/-- What is gathered: what each party has seen, and the wires; what was made between lo and hi lies apart from what is seen. -/
structure Sen (w wr : World) (gs n : Nat) (Ls : List Value) (S : List (List Int)) (vW : Value) (LW : List Value) (W : List (List Int)) (lo hi : Nat) : Prop where
  seen : LsV wr w.heap.size (.slice (some ⟨gs, 0, none⟩) n n) Ls S
  len : S.length = n
  wires : LsV wr w.heap.size vW LW W
  apt : Apt Ls LW
  out : vW.ownBlock ≠ some gs
  far : Far Ls n lo hi
  gl : gs < lo
  hi : hi ≤ wr.heap.size
  bel : Below w.heap.size w wr
theorem Sen.drew {w wr : World} {gs n : Nat} {Ls : List Value} {S : List (List Int)} {vW : Value} {LW : List Value} {W : List (List Int)} {lo hi : Nat} (h : Sen w wr gs n Ls S vW LW W lo hi) : Sen w wr.drew gs n Ls S vW LW W lo hi :=
  ⟨h.seen.drew, h.len, h.wires.drew, h.apt, h.out, h.far, h.gl, h.hi, h.bel.drew⟩
theorem Sen.below {w wr w' : World} {gs n : Nat} {Ls : List Value} {S : List (List Int)} {vW : Value} {LW : List Value} {W : List (List Int)} {lo hi : Nat} (h : Sen w wr gs n Ls S vW LW W lo hi) (hb : Below wr.heap.size wr w') : Sen w w' gs n Ls S vW LW W lo hi :=
  ⟨h.seen.below hb, h.len, h.wires.below hb, h.apt, h.out, h.far, h.gl, Nat.le_trans h.hi hb.size, h.bel.trans (hb.mono h.bel.size)⟩
/-- A row of the call's that was made between lo and hi stays while what is seen grows. -/
def Btw (lo hi : Nat) (v : Value) : Prop := ∀ b, v.ownBlock = some b → lo ≤ b ∧ b < hi
/-- What party j has seen grows. -/
theorem Sen.put {w wr w7 : World} {gs n j : Nat} {Ls : List Value} {S : List (List Int)} {vW v7 : Value} {LW : List Value} {W : List (List Int)} {lo hi : Nat} {row : List Int} (h : Sen w wr gs n Ls S vW LW W lo hi) (hj : j < n)
    (ho : w7.ownsRow w.heap.size 34 1 v7 row.length (row.map (Value.int .u64))) (hg : wr.grownBy w7 (Ls.getD j (.slice none 0 0)).ownBlock) (hat : v7.ownBlock = (Ls.getD j (.slice none 0 0)).ownBlock ∨ ∃ k, v7.ownBlock = some k ∧ wr.heap.size ≤ k) :
    Sen w (w7.setCell ⟨gs, j, none⟩ v7) gs n (Ls.set j v7) (S.set j row) vW LW W lo hi := by
  have hrow := h.seen.row j (by rw [h.len]; exact hj)
  have hE : (34 : TypeId) ≠ 22 := by decide
  have hg2 : w7.grownBy (w7.setCell ⟨gs, j, none⟩ v7) (some gs) := grown_set _ _ _ _
  have hgs := (h.seen.cell h.len hj).2.2
  have hLl : j < Ls.length := by rw [h.seen.len, h.len]; exact hj
  have hWb := h.wires.blk
  have hW7 : LsV w7 w.heap.size vW LW W := h.wires.grown hg (own_apart hrow h.wires.own hE) (fun i _ => h.apt.symm i j)
  have hW8 : LsV (w7.setCell ⟨gs, j, none⟩ v7) w.heap.size vW LW W := by
    refine hW7.grown hg2 (.inr h.out) (fun i hi => ?_)
    have ho7 := h.seen.own.kept hg (own_apart hrow h.seen.own hE)
    exact own_apart ho7 (hW7.row i hi) (by decide)
  refine ⟨h.seen.upd h.len hj ho hg hat, by rw [List.length_set]; exact h.len, hW8, h.apt.set hLl (H := wr.heap.size) (fun i k hk => (hWb i k hk).2) hat, h.out, fun p hp gg hgg => ?_, h.gl, ?_, ?_⟩
  · rw [getD_setV _ _ _ _ _ hLl] at hgg
    split at hgg
    · rcases hat with e | ⟨k, e, hk⟩
      · rw [e] at hgg
        exact h.far j hj gg hgg
      · rw [e] at hgg
        obtain rfl := Option.some.inj hgg
        right
        exact Nat.le_trans h.hi hk
    · exact h.far p hp gg hgg
  · exact Nat.le_trans h.hi (Nat.le_trans hg.size hg2.size)
  · have hb7 : Below w.heap.size w w7 := h.bel.grown hg h.bel.size (fun q hq => (hrow.lt q hq).1)
    exact hb7.setCell (p := ⟨gs, j, none⟩) (h.seen.own.lt gs rfl).1 _
theorem Sen.keep {w wr w7 : World} {gs n j : Nat} {Ls : List Value} {S : List (List Int)} {vW v7 : Value} {LW : List Value} {W : List (List Int)} {lo hi B2 k z : Nat} {E : TypeId} {v : Value} {xs : List Value} (h : Sen w wr gs n Ls S vW LW W lo hi) (hj : j < n)
    (hx : wr.ownsRow B2 E z v k xs) (hv : Btw lo hi v) (hg : wr.grownBy w7 (Ls.getD j (.slice none 0 0)).ownBlock) : (w7.setCell ⟨gs, j, none⟩ v7).ownsRow B2 E z v k xs := by
  have h1 : v.ownBlock = none ∨ v.ownBlock ≠ (Ls.getD j (.slice none 0 0)).ownBlock := by
    cases hb : v.ownBlock with
    | none => exact .inl rfl
    | some b =>
      right
      intro e
      have h2 := hv b hb
      have h3 := h.far j hj b e.symm
      omega
  refine (hx.kept hg h1).kept (grown_set _ _ _ _) ?_
  cases hb : v.ownBlock with
  | none => exact .inl rfl
  | some b =>
    right
    intro e
    have h2 := hv b hb
    have h3 := h.gl
    have := Option.some.inj e
    omega
/-- Lists of rows that were made between. -/
theorem Sen.keepL {w wr w7 : World} {gs n j : Nat} {Ls : List Value} {S : List (List Int)} {vW v7 : Value} {LW : List Value} {W : List (List Int)} {lo hi B2 : Nat} {v : Value} {L : List Value} {rows : List (List Int)} (h : Sen w wr gs n Ls S vW LW W lo hi) (hj : j < n)
    (hx : LsV wr B2 v L rows) (hv : Btw lo hi v) (hL : ∀ i, Btw lo hi (L.getD i (.slice none 0 0))) (hg : wr.grownBy w7 (Ls.getD j (.slice none 0 0)).ownBlock) : LsV (w7.setCell ⟨gs, j, none⟩ v7) B2 v L rows :=
  ⟨h.keep hj hx.own hv hg, hx.len, fun i hi => h.keep hj (hx.row i hi) (hL i) hg, hx.inj⟩
/-- Rows of which the first q are longer. -/
def sgx (S : Nat → List Int) (X : Nat → List Int) (n q : Nat) : List (List Int) := (List.range n).map fun p => if p < q then S p ++ X p else S p
theorem sgx_len (S X : Nat → List Int) (n q : Nat) : (sgx S X n q).length = n := by simp [sgx]
theorem sgx_zero (S X : Nat → List Int) (n : Nat) : sgx S X n 0 = (List.range n).map S := by simp [sgx]
theorem sgx_full (S X : Nat → List Int) (n : Nat) : sgx S X n n = (List.range n).map fun p => S p ++ X p := by
  unfold sgx
  refine List.map_congr_left fun p hp => ?_
  rw [if_pos (List.mem_range.1 hp)]
theorem sgx_getD (S X : Nat → List Int) {n q : Nat} (h : q < n) : (sgx S X n q).getD q [] = S q := by simp [sgx, h]
theorem sgx_set (S X : Nat → List Int) (n q : Nat) : (sgx S X n q).set q (S q ++ X q) = sgx S X n (q + 1) := by
  apply List.ext_getElem?
  intro p
  rw [List.getElem?_set]
  by_cases hp : p < n
  · by_cases e : q = p
    · subst e; simp [sgx, hp]
    · have : (p < q + 1) = (p < q) := by apply propext; omega
      simp [sgx, hp, e, this]
  · by_cases e : q = p
    · subst e; simp [sgx, hp]
    · simp [sgx, hp, e]
end Go.Proofs.YtgmelcdgnjcojagDoor
