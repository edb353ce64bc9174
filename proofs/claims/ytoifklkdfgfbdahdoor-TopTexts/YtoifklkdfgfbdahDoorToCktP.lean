/- Gates that are read, their numbers told by their rests: plain facts; the first line of a text and the rest. · What the calls of package circuit answer. · Package circuit: Check. -/
import Derived.Test.YtoifklkdfgfbdahDoorToRLineC
import Derived.Test.YtoifklkdfgfbdahDoorToCutM
import Derived.Test.YtoifklkdfgfbdahDoorToGatesR
import Derived.Test.YtoifklkdfgfbdahDoorToOpenG
import Derived.Test.YtoifklkdfgfbdahDoorToGRightC
namespace Go.Proofs.YtoifklkdfgfbdahDoor
open Go.RowKit Crm

theorem gt_map (G : List Gt) (i : Nat) : gt (G.map nmg) i = nmg (gt G i) := by
  unfold gt
  rw [List.getD_eq_getElem?_getD, List.getD_eq_getElem?_getD, List.getElem?_map]
  cases G[i]? with
  | none => rfl
  | some g => rfl
theorem okg_nmz {i : Nat} {g : Gt} (h : g.k = 2 ∨ g.k = 6 ∨ g.n = 0) : okg i (nmg g) ↔ okg i g := by
  have n0 : nm 0 = 0 := rfl
  unfold okg nmg
  simp only
  rcases h with h | h | h
  · rw [h]; omega
  · rw [h]; omega
  · rw [h, n0]
theorem lng_zn {t : ByteArray} {g : Gt} (h : Lng t g) : g.k = 2 ∨ g.k = 6 ∨ g.n = 0 := by
  obtain ⟨k, hk, _, _, _, rfl⟩ := h
  rcases arn_of hk.1 hk.2 with ⟨rfl, _⟩ | ⟨rfl, _⟩ | ⟨rfl, _⟩ | ⟨h3, _⟩
  · exact .inr (.inr rfl)
  · exact .inl rfl
  · exact .inr (.inl rfl)
  · refine .inr (.inr ?_)
    unfold gof
    rw [if_neg (by omega), if_neg (by omega), if_neg (by omega)]
theorem Rds.zn {l : List ByteArray} : ∀ {i : Nat} {G : List Gt} {O : List Int}, Rds l i G O → ∀ g ∈ G, g.k = 2 ∨ g.k = 6 ∨ g.n = 0
  | 0, _, _, h, g, hg => by obtain ⟨rfl, rfl⟩ := h; simp at hg
  | i + 1, _, _, h, g, hg => by
    obtain ⟨G0, O0, h0, h1⟩ := h
    rcases h1 with ⟨g', a, _, rfl, rfl⟩ | ⟨x, _, rfl, rfl⟩
    · rcases List.mem_append.1 hg with hg | hg
      · exact h0.zn g hg
      · obtain rfl := List.mem_singleton.1 hg
        exact lng_zn a
    · exact h0.zn g hg
theorem Rds.len {l : List ByteArray} : ∀ {i : Nat} {G : List Gt} {O : List Int}, Rds l i G O → G.length + O.length = i
  | 0, _, _, h => by obtain ⟨rfl, rfl⟩ := h; rfl
  | i + 1, _, _, h => by
    obtain ⟨G0, O0, h0, h1⟩ := h
    have := h0.len
    rcases h1 with ⟨g', _, rfl, rfl, rfl⟩ | ⟨x, _, rfl, rfl⟩
    · simp at this ⊢; omega
    · simp; omega
theorem okG_nmz {G : List Gt} (h : ∀ g ∈ G, g.k = 2 ∨ g.k = 6 ∨ g.n = 0) (n : Nat) : okG (G.map nmg) n ↔ okG G n := by
  have hg : ∀ i, (gt G i).k = 2 ∨ (gt G i).k = 6 ∨ (gt G i).n = 0 := fun i => by
    by_cases hi : i < G.length
    · exact h _ (gt_mem hi)
    · refine .inr (.inr ?_)
      unfold gt
      rw [List.getD_eq_getElem?_getD, List.getElem?_eq_none (by omega)]
      rfl
  constructor
  · intro e i hi
    have := e i hi
    rw [gt_map] at this
    exact (okg_nmz (hg i)).1 this
  · intro e i hi
    rw [gt_map]
    exact (okg_nmz (hg i)).2 (e i hi)
theorem cke_nm {G : List Gt} {O : List Int} {n m : Nat} {r : Int} (h : ∀ g ∈ G, g.k = 2 ∨ g.k = 6 ∨ g.n = 0) : Cke (G.map nmg) O n m r ↔ Cke G O n m r := by
  unfold Cke
  rw [okG_nmz h]
theorem gbd_nm {G : List Gt} (h : ∀ g ∈ G, gbd g) : ∀ g ∈ G.map nmg, gbd g := fun g hg => by
  obtain ⟨g', hg', rfl⟩ := List.mem_map.1 hg
  have h1 := h g' hg'
  have h2 := nm_bd g'.n
  unfold gbd at h1 ⊢
  unfold nmg
  simp only
  omega
theorem gcs_len4 (G : List Gt) : (G.map nmg).length = G.length := List.length_map ..
/-- The lines behind the first i. -/
def Rst (s : ByteArray) (i : Nat) (r : ByteArray) : Prop := ∃ P, lns s = P ++ lns r ∧ P.length = i
theorem Rst.start (s : ByteArray) : Rst s 0 s := ⟨[], rfl, rfl⟩
theorem Rst.last {s r : ByteArray} {i : Nat} (h : Rst s i r) (hr : lns r = [r]) : lnn s = i ∧ tx (lns s) (lnn s) = r := by
  obtain ⟨P, h1, rfl⟩ := h
  have e : lnn s = P.length := by unfold lnn; rw [h1, hr]; simp
  refine ⟨e, ?_⟩
  rw [e, h1, hr]
  simp [tx]
theorem Rst.next {s r t u : ByteArray} {i : Nat} (h : Rst s i r) (hr : lns r = t :: lns u) : Rst s (i + 1) u ∧ tx (lns s) i = t ∧ i < lnn s := by
  obtain ⟨P, h1, rfl⟩ := h
  refine ⟨⟨P ++ [t], by rw [h1, hr]; simp, by simp⟩, ?_, ?_⟩
  · rw [h1, hr]
    simp [tx]
  · have := lns_len u
    unfold lnn
    rw [h1, hr]
    simp
    omega
theorem lns_mt : lns mt = [mt] := rfl
/-- What Parse answers: gates with their numbers' rests. -/
def Prn (s : ByteArray) (w : World) (e : Ending) (w' : World) : Prop :=
  ∃ (ag : Option Addr) (cg : Nat) (ao : Option Addr) (co at_ : Nat) (r : Int) (G : List Gt) (O : List Int), e = .returned (.tuple #[.agg #[.slice ag G.length cg, .slice ao O.length co], .int .i64 (at_ : Int), .int .i64 r]) ∧ Par s G O at_ r ∧
    w'.ownsRow w.heap.size 52 4 (.slice ag G.length cg) G.length (gcs (G.map nmg)) ∧ w'.ownsRow w.heap.size 3 1 (.slice ao O.length co) O.length (zns O) ∧ Below w.heap.size w w'
theorem Prn.err {s : ByteArray} {w w' : World} {r : Int} {n : Nat} (h : Par s [] [] n r) (hb : Below w.heap.size w w') : Prn s w (.returned (.tuple #[.agg #[.slice none 0 0, .slice none 0 0], .int .i64 (n : Int), .int .i64 r])) w' :=
  ⟨none, 0, none, 0, n, r, [], [], rfl, h, World.ownsRow_nil _ _ _ _, World.ownsRow_nil _ _ _ _, hb⟩
end Go.Proofs.YtoifklkdfgfbdahDoor

namespace Go.Proofs.YtoifklkdfgfbdahDoor
open Go.RowKit Crm

/-- What Inputs answers. -/
def Cin (G : List Gt) (O : List Int) (n m : Nat) (w : World) (e : Ending) (w' : World) : Prop :=
  ((∃ r, r ≠ 0 ∧ Cke G O n m r ∧ e = .returned (.tuple #[.slice none 0 0, .int .i64 r])) ∨
   (Cke G O n m 0 ∧ ∃ v, e = .returned (.tuple #[v, .int .i64 0]) ∧ w'.ownsRow w.heap.size 3 1 v (ci G n) (zns (whl G n)))) ∧ Below w.heap.size w w'
/-- What is wrong with a circuit and its inputs. -/
def Cre (G : List Gt) (O : List Int) (n m q : Nat) (r : Int) : Prop :=
  (r ≠ 0 ∧ Cke G O n m r) ∨ (Cke G O n m 0 ∧ ((q ≠ ci G n ∧ r = 5) ∨ (q = ci G n ∧ r = 0)))
theorem Cre.one {G : List Gt} {O : List Int} {n m q : Nat} {r s : Int} (h : Cre G O n m q r) (k : Cre G O n m q s) : r = s := by
  rcases h with ⟨h1, h2⟩ | ⟨h1, ⟨h2, rfl⟩ | ⟨h2, rfl⟩⟩ <;> rcases k with ⟨k1, k2⟩ | ⟨k1, ⟨k2, rfl⟩ | ⟨k2, rfl⟩⟩
  all_goals first
    | rfl
    | exact h2.one k2
    | exact absurd (h2.one k1) h1
    | exact absurd (k2.one h1) k1
    | exact absurd k2 h2
    | exact absurd h2 k2
theorem Cre.ok {G : List Gt} {O : List Int} {n m q : Nat} (h : Cre G O n m q 0) : Cke G O n m 0 ∧ q = ci G n := by
  rcases h with ⟨h1, _⟩ | ⟨h1, ⟨_, h2⟩ | ⟨h2, _⟩⟩
  · exact absurd rfl h1
  · omega
  · exact ⟨h1, h2⟩
/-- What Run answers. -/
def Crn (G : List Gt) (O ins : List Int) (n m q : Nat) (w : World) (e : Ending) (w' : World) : Prop :=
  ((∃ r, r ≠ 0 ∧ Cre G O n m q r ∧ e = .returned (.tuple #[.slice none 0 0, .int .i64 r])) ∨
   (Cre G O n m q 0 ∧ ∃ v, e = .returned (.tuple #[v, .int .i64 0]) ∧ w'.ownsRow w.heap.size 42 1 v m ((otl G O ins m).map (Value.int .u64)))) ∧ Below w.heap.size w w'
end Go.Proofs.YtoifklkdfgfbdahDoor

namespace Go.Proofs.YtoifklkdfgfbdahDoor
open Go.RowKit Crm

theorem cGateRightY (k x y z : Int) (i : Nat) (w : World) (h : okg i ⟨k, x, y, z⟩) (hk : -9223372036854775808 ≤ k ∧ k ≤ 9223372036854775807) (hx : -9223372036854775808 ≤ x ∧ x ≤ 9223372036854775807) (hy : -9223372036854775808 ≤ y ∧ y ≤ 9223372036854775807) (hz : 0 ≤ z ∧ z ≤ 18446744073709551615) (hS : Shp w) :
    Calls Tryd.prog 25 #[.agg #[.int .i64 k, .int .i64 x, .int .i64 y, .int .u64 z], .int .i64 i] w fun e w' => e = .returned (.bool true) ∧ Below w.heap.size w w' := by
  refine (cGateRight k x y z i w hk hx hy hz hS).mono ?_
  rintro e w' ⟨⟨_, rfl⟩ | ⟨h', _⟩, hb⟩
  · exact ⟨rfl, hb⟩
  · exact absurd h h'
theorem cGateRightN (k x y z : Int) (i : Nat) (w : World) (h : ¬ okg i ⟨k, x, y, z⟩) (hk : -9223372036854775808 ≤ k ∧ k ≤ 9223372036854775807) (hx : -9223372036854775808 ≤ x ∧ x ≤ 9223372036854775807) (hy : -9223372036854775808 ≤ y ∧ y ≤ 9223372036854775807) (hz : 0 ≤ z ∧ z ≤ 18446744073709551615) (hS : Shp w) :
    Calls Tryd.prog 25 #[.agg #[.int .i64 k, .int .i64 x, .int .i64 y, .int .u64 z], .int .i64 i] w fun e w' => e = .returned (.bool false) ∧ Below w.heap.size w w' := by
  refine (cGateRight k x y z i w hk hx hy hz hS).mono ?_
  rintro e w' ⟨⟨h', _⟩ | ⟨_, rfl⟩, hb⟩
  · exact absurd h' h
  · exact ⟨rfl, hb⟩

set_option maxRecDepth 100000 in
set_option maxHeartbeats 4000000 in
theorem cCheckC (ag : Option Addr) (n cg : Nat) (G : List Gt) (ao : Option Addr) (m co : Nat) (O : List Int) (w : World) (h : RdG w ag n cg G) (g : RdI w ao m co O) (hS : Shp w) :
    Calls Tryd.prog 15 #[.agg #[.slice ag n cg, .slice ao m co]] w fun e w' => ∃ r, e = .returned (.int .i64 r) ∧ Cke G O n m r ∧ Below w.heap.size w w' := by
  have hcap := h.cap
  have hmax := h.max
  have gcap := g.cap
  have gmax := g.max
  unfold maxLen at hmax gmax
  have hC0 := CBox.new w ag n cg ao m co
  have hb0 : Below w.heap.size w (w.alloc (.cells #[.slice ag n cg, .slice ao m co] 25)) := (Below.refl _ _).alloc (Nat.le_refl _) _
  obtain ⟨d0, d1⟩ := hC0.cells
  go_enter Tryd.func15, Tryd.ntmps15
  go_upto_region 1 with fail
  generalize w.alloc (.cells #[.slice ag n cg, .slice ao m co] 25) = w0 at *
  have hl0 := hC0.lt
  by_cases hn0 : n = 0
  · have HE : Hid (Cke G O n m 1) := .inl ⟨.inl hn0, rfl⟩
    have hnb : ((n : Int) == 0) = true := by rw [beq_iff_eq]; omega
    clear hn0
    go_wp2
    go_ret
    exact ⟨1, rfl, HE.out, hb0⟩
  · have hnb : ((n : Int) == 0) = false := by rw [beq_eq_false_iff_ne]; omega
    by_cases hm0 : m = 0
    · have HE : Hid (Cke G O n m 1) := .inl ⟨.inr hm0, rfl⟩
      have hmb : ((m : Int) == 0) = true := by rw [beq_iff_eq]; omega
      clear hm0 hn0
      go_wp2
      go_ret
      exact ⟨1, rfl, HE.out, hb0⟩
    · have hmb : ((m : Int) == 0) = false := by rw [beq_eq_false_iff_ne]; omega
      by_cases hn30 : 30 < n
      · have HE : Hid (Cke G O n m 2) := .inr ⟨⟨hn0, hm0⟩, .inl ⟨.inl hn30, rfl⟩⟩
        clear hm0 hn0
        go_wp2
        go_ret
        exact ⟨2, rfl, HE.out, hb0⟩
      · by_cases hm30 : 30 < m
        · have HE : Hid (Cke G O n m 2) := .inr ⟨⟨hn0, hm0⟩, .inl ⟨.inr hm30, rfl⟩⟩
          clear hm0 hn0
          go_wp2
          go_ret
          exact ⟨2, rfl, HE.out, hb0⟩
        · have HB1 : Hid (¬ (okG G n ∧ okO O n m) → Cke G O n m 1) := fun e => .inr ⟨⟨hn0, hm0⟩, .inr ⟨⟨by omega, by omega⟩, .inl ⟨e, rfl⟩⟩⟩
          have HB0 : Hid ((okG G n ∧ okO O n m) → Cke G O n m 0) := fun e => .inr ⟨⟨hn0, hm0⟩, .inr ⟨⟨by omega, by omega⟩, .inr ⟨e, rfl⟩⟩⟩
          clear hm0 hn0
          go_wp2
          go_loopw [30] (fun v wr => ∃ i : Nat, i ≤ n ∧ v = .int .i64 i ∧ Hid (okG G i) ∧ CBox wr w.heap.size ag n cg ao m co ∧ Below w.heap.size w wr) (fun v _ => n - (intOf v).toNat)
          case atStart => exact ⟨0, Nat.zero_le _, rfl, okG_zero G, hC0, hb0⟩
          case round =>
            clear hC0 hb0 d0 d1 hl0
            obtain ⟨i, hi, rfl, HK, hC, hbel⟩ := hrel
            obtain ⟨d0, d1⟩ := hC.cells
            have hl0 := hC.lt
            have hs1 := hbel.size
            by_cases hlt : i < n
            · obtain ⟨b, o, k, x, y, z, rfl, hbb, HG, hk, hx, hy, hz, c1, c2, c3, c4⟩ := (h.below hbel).one hlt
              have hbA0 : Below wr.heap.size wr (wr.alloc (.cells #[.int .i64 k, .int .i64 x, .int .i64 y, .int .u64 z] 52)) := (Below.refl _ _).alloc (Nat.le_refl _) _
              have hbA := hbel.trans (hbA0.mono hs1)
              have hCA := hC.below hbA0 hC.lt
              obtain ⟨q1, q2, q3, q4⟩ := gate_box wr k x y z 52
              have hltA : wr.heap.size < (wr.alloc (.cells #[.int .i64 k, .int .i64 x, .int .i64 y, .int .u64 z] 52)).heap.size := by simp
              go_upto_region 8 with fail
              generalize wr.alloc (.cells #[.int .i64 k, .int .i64 x, .int .i64 y, .int .u64 z] 52) = W at *
              clear c1 c2 c3 c4 hbA0 hC hbel d0 d1
              have hSA := hS.below hbA
              by_cases hok : okg i ⟨k, x, y, z⟩
              · have HN : Hid (okG G (i + 1)) := okG_succ HK.out (by rw [HG.out]; exact hok)
                have HOK : Hid (okg i ⟨k, x, y, z⟩) := hok
                clear hok HG
                go_wp2_with (first | (go_at_call 25; refine (cGateRightY _ _ _ _ i _ HOK.out hk hx hy hz hSA).mono ?_; rintro e w2 ⟨rfl, hb2⟩; have hCB := hCA.below hb2 hCA.lt; have hbB := hbA.trans (hb2.mono hbA.size); clear hCA hbA hSA hb2 q1 q2 q3 q4))
                go_roundw
                case rel => exact ⟨i + 1, by omega, by go_num, HN, hCB, hbB⟩
                case measure => simp [intOf]; omega
              · have HN : Hid (Cke G O n m 1) := HB1.out fun e' => okG_not hlt (by rw [HG.out]; exact hok) e'.1
                have HOK : Hid (¬ okg i ⟨k, x, y, z⟩) := hok
                clear hok HG
                go_wp2_with (first | (go_at_call 25; refine (cGateRightN _ _ _ _ i _ HOK.out hk hx hy hz hSA).mono ?_; rintro e w2 ⟨rfl, hb2⟩; have hbB := hbA.trans (hb2.mono hbA.size); clear hCA hbA hSA hb2 q1 q2 q3 q4))
                go_ret
                exact ⟨1, rfl, HN.out, hbB⟩
            · have hin : i = n := by omega
              subst hin
              go_wp2
              obtain ⟨wo, hwo⟩ : ∃ x, x = wr := ⟨_, rfl⟩
              subst hwo
              go_loopw [43] (fun v wr => ∃ j : Nat, j ≤ m ∧ v = .int .i64 j ∧ Hid (okO O i j) ∧ wr = wo) (fun v _ => m - (intOf v).toNat)
              case atStart => exact ⟨0, Nat.zero_le _, rfl, okO_zero O i, rfl⟩
              case round =>
                obtain ⟨j, hj, rfl, HJ, hw⟩ := hrel
                subst hw
                by_cases hltj : j < m
                · obtain ⟨b2, o2, x, rfl, hbb2, HX, hx0, hx1, c5⟩ := (g.below hbel).one hltj
                  by_cases hxr : x < 0 ∨ (i : Int) ≤ x
                  · have HxN : Hid (x < 0 ∨ (i : Int) ≤ x) := hxr
                    have HN : Hid (Cke G O i m 1) := HB1.out fun e' => okO_not hltj HX.out hxr e'.2
                    go_wp2_with (first | (go_at_call 26; refine (cAheadN _ _ _ HxN.out).mono ?_; rintro e w' ⟨rfl, hw⟩; have hw := hw.symm; subst hw))
                    go_ret
                    exact ⟨1, rfl, HN.out, hbel⟩
                  · have HxY : Hid (0 ≤ x ∧ x < (i : Int)) := ⟨by omega, by omega⟩
                    have HN : Hid (okO O i (j + 1)) := okO_succ HJ.out HX.out (by omega) (by omega)
                    go_wp2_with (first | (go_at_call 26; refine (cAheadY _ _ _ HxY.out.1 HxY.out.2).mono ?_; rintro e w' ⟨rfl, hw⟩; have hw := hw.symm; subst hw))
                    go_roundw
                    case rel => exact ⟨j + 1, by omega, by go_num, HN, by trivial⟩
                    case measure => simp [intOf]; omega
                · have hjm : j = m := by omega
                  subst hjm
                  have HN : Hid (Cke G O i j 0) := HB0.out ⟨HK.out, HJ.out⟩
                  go_wp2
                  go_ret
                  exact ⟨0, rfl, HN.out, hbel⟩
end Go.Proofs.YtoifklkdfgfbdahDoor
