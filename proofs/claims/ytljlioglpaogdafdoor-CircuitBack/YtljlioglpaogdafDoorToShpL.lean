/- croftref.SameCircuit: two circuits that are the same, numbers by P. · croftkeep.tiny. · The walk of croftkeep.CircuitBack. · Package-level variables that start-up lays: any part of their list. · Package-level variables that start-up lays: what the walks ask of them. · circuit.shapes lie as the text lays them. -/
import Derived.Test.YtljlioglpaogdafDoorToFmtUC
import Derived.Test.YtljlioglpaogdafDoorToNumbC
import Derived.Test.YtljlioglpaogdafDoorToEqIC
import Derived.BigQuiet
import Derived.Deep.DeepCutAuto
import Derived.Test.YtljlioglpaogdafDoorRows
import Derived.ProofKit
import Derived.LaidMore
import Derived.OpenShut
import Derived.Stop.LaidErr
import Derived.Test.YtljlioglpaogdafDoorToGRightC
import Derived.Lib.LaidTab
namespace Go.Proofs.YtljlioglpaogdafDoor
set_option linter.unusedVariables false
set_option maxRecDepth 100000
set_option maxHeartbeats 8000000
section
open Crm Go.RowKit
/-- Gates that are the same, numbers by P. -/
def smg (g q : Gt) : Prop := g.k = q.k ∧ g.a = q.a ∧ g.b = q.b ∧ nm g.n = nm q.n
def SmG (G Q : List Gt) (n : Nat) : Prop := ∀ i, i < n → smg (gt G i) (gt Q i)

theorem sSameGate (k x y z u : Int) (w : World) (hz0 : 0 ≤ z) (hz1 : z ≤ 18446744073709551615) (hu0 : 0 ≤ u) (hu1 : u ≤ 18446744073709551615) (he : nm z = nm u) :
    Calls Tryd.prog 29 #[.agg #[.int .i64 k, .int .i64 x, .int .i64 y, .int .u64 z], .agg #[.int .i64 k, .int .i64 x, .int .i64 y, .int .u64 u]] w fun e w' => e = .returned (.bool true) ∧ Below w.heap.size w w' := by
  have hbA : Below w.heap.size w (w.alloc (.cells #[.int .i64 k, .int .i64 x, .int .i64 y, .int .u64 z] 43)) := (Below.refl _ _).alloc (Nat.le_refl _) _
  have hbB : Below w.heap.size w ((w.alloc (.cells #[.int .i64 k, .int .i64 x, .int .i64 y, .int .u64 z] 43)).alloc (.cells #[.int .i64 k, .int .i64 x, .int .i64 y, .int .u64 u] 43)) := hbA.alloc hbA.size _
  go_enter Tryd.func29, Tryd.ntmps29
  go_wp2
  go_big_quiet ((go_at_call 30; exact Calls.quiet_of_same (rNorm _ _ (by omega) (by omega))))
  all_goals
    go_wp2
    go_ret
    exact ⟨rfl, drewN_below hbB _⟩

theorem sEqualGates (a : Option Addr) (n c : Nat) (b : Option Addr) (d : Nat) (G Q : List Gt) (w : World) (h : RdG w a n c G) (g : RdG w b n d Q) (hs : SmG G Q n) :
    Calls Tryd.prog 28 #[.slice a n c, .slice b n d, .func (.func 29) #[] #[]] w fun e w' => e = .returned (.bool true) ∧ Below w.heap.size w w' := by
  have hcap := h.cap
  have hmax := h.max
  unfold maxLen at hmax
  have HS : Hid (SmG G Q n) := hs
  clear hs
  go_enter Tryd.func28, Tryd.ntmps28
  go_wp2
  go_loopw [17] (fun i wr => ∃ k : Nat, k ≤ n ∧ i = .int .i64 k ∧ Below w.heap.size w wr) (fun i _ => n - (intOf i).toNat)
  case atStart => exact ⟨0, Nat.zero_le _, rfl, Below.refl _ _⟩
  case round =>
    obtain ⟨i, hin, rfl, hbel⟩ := hrel
    have hs1 := hbel.size
    by_cases hlt : i < n
    · obtain ⟨b1, o1, k, x, y, z, rfl, hbb, HG1, hk, hx, hy, hz, c1, c2, c3, c4⟩ := (h.below hbel).one hlt
      obtain ⟨b2, o2, k2, x2, y2, u, rfl, hbb2, HG2, _, _, _, hu, e1, e2, e3, e4⟩ := (g.below hbel).one hlt
      obtain ⟨q1, q2, q3, q4⟩ := HS.out i hlt
      rw [HG1.out, HG2.out] at q1 q2 q3 q4
      simp only at q1 q2 q3 q4
      subst q1 q2 q3
      have hbA : Below wr.heap.size wr (wr.alloc (.cells #[.int .i64 k, .int .i64 x, .int .i64 y, .int .u64 z] 43)) := (Below.refl _ _).alloc (Nat.le_refl _) _
      have e1A : (wr.alloc (.cells #[.int .i64 k, .int .i64 x, .int .i64 y, .int .u64 z] 43)).cell? ⟨b2, o2 + i * 4, none⟩ = some (.int .i64 k) := by rw [hbA.cell hbb2]; exact e1
      have e2A : (wr.alloc (.cells #[.int .i64 k, .int .i64 x, .int .i64 y, .int .u64 z] 43)).cell? ⟨b2, o2 + i * 4 + 1, none⟩ = some (.int .i64 x) := by rw [hbA.cell hbb2]; exact e2
      have e3A : (wr.alloc (.cells #[.int .i64 k, .int .i64 x, .int .i64 y, .int .u64 z] 43)).cell? ⟨b2, o2 + i * 4 + 2, none⟩ = some (.int .i64 y) := by rw [hbA.cell hbb2]; exact e3
      have e4A : (wr.alloc (.cells #[.int .i64 k, .int .i64 x, .int .i64 y, .int .u64 z] 43)).cell? ⟨b2, o2 + i * 4 + 3, none⟩ = some (.int .u64 u) := by rw [hbA.cell hbb2]; exact e4
      have hbB : Below wr.heap.size wr ((wr.alloc (.cells #[.int .i64 k, .int .i64 x, .int .i64 y, .int .u64 z] 43)).alloc (.cells #[.int .i64 k, .int .i64 x, .int .i64 y, .int .u64 u] 43)) := hbA.alloc hbA.size _
      have hbw := hbel.trans (hbB.mono hs1)
      have HQ : Hid (nm z = nm u) := q4
      clear hbA hbB HG1 HG2 q4
      go_wp2_with fail
      refine (sSameGate _ _ _ _ _ _ hz.1 hz.2 hu.1 hu.2 HQ.out).mono ?_
      rintro e w3 ⟨rfl, hb3⟩
      have hw3 := hbw.trans (hb3.mono hbw.size)
      clear hbw hb3 c1 c2 c3 c4 e1 e2 e3 e4 e1A e2A e3A e4A
      go_wp2
      go_roundw
      case rel => exact ⟨i + 1, by omega, by go_num, hw3⟩
      case measure => simp [intOf]; omega
    · have hkn : i = n := by omega
      subst hkn
      go_wp2
      go_ret
      exact ⟨rfl, hbel⟩

theorem sSameCircuit (a : Option Addr) (n c : Nat) (G : List Gt) (ao : Option Addr) (m co : Nat) (O : List Int) (b : Option Addr) (d : Nat) (Q : List Gt) (bo : Option Addr) (m2 dof : Nat) (w : World)
    (h : RdG w a n c G) (ho : RdI w ao m co O) (g : RdG w b n d Q) (go : RdI w bo m2 dof O) (hs : SmG G Q n) :
    Calls Tryd.prog 9 #[.agg #[.slice a n c, .slice ao m co], .agg #[.slice b n d, .slice bo m2 dof]] w fun e w' => e = .returned (.bool true) ∧ Below w.heap.size w w' := by
  have HS : Hid (SmG G Q n) := hs
  have hA := CBox.new w a n c ao m co
  have hbA : Below w.heap.size w (w.alloc (.cells #[.slice a n c, .slice ao m co] 25)) := (Below.refl _ _).alloc (Nat.le_refl _) _
  have hB := CBox.new (w.alloc (.cells #[.slice a n c, .slice ao m co] 25)) b n d bo m2 dof
  have hbB := (Below.refl (w.alloc (.cells #[.slice a n c, .slice ao m co] 25)).heap.size (w.alloc (.cells #[.slice a n c, .slice ao m co] 25))).alloc (Nat.le_refl _) (.cells #[.slice b n d, .slice bo m2 dof] 25)
  have hA2 := hA.below hbB hA.lt
  have hb2 := hbA.trans (hbB.mono hbA.size)
  have s1 : (w.alloc (.cells #[.slice a n c, .slice ao m co] 25)).heap.size = w.heap.size + 1 := by simp
  rw [s1] at hB
  clear hs hA hbA hbB s1
  go_enter Tryd.func9, Tryd.ntmps9
  go_wp2_with fail
  generalize (w.alloc (.cells #[.slice a n c, .slice ao m co] 25)).alloc (.cells #[.slice b n d, .slice bo m2 dof] 25) = w2 at *
  refine (zSame _ _ _ _ _ _ _ _ (ho.below hb2) (go.below hb2)).mono ?_
  rintro e w' ⟨rfl, hw⟩
  have hA3 := hA2.below hw hA2.lt
  have hB3 := hB.below hw hB.lt
  obtain ⟨d0, d1⟩ := hA3.cells
  obtain ⟨f0, f1⟩ := hB3.cells
  have hb3 := hb2.trans (hw.mono hb2.size)
  clear hA2 hB hb2 hw hA3 hB3
  go_wp2_with fail
  refine (sEqualGates _ _ _ _ _ _ _ _ (h.below hb3) (g.below hb3) HS.out).mono ?_
  rintro e w4 ⟨rfl, hb4⟩
  have hb5 := hb3.trans (hb4.mono hb3.size)
  clear hb3 hb4 d0 d1 f0 f1
  go_wp2
  go_ret
  exact ⟨rfl, hb5⟩
def tnyG : List Gt := [⟨1, 1, 0, 0⟩, ⟨1, 2, 0, 0⟩, ⟨5, 0, 1, 0⟩, ⟨2, 0, 0, 7⟩, ⟨3, 2, 3, 0⟩]
theorem kTiny (w : World) :
    Calls Tryd.prog 7 #[] w fun e w' => ∃ a b, e = .returned (.agg #[.slice a 5 5, .slice b 1 1]) ∧ RdG w' a 5 5 tnyG ∧ RdI w' b 1 1 [4] ∧ Below w.heap.size w w' := by
  go_enter Tryd.func7, Tryd.ntmps7
  go_wp2
  have h1 : CBox (w.alloc (.cells #[.slice (some ⟨w.heap.size + 1, 0, none⟩) 5 5, .slice (some ⟨w.heap.size + 1 + 1, 0, none⟩) 1 1] 25)) w.heap.size (some ⟨w.heap.size + 1, 0, none⟩) 5 5 (some ⟨w.heap.size + 1 + 1, 0, none⟩) 1 1 := CBox.new w _ _ _ _ _ _
  have b1 : Below w.heap.size w (w.alloc (.cells #[.slice (some ⟨w.heap.size + 1, 0, none⟩) 5 5, .slice (some ⟨w.heap.size + 1 + 1, 0, none⟩) 1 1] 25)) := (Below.refl _ _).alloc (Nat.le_refl _) _
  have s1 : (w.alloc (.cells #[.slice (some ⟨w.heap.size + 1, 0, none⟩) 5 5, .slice (some ⟨w.heap.size + 1 + 1, 0, none⟩) 1 1] 25)).heap.size = w.heap.size + 1 := by simp
  generalize w.alloc (.cells #[.slice (some ⟨w.heap.size + 1, 0, none⟩) 5 5, .slice (some ⟨w.heap.size + 1 + 1, 0, none⟩) 1 1] 25) = w1 at *
  rw [← s1] at h1 ⊢
  have h2 : (w1.alloc (.cells (gcs tnyG).toArray 43)).heap[w1.heap.size]? = some (.cells (gcs tnyG).toArray 43 (0, 0)) := heap_alloc_new w1 _
  have b2 : Below w1.heap.size w1 (w1.alloc (.cells (gcs tnyG).toArray 43)) := (Below.refl _ _).alloc (Nat.le_refl _) _
  have s2 : (w1.alloc (.cells (gcs tnyG).toArray 43)).heap.size = w1.heap.size + 1 := by simp
  show bodyPost _ _ _ _ _ ((w1.alloc (.cells (gcs tnyG).toArray 43)).alloc (.cells #[.int .i64 4] 3))
  generalize w1.alloc (.cells (gcs tnyG).toArray 43) = w2 at *
  rw [← s2] at h1 ⊢
  have h3 : (w2.alloc (.cells #[.int .i64 4] 3)).heap[w2.heap.size]? = some (.cells #[.int .i64 4] 3 (0, 0)) := heap_alloc_new w2 _
  have b3 : Below w2.heap.size w2 (w2.alloc (.cells #[.int .i64 4] 3)) := (Below.refl _ _).alloc (Nat.le_refl _) _
  generalize w2.alloc (.cells #[.int .i64 4] 3) = w3 at *
  have h1' := (h1.below b2 h1.lt).below b3 (h1.below b2 h1.lt).lt
  have h2' : w3.heap[w1.heap.size]? = some (.cells (gcs tnyG).toArray 43 (0, 0)) := by rw [b3.block _ (by omega)]; exact h2
  obtain ⟨d0, d1⟩ := h1'.cells
  have hbw := b1.trans ((b2.trans (b3.mono b2.size)).mono b1.size)
  have HG : RdG w3 (some ⟨w1.heap.size, 0, none⟩) 5 5 tnyG := by
    refine ⟨rfl, Nat.le_refl _, by decide, by simp, fun i hi => ?_, fun x hx i hi => ?_⟩
    · have : i = 0 ∨ i = 1 ∨ i = 2 ∨ i = 3 ∨ i = 4 := by omega
      rcases this with rfl | rfl | rfl | rfl | rfl <;> decide
    · obtain rfl := Option.some.inj hx
      obtain ⟨e1, e2, e3, e4⟩ := gcs_get tnyG i hi
      simp only [Addr.add_lit, Nat.zero_add]
      refine ⟨?_, ?_, ?_, ?_⟩ <;> rw [cell_of_row w3 _ _ _ _ (0, 0) h2'] <;> simpa using by assumption
  have HO : RdI w3 (some ⟨w2.heap.size, 0, none⟩) 1 1 [4] := by
    refine ⟨rfl, Nat.le_refl _, by decide, by simp, by simp, fun x hx i hi => ?_⟩
    obtain rfl := Option.some.inj hx
    obtain rfl : i = 0 := by omega
    rw [Addr.add_lit, cell_of_row w3 _ _ _ _ (0, 0) h3]
    rfl
  refine bodyPost_ret (v := .agg #[.slice (some ⟨w1.heap.size, 0, none⟩) 5 5, .slice (some ⟨w2.heap.size, 0, none⟩) 1 1]) ?_ rfl ⟨_, _, rfl, HG, HO, hbw⟩
  simp [results, Tryd.results7, go_sem, d0, d1]
theorem tny_ok : Cke tnyG [4] 5 1 0 := by
  refine .inr ⟨⟨by omega, by omega⟩, .inr ⟨⟨by omega, by omega⟩, .inr ⟨⟨fun i hi => ?_, fun j hj => ?_⟩, rfl⟩⟩⟩
  · have : i = 0 ∨ i = 1 ∨ i = 2 ∨ i = 3 ∨ i = 4 := by omega
    rcases this with rfl | rfl | rfl | rfl | rfl <;> simp [okg, gt, tnyG]
  · obtain rfl : j = 0 := by omega
    simp
theorem tny_text : otx (gtx tnyG 5) [4] 1 = ⟨#[105, 110, 112, 117, 116, 32, 49, 10, 105, 110, 112, 117, 116, 32, 50, 10, 109, 117, 108, 32, 48, 32, 49, 10, 99, 111, 110, 115, 116, 32, 55, 10, 97, 100, 100, 32, 50, 32, 51, 10, 111, 117, 116, 32, 52, 10]⟩ := by
  obtain ⟨_, _, hG, hO⟩ := tny_ok.ok
  rw [text_toB hG hO]
  have d1 : ∀ u, u < 10 → dd u = [UInt8.ofNat (48 + u)] := fun u hu => dd_lo hu
  have e : gls tnyG 5 ++ ols [4] 1 = [[105, 110, 112, 117, 116, 32, 49], [105, 110, 112, 117, 116, 32, 50], [109, 117, 108, 32, 48, 32, 49], [99, 111, 110, 115, 116, 32, 55], [97, 100, 100, 32, 50, 32, 51], [111, 117, 116, 32, 52]] := by
    have n7 : nm 7 = 7 := rfl
    simp [gls, ols, gll, oll, gt, tnyG, List.range_succ, vbl, vb, vbs, d1, n7]
  rw [e]
  rfl
theorem Par.err {s : ByteArray} {G : List Gt} {O : List Int} {n : Nat} {r : Int} (h : Par s G O n r) (hr : r ≠ 0) : G = [] := by
  rcases h with ⟨_, h, _⟩ | ⟨_, ⟨_, _, _, _, _, _, h, _⟩ | ⟨_, _, _, ⟨_, h, _⟩ | ⟨_, _, _, ⟨_, h, _⟩ | ⟨h, _⟩⟩⟩⟩
  · exact h
  · exact h
  · exact h
  · exact h
  · exact absurd h hr
theorem Par.right {s : ByteArray} {G : List Gt} {O : List Int} {n : Nat} (h : Par s G O n 0) : Cke G O G.length O.length 0 := by
  rcases h with ⟨_, _, _, _, h⟩ | ⟨_, ⟨_, _, _, _, _, _, _, _, _, h⟩ | ⟨_, _, _, ⟨_, _, _, _, h⟩ | ⟨_, _, c, ⟨h, _⟩ | ⟨_, rfl, rfl⟩⟩⟩⟩
  · omega
  · omega
  · omega
  · exact absurd rfl h
  · exact c
theorem smg_nm (G : List Gt) (n : Nat) : SmG ((nmG G n).map nmg) G n := fun i hi => by
  rw [gt_map, nmG_gt G hi]
  exact ⟨rfl, rfl, rfl, by show nm (nm (nm _)) = _; rw [nm_nm, nm_nm]⟩
theorem smg_nm' (G : List Gt) (n : Nat) : SmG G ((nmG G n).map nmg) n := fun i hi => by
  rw [gt_map, nmG_gt G hi]
  exact ⟨rfl, rfl, rfl, by show _ = nm (nm (nm _)); rw [nm_nm, nm_nm]⟩
theorem Par.zn {s : ByteArray} {G : List Gt} {O : List Int} {a : Nat} {r : Int} (h : Par s G O a r) : ∀ g ∈ G, g.k = 2 ∨ g.k = 6 ∨ g.n = 0 := by
  have nil : ∀ g ∈ ([] : List Gt), g.k = 2 ∨ g.k = 6 ∨ g.n = 0 := fun g hg => by simp at hg
  rcases h with ⟨_, rfl, rfl, _, _⟩ | ⟨_, ⟨_, _, _, _, _, _, rfl, rfl, _, _⟩ | ⟨G0, O0, h1, ⟨_, rfl, rfl, _, _⟩ | ⟨_, _, _, ⟨_, rfl, rfl⟩ | ⟨_, rfl, rfl⟩⟩⟩⟩
  · exact nil
  · exact nil
  · exact nil
  · exact nil
  · exact h1.zn
theorem text_le {G : List Gt} {O : List Int} {n m : Nat} (h : Cke G O n m 0) : (otx (gtx G n) O m).size ≤ 2048 := by
  obtain ⟨hn, hm, hG, hO⟩ := h.ok
  rw [text_toB hG hO, toB_size]
  exact text_size hG hO hn.2 hm.2

/-- A circuit that is told, laid into a variable. -/
theorem cbox_put (w : World) (ag : Option Addr) (n cg : Nat) (ao : Option Addr) (m co : Nat) : CBox (w.alloc (.cells #[.slice ag n cg, .slice ao m co] 25)) w.heap.size ag n cg ao m co ∧ Below w.heap.size w (w.alloc (.cells #[.slice ag n cg, .slice ao m co] 25)) :=
  ⟨CBox.new w ag n cg ao m co, (Below.refl _ _).alloc (Nat.le_refl _) _⟩

theorem circuitBackW (ag : Option Addr) (n cg : Nat) (G : List Gt) (ao : Option Addr) (m co : Nat) (O : List Int) (s : ByteArray) (w : World) (h : RdG w ag n cg G) (g : RdI w ao m co O) (hs : s.size ≤ maxLen) (hT : Tabs w) (hS : Shp w) :
    Calls Tryd.prog 3 #[.agg #[.slice ag n cg, .slice ao m co], .string s] w fun e w' => e = .returned (.bool true) ∧ Below w.heap.size w w' := by
  unfold maxLen at hs
  have hOl := g.len
  have HOl : Hid (O.length = m) := hOl
  clear hOl
  have hC0 := CBox.new w ag n cg ao m co
  have hb0 : Below w.heap.size w (w.alloc (.cells #[.slice ag n cg, .slice ao m co] 25)) := (Below.refl _ _).alloc (Nat.le_refl _) _
  go_enter Tryd.func3, Tryd.ntmps3
  go_upto_region 1 with fail
  generalize w.alloc (.cells #[.slice ag n cg, .slice ao m co] 25) = w0 at *
  go_wp2_with fail
  refine (kTiny w0).mono ?_
  rintro e w1 ⟨a1, a2, rfl, hg1, hi1, hb1'⟩
  have hb1 := hb0.trans (hb1'.mono hb0.size)
  have hC1 := hC0.below hb1' hC0.lt
  clear hb0 hC0 hb1'
  go_wp2_with fail
  refine (cPrint _ _ _ _ _ _ _ _ _ hg1 hi1 (hT.below hb1) (hS.below hb1)).mono ?_
  rintro e w2 ⟨⟨r, hr, hk, rfl⟩ | ⟨_, rfl⟩, hb2'⟩
  · exact absurd (hk.one tny_ok) hr
  rw [tny_text]
  have hb2 := hb1.trans (hb2'.mono hb1.size)
  have hC2 := hC1.below hb2' hC1.lt
  obtain ⟨d0, d1⟩ := hC2.cells
  have dl := hC2.lt
  clear hb1 hC1 hb2' hg1 hi1
  go_wp2_with fail
  refine (cPrint _ _ _ _ _ _ _ _ _ (h.below hb2) (g.below hb2) (hT.below hb2) (hS.below hb2)).mono ?_
  rintro e w3 ⟨hor, hb3'⟩
  obtain ⟨T, r, rfl, HTr⟩ : ∃ T r, e = .returned (.tuple #[.string T, .int .i64 r]) ∧ Hid ((r ≠ 0 ∧ Cke G O n m r) ∨ (r = 0 ∧ Cke G O n m 0 ∧ T = otx (gtx G n) O m)) := by
    rcases hor with ⟨r, h1, h2, rfl⟩ | ⟨h1, rfl⟩
    · exact ⟨_, _, rfl, .inl ⟨h1, h2⟩⟩
    · exact ⟨_, _, rfl, .inr ⟨rfl, h1, rfl⟩⟩
  have hrb : 0 ≤ r ∧ r ≤ 2 := by
    rcases HTr.out with ⟨_, h1⟩ | ⟨h1, _⟩
    · exact h1.bd
    · omega
  have hb3 := hb2.trans (hb3'.mono hb2.size)
  have hC3 := hC2.below hb3' hC2.lt
  clear hb2 hC2 hb3' hor d0 d1 dl
  obtain ⟨d0, d1⟩ := hC3.cells
  have dl := hC3.lt
  go_upto_if 36 with fail
  go_cut [] (fun wx => Below w3.heap.size w3 wx)
  case first =>
    by_cases hr : r = 0
    · obtain ⟨hk, hTe⟩ : Cke G O n m 0 ∧ T = otx (gtx G n) O m := by
        rcases HTr.out with ⟨h1, _⟩ | ⟨_, h1⟩
        · exact absurd hr h1
        · exact h1
      subst hr
      have HK : Hid (Cke G O n m 0) := hk
      have htl := text_le hk
      rw [← hTe] at htl
      have HTe : Hid (T = otx (gtx G n) O m) := hTe
      clear hk hTe hrb
      go_wp2_with fail
      refine (cParse T w3 (by omega) (hS.below hb3)).mono ?_
      rintro e w4 ⟨ag', cg', ao', co', at', r', G', O', rfl, hP', ho', hi', hb4'⟩
      obtain ⟨rfl, rfl, rfl, rfl⟩ := hP'.one (by rw [HTe.out]; exact par_text HK.out HOl.out)
      obtain ⟨b1, b2⟩ := hP'.gbd
      have hGx := RdG.ownA ho' (gcs_len4 _) (gbd_nm b1)
      have hIx := RdI.ownA hi' b2
      rw [nmG_len] at hGx ⊢
      have hC4 := hC3.below hb4' hC3.lt
      have hb4 := hb3.trans (hb4'.mono hb3.size)
      obtain ⟨hcA, hbA⟩ := cbox_put w4 ag' n cg' ao' O'.length co'
      clear hP' ho' hi' b1 b2 HK HTe HTr
      go_upto_region 7 with fail
      generalize w4.alloc (.cells #[.slice ag' n cg', .slice ao' O'.length co'] 25) = wA at *
      have hC5 := hC4.below hbA hC4.lt
      have hb5 := hb4.trans (hbA.mono hb4.size)
      have hb35 := hb4'.trans (hbA.mono hb4'.size)
      have hGx5 := hGx.below hbA
      have hIx5 := hIx.below hbA
      have hG5 := h.below hb5
      have hI5 := g.below hb5
      obtain ⟨p0, p1⟩ := hC5.cells
      obtain ⟨q0, q1⟩ := hcA.cells
      have pl := hC5.lt
      have ql := hcA.lt
      clear hC4 hb4 hbA hGx hIx hC5 hcA d0 d1 dl hb4'
      go_wp2_with fail
      refine (sSameCircuit _ _ _ _ _ _ _ _ _ _ _ _ _ _ _ hGx5 hIx5 hG5 hI5 (smg_nm _ _)).mono ?_
      rintro e w6 ⟨rfl, hb6⟩
      have hb36 := hb35.trans (hb6.mono hb35.size)
      clear hGx5 hIx5 hG5 hI5 hb6 hb35 hb5
      go_wp2
      all_goals
        go_meet
        case rel => exact hb36
    · have hrf : (r == 0) = false := by rw [beq_eq_false_iff_ne]; exact hr
      clear hr
      go_wp2
      all_goals
        go_meet
        case rel => exact Below.refl _ _
  case rest =>
    obtain ⟨w4, hw4⟩ : ∃ w4, w4 = wc := ⟨_, rfl⟩
    subst hw4
    have hb4 := hb3.trans (hcut.mono hb3.size)
    clear hC3 d0 d1 dl hcut HTr hrb hb3
    go_wp2_with fail
    refine (cParse s w4 (by omega) (hS.below hb4)).mono ?_
    rintro e w5 ⟨ag1, cg1, ao1, co1, at1, r1, G1, O1, rfl, hP1, ho1, hi1, hb5'⟩
    have HP1 : Hid (Par s G1 O1 at1 r1) := hP1
    obtain ⟨b1, b2⟩ := hP1.gbd
    have hrb := hP1.bd
    have HZ1 : Hid (∀ g ∈ G1, g.k = 2 ∨ g.k = 6 ∨ g.n = 0) := hP1.zn
    have hGx := RdG.ownA ho1 (gcs_len4 _) (gbd_nm b1)
    have hIx := RdI.ownA hi1 b2
    have hb5 := hb4.trans (hb5'.mono hb4.size)
    obtain ⟨hcA, hbA⟩ := cbox_put w5 ag1 G1.length cg1 ao1 O1.length co1
    clear hP1 ho1 hi1 b1 b2 hb5' hb4
    go_upto_region 10 with fail
    generalize w5.alloc (.cells #[.slice ag1 G1.length cg1, .slice ao1 O1.length co1] 25) = wA at *
    have hb6 := hb5.trans (hbA.mono hb5.size)
    have hGx6 := hGx.below hbA
    have hIx6 := hIx.below hbA
    obtain ⟨q0, q1⟩ := hcA.cells
    have ql := hcA.lt
    clear hb5 hbA hGx hIx
    by_cases hr : r1 = 0
    · subst hr
      have hk1 := (cke_nm HZ1.out).2 HP1.out.right
      have HK1 : Hid (Cke (G1.map nmg) O1 G1.length O1.length 0) := hk1
      have htl := text_le hk1
      clear hk1 HP1 hrb
      go_wp2_with fail
      refine (cPrint _ _ _ _ _ _ _ _ _ hGx6 hIx6 (hT.below hb6) (hS.below hb6)).mono ?_
      rintro e w7 ⟨⟨r, hr, hk, rfl⟩ | ⟨_, rfl⟩, hb7'⟩
      · exact absurd (hk.one HK1.out) hr
      obtain ⟨T2, HT2⟩ : ∃ T2, Hid (otx (gtx (G1.map nmg) G1.length) O1 O1.length = T2) := ⟨_, rfl⟩
      rw [HT2.out] at htl ⊢
      have hb7 := hb6.trans (hb7'.mono hb6.size)
      have hcA7 := hcA.below hb7' hcA.lt
      have hGx7 := hGx6.below hb7'
      have hIx7 := hIx6.below hb7'
      clear hb6 hcA hGx6 hIx6 hb7' q0 q1 ql
      go_wp2_with fail
      refine (cParse T2 w7 (by omega) (hS.below hb7)).mono ?_
      rintro e w8 ⟨ag', cg', ao', co', at', r', G', O', rfl, hP', ho', hi', hb8'⟩
      obtain ⟨rfl, rfl, rfl, rfl⟩ := hP'.one (by rw [← HT2.out]; exact par_text HK1.out rfl)
      obtain ⟨b1, b2⟩ := hP'.gbd
      have hGy := RdG.ownA ho' (gcs_len4 _) (gbd_nm b1)
      have hIy := RdI.ownA hi' b2
      rw [nmG_len] at hGy ⊢
      have hb8 := hb7.trans (hb8'.mono hb7.size)
      have hcA8 := hcA7.below hb8' hcA7.lt
      have hGx8 := hGx7.below hb8'
      have hIx8 := hIx7.below hb8'
      obtain ⟨hcB, hbB⟩ := cbox_put w8 ag' G1.length cg' ao' O'.length co'
      clear hP' ho' hi' b1 b2 hb7 hcA7 hGx7 hIx7 hb8' HT2 HK1
      go_upto_region 14 with fail
      generalize w8.alloc (.cells #[.slice ag' G1.length cg', .slice ao' O'.length co'] 25) = wB at *
      have hb9 := hb8.trans (hbB.mono hb8.size)
      have hcA9 := hcA8.below hbB hcA8.lt
      have hGx9 := hGx8.below hbB
      have hIx9 := hIx8.below hbB
      have hGy9 := hGy.below hbB
      have hIy9 := hIy.below hbB
      obtain ⟨p0, p1⟩ := hcA9.cells
      obtain ⟨q0, q1⟩ := hcB.cells
      have pl := hcA9.lt
      have ql := hcB.lt
      clear hb8 hcA8 hGx8 hIx8 hGy hIy hbB hcA9 hcB
      go_wp2_with fail
      refine (sSameCircuit _ _ _ _ _ _ _ _ _ _ _ _ _ _ _ hGx9 hIx9 hGy9 hIy9 (smg_nm' _ _)).mono ?_
      rintro e wE ⟨rfl, hbE⟩
      have hbEw := hb9.trans (hbE.mono hb9.size)
      clear hGx9 hIx9 hGy9 hIy9 hb9 hbE
      go_wp2
      go_ret
      exact ⟨rfl, hbEw⟩
    · obtain rfl := HP1.out.err hr
      have hrf : (r1 != 0) = true := by rw [bne_iff_ne]; exact hr
      clear hr HP1
      go_wp2
      go_ret
      exact ⟨rfl, hb6⟩
end
section
open Go.ChangeAt Go.ChangeShapes Go.RowKit Go.WideShapes
/-- A list that is met is met from any place on. -/
theorem laid_drop {P : Program} {W : World} : ∀ {l : List (String × DataW Unit)} (k : Nat), laidMet P l W → laidMet P (l.drop k) W
  | l, 0, h => by simpa using h
  | [], k + 1, h => by simpa using h
  | x :: l, k + 1, h => by rw [List.drop_succ_cons]; exact laid_drop k h.tail
end
section
open Crm Go.ChangeAt Go.ChangeShapes Go.RowKit Go.WideShapes
theorem gPow : Tryd.prog.globalNamed "internal/strconv.uint64pow10" = some 2 := by kernel_rfl
theorem tPow : (Tryd.prog.globals[2]?).map (·.type) = some 152 := by kernel_rfl
theorem cellsPow : Tryd.prog.cellsOf 152 = 20 := by kernel_rfl
theorem cellsPowU : Tryd.prog.cellsOf 37 = 1 := by kernel_rfl
theorem pow_of_head {rest : List (String × DataW Unit)} {W : World} (h : laidMet Tryd.prog (("internal/strconv.uint64pow10", Rows.laid_internal_strconv_uint64pow10) :: rest) W) : Tabs W :=
  Lib.tabIs_of_head (zs := Lib.pow10Tab) (k := .u64) gPow tPow Tryd.underlying152 Tryd.underlying37 cellsPowU cellsPow h
theorem gShp : Tryd.prog.globalNamed "sharecroft/circuit.shapes" = some 0 := by kernel_rfl
theorem tShp : (Tryd.prog.globals[0]?).map (·.type) = some 86 := by kernel_rfl
theorem cellsShp : Tryd.prog.cellsOf 85 = 4 := by kernel_rfl
theorem cellsShs : Tryd.prog.cellsOf 9 = 1 := by kernel_rfl
theorem cellsShb : Tryd.prog.cellsOf 4 = 1 := by kernel_rfl
def shD {H : Type} (i : Nat) : DataW H := .agg [.lit (.string (shw i).data.toList), .lit (.bool (shA i)), .lit (.bool (shB i)), .lit (.bool (shN i))]
theorem shD_all {H : Type} : (Rows.laid_sharecroft_circuit_shapes : DataW H) = .agg ((List.range 7).map shD) := rfl
/-- A shape that reads as the datum. -/
theorem cells_of_shape {H : Type} {enc : TypeId × Value → H} {w : World} {base : Nat} {sp : Nat → Bool} {held : Bool} {fuel : Nat} {cs : List Value} {p : List MemPlace} {i : Nat}
    (h : DataW.trod enc Tryd.prog w base sp held fuel 85 cs = some (shD i, p)) : cs = [.string (shw i), .bool (shA i), .bool (shB i), .bool (shN i)] := by
  obtain ⟨xs, k, _, hx, hl, hxl, hf⟩ := DataW.trod_struct Tryd.underlying85 h
  rw [cellsShp] at hl
  match xs, hxl, cs, hl with
  | [y0, y1, y2, y3], _, [v0, v1, v2, v3], _ =>
    have g0 : DataW.trod enc Tryd.prog w base sp held k 9 [v0] = some y0 := by simpa [cellsShs] using hf 0 _ rfl
    have g1 : DataW.trod enc Tryd.prog w base sp held k 4 [v1] = some y1 := by simpa [cellsShb] using hf 1 _ rfl
    have g2 : DataW.trod enc Tryd.prog w base sp held k 4 [v2] = some y2 := by simpa [cellsShb] using hf 2 _ rfl
    have g3 : DataW.trod enc Tryd.prog w base sp held k 4 [v3] = some y3 := by simpa [cellsShb] using hf 3 _ rfl
    obtain ⟨s, e0, f0, _⟩ := DataW.trod_string Tryd.underlying9 g0
    obtain ⟨b1, e1, f1⟩ := DataW.trod_bool Tryd.underlying4 g1
    obtain ⟨b2, e2, f2⟩ := DataW.trod_bool Tryd.underlying4 g2
    obtain ⟨b3, e3, f3⟩ := DataW.trod_bool Tryd.underlying4 g3
    subst f0 f1 f2 f3
    have hx1 := congrArg Prod.fst hx
    simp only [shD, List.map_cons, List.map_nil, DataW.agg.injEq, List.cons.injEq, DataW.lit.injEq, Lit.string.injEq, Lit.bool.injEq, and_true] at hx1
    obtain ⟨q0, q1, q2, q3⟩ := hx1
    have hs : shw i = s := by
      apply ByteArray.ext
      exact Array.ext' q0
    simp only [List.cons.injEq, and_true] at e0 e1 e2 e3
    rw [e0, e1, e2, e3, hs, q1, q2, q3]
theorem shp_of_head {rest : List (String × DataW Unit)} {W : World} (h : laidMet Tryd.prog (("sharecroft/circuit.shapes", Rows.laid_sharecroft_circuit_shapes) :: rest) W) : Shp W := by
  obtain ⟨ps, ⟨g0, t0, cs0, f0, p0, q0, hg0, ht0, hv0, hd0, _, _⟩, _, _⟩ := h
  obtain rfl := Option.some.inj (gShp.symm.trans hg0)
  obtain rfl := Option.some.inj (tShp.symm.trans ht0)
  obtain ⟨xs, m, _, hx, hl, hxl, hel⟩ := DataW.trod_array Tryd.underlying86 hd0
  have hx1 := congrArg Prod.fst hx
  rw [shD_all] at hx1
  simp only [DataW.agg.injEq] at hx1
  intro i hi
  have h1 := hel i hi
  have hxi : xs[i]? = some (shD i, (xs[i]'(by omega)).2) := by
    rw [List.getElem?_eq_getElem (show i < xs.length by omega)]
    have h2 := congrArg (·[i]?) hx1
    simp only [List.getElem?_map] at h2
    rw [List.getElem?_eq_getElem (show i < xs.length by omega), List.getElem?_range hi] at h2
    simp only [Option.map_some, Option.some.injEq] at h2
    rw [h2]
  rw [hxi, cellsShp] at h1
  have hc := cells_of_shape h1
  have hcell : ∀ j, j < 4 → W.cell? ⟨0, i * 4 + j, none⟩ = ([.string (shw i), .bool (shA i), .bool (shB i), .bool (shN i)] : List Value)[j]? := fun j hj => by
    rw [World.var?_cell hg0 hv0 (i * 4 + j), ← Array.getElem?_toList, ← hc, List.getElem?_take_of_lt hj, List.getElem?_drop]
  exact ⟨hcell 0 (by omega), hcell 1 (by omega), hcell 2 (by omega), hcell 3 (by omega)⟩
end
end Go.Proofs.YtljlioglpaogdafDoor
