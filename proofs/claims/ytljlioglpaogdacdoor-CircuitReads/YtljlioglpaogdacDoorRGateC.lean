/- Package circuit: readGate. -/
import Derived.Test.YtljlioglpaogdacDoorToBackN
import Derived.Test.YtljlioglpaogdacDoorGRightC
import Derived.Test.YtljlioglpaogdacDoorToShamirM
import Derived.Deep.RegionWith
import Derived.BigRegion
namespace Go.Proofs.YtljlioglpaogdacDoor
set_option linter.unusedVariables false
set_option maxRecDepth 100000
set_option maxHeartbeats 8000000
section
open Crm Go.RowKit
/-- A gate that is boxed. -/
def Gbx (w : World) (b : Nat) (k x y z : Int) : Prop := w.heap[b]? = some (.cells #[.int .i64 k, .int .i64 x, .int .i64 y, .int .u64 z] 58 (0, 0))
theorem Gbx.lt {w : World} {b : Nat} {k x y z : Int} (h : Gbx w b k x y z) : b < w.heap.size := (Array.getElem?_eq_some_iff.1 h).1
theorem Gbx.cells {w : World} {b : Nat} {k x y z : Int} (h : Gbx w b k x y z) : w.cell? ⟨b, 0, none⟩ = some (.int .i64 k) ∧ w.cell? ⟨b, 1, none⟩ = some (.int .i64 x) ∧ w.cell? ⟨b, 2, none⟩ = some (.int .i64 y) ∧ w.cell? ⟨b, 3, none⟩ = some (.int .u64 z) := by
  unfold Gbx at h
  refine ⟨?_, ?_, ?_, ?_⟩ <;> (rw [cell_of_row _ _ _ _ _ (0, 0) h]; rfl)
theorem Gbx.frozen {w : World} {b : Nat} {k x y z : Int} (h : Gbx w b k x y z) (i : Nat) : w.frozen? ⟨b, i, none⟩ = false := frozen_of_row w b i _ _ h
theorem Gbx.new (w : World) (k x y z : Int) : Gbx (w.alloc (.cells #[.int .i64 k, .int .i64 x, .int .i64 y, .int .u64 z] 58)) w.heap.size k x y z := heap_alloc_new w _
theorem Gbx.below {w w' : World} {b B : Nat} {k x y z : Int} (h : Gbx w b k x y z) (hb : Below B w w') (hB : b < B) : Gbx w' b k x y z := by
  unfold Gbx; rw [hb.block b hB]; exact h
theorem Gbx.grown {w w' : World} {b : Nat} {r : Option Nat} {k x y z : Int} (h : Gbx w b k x y z) (hg : w.grownBy w' r) (hr : some b ≠ r) : Gbx w' b k x y z := by
  unfold Gbx; rw [hg.block b h.lt hr]; exact h
theorem Gbx.set1 {w : World} {b : Nat} {k x y z : Int} (h : Gbx w b k x y z) (v : Int) : Gbx (w.setCell ⟨b, 1, none⟩ (.int .i64 v)) b k v y z := by
  have := heap_setCell_same w b 1 _ _ (.int .i64 v) h
  unfold Gbx; rw [this]; rfl
theorem Gbx.set2 {w : World} {b : Nat} {k x y z : Int} (h : Gbx w b k x y z) (v : Int) : Gbx (w.setCell ⟨b, 2, none⟩ (.int .i64 v)) b k x v z := by
  have := heap_setCell_same w b 2 _ _ (.int .i64 v) h
  unfold Gbx; rw [this]; rfl
theorem Gbx.set3 {w : World} {b : Nat} {k x y z : Int} (h : Gbx w b k x y z) (v : Int) : Gbx (w.setCell ⟨b, 3, none⟩ (.int .u64 v)) b k x y v := by
  have := heap_setCell_same w b 3 _ _ (.int .u64 v) h
  unfold Gbx; rw [this]; rfl
theorem Gbx.set0 {w : World} {b : Nat} {k x y z : Int} (h : Gbx w b k x y z) (v : Int) : Gbx (w.setCell ⟨b, 0, none⟩ (.int .i64 v)) b v x y z := by
  have := heap_setCell_same w b 0 _ _ (.int .i64 v) h
  unfold Gbx; rw [this]; rfl
/-- All of it is written. -/
def put4 (w : World) (b : Nat) (k x y z : Int) : World := (((w.setCell ⟨b, 0, none⟩ (.int .i64 k)).setCell ⟨b, 1, none⟩ (.int .i64 x)).setCell ⟨b, 2, none⟩ (.int .i64 y)).setCell ⟨b, 3, none⟩ (.int .u64 z)
theorem Gbx.put {w : World} {b : Nat} {k x y z : Int} (h : Gbx w b k x y z) (k' x' y' z' : Int) : Gbx (put4 w b k' x' y' z') b k' x' y' z' := (((h.set0 k').set1 x').set2 y').set3 z'
theorem put4_grown (w : World) (b : Nat) (k x y z : Int) : w.grownBy (put4 w b k x y z) (some b) := grown_trans (grown_trans (grown_trans (grown_set _ _ _ _) (grown_set _ _ _ _)) (grown_set _ _ _ _)) (grown_set _ _ _ _)
theorem put4_below {w0 w : World} {b : Nat} {k x y z : Int} (h : Below w0.heap.size w0 w) (hb : w0.heap.size ≤ b) : Below w0.heap.size w0 (put4 w b k x y z) := below_grown h (put4_grown w b k x y z) hb
/-- A gate of kind k by its numbers. -/
def gol (k : Nat) (L : List Int) : Gt :=
  if k = 1 then ⟨1, L.getD 0 0, 0, 0⟩ else if k = 2 then ⟨2, 0, 0, nm (L.getD 0 0)⟩ else if k = 6 then ⟨6, L.getD 0 0, 0, nm (L.getD 1 0)⟩ else ⟨k, L.getD 0 0, L.getD 1 0, 0⟩
def gcell (g : Gt) : Value := .agg #[.int .i64 g.k, .int .i64 g.a, .int .i64 g.b, .int .u64 g.n]
/-- What readGate answers. -/
def Rgt (x : ByteArray) (L : List Int) (n : Nat) (w : World) (e : Ending) (w' : World) : Prop :=
  ((∃ k, 1 ≤ k ∧ k < 7 ∧ shw k = x ∧ n = arn k ∧ e = .returned (.tuple #[gcell (gol k L), .bool true])) ∨ ((∀ k, 1 ≤ k → k < 7 → shw k = x → n ≠ arn k) ∧ e = .returned (.tuple #[gcell ⟨0, 0, 0, 0⟩, .bool false]))) ∧ Below w.heap.size w w'
theorem shw_inj : ∀ i, i < 7 → ∀ j, j < 7 → shw i = shw j → i = j := by decide +kernel
theorem Rgt.n {x : ByteArray} {L : List Int} {n k : Nat} {w w' : World} (h1 : k < 7) (hx : shw k = x) (hn : n ≠ arn k) (hb : Below w.heap.size w w') : Rgt x L n w (.returned (.tuple #[gcell ⟨0, 0, 0, 0⟩, .bool false])) w' :=
  ⟨.inr ⟨fun j _ h7 hj e => hn (by rw [e, shw_inj j h7 k h1 (hj.trans hx.symm)]), rfl⟩, hb⟩
theorem Rgt.y {x : ByteArray} {L : List Int} {n k : Nat} {w w' : World} {g : Gt} (h0 : 1 ≤ k) (h1 : k < 7) (hx : shw k = x) (hn : n = arn k) (hg : g = gol k L) (hb : Below w.heap.size w w') : Rgt x L n w (.returned (.tuple #[gcell g, .bool true])) w' :=
  ⟨.inl ⟨k, h0, h1, hx, hn, by rw [hg]⟩, hb⟩

theorem infoU1c2 : (Tryd.prog.info? 43).map (·.size) = some 1 := by kernel_rfl
theorem getD_bd9 {L : List Int} (h : ∀ v ∈ L, 0 ≤ v ∧ v ≤ 9999999999) (i : Nat) : 0 ≤ L.getD i 0 ∧ L.getD i 0 ≤ 9999999999 := by
  rw [List.getD_eq_getElem?_getD]
  cases e : L[i]? with
  | none => simp
  | some v => simpa using h v (List.mem_of_getElem? e)

theorem cReadGate (x : ByteArray) (g n : Nat) (L : List Int) (w : World) (h : Blk w g L) (hl : L.length = n) (hn : n ≤ 100000) (hbd : ∀ v ∈ L, 0 ≤ v ∧ v ≤ 9999999999) (hS : Shp w) :
    Calls Tryd.prog 41 #[.string x, .slice (some ⟨g, 0, none⟩) n n] w fun e w' => Rgt x L n w e w' := by
  have hb0 : Below w.heap.size w (w.alloc (.cells #[.int .i64 0, .int .i64 0, .int .i64 0, .int .u64 0] 58)) := (Below.refl _ _).alloc (Nat.le_refl _) _
  have hR0 := Gbx.new w 0 0 0 0
  have hHB : Hid (∀ v ∈ L, 0 ≤ v ∧ v ≤ 9999999999) := hbd
  clear hbd
  go_enter Tryd.func41, Tryd.ntmps41
  go_upto_region 1 with fail
  generalize w.alloc (.cells #[.int .i64 0, .int .i64 0, .int .i64 0, .int .u64 0] 58) = W at *
  have hS0 := hS.below hb0
  have hBl0 := h.below hb0 h.lt
  have hgw := h.lt
  have hw1 : w.heap.size < W.heap.size := hR0.lt
  go_wp2_with fail
  refine (cKind x W hS0).mono ?_
  rintro e w1 ⟨k, rfl, hK, hw⟩
  have hw := hw.symm
  subst hw
  rcases hK with ⟨hk1, hk7, hx⟩ | ⟨rfl, hno⟩
  · have hkk : k = 1 ∨ k = 2 ∨ k = 3 ∨ k = 4 ∨ k = 5 ∨ k = 6 := by omega
    clear hk1 hk7
    rcases hkk with rfl | rfl | rfl | rfl | rfl | rfl
    · obtain ⟨s0, s1, s2, s3⟩ := hS0.at1
      have slt := hS0.lt
      have hb1' : Below W.heap.size W (W.alloc (.cells #[.string ⟨#[105, 110, 112, 117, 116]⟩, .bool true, .bool false, .bool false] 107)) := (Below.refl _ _).alloc (Nat.le_refl _) _
      have hb1 := hb0.trans (hb1'.mono hb0.size)
      obtain ⟨t0, t1, t2, t3⟩ := shape_box W ⟨#[105, 110, 112, 117, 116]⟩ true false false 107
      have hlt1 : W.heap.size < (W.alloc (.cells #[.string ⟨#[105, 110, 112, 117, 116]⟩, .bool true, .bool false, .bool false] 107)).heap.size := by simp
      have hR1 := hR0.below hb1' hR0.lt
      have hBl1 := hBl0.below hb1' hBl0.lt
      go_upto_region 3 with fail
      generalize W.alloc (.cells #[.string ⟨#[105, 110, 112, 117, 116]⟩, .bool true, .bool false, .bool false] 107) = V at *
      clear s0 s1 s2 s3 hb1' hb0 hS0 hBl0 hR0 slt
      have HX : Hid (shw 1 = x) := hx
      have hb2' : Below V.heap.size V (V.alloc (.cells #[.bool true, .bool false, .bool false] 4)) := (Below.refl _ _).alloc (Nat.le_refl _) _
      have hb2 := hb1.trans (hb2'.mono hb1.size)
      have hR2 := hR1.below hb2' hR1.lt
      have hBl2 := hBl1.below hb2' hBl1.lt
      have e0 : (V.alloc (.cells #[.bool true, .bool false, .bool false] 4)).cell? ⟨V.heap.size, 0, none⟩ = some (.bool true) := by rw [cell_of_row _ _ _ _ _ (0, 0) (heap_alloc_new V _)]; rfl
      have e1 : (V.alloc (.cells #[.bool true, .bool false, .bool false] 4)).cell? ⟨V.heap.size, 1, none⟩ = some (.bool false) := by rw [cell_of_row _ _ _ _ _ (0, 0) (heap_alloc_new V _)]; rfl
      have e2 : (V.alloc (.cells #[.bool true, .bool false, .bool false] 4)).cell? ⟨V.heap.size, 2, none⟩ = some (.bool false) := by rw [cell_of_row _ _ _ _ _ (0, 0) (heap_alloc_new V _)]; rfl
      have hltU : V.heap.size < (V.alloc (.cells #[.bool true, .bool false, .bool false] 4)).heap.size := by simp
      have T0 : (V.alloc (.cells #[.bool true, .bool false, .bool false] 4)).cell? ⟨W.heap.size, 0, none⟩ = some (.string ⟨#[105, 110, 112, 117, 116]⟩) := by rw [hb2'.cell (p := ⟨W.heap.size, 0, none⟩) hlt1]; exact t0
      have T1 : (V.alloc (.cells #[.bool true, .bool false, .bool false] 4)).cell? ⟨W.heap.size, 1, none⟩ = some (.bool true) := by rw [hb2'.cell (p := ⟨W.heap.size, 1, none⟩) hlt1]; exact t1
      have T2 : (V.alloc (.cells #[.bool true, .bool false, .bool false] 4)).cell? ⟨W.heap.size, 2, none⟩ = some (.bool false) := by rw [hb2'.cell (p := ⟨W.heap.size, 2, none⟩) hlt1]; exact t2
      have T3 : (V.alloc (.cells #[.bool true, .bool false, .bool false] 4)).cell? ⟨W.heap.size, 3, none⟩ = some (.bool false) := by rw [hb2'.cell (p := ⟨W.heap.size, 3, none⟩) hlt1]; exact t3
      have hlt2 := Nat.lt_trans hlt1 hltU
      go_wp2_with fail
      generalize V.alloc (.cells #[.bool true, .bool false, .bool false] 4) = U at *
      refine (cCount V.heap.size true false false U e0 e1 e2 hltU).mono ?_
      rintro e w3 ⟨rfl, hw3⟩
      have hw3 := hw3.symm
      subst hw3
      have hcn : bn true + bn false + bn false = 1 := rfl
      rw [hcn]
      clear e0 e1 e2 hcn t0 t1 t2 t3 hb2' hb1 hR1 hBl1 hx
      by_cases hne : n = 1
      · subst hne
        have HEQ : Hid (1 = arn 1) := rfl
        have hP0 := Gbx.new U 1 0 0 0
        have hb3' : Below U.heap.size U (U.alloc (.cells #[.int .i64 1, .int .i64 0, .int .i64 0, .int .u64 0] 58)) := (Below.refl _ _).alloc (Nat.le_refl _) _
        have hb3 := hb2.trans (hb3'.mono hb2.size)
        have hR3 := hR2.below hb3' hR2.lt
        have hBl3 := hBl2.below hb3' hBl2.lt
        have hlt3 := hltU
        have hlt4 := hP0.lt
        have S1 : (U.alloc (.cells #[.int .i64 1, .int .i64 0, .int .i64 0, .int .u64 0] 58)).cell? ⟨W.heap.size, 1, none⟩ = some (.bool true) := by rw [hb3'.cell (p := ⟨W.heap.size, 1, none⟩) hlt2]; exact T1
        have S2 : (U.alloc (.cells #[.int .i64 1, .int .i64 0, .int .i64 0, .int .u64 0] 58)).cell? ⟨W.heap.size, 2, none⟩ = some (.bool false) := by rw [hb3'.cell (p := ⟨W.heap.size, 2, none⟩) hlt2]; exact T2
        have S3 : (U.alloc (.cells #[.int .i64 1, .int .i64 0, .int .i64 0, .int .u64 0] 58)).cell? ⟨W.heap.size, 3, none⟩ = some (.bool false) := by rw [hb3'.cell (p := ⟨W.heap.size, 3, none⟩) hlt2]; exact T3
        have hneR : w.heap.size ≠ U.heap.size := Nat.ne_of_lt hR2.lt
        have hneB : g ≠ U.heap.size := Nat.ne_of_lt hBl2.lt
        have hneS : W.heap.size ≠ U.heap.size := Nat.ne_of_lt hlt2
        have hBU : w.heap.size ≤ U.heap.size := hb2.size
        obtain ⟨v0, HV0⟩ : ∃ v, Hid (L.getD 0 0 = v) := ⟨_, rfl⟩
        have hv0 : 0 ≤ v0 ∧ v0 ≤ 9999999999 := by rw [← HV0.out]; exact getD_bd9 hHB.out 0
        have HL : Hid (L.length = 1) := hl
        clear hl T0 T1 T2 T3 hBl2 hR2 hb2
        go_upto_region 6 with fail
        generalize U.alloc (.cells #[.int .i64 1, .int .i64 0, .int .i64 0, .int .u64 0] 58) = Y0 at *
        clear hb3'
        have hsl0 : ∀ W, (Instr.sliceAt 31 (.slice (some ⟨g, 0, none⟩) 1 1) (some (.int .i64 1)) none none).run Tryd.prog W = .ok (.slice (some ⟨g, 0, none⟩) 0 0) W := fun W => run_subl Tryd.underlying31 infoU1c2 (some ⟨g, 0, none⟩) 1 1 1 rfl (by omega) W
        have hc0 := hBl3.cell (i := 0) (by rw [HL.out]; omega)
        rw [HV0.out] at hc0
        have hwr0 : IntKind.i64.wrap v0 = v0 := by rw [IntKind.wrap_i64]; omega
        have hgl0 := hBl3.lt
        have hP1 : Gbx (Y0.setCell ⟨U.heap.size, 1, none⟩ (.int .i64 v0)).drew U.heap.size 1 v0 0 0 := hP0.set1 v0
        have hgr0 : Y0.grownBy (Y0.setCell ⟨U.heap.size, 1, none⟩ (.int .i64 v0)).drew (some U.heap.size) := grown_drew (grown_set _ _ _ _)
        have hR4 := hR3.grown hgr0 (fun e => hneR (Option.some.inj e))
        have hBl4 := hBl3.grown hgr0 (fun e => hneB (Option.some.inj e))
        have hb4 := below_grown hb3 hgr0 hBU
        have S10 : (Y0.setCell ⟨U.heap.size, 1, none⟩ (.int .i64 v0)).drew.cell? ⟨W.heap.size, 1, none⟩ = some (.bool true) := (World.cell?_setCell_other _ _ _ _ (by simp)).trans S1
        have S20 : (Y0.setCell ⟨U.heap.size, 1, none⟩ (.int .i64 v0)).drew.cell? ⟨W.heap.size, 2, none⟩ = some (.bool false) := (World.cell?_setCell_other _ _ _ _ (by simp)).trans S2
        have S30 : (Y0.setCell ⟨U.heap.size, 1, none⟩ (.int .i64 v0)).drew.cell? ⟨W.heap.size, 3, none⟩ = some (.bool false) := (World.cell?_setCell_other _ _ _ _ (by simp)).trans S3
        obtain ⟨p0, p1, p2, p3⟩ := hP0.cells
        have pf := hP0.frozen 1
        have pl := hP0.lt
        have sl := hBl3.lt
        have hszS : W.heap.size < Y0.heap.size := Nat.lt_trans (Nat.lt_of_le_of_ne (Nat.le_of_lt hlt2) hneS) hP0.lt
        clear hb3 hP0 hR3 hBl3 hgr0
        go_wp2
        go_region
        all_goals
          generalize (Y0.setCell ⟨U.heap.size, 1, none⟩ (.int .i64 v0)).drew = Y1 at *
          clear S1 S2 S3 p0 p1 p2 p3 pf pl sl hszS hsl0 hc0 hgl0
          have hszS : W.heap.size < Y1.heap.size := Nat.lt_trans (Nat.lt_of_le_of_ne (Nat.le_of_lt hlt2) hneS) hP1.lt
          have HGO : Hid ((⟨1, v0, 0, 0⟩ : Gt) = gol 1 L) := by
            unfold Hid
            show _ = (⟨1, L.getD 0 0, 0, 0⟩ : Gt)
            rw [HV0.out]
          obtain ⟨p0, p1, p2, p3⟩ := hP1.cells
          have pl := hP1.lt
          obtain ⟨z0, z1, z2, z3⟩ := (hR4.put 1 (v0) (0) (0)).cells
          obtain ⟨y0, y1, y2, y3⟩ := hR4.cells
          have fz := fun i => hR4.frozen i
          have rl := hR4.lt
          have HBE : Hid (Below w.heap.size w (put4 Y1 w.heap.size 1 (v0) (0) (0))) := put4_below hb4 (Nat.le_refl _)
          clear hR4 hP1 hb4 hBl4
          unfold put4 at z0 z1 z2 z3 HBE
          go_wp2
          exact bodyPost_ret (v := .tuple #[gcell ⟨1, v0, 0, 0⟩, .bool true]) (by simp [results, Tryd.results41, go_sem, z0, z1, z2, z3, gcell]) rfl (Rgt.y (k := 1) (by omega) (by omega) HX.out HEQ.out HGO.out HBE.out)
      · have HNE : Hid (n ≠ arn 1) := hne
        have hnb : ((n : Int) != 1) = true := by rw [bne_iff_ne]; omega
        clear hne
        obtain ⟨z0, z1, z2, z3⟩ := (hR2.put 0 0 0 0).cells
        obtain ⟨y0, y1, y2, y3⟩ := hR2.cells
        have fz := fun i => hR2.frozen i
        have HBE : Hid (Below w.heap.size w (put4 U w.heap.size 0 0 0 0)) := put4_below hb2 (Nat.le_refl _)
        have rl := hR2.lt
        clear hR2 hBl2 hb2
        unfold put4 at z0 z1 z2 z3 HBE
        go_wp2
        exact bodyPost_ret (v := .tuple #[gcell ⟨0, 0, 0, 0⟩, .bool false]) (by simp [results, Tryd.results41, go_sem, z0, z1, z2, z3, gcell]) rfl (Rgt.n (k := 1) (by omega) HX.out HNE.out HBE.out)
    · obtain ⟨s0, s1, s2, s3⟩ := hS0.at2
      have slt := hS0.lt
      have hb1' : Below W.heap.size W (W.alloc (.cells #[.string ⟨#[99, 111, 110, 115, 116]⟩, .bool false, .bool false, .bool true] 107)) := (Below.refl _ _).alloc (Nat.le_refl _) _
      have hb1 := hb0.trans (hb1'.mono hb0.size)
      obtain ⟨t0, t1, t2, t3⟩ := shape_box W ⟨#[99, 111, 110, 115, 116]⟩ false false true 107
      have hlt1 : W.heap.size < (W.alloc (.cells #[.string ⟨#[99, 111, 110, 115, 116]⟩, .bool false, .bool false, .bool true] 107)).heap.size := by simp
      have hR1 := hR0.below hb1' hR0.lt
      have hBl1 := hBl0.below hb1' hBl0.lt
      go_upto_region 3 with fail
      generalize W.alloc (.cells #[.string ⟨#[99, 111, 110, 115, 116]⟩, .bool false, .bool false, .bool true] 107) = V at *
      clear s0 s1 s2 s3 hb1' hb0 hS0 hBl0 hR0 slt
      have HX : Hid (shw 2 = x) := hx
      have hb2' : Below V.heap.size V (V.alloc (.cells #[.bool false, .bool false, .bool true] 4)) := (Below.refl _ _).alloc (Nat.le_refl _) _
      have hb2 := hb1.trans (hb2'.mono hb1.size)
      have hR2 := hR1.below hb2' hR1.lt
      have hBl2 := hBl1.below hb2' hBl1.lt
      have e0 : (V.alloc (.cells #[.bool false, .bool false, .bool true] 4)).cell? ⟨V.heap.size, 0, none⟩ = some (.bool false) := by rw [cell_of_row _ _ _ _ _ (0, 0) (heap_alloc_new V _)]; rfl
      have e1 : (V.alloc (.cells #[.bool false, .bool false, .bool true] 4)).cell? ⟨V.heap.size, 1, none⟩ = some (.bool false) := by rw [cell_of_row _ _ _ _ _ (0, 0) (heap_alloc_new V _)]; rfl
      have e2 : (V.alloc (.cells #[.bool false, .bool false, .bool true] 4)).cell? ⟨V.heap.size, 2, none⟩ = some (.bool true) := by rw [cell_of_row _ _ _ _ _ (0, 0) (heap_alloc_new V _)]; rfl
      have hltU : V.heap.size < (V.alloc (.cells #[.bool false, .bool false, .bool true] 4)).heap.size := by simp
      have T0 : (V.alloc (.cells #[.bool false, .bool false, .bool true] 4)).cell? ⟨W.heap.size, 0, none⟩ = some (.string ⟨#[99, 111, 110, 115, 116]⟩) := by rw [hb2'.cell (p := ⟨W.heap.size, 0, none⟩) hlt1]; exact t0
      have T1 : (V.alloc (.cells #[.bool false, .bool false, .bool true] 4)).cell? ⟨W.heap.size, 1, none⟩ = some (.bool false) := by rw [hb2'.cell (p := ⟨W.heap.size, 1, none⟩) hlt1]; exact t1
      have T2 : (V.alloc (.cells #[.bool false, .bool false, .bool true] 4)).cell? ⟨W.heap.size, 2, none⟩ = some (.bool false) := by rw [hb2'.cell (p := ⟨W.heap.size, 2, none⟩) hlt1]; exact t2
      have T3 : (V.alloc (.cells #[.bool false, .bool false, .bool true] 4)).cell? ⟨W.heap.size, 3, none⟩ = some (.bool true) := by rw [hb2'.cell (p := ⟨W.heap.size, 3, none⟩) hlt1]; exact t3
      have hlt2 := Nat.lt_trans hlt1 hltU
      go_wp2_with fail
      generalize V.alloc (.cells #[.bool false, .bool false, .bool true] 4) = U at *
      refine (cCount V.heap.size false false true U e0 e1 e2 hltU).mono ?_
      rintro e w3 ⟨rfl, hw3⟩
      have hw3 := hw3.symm
      subst hw3
      have hcn : bn false + bn false + bn true = 1 := rfl
      rw [hcn]
      clear e0 e1 e2 hcn t0 t1 t2 t3 hb2' hb1 hR1 hBl1 hx
      by_cases hne : n = 1
      · subst hne
        have HEQ : Hid (1 = arn 2) := rfl
        have hP0 := Gbx.new U 2 0 0 0
        have hb3' : Below U.heap.size U (U.alloc (.cells #[.int .i64 2, .int .i64 0, .int .i64 0, .int .u64 0] 58)) := (Below.refl _ _).alloc (Nat.le_refl _) _
        have hb3 := hb2.trans (hb3'.mono hb2.size)
        have hR3 := hR2.below hb3' hR2.lt
        have hBl3 := hBl2.below hb3' hBl2.lt
        have hlt3 := hltU
        have hlt4 := hP0.lt
        have S1 : (U.alloc (.cells #[.int .i64 2, .int .i64 0, .int .i64 0, .int .u64 0] 58)).cell? ⟨W.heap.size, 1, none⟩ = some (.bool false) := by rw [hb3'.cell (p := ⟨W.heap.size, 1, none⟩) hlt2]; exact T1
        have S2 : (U.alloc (.cells #[.int .i64 2, .int .i64 0, .int .i64 0, .int .u64 0] 58)).cell? ⟨W.heap.size, 2, none⟩ = some (.bool false) := by rw [hb3'.cell (p := ⟨W.heap.size, 2, none⟩) hlt2]; exact T2
        have S3 : (U.alloc (.cells #[.int .i64 2, .int .i64 0, .int .i64 0, .int .u64 0] 58)).cell? ⟨W.heap.size, 3, none⟩ = some (.bool true) := by rw [hb3'.cell (p := ⟨W.heap.size, 3, none⟩) hlt2]; exact T3
        have hneR : w.heap.size ≠ U.heap.size := Nat.ne_of_lt hR2.lt
        have hneB : g ≠ U.heap.size := Nat.ne_of_lt hBl2.lt
        have hneS : W.heap.size ≠ U.heap.size := Nat.ne_of_lt hlt2
        have hBU : w.heap.size ≤ U.heap.size := hb2.size
        obtain ⟨v0, HV0⟩ : ∃ v, Hid (L.getD 0 0 = v) := ⟨_, rfl⟩
        have hv0 : 0 ≤ v0 ∧ v0 ≤ 9999999999 := by rw [← HV0.out]; exact getD_bd9 hHB.out 0
        have HL : Hid (L.length = 1) := hl
        clear hl T0 T1 T2 T3 hBl2 hR2 hb2
        go_upto_region 6 with fail
        generalize U.alloc (.cells #[.int .i64 2, .int .i64 0, .int .i64 0, .int .u64 0] 58) = Y0 at *
        clear hb3'
        have hc0 := hBl3.cell (i := 0) (by rw [HL.out]; omega)
        rw [HV0.out] at hc0
        obtain ⟨N, HN⟩ : ∃ N, Hid (nm v0 = N) := ⟨_, rfl⟩
        have hP1 : Gbx (Y0.setCell ⟨U.heap.size, 3, none⟩ (.int .u64 N)) U.heap.size 2 0 0 N := hP0.set3 N
        have hgr0 : Y0.grownBy (Y0.setCell ⟨U.heap.size, 3, none⟩ (.int .u64 N)) (some U.heap.size) := grown_set _ _ _ _
        have hR4 := hR3.grown hgr0 (fun e => hneR (Option.some.inj e))
        have hb4 := below_grown hb3 hgr0 hBU
        obtain ⟨p0, p1, p2, p3⟩ := hP0.cells
        have pf := hP0.frozen 3
        have pl := hP0.lt
        have sl := hBl3.lt
        have hszS : W.heap.size < Y0.heap.size := Nat.lt_trans (Nat.lt_of_le_of_ne (Nat.le_of_lt hlt2) hneS) hP0.lt
        clear hb3 hP0 hR3 hBl3 hgr0
        go_upto_region 12 with (go_at_call 52; refine (fNorm _ _ (by omega) (by omega)).mono ?_; rintro e w' ⟨rfl, hw⟩; have hw := hw.symm; subst hw; rw [HN.out])
        generalize Y0.setCell ⟨U.heap.size, 3, none⟩ (.int .u64 N) = Y1 at *
        clear S1 S2 S3 p0 p1 p2 p3 pf pl sl hszS hc0
        have HGO : Hid ((⟨2, 0, 0, N⟩ : Gt) = gol 2 L) := by
          unfold Hid
          show _ = (⟨2, 0, 0, nm (L.getD 0 0)⟩ : Gt)
          rw [HV0.out, HN.out]
        obtain ⟨p0, p1, p2, p3⟩ := hP1.cells
        have pl := hP1.lt
        obtain ⟨z0, z1, z2, z3⟩ := (hR4.put 2 (0) (0) (N)).cells
        obtain ⟨y0, y1, y2, y3⟩ := hR4.cells
        have fz := fun i => hR4.frozen i
        have rl := hR4.lt
        have HBE : Hid (Below w.heap.size w (put4 Y1 w.heap.size 2 (0) (0) (N))) := put4_below hb4 (Nat.le_refl _)
        clear hR4 hP1 hb4
        unfold put4 at z0 z1 z2 z3 HBE
        go_wp2
        exact bodyPost_ret (v := .tuple #[gcell ⟨2, 0, 0, N⟩, .bool true]) (by simp [results, Tryd.results41, go_sem, z0, z1, z2, z3, gcell]) rfl (Rgt.y (k := 2) (by omega) (by omega) HX.out HEQ.out HGO.out HBE.out)
      · have HNE : Hid (n ≠ arn 2) := hne
        have hnb : ((n : Int) != 1) = true := by rw [bne_iff_ne]; omega
        clear hne
        obtain ⟨z0, z1, z2, z3⟩ := (hR2.put 0 0 0 0).cells
        obtain ⟨y0, y1, y2, y3⟩ := hR2.cells
        have fz := fun i => hR2.frozen i
        have HBE : Hid (Below w.heap.size w (put4 U w.heap.size 0 0 0 0)) := put4_below hb2 (Nat.le_refl _)
        have rl := hR2.lt
        clear hR2 hBl2 hb2
        unfold put4 at z0 z1 z2 z3 HBE
        go_wp2
        exact bodyPost_ret (v := .tuple #[gcell ⟨0, 0, 0, 0⟩, .bool false]) (by simp [results, Tryd.results41, go_sem, z0, z1, z2, z3, gcell]) rfl (Rgt.n (k := 2) (by omega) HX.out HNE.out HBE.out)
    · obtain ⟨s0, s1, s2, s3⟩ := hS0.at3
      have slt := hS0.lt
      have hb1' : Below W.heap.size W (W.alloc (.cells #[.string ⟨#[97, 100, 100]⟩, .bool true, .bool true, .bool false] 107)) := (Below.refl _ _).alloc (Nat.le_refl _) _
      have hb1 := hb0.trans (hb1'.mono hb0.size)
      obtain ⟨t0, t1, t2, t3⟩ := shape_box W ⟨#[97, 100, 100]⟩ true true false 107
      have hlt1 : W.heap.size < (W.alloc (.cells #[.string ⟨#[97, 100, 100]⟩, .bool true, .bool true, .bool false] 107)).heap.size := by simp
      have hR1 := hR0.below hb1' hR0.lt
      have hBl1 := hBl0.below hb1' hBl0.lt
      go_upto_region 3 with fail
      generalize W.alloc (.cells #[.string ⟨#[97, 100, 100]⟩, .bool true, .bool true, .bool false] 107) = V at *
      clear s0 s1 s2 s3 hb1' hb0 hS0 hBl0 hR0 slt
      have HX : Hid (shw 3 = x) := hx
      have hb2' : Below V.heap.size V (V.alloc (.cells #[.bool true, .bool true, .bool false] 4)) := (Below.refl _ _).alloc (Nat.le_refl _) _
      have hb2 := hb1.trans (hb2'.mono hb1.size)
      have hR2 := hR1.below hb2' hR1.lt
      have hBl2 := hBl1.below hb2' hBl1.lt
      have e0 : (V.alloc (.cells #[.bool true, .bool true, .bool false] 4)).cell? ⟨V.heap.size, 0, none⟩ = some (.bool true) := by rw [cell_of_row _ _ _ _ _ (0, 0) (heap_alloc_new V _)]; rfl
      have e1 : (V.alloc (.cells #[.bool true, .bool true, .bool false] 4)).cell? ⟨V.heap.size, 1, none⟩ = some (.bool true) := by rw [cell_of_row _ _ _ _ _ (0, 0) (heap_alloc_new V _)]; rfl
      have e2 : (V.alloc (.cells #[.bool true, .bool true, .bool false] 4)).cell? ⟨V.heap.size, 2, none⟩ = some (.bool false) := by rw [cell_of_row _ _ _ _ _ (0, 0) (heap_alloc_new V _)]; rfl
      have hltU : V.heap.size < (V.alloc (.cells #[.bool true, .bool true, .bool false] 4)).heap.size := by simp
      have T0 : (V.alloc (.cells #[.bool true, .bool true, .bool false] 4)).cell? ⟨W.heap.size, 0, none⟩ = some (.string ⟨#[97, 100, 100]⟩) := by rw [hb2'.cell (p := ⟨W.heap.size, 0, none⟩) hlt1]; exact t0
      have T1 : (V.alloc (.cells #[.bool true, .bool true, .bool false] 4)).cell? ⟨W.heap.size, 1, none⟩ = some (.bool true) := by rw [hb2'.cell (p := ⟨W.heap.size, 1, none⟩) hlt1]; exact t1
      have T2 : (V.alloc (.cells #[.bool true, .bool true, .bool false] 4)).cell? ⟨W.heap.size, 2, none⟩ = some (.bool true) := by rw [hb2'.cell (p := ⟨W.heap.size, 2, none⟩) hlt1]; exact t2
      have T3 : (V.alloc (.cells #[.bool true, .bool true, .bool false] 4)).cell? ⟨W.heap.size, 3, none⟩ = some (.bool false) := by rw [hb2'.cell (p := ⟨W.heap.size, 3, none⟩) hlt1]; exact t3
      have hlt2 := Nat.lt_trans hlt1 hltU
      go_wp2_with fail
      generalize V.alloc (.cells #[.bool true, .bool true, .bool false] 4) = U at *
      refine (cCount V.heap.size true true false U e0 e1 e2 hltU).mono ?_
      rintro e w3 ⟨rfl, hw3⟩
      have hw3 := hw3.symm
      subst hw3
      have hcn : bn true + bn true + bn false = 2 := rfl
      rw [hcn]
      clear e0 e1 e2 hcn t0 t1 t2 t3 hb2' hb1 hR1 hBl1 hx
      by_cases hne : n = 2
      · subst hne
        have HEQ : Hid (2 = arn 3) := rfl
        have hP0 := Gbx.new U 3 0 0 0
        have hb3' : Below U.heap.size U (U.alloc (.cells #[.int .i64 3, .int .i64 0, .int .i64 0, .int .u64 0] 58)) := (Below.refl _ _).alloc (Nat.le_refl _) _
        have hb3 := hb2.trans (hb3'.mono hb2.size)
        have hR3 := hR2.below hb3' hR2.lt
        have hBl3 := hBl2.below hb3' hBl2.lt
        have hlt3 := hltU
        have hlt4 := hP0.lt
        have S1 : (U.alloc (.cells #[.int .i64 3, .int .i64 0, .int .i64 0, .int .u64 0] 58)).cell? ⟨W.heap.size, 1, none⟩ = some (.bool true) := by rw [hb3'.cell (p := ⟨W.heap.size, 1, none⟩) hlt2]; exact T1
        have S2 : (U.alloc (.cells #[.int .i64 3, .int .i64 0, .int .i64 0, .int .u64 0] 58)).cell? ⟨W.heap.size, 2, none⟩ = some (.bool true) := by rw [hb3'.cell (p := ⟨W.heap.size, 2, none⟩) hlt2]; exact T2
        have S3 : (U.alloc (.cells #[.int .i64 3, .int .i64 0, .int .i64 0, .int .u64 0] 58)).cell? ⟨W.heap.size, 3, none⟩ = some (.bool false) := by rw [hb3'.cell (p := ⟨W.heap.size, 3, none⟩) hlt2]; exact T3
        have hneR : w.heap.size ≠ U.heap.size := Nat.ne_of_lt hR2.lt
        have hneB : g ≠ U.heap.size := Nat.ne_of_lt hBl2.lt
        have hneS : W.heap.size ≠ U.heap.size := Nat.ne_of_lt hlt2
        have hBU : w.heap.size ≤ U.heap.size := hb2.size
        obtain ⟨v0, HV0⟩ : ∃ v, Hid (L.getD 0 0 = v) := ⟨_, rfl⟩
        have hv0 : 0 ≤ v0 ∧ v0 ≤ 9999999999 := by rw [← HV0.out]; exact getD_bd9 hHB.out 0
        obtain ⟨v1, HV1⟩ : ∃ v, Hid (L.getD 1 0 = v) := ⟨_, rfl⟩
        have hv1 : 0 ≤ v1 ∧ v1 ≤ 9999999999 := by rw [← HV1.out]; exact getD_bd9 hHB.out 1
        have HL : Hid (L.length = 2) := hl
        clear hl T0 T1 T2 T3 hBl2 hR2 hb2
        go_upto_region 6 with fail
        generalize U.alloc (.cells #[.int .i64 3, .int .i64 0, .int .i64 0, .int .u64 0] 58) = Y0 at *
        clear hb3'
        have hsl0 : ∀ W, (Instr.sliceAt 31 (.slice (some ⟨g, 0, none⟩) 2 2) (some (.int .i64 1)) none none).run Tryd.prog W = .ok (.slice (some ⟨g, 1, none⟩) 1 1) W := fun W => run_subl Tryd.underlying31 infoU1c2 (some ⟨g, 0, none⟩) 2 2 1 rfl (by omega) W
        have hc0 := hBl3.cell (i := 0) (by rw [HL.out]; omega)
        rw [HV0.out] at hc0
        have hwr0 : IntKind.i64.wrap v0 = v0 := by rw [IntKind.wrap_i64]; omega
        have hgl0 := hBl3.lt
        have hP1 : Gbx (Y0.setCell ⟨U.heap.size, 1, none⟩ (.int .i64 v0)).drew U.heap.size 3 v0 0 0 := hP0.set1 v0
        have hgr0 : Y0.grownBy (Y0.setCell ⟨U.heap.size, 1, none⟩ (.int .i64 v0)).drew (some U.heap.size) := grown_drew (grown_set _ _ _ _)
        have hR4 := hR3.grown hgr0 (fun e => hneR (Option.some.inj e))
        have hBl4 := hBl3.grown hgr0 (fun e => hneB (Option.some.inj e))
        have hb4 := below_grown hb3 hgr0 hBU
        have S10 : (Y0.setCell ⟨U.heap.size, 1, none⟩ (.int .i64 v0)).drew.cell? ⟨W.heap.size, 1, none⟩ = some (.bool true) := (World.cell?_setCell_other _ _ _ _ (by simp)).trans S1
        have S20 : (Y0.setCell ⟨U.heap.size, 1, none⟩ (.int .i64 v0)).drew.cell? ⟨W.heap.size, 2, none⟩ = some (.bool true) := (World.cell?_setCell_other _ _ _ _ (by simp)).trans S2
        have S30 : (Y0.setCell ⟨U.heap.size, 1, none⟩ (.int .i64 v0)).drew.cell? ⟨W.heap.size, 3, none⟩ = some (.bool false) := (World.cell?_setCell_other _ _ _ _ (by simp)).trans S3
        obtain ⟨p0, p1, p2, p3⟩ := hP0.cells
        have pf := hP0.frozen 1
        have pl := hP0.lt
        have sl := hBl3.lt
        have hszS : W.heap.size < Y0.heap.size := Nat.lt_trans (Nat.lt_of_le_of_ne (Nat.le_of_lt hlt2) hneS) hP0.lt
        clear hb3 hP0 hR3 hBl3 hgr0
        go_wp2
        go_region
        all_goals
          generalize (Y0.setCell ⟨U.heap.size, 1, none⟩ (.int .i64 v0)).drew = Y1 at *
          clear S1 S2 S3 p0 p1 p2 p3 pf pl sl hszS hsl0 hc0 hgl0
          have hsl1 : ∀ W, (Instr.sliceAt 31 (.slice (some ⟨g, 1, none⟩) 1 1) (some (.int .i64 1)) none none).run Tryd.prog W = .ok (.slice (some ⟨g, 1, none⟩) 0 0) W := fun W => run_subl Tryd.underlying31 infoU1c2 (some ⟨g, 1, none⟩) 1 1 1 rfl (by omega) W
          have hc1 := hBl4.cell (i := 1) (by rw [HL.out]; omega)
          rw [HV1.out] at hc1
          have hwr1 : IntKind.i64.wrap v1 = v1 := by rw [IntKind.wrap_i64]; omega
          have hgl1 := hBl4.lt
          have hP2 : Gbx (Y1.setCell ⟨U.heap.size, 2, none⟩ (.int .i64 v1)).drew U.heap.size 3 v0 v1 0 := hP1.set2 v1
          have hgr1 : Y1.grownBy (Y1.setCell ⟨U.heap.size, 2, none⟩ (.int .i64 v1)).drew (some U.heap.size) := grown_drew (grown_set _ _ _ _)
          have hR5 := hR4.grown hgr1 (fun e => hneR (Option.some.inj e))
          have hBl5 := hBl4.grown hgr1 (fun e => hneB (Option.some.inj e))
          have hb5 := below_grown hb4 hgr1 hBU
          have S11 : (Y1.setCell ⟨U.heap.size, 2, none⟩ (.int .i64 v1)).drew.cell? ⟨W.heap.size, 1, none⟩ = some (.bool true) := (World.cell?_setCell_other _ _ _ _ (by simp)).trans S10
          have S21 : (Y1.setCell ⟨U.heap.size, 2, none⟩ (.int .i64 v1)).drew.cell? ⟨W.heap.size, 2, none⟩ = some (.bool true) := (World.cell?_setCell_other _ _ _ _ (by simp)).trans S20
          have S31 : (Y1.setCell ⟨U.heap.size, 2, none⟩ (.int .i64 v1)).drew.cell? ⟨W.heap.size, 3, none⟩ = some (.bool false) := (World.cell?_setCell_other _ _ _ _ (by simp)).trans S30
          obtain ⟨p0, p1, p2, p3⟩ := hP1.cells
          have pf := hP1.frozen 2
          have pl := hP1.lt
          have sl := hBl4.lt
          have hszS : W.heap.size < Y1.heap.size := Nat.lt_trans (Nat.lt_of_le_of_ne (Nat.le_of_lt hlt2) hneS) hP1.lt
          clear hb4 hP1 hR4 hBl4 hgr1
          go_wp2
          go_region
          all_goals
            generalize (Y1.setCell ⟨U.heap.size, 2, none⟩ (.int .i64 v1)).drew = Y2 at *
            clear S10 S20 S30 p0 p1 p2 p3 pf pl sl hszS hsl1 hc1 hgl1
            have hszS : W.heap.size < Y2.heap.size := Nat.lt_trans (Nat.lt_of_le_of_ne (Nat.le_of_lt hlt2) hneS) hP2.lt
            have HGO : Hid ((⟨3, v0, v1, 0⟩ : Gt) = gol 3 L) := by
              unfold Hid
              show _ = (⟨3, L.getD 0 0, L.getD 1 0, 0⟩ : Gt)
              rw [HV0.out, HV1.out]
            obtain ⟨p0, p1, p2, p3⟩ := hP2.cells
            have pl := hP2.lt
            obtain ⟨z0, z1, z2, z3⟩ := (hR5.put 3 (v0) (v1) (0)).cells
            obtain ⟨y0, y1, y2, y3⟩ := hR5.cells
            have fz := fun i => hR5.frozen i
            have rl := hR5.lt
            have HBE : Hid (Below w.heap.size w (put4 Y2 w.heap.size 3 (v0) (v1) (0))) := put4_below hb5 (Nat.le_refl _)
            clear hR5 hP2 hb5 hBl5
            unfold put4 at z0 z1 z2 z3 HBE
            go_wp2
            exact bodyPost_ret (v := .tuple #[gcell ⟨3, v0, v1, 0⟩, .bool true]) (by simp [results, Tryd.results41, go_sem, z0, z1, z2, z3, gcell]) rfl (Rgt.y (k := 3) (by omega) (by omega) HX.out HEQ.out HGO.out HBE.out)
      · have HNE : Hid (n ≠ arn 3) := hne
        have hnb : ((n : Int) != 2) = true := by rw [bne_iff_ne]; omega
        clear hne
        obtain ⟨z0, z1, z2, z3⟩ := (hR2.put 0 0 0 0).cells
        obtain ⟨y0, y1, y2, y3⟩ := hR2.cells
        have fz := fun i => hR2.frozen i
        have HBE : Hid (Below w.heap.size w (put4 U w.heap.size 0 0 0 0)) := put4_below hb2 (Nat.le_refl _)
        have rl := hR2.lt
        clear hR2 hBl2 hb2
        unfold put4 at z0 z1 z2 z3 HBE
        go_wp2
        exact bodyPost_ret (v := .tuple #[gcell ⟨0, 0, 0, 0⟩, .bool false]) (by simp [results, Tryd.results41, go_sem, z0, z1, z2, z3, gcell]) rfl (Rgt.n (k := 3) (by omega) HX.out HNE.out HBE.out)
    · obtain ⟨s0, s1, s2, s3⟩ := hS0.at4
      have slt := hS0.lt
      have hb1' : Below W.heap.size W (W.alloc (.cells #[.string ⟨#[115, 117, 98]⟩, .bool true, .bool true, .bool false] 107)) := (Below.refl _ _).alloc (Nat.le_refl _) _
      have hb1 := hb0.trans (hb1'.mono hb0.size)
      obtain ⟨t0, t1, t2, t3⟩ := shape_box W ⟨#[115, 117, 98]⟩ true true false 107
      have hlt1 : W.heap.size < (W.alloc (.cells #[.string ⟨#[115, 117, 98]⟩, .bool true, .bool true, .bool false] 107)).heap.size := by simp
      have hR1 := hR0.below hb1' hR0.lt
      have hBl1 := hBl0.below hb1' hBl0.lt
      go_upto_region 3 with fail
      generalize W.alloc (.cells #[.string ⟨#[115, 117, 98]⟩, .bool true, .bool true, .bool false] 107) = V at *
      clear s0 s1 s2 s3 hb1' hb0 hS0 hBl0 hR0 slt
      have HX : Hid (shw 4 = x) := hx
      have hb2' : Below V.heap.size V (V.alloc (.cells #[.bool true, .bool true, .bool false] 4)) := (Below.refl _ _).alloc (Nat.le_refl _) _
      have hb2 := hb1.trans (hb2'.mono hb1.size)
      have hR2 := hR1.below hb2' hR1.lt
      have hBl2 := hBl1.below hb2' hBl1.lt
      have e0 : (V.alloc (.cells #[.bool true, .bool true, .bool false] 4)).cell? ⟨V.heap.size, 0, none⟩ = some (.bool true) := by rw [cell_of_row _ _ _ _ _ (0, 0) (heap_alloc_new V _)]; rfl
      have e1 : (V.alloc (.cells #[.bool true, .bool true, .bool false] 4)).cell? ⟨V.heap.size, 1, none⟩ = some (.bool true) := by rw [cell_of_row _ _ _ _ _ (0, 0) (heap_alloc_new V _)]; rfl
      have e2 : (V.alloc (.cells #[.bool true, .bool true, .bool false] 4)).cell? ⟨V.heap.size, 2, none⟩ = some (.bool false) := by rw [cell_of_row _ _ _ _ _ (0, 0) (heap_alloc_new V _)]; rfl
      have hltU : V.heap.size < (V.alloc (.cells #[.bool true, .bool true, .bool false] 4)).heap.size := by simp
      have T0 : (V.alloc (.cells #[.bool true, .bool true, .bool false] 4)).cell? ⟨W.heap.size, 0, none⟩ = some (.string ⟨#[115, 117, 98]⟩) := by rw [hb2'.cell (p := ⟨W.heap.size, 0, none⟩) hlt1]; exact t0
      have T1 : (V.alloc (.cells #[.bool true, .bool true, .bool false] 4)).cell? ⟨W.heap.size, 1, none⟩ = some (.bool true) := by rw [hb2'.cell (p := ⟨W.heap.size, 1, none⟩) hlt1]; exact t1
      have T2 : (V.alloc (.cells #[.bool true, .bool true, .bool false] 4)).cell? ⟨W.heap.size, 2, none⟩ = some (.bool true) := by rw [hb2'.cell (p := ⟨W.heap.size, 2, none⟩) hlt1]; exact t2
      have T3 : (V.alloc (.cells #[.bool true, .bool true, .bool false] 4)).cell? ⟨W.heap.size, 3, none⟩ = some (.bool false) := by rw [hb2'.cell (p := ⟨W.heap.size, 3, none⟩) hlt1]; exact t3
      have hlt2 := Nat.lt_trans hlt1 hltU
      go_wp2_with fail
      generalize V.alloc (.cells #[.bool true, .bool true, .bool false] 4) = U at *
      refine (cCount V.heap.size true true false U e0 e1 e2 hltU).mono ?_
      rintro e w3 ⟨rfl, hw3⟩
      have hw3 := hw3.symm
      subst hw3
      have hcn : bn true + bn true + bn false = 2 := rfl
      rw [hcn]
      clear e0 e1 e2 hcn t0 t1 t2 t3 hb2' hb1 hR1 hBl1 hx
      by_cases hne : n = 2
      · subst hne
        have HEQ : Hid (2 = arn 4) := rfl
        have hP0 := Gbx.new U 4 0 0 0
        have hb3' : Below U.heap.size U (U.alloc (.cells #[.int .i64 4, .int .i64 0, .int .i64 0, .int .u64 0] 58)) := (Below.refl _ _).alloc (Nat.le_refl _) _
        have hb3 := hb2.trans (hb3'.mono hb2.size)
        have hR3 := hR2.below hb3' hR2.lt
        have hBl3 := hBl2.below hb3' hBl2.lt
        have hlt3 := hltU
        have hlt4 := hP0.lt
        have S1 : (U.alloc (.cells #[.int .i64 4, .int .i64 0, .int .i64 0, .int .u64 0] 58)).cell? ⟨W.heap.size, 1, none⟩ = some (.bool true) := by rw [hb3'.cell (p := ⟨W.heap.size, 1, none⟩) hlt2]; exact T1
        have S2 : (U.alloc (.cells #[.int .i64 4, .int .i64 0, .int .i64 0, .int .u64 0] 58)).cell? ⟨W.heap.size, 2, none⟩ = some (.bool true) := by rw [hb3'.cell (p := ⟨W.heap.size, 2, none⟩) hlt2]; exact T2
        have S3 : (U.alloc (.cells #[.int .i64 4, .int .i64 0, .int .i64 0, .int .u64 0] 58)).cell? ⟨W.heap.size, 3, none⟩ = some (.bool false) := by rw [hb3'.cell (p := ⟨W.heap.size, 3, none⟩) hlt2]; exact T3
        have hneR : w.heap.size ≠ U.heap.size := Nat.ne_of_lt hR2.lt
        have hneB : g ≠ U.heap.size := Nat.ne_of_lt hBl2.lt
        have hneS : W.heap.size ≠ U.heap.size := Nat.ne_of_lt hlt2
        have hBU : w.heap.size ≤ U.heap.size := hb2.size
        obtain ⟨v0, HV0⟩ : ∃ v, Hid (L.getD 0 0 = v) := ⟨_, rfl⟩
        have hv0 : 0 ≤ v0 ∧ v0 ≤ 9999999999 := by rw [← HV0.out]; exact getD_bd9 hHB.out 0
        obtain ⟨v1, HV1⟩ : ∃ v, Hid (L.getD 1 0 = v) := ⟨_, rfl⟩
        have hv1 : 0 ≤ v1 ∧ v1 ≤ 9999999999 := by rw [← HV1.out]; exact getD_bd9 hHB.out 1
        have HL : Hid (L.length = 2) := hl
        clear hl T0 T1 T2 T3 hBl2 hR2 hb2
        go_upto_region 6 with fail
        generalize U.alloc (.cells #[.int .i64 4, .int .i64 0, .int .i64 0, .int .u64 0] 58) = Y0 at *
        clear hb3'
        have hsl0 : ∀ W, (Instr.sliceAt 31 (.slice (some ⟨g, 0, none⟩) 2 2) (some (.int .i64 1)) none none).run Tryd.prog W = .ok (.slice (some ⟨g, 1, none⟩) 1 1) W := fun W => run_subl Tryd.underlying31 infoU1c2 (some ⟨g, 0, none⟩) 2 2 1 rfl (by omega) W
        have hc0 := hBl3.cell (i := 0) (by rw [HL.out]; omega)
        rw [HV0.out] at hc0
        have hwr0 : IntKind.i64.wrap v0 = v0 := by rw [IntKind.wrap_i64]; omega
        have hgl0 := hBl3.lt
        have hP1 : Gbx (Y0.setCell ⟨U.heap.size, 1, none⟩ (.int .i64 v0)).drew U.heap.size 4 v0 0 0 := hP0.set1 v0
        have hgr0 : Y0.grownBy (Y0.setCell ⟨U.heap.size, 1, none⟩ (.int .i64 v0)).drew (some U.heap.size) := grown_drew (grown_set _ _ _ _)
        have hR4 := hR3.grown hgr0 (fun e => hneR (Option.some.inj e))
        have hBl4 := hBl3.grown hgr0 (fun e => hneB (Option.some.inj e))
        have hb4 := below_grown hb3 hgr0 hBU
        have S10 : (Y0.setCell ⟨U.heap.size, 1, none⟩ (.int .i64 v0)).drew.cell? ⟨W.heap.size, 1, none⟩ = some (.bool true) := (World.cell?_setCell_other _ _ _ _ (by simp)).trans S1
        have S20 : (Y0.setCell ⟨U.heap.size, 1, none⟩ (.int .i64 v0)).drew.cell? ⟨W.heap.size, 2, none⟩ = some (.bool true) := (World.cell?_setCell_other _ _ _ _ (by simp)).trans S2
        have S30 : (Y0.setCell ⟨U.heap.size, 1, none⟩ (.int .i64 v0)).drew.cell? ⟨W.heap.size, 3, none⟩ = some (.bool false) := (World.cell?_setCell_other _ _ _ _ (by simp)).trans S3
        obtain ⟨p0, p1, p2, p3⟩ := hP0.cells
        have pf := hP0.frozen 1
        have pl := hP0.lt
        have sl := hBl3.lt
        have hszS : W.heap.size < Y0.heap.size := Nat.lt_trans (Nat.lt_of_le_of_ne (Nat.le_of_lt hlt2) hneS) hP0.lt
        clear hb3 hP0 hR3 hBl3 hgr0
        go_wp2
        go_region
        all_goals
          generalize (Y0.setCell ⟨U.heap.size, 1, none⟩ (.int .i64 v0)).drew = Y1 at *
          clear S1 S2 S3 p0 p1 p2 p3 pf pl sl hszS hsl0 hc0 hgl0
          have hsl1 : ∀ W, (Instr.sliceAt 31 (.slice (some ⟨g, 1, none⟩) 1 1) (some (.int .i64 1)) none none).run Tryd.prog W = .ok (.slice (some ⟨g, 1, none⟩) 0 0) W := fun W => run_subl Tryd.underlying31 infoU1c2 (some ⟨g, 1, none⟩) 1 1 1 rfl (by omega) W
          have hc1 := hBl4.cell (i := 1) (by rw [HL.out]; omega)
          rw [HV1.out] at hc1
          have hwr1 : IntKind.i64.wrap v1 = v1 := by rw [IntKind.wrap_i64]; omega
          have hgl1 := hBl4.lt
          have hP2 : Gbx (Y1.setCell ⟨U.heap.size, 2, none⟩ (.int .i64 v1)).drew U.heap.size 4 v0 v1 0 := hP1.set2 v1
          have hgr1 : Y1.grownBy (Y1.setCell ⟨U.heap.size, 2, none⟩ (.int .i64 v1)).drew (some U.heap.size) := grown_drew (grown_set _ _ _ _)
          have hR5 := hR4.grown hgr1 (fun e => hneR (Option.some.inj e))
          have hBl5 := hBl4.grown hgr1 (fun e => hneB (Option.some.inj e))
          have hb5 := below_grown hb4 hgr1 hBU
          have S11 : (Y1.setCell ⟨U.heap.size, 2, none⟩ (.int .i64 v1)).drew.cell? ⟨W.heap.size, 1, none⟩ = some (.bool true) := (World.cell?_setCell_other _ _ _ _ (by simp)).trans S10
          have S21 : (Y1.setCell ⟨U.heap.size, 2, none⟩ (.int .i64 v1)).drew.cell? ⟨W.heap.size, 2, none⟩ = some (.bool true) := (World.cell?_setCell_other _ _ _ _ (by simp)).trans S20
          have S31 : (Y1.setCell ⟨U.heap.size, 2, none⟩ (.int .i64 v1)).drew.cell? ⟨W.heap.size, 3, none⟩ = some (.bool false) := (World.cell?_setCell_other _ _ _ _ (by simp)).trans S30
          obtain ⟨p0, p1, p2, p3⟩ := hP1.cells
          have pf := hP1.frozen 2
          have pl := hP1.lt
          have sl := hBl4.lt
          have hszS : W.heap.size < Y1.heap.size := Nat.lt_trans (Nat.lt_of_le_of_ne (Nat.le_of_lt hlt2) hneS) hP1.lt
          clear hb4 hP1 hR4 hBl4 hgr1
          go_wp2
          go_region
          all_goals
            generalize (Y1.setCell ⟨U.heap.size, 2, none⟩ (.int .i64 v1)).drew = Y2 at *
            clear S10 S20 S30 p0 p1 p2 p3 pf pl sl hszS hsl1 hc1 hgl1
            have hszS : W.heap.size < Y2.heap.size := Nat.lt_trans (Nat.lt_of_le_of_ne (Nat.le_of_lt hlt2) hneS) hP2.lt
            have HGO : Hid ((⟨4, v0, v1, 0⟩ : Gt) = gol 4 L) := by
              unfold Hid
              show _ = (⟨4, L.getD 0 0, L.getD 1 0, 0⟩ : Gt)
              rw [HV0.out, HV1.out]
            obtain ⟨p0, p1, p2, p3⟩ := hP2.cells
            have pl := hP2.lt
            obtain ⟨z0, z1, z2, z3⟩ := (hR5.put 4 (v0) (v1) (0)).cells
            obtain ⟨y0, y1, y2, y3⟩ := hR5.cells
            have fz := fun i => hR5.frozen i
            have rl := hR5.lt
            have HBE : Hid (Below w.heap.size w (put4 Y2 w.heap.size 4 (v0) (v1) (0))) := put4_below hb5 (Nat.le_refl _)
            clear hR5 hP2 hb5 hBl5
            unfold put4 at z0 z1 z2 z3 HBE
            go_wp2
            exact bodyPost_ret (v := .tuple #[gcell ⟨4, v0, v1, 0⟩, .bool true]) (by simp [results, Tryd.results41, go_sem, z0, z1, z2, z3, gcell]) rfl (Rgt.y (k := 4) (by omega) (by omega) HX.out HEQ.out HGO.out HBE.out)
      · have HNE : Hid (n ≠ arn 4) := hne
        have hnb : ((n : Int) != 2) = true := by rw [bne_iff_ne]; omega
        clear hne
        obtain ⟨z0, z1, z2, z3⟩ := (hR2.put 0 0 0 0).cells
        obtain ⟨y0, y1, y2, y3⟩ := hR2.cells
        have fz := fun i => hR2.frozen i
        have HBE : Hid (Below w.heap.size w (put4 U w.heap.size 0 0 0 0)) := put4_below hb2 (Nat.le_refl _)
        have rl := hR2.lt
        clear hR2 hBl2 hb2
        unfold put4 at z0 z1 z2 z3 HBE
        go_wp2
        exact bodyPost_ret (v := .tuple #[gcell ⟨0, 0, 0, 0⟩, .bool false]) (by simp [results, Tryd.results41, go_sem, z0, z1, z2, z3, gcell]) rfl (Rgt.n (k := 4) (by omega) HX.out HNE.out HBE.out)
    · obtain ⟨s0, s1, s2, s3⟩ := hS0.at5
      have slt := hS0.lt
      have hb1' : Below W.heap.size W (W.alloc (.cells #[.string ⟨#[109, 117, 108]⟩, .bool true, .bool true, .bool false] 107)) := (Below.refl _ _).alloc (Nat.le_refl _) _
      have hb1 := hb0.trans (hb1'.mono hb0.size)
      obtain ⟨t0, t1, t2, t3⟩ := shape_box W ⟨#[109, 117, 108]⟩ true true false 107
      have hlt1 : W.heap.size < (W.alloc (.cells #[.string ⟨#[109, 117, 108]⟩, .bool true, .bool true, .bool false] 107)).heap.size := by simp
      have hR1 := hR0.below hb1' hR0.lt
      have hBl1 := hBl0.below hb1' hBl0.lt
      go_upto_region 3 with fail
      generalize W.alloc (.cells #[.string ⟨#[109, 117, 108]⟩, .bool true, .bool true, .bool false] 107) = V at *
      clear s0 s1 s2 s3 hb1' hb0 hS0 hBl0 hR0 slt
      have HX : Hid (shw 5 = x) := hx
      have hb2' : Below V.heap.size V (V.alloc (.cells #[.bool true, .bool true, .bool false] 4)) := (Below.refl _ _).alloc (Nat.le_refl _) _
      have hb2 := hb1.trans (hb2'.mono hb1.size)
      have hR2 := hR1.below hb2' hR1.lt
      have hBl2 := hBl1.below hb2' hBl1.lt
      have e0 : (V.alloc (.cells #[.bool true, .bool true, .bool false] 4)).cell? ⟨V.heap.size, 0, none⟩ = some (.bool true) := by rw [cell_of_row _ _ _ _ _ (0, 0) (heap_alloc_new V _)]; rfl
      have e1 : (V.alloc (.cells #[.bool true, .bool true, .bool false] 4)).cell? ⟨V.heap.size, 1, none⟩ = some (.bool true) := by rw [cell_of_row _ _ _ _ _ (0, 0) (heap_alloc_new V _)]; rfl
      have e2 : (V.alloc (.cells #[.bool true, .bool true, .bool false] 4)).cell? ⟨V.heap.size, 2, none⟩ = some (.bool false) := by rw [cell_of_row _ _ _ _ _ (0, 0) (heap_alloc_new V _)]; rfl
      have hltU : V.heap.size < (V.alloc (.cells #[.bool true, .bool true, .bool false] 4)).heap.size := by simp
      have T0 : (V.alloc (.cells #[.bool true, .bool true, .bool false] 4)).cell? ⟨W.heap.size, 0, none⟩ = some (.string ⟨#[109, 117, 108]⟩) := by rw [hb2'.cell (p := ⟨W.heap.size, 0, none⟩) hlt1]; exact t0
      have T1 : (V.alloc (.cells #[.bool true, .bool true, .bool false] 4)).cell? ⟨W.heap.size, 1, none⟩ = some (.bool true) := by rw [hb2'.cell (p := ⟨W.heap.size, 1, none⟩) hlt1]; exact t1
      have T2 : (V.alloc (.cells #[.bool true, .bool true, .bool false] 4)).cell? ⟨W.heap.size, 2, none⟩ = some (.bool true) := by rw [hb2'.cell (p := ⟨W.heap.size, 2, none⟩) hlt1]; exact t2
      have T3 : (V.alloc (.cells #[.bool true, .bool true, .bool false] 4)).cell? ⟨W.heap.size, 3, none⟩ = some (.bool false) := by rw [hb2'.cell (p := ⟨W.heap.size, 3, none⟩) hlt1]; exact t3
      have hlt2 := Nat.lt_trans hlt1 hltU
      go_wp2_with fail
      generalize V.alloc (.cells #[.bool true, .bool true, .bool false] 4) = U at *
      refine (cCount V.heap.size true true false U e0 e1 e2 hltU).mono ?_
      rintro e w3 ⟨rfl, hw3⟩
      have hw3 := hw3.symm
      subst hw3
      have hcn : bn true + bn true + bn false = 2 := rfl
      rw [hcn]
      clear e0 e1 e2 hcn t0 t1 t2 t3 hb2' hb1 hR1 hBl1 hx
      by_cases hne : n = 2
      · subst hne
        have HEQ : Hid (2 = arn 5) := rfl
        have hP0 := Gbx.new U 5 0 0 0
        have hb3' : Below U.heap.size U (U.alloc (.cells #[.int .i64 5, .int .i64 0, .int .i64 0, .int .u64 0] 58)) := (Below.refl _ _).alloc (Nat.le_refl _) _
        have hb3 := hb2.trans (hb3'.mono hb2.size)
        have hR3 := hR2.below hb3' hR2.lt
        have hBl3 := hBl2.below hb3' hBl2.lt
        have hlt3 := hltU
        have hlt4 := hP0.lt
        have S1 : (U.alloc (.cells #[.int .i64 5, .int .i64 0, .int .i64 0, .int .u64 0] 58)).cell? ⟨W.heap.size, 1, none⟩ = some (.bool true) := by rw [hb3'.cell (p := ⟨W.heap.size, 1, none⟩) hlt2]; exact T1
        have S2 : (U.alloc (.cells #[.int .i64 5, .int .i64 0, .int .i64 0, .int .u64 0] 58)).cell? ⟨W.heap.size, 2, none⟩ = some (.bool true) := by rw [hb3'.cell (p := ⟨W.heap.size, 2, none⟩) hlt2]; exact T2
        have S3 : (U.alloc (.cells #[.int .i64 5, .int .i64 0, .int .i64 0, .int .u64 0] 58)).cell? ⟨W.heap.size, 3, none⟩ = some (.bool false) := by rw [hb3'.cell (p := ⟨W.heap.size, 3, none⟩) hlt2]; exact T3
        have hneR : w.heap.size ≠ U.heap.size := Nat.ne_of_lt hR2.lt
        have hneB : g ≠ U.heap.size := Nat.ne_of_lt hBl2.lt
        have hneS : W.heap.size ≠ U.heap.size := Nat.ne_of_lt hlt2
        have hBU : w.heap.size ≤ U.heap.size := hb2.size
        obtain ⟨v0, HV0⟩ : ∃ v, Hid (L.getD 0 0 = v) := ⟨_, rfl⟩
        have hv0 : 0 ≤ v0 ∧ v0 ≤ 9999999999 := by rw [← HV0.out]; exact getD_bd9 hHB.out 0
        obtain ⟨v1, HV1⟩ : ∃ v, Hid (L.getD 1 0 = v) := ⟨_, rfl⟩
        have hv1 : 0 ≤ v1 ∧ v1 ≤ 9999999999 := by rw [← HV1.out]; exact getD_bd9 hHB.out 1
        have HL : Hid (L.length = 2) := hl
        clear hl T0 T1 T2 T3 hBl2 hR2 hb2
        go_upto_region 6 with fail
        generalize U.alloc (.cells #[.int .i64 5, .int .i64 0, .int .i64 0, .int .u64 0] 58) = Y0 at *
        clear hb3'
        have hsl0 : ∀ W, (Instr.sliceAt 31 (.slice (some ⟨g, 0, none⟩) 2 2) (some (.int .i64 1)) none none).run Tryd.prog W = .ok (.slice (some ⟨g, 1, none⟩) 1 1) W := fun W => run_subl Tryd.underlying31 infoU1c2 (some ⟨g, 0, none⟩) 2 2 1 rfl (by omega) W
        have hc0 := hBl3.cell (i := 0) (by rw [HL.out]; omega)
        rw [HV0.out] at hc0
        have hwr0 : IntKind.i64.wrap v0 = v0 := by rw [IntKind.wrap_i64]; omega
        have hgl0 := hBl3.lt
        have hP1 : Gbx (Y0.setCell ⟨U.heap.size, 1, none⟩ (.int .i64 v0)).drew U.heap.size 5 v0 0 0 := hP0.set1 v0
        have hgr0 : Y0.grownBy (Y0.setCell ⟨U.heap.size, 1, none⟩ (.int .i64 v0)).drew (some U.heap.size) := grown_drew (grown_set _ _ _ _)
        have hR4 := hR3.grown hgr0 (fun e => hneR (Option.some.inj e))
        have hBl4 := hBl3.grown hgr0 (fun e => hneB (Option.some.inj e))
        have hb4 := below_grown hb3 hgr0 hBU
        have S10 : (Y0.setCell ⟨U.heap.size, 1, none⟩ (.int .i64 v0)).drew.cell? ⟨W.heap.size, 1, none⟩ = some (.bool true) := (World.cell?_setCell_other _ _ _ _ (by simp)).trans S1
        have S20 : (Y0.setCell ⟨U.heap.size, 1, none⟩ (.int .i64 v0)).drew.cell? ⟨W.heap.size, 2, none⟩ = some (.bool true) := (World.cell?_setCell_other _ _ _ _ (by simp)).trans S2
        have S30 : (Y0.setCell ⟨U.heap.size, 1, none⟩ (.int .i64 v0)).drew.cell? ⟨W.heap.size, 3, none⟩ = some (.bool false) := (World.cell?_setCell_other _ _ _ _ (by simp)).trans S3
        obtain ⟨p0, p1, p2, p3⟩ := hP0.cells
        have pf := hP0.frozen 1
        have pl := hP0.lt
        have sl := hBl3.lt
        have hszS : W.heap.size < Y0.heap.size := Nat.lt_trans (Nat.lt_of_le_of_ne (Nat.le_of_lt hlt2) hneS) hP0.lt
        clear hb3 hP0 hR3 hBl3 hgr0
        go_wp2
        go_region
        all_goals
          generalize (Y0.setCell ⟨U.heap.size, 1, none⟩ (.int .i64 v0)).drew = Y1 at *
          clear S1 S2 S3 p0 p1 p2 p3 pf pl sl hszS hsl0 hc0 hgl0
          have hsl1 : ∀ W, (Instr.sliceAt 31 (.slice (some ⟨g, 1, none⟩) 1 1) (some (.int .i64 1)) none none).run Tryd.prog W = .ok (.slice (some ⟨g, 1, none⟩) 0 0) W := fun W => run_subl Tryd.underlying31 infoU1c2 (some ⟨g, 1, none⟩) 1 1 1 rfl (by omega) W
          have hc1 := hBl4.cell (i := 1) (by rw [HL.out]; omega)
          rw [HV1.out] at hc1
          have hwr1 : IntKind.i64.wrap v1 = v1 := by rw [IntKind.wrap_i64]; omega
          have hgl1 := hBl4.lt
          have hP2 : Gbx (Y1.setCell ⟨U.heap.size, 2, none⟩ (.int .i64 v1)).drew U.heap.size 5 v0 v1 0 := hP1.set2 v1
          have hgr1 : Y1.grownBy (Y1.setCell ⟨U.heap.size, 2, none⟩ (.int .i64 v1)).drew (some U.heap.size) := grown_drew (grown_set _ _ _ _)
          have hR5 := hR4.grown hgr1 (fun e => hneR (Option.some.inj e))
          have hBl5 := hBl4.grown hgr1 (fun e => hneB (Option.some.inj e))
          have hb5 := below_grown hb4 hgr1 hBU
          have S11 : (Y1.setCell ⟨U.heap.size, 2, none⟩ (.int .i64 v1)).drew.cell? ⟨W.heap.size, 1, none⟩ = some (.bool true) := (World.cell?_setCell_other _ _ _ _ (by simp)).trans S10
          have S21 : (Y1.setCell ⟨U.heap.size, 2, none⟩ (.int .i64 v1)).drew.cell? ⟨W.heap.size, 2, none⟩ = some (.bool true) := (World.cell?_setCell_other _ _ _ _ (by simp)).trans S20
          have S31 : (Y1.setCell ⟨U.heap.size, 2, none⟩ (.int .i64 v1)).drew.cell? ⟨W.heap.size, 3, none⟩ = some (.bool false) := (World.cell?_setCell_other _ _ _ _ (by simp)).trans S30
          obtain ⟨p0, p1, p2, p3⟩ := hP1.cells
          have pf := hP1.frozen 2
          have pl := hP1.lt
          have sl := hBl4.lt
          have hszS : W.heap.size < Y1.heap.size := Nat.lt_trans (Nat.lt_of_le_of_ne (Nat.le_of_lt hlt2) hneS) hP1.lt
          clear hb4 hP1 hR4 hBl4 hgr1
          go_wp2
          go_region
          all_goals
            generalize (Y1.setCell ⟨U.heap.size, 2, none⟩ (.int .i64 v1)).drew = Y2 at *
            clear S10 S20 S30 p0 p1 p2 p3 pf pl sl hszS hsl1 hc1 hgl1
            have hszS : W.heap.size < Y2.heap.size := Nat.lt_trans (Nat.lt_of_le_of_ne (Nat.le_of_lt hlt2) hneS) hP2.lt
            have HGO : Hid ((⟨5, v0, v1, 0⟩ : Gt) = gol 5 L) := by
              unfold Hid
              show _ = (⟨5, L.getD 0 0, L.getD 1 0, 0⟩ : Gt)
              rw [HV0.out, HV1.out]
            obtain ⟨p0, p1, p2, p3⟩ := hP2.cells
            have pl := hP2.lt
            obtain ⟨z0, z1, z2, z3⟩ := (hR5.put 5 (v0) (v1) (0)).cells
            obtain ⟨y0, y1, y2, y3⟩ := hR5.cells
            have fz := fun i => hR5.frozen i
            have rl := hR5.lt
            have HBE : Hid (Below w.heap.size w (put4 Y2 w.heap.size 5 (v0) (v1) (0))) := put4_below hb5 (Nat.le_refl _)
            clear hR5 hP2 hb5 hBl5
            unfold put4 at z0 z1 z2 z3 HBE
            go_wp2
            exact bodyPost_ret (v := .tuple #[gcell ⟨5, v0, v1, 0⟩, .bool true]) (by simp [results, Tryd.results41, go_sem, z0, z1, z2, z3, gcell]) rfl (Rgt.y (k := 5) (by omega) (by omega) HX.out HEQ.out HGO.out HBE.out)
      · have HNE : Hid (n ≠ arn 5) := hne
        have hnb : ((n : Int) != 2) = true := by rw [bne_iff_ne]; omega
        clear hne
        obtain ⟨z0, z1, z2, z3⟩ := (hR2.put 0 0 0 0).cells
        obtain ⟨y0, y1, y2, y3⟩ := hR2.cells
        have fz := fun i => hR2.frozen i
        have HBE : Hid (Below w.heap.size w (put4 U w.heap.size 0 0 0 0)) := put4_below hb2 (Nat.le_refl _)
        have rl := hR2.lt
        clear hR2 hBl2 hb2
        unfold put4 at z0 z1 z2 z3 HBE
        go_wp2
        exact bodyPost_ret (v := .tuple #[gcell ⟨0, 0, 0, 0⟩, .bool false]) (by simp [results, Tryd.results41, go_sem, z0, z1, z2, z3, gcell]) rfl (Rgt.n (k := 5) (by omega) HX.out HNE.out HBE.out)
    · obtain ⟨s0, s1, s2, s3⟩ := hS0.at6
      have slt := hS0.lt
      have hb1' : Below W.heap.size W (W.alloc (.cells #[.string ⟨#[115, 99, 97, 108, 101]⟩, .bool true, .bool false, .bool true] 107)) := (Below.refl _ _).alloc (Nat.le_refl _) _
      have hb1 := hb0.trans (hb1'.mono hb0.size)
      obtain ⟨t0, t1, t2, t3⟩ := shape_box W ⟨#[115, 99, 97, 108, 101]⟩ true false true 107
      have hlt1 : W.heap.size < (W.alloc (.cells #[.string ⟨#[115, 99, 97, 108, 101]⟩, .bool true, .bool false, .bool true] 107)).heap.size := by simp
      have hR1 := hR0.below hb1' hR0.lt
      have hBl1 := hBl0.below hb1' hBl0.lt
      go_upto_region 3 with fail
      generalize W.alloc (.cells #[.string ⟨#[115, 99, 97, 108, 101]⟩, .bool true, .bool false, .bool true] 107) = V at *
      clear s0 s1 s2 s3 hb1' hb0 hS0 hBl0 hR0 slt
      have HX : Hid (shw 6 = x) := hx
      have hb2' : Below V.heap.size V (V.alloc (.cells #[.bool true, .bool false, .bool true] 4)) := (Below.refl _ _).alloc (Nat.le_refl _) _
      have hb2 := hb1.trans (hb2'.mono hb1.size)
      have hR2 := hR1.below hb2' hR1.lt
      have hBl2 := hBl1.below hb2' hBl1.lt
      have e0 : (V.alloc (.cells #[.bool true, .bool false, .bool true] 4)).cell? ⟨V.heap.size, 0, none⟩ = some (.bool true) := by rw [cell_of_row _ _ _ _ _ (0, 0) (heap_alloc_new V _)]; rfl
      have e1 : (V.alloc (.cells #[.bool true, .bool false, .bool true] 4)).cell? ⟨V.heap.size, 1, none⟩ = some (.bool false) := by rw [cell_of_row _ _ _ _ _ (0, 0) (heap_alloc_new V _)]; rfl
      have e2 : (V.alloc (.cells #[.bool true, .bool false, .bool true] 4)).cell? ⟨V.heap.size, 2, none⟩ = some (.bool true) := by rw [cell_of_row _ _ _ _ _ (0, 0) (heap_alloc_new V _)]; rfl
      have hltU : V.heap.size < (V.alloc (.cells #[.bool true, .bool false, .bool true] 4)).heap.size := by simp
      have T0 : (V.alloc (.cells #[.bool true, .bool false, .bool true] 4)).cell? ⟨W.heap.size, 0, none⟩ = some (.string ⟨#[115, 99, 97, 108, 101]⟩) := by rw [hb2'.cell (p := ⟨W.heap.size, 0, none⟩) hlt1]; exact t0
      have T1 : (V.alloc (.cells #[.bool true, .bool false, .bool true] 4)).cell? ⟨W.heap.size, 1, none⟩ = some (.bool true) := by rw [hb2'.cell (p := ⟨W.heap.size, 1, none⟩) hlt1]; exact t1
      have T2 : (V.alloc (.cells #[.bool true, .bool false, .bool true] 4)).cell? ⟨W.heap.size, 2, none⟩ = some (.bool false) := by rw [hb2'.cell (p := ⟨W.heap.size, 2, none⟩) hlt1]; exact t2
      have T3 : (V.alloc (.cells #[.bool true, .bool false, .bool true] 4)).cell? ⟨W.heap.size, 3, none⟩ = some (.bool true) := by rw [hb2'.cell (p := ⟨W.heap.size, 3, none⟩) hlt1]; exact t3
      have hlt2 := Nat.lt_trans hlt1 hltU
      go_wp2_with fail
      generalize V.alloc (.cells #[.bool true, .bool false, .bool true] 4) = U at *
      refine (cCount V.heap.size true false true U e0 e1 e2 hltU).mono ?_
      rintro e w3 ⟨rfl, hw3⟩
      have hw3 := hw3.symm
      subst hw3
      have hcn : bn true + bn false + bn true = 2 := rfl
      rw [hcn]
      clear e0 e1 e2 hcn t0 t1 t2 t3 hb2' hb1 hR1 hBl1 hx
      by_cases hne : n = 2
      · subst hne
        have HEQ : Hid (2 = arn 6) := rfl
        have hP0 := Gbx.new U 6 0 0 0
        have hb3' : Below U.heap.size U (U.alloc (.cells #[.int .i64 6, .int .i64 0, .int .i64 0, .int .u64 0] 58)) := (Below.refl _ _).alloc (Nat.le_refl _) _
        have hb3 := hb2.trans (hb3'.mono hb2.size)
        have hR3 := hR2.below hb3' hR2.lt
        have hBl3 := hBl2.below hb3' hBl2.lt
        have hlt3 := hltU
        have hlt4 := hP0.lt
        have S1 : (U.alloc (.cells #[.int .i64 6, .int .i64 0, .int .i64 0, .int .u64 0] 58)).cell? ⟨W.heap.size, 1, none⟩ = some (.bool true) := by rw [hb3'.cell (p := ⟨W.heap.size, 1, none⟩) hlt2]; exact T1
        have S2 : (U.alloc (.cells #[.int .i64 6, .int .i64 0, .int .i64 0, .int .u64 0] 58)).cell? ⟨W.heap.size, 2, none⟩ = some (.bool false) := by rw [hb3'.cell (p := ⟨W.heap.size, 2, none⟩) hlt2]; exact T2
        have S3 : (U.alloc (.cells #[.int .i64 6, .int .i64 0, .int .i64 0, .int .u64 0] 58)).cell? ⟨W.heap.size, 3, none⟩ = some (.bool true) := by rw [hb3'.cell (p := ⟨W.heap.size, 3, none⟩) hlt2]; exact T3
        have hneR : w.heap.size ≠ U.heap.size := Nat.ne_of_lt hR2.lt
        have hneB : g ≠ U.heap.size := Nat.ne_of_lt hBl2.lt
        have hneS : W.heap.size ≠ U.heap.size := Nat.ne_of_lt hlt2
        have hBU : w.heap.size ≤ U.heap.size := hb2.size
        obtain ⟨v0, HV0⟩ : ∃ v, Hid (L.getD 0 0 = v) := ⟨_, rfl⟩
        have hv0 : 0 ≤ v0 ∧ v0 ≤ 9999999999 := by rw [← HV0.out]; exact getD_bd9 hHB.out 0
        obtain ⟨v1, HV1⟩ : ∃ v, Hid (L.getD 1 0 = v) := ⟨_, rfl⟩
        have hv1 : 0 ≤ v1 ∧ v1 ≤ 9999999999 := by rw [← HV1.out]; exact getD_bd9 hHB.out 1
        have HL : Hid (L.length = 2) := hl
        clear hl T0 T1 T2 T3 hBl2 hR2 hb2
        go_upto_region 6 with fail
        generalize U.alloc (.cells #[.int .i64 6, .int .i64 0, .int .i64 0, .int .u64 0] 58) = Y0 at *
        clear hb3'
        have hsl0 : ∀ W, (Instr.sliceAt 31 (.slice (some ⟨g, 0, none⟩) 2 2) (some (.int .i64 1)) none none).run Tryd.prog W = .ok (.slice (some ⟨g, 1, none⟩) 1 1) W := fun W => run_subl Tryd.underlying31 infoU1c2 (some ⟨g, 0, none⟩) 2 2 1 rfl (by omega) W
        have hc0 := hBl3.cell (i := 0) (by rw [HL.out]; omega)
        rw [HV0.out] at hc0
        have hwr0 : IntKind.i64.wrap v0 = v0 := by rw [IntKind.wrap_i64]; omega
        have hgl0 := hBl3.lt
        have hP1 : Gbx (Y0.setCell ⟨U.heap.size, 1, none⟩ (.int .i64 v0)).drew U.heap.size 6 v0 0 0 := hP0.set1 v0
        have hgr0 : Y0.grownBy (Y0.setCell ⟨U.heap.size, 1, none⟩ (.int .i64 v0)).drew (some U.heap.size) := grown_drew (grown_set _ _ _ _)
        have hR4 := hR3.grown hgr0 (fun e => hneR (Option.some.inj e))
        have hBl4 := hBl3.grown hgr0 (fun e => hneB (Option.some.inj e))
        have hb4 := below_grown hb3 hgr0 hBU
        have S10 : (Y0.setCell ⟨U.heap.size, 1, none⟩ (.int .i64 v0)).drew.cell? ⟨W.heap.size, 1, none⟩ = some (.bool true) := (World.cell?_setCell_other _ _ _ _ (by simp)).trans S1
        have S20 : (Y0.setCell ⟨U.heap.size, 1, none⟩ (.int .i64 v0)).drew.cell? ⟨W.heap.size, 2, none⟩ = some (.bool false) := (World.cell?_setCell_other _ _ _ _ (by simp)).trans S2
        have S30 : (Y0.setCell ⟨U.heap.size, 1, none⟩ (.int .i64 v0)).drew.cell? ⟨W.heap.size, 3, none⟩ = some (.bool true) := (World.cell?_setCell_other _ _ _ _ (by simp)).trans S3
        obtain ⟨p0, p1, p2, p3⟩ := hP0.cells
        have pf := hP0.frozen 1
        have pl := hP0.lt
        have sl := hBl3.lt
        have hszS : W.heap.size < Y0.heap.size := Nat.lt_trans (Nat.lt_of_le_of_ne (Nat.le_of_lt hlt2) hneS) hP0.lt
        clear hb3 hP0 hR3 hBl3 hgr0
        go_wp2
        go_region
        all_goals
          generalize (Y0.setCell ⟨U.heap.size, 1, none⟩ (.int .i64 v0)).drew = Y1 at *
          clear S1 S2 S3 p0 p1 p2 p3 pf pl sl hszS hsl0 hc0 hgl0
          have hc1 := hBl4.cell (i := 1) (by rw [HL.out]; omega)
          rw [HV1.out] at hc1
          obtain ⟨N, HN⟩ : ∃ N, Hid (nm v1 = N) := ⟨_, rfl⟩
          have hP2 : Gbx (Y1.setCell ⟨U.heap.size, 3, none⟩ (.int .u64 N)) U.heap.size 6 v0 0 N := hP1.set3 N
          have hgr1 : Y1.grownBy (Y1.setCell ⟨U.heap.size, 3, none⟩ (.int .u64 N)) (some U.heap.size) := grown_set _ _ _ _
          have hR5 := hR4.grown hgr1 (fun e => hneR (Option.some.inj e))
          have hb5 := below_grown hb4 hgr1 hBU
          obtain ⟨p0, p1, p2, p3⟩ := hP1.cells
          have pf := hP1.frozen 3
          have pl := hP1.lt
          have sl := hBl4.lt
          have hszS : W.heap.size < Y1.heap.size := Nat.lt_trans (Nat.lt_of_le_of_ne (Nat.le_of_lt hlt2) hneS) hP1.lt
          clear hb4 hP1 hR4 hBl4 hgr1
          go_upto_region 12 with (go_at_call 52; refine (fNorm _ _ (by omega) (by omega)).mono ?_; rintro e w' ⟨rfl, hw⟩; have hw := hw.symm; subst hw; rw [HN.out])
          generalize Y1.setCell ⟨U.heap.size, 3, none⟩ (.int .u64 N) = Y2 at *
          clear S10 S20 S30 p0 p1 p2 p3 pf pl sl hszS hc1
          have HGO : Hid ((⟨6, v0, 0, N⟩ : Gt) = gol 6 L) := by
            unfold Hid
            show _ = (⟨6, L.getD 0 0, 0, nm (L.getD 1 0)⟩ : Gt)
            rw [HV0.out, HV1.out, HN.out]
          obtain ⟨p0, p1, p2, p3⟩ := hP2.cells
          have pl := hP2.lt
          obtain ⟨z0, z1, z2, z3⟩ := (hR5.put 6 (v0) (0) (N)).cells
          obtain ⟨y0, y1, y2, y3⟩ := hR5.cells
          have fz := fun i => hR5.frozen i
          have rl := hR5.lt
          have HBE : Hid (Below w.heap.size w (put4 Y2 w.heap.size 6 (v0) (0) (N))) := put4_below hb5 (Nat.le_refl _)
          clear hR5 hP2 hb5
          unfold put4 at z0 z1 z2 z3 HBE
          go_wp2
          exact bodyPost_ret (v := .tuple #[gcell ⟨6, v0, 0, N⟩, .bool true]) (by simp [results, Tryd.results41, go_sem, z0, z1, z2, z3, gcell]) rfl (Rgt.y (k := 6) (by omega) (by omega) HX.out HEQ.out HGO.out HBE.out)
      · have HNE : Hid (n ≠ arn 6) := hne
        have hnb : ((n : Int) != 2) = true := by rw [bne_iff_ne]; omega
        clear hne
        obtain ⟨z0, z1, z2, z3⟩ := (hR2.put 0 0 0 0).cells
        obtain ⟨y0, y1, y2, y3⟩ := hR2.cells
        have fz := fun i => hR2.frozen i
        have HBE : Hid (Below w.heap.size w (put4 U w.heap.size 0 0 0 0)) := put4_below hb2 (Nat.le_refl _)
        have rl := hR2.lt
        clear hR2 hBl2 hb2
        unfold put4 at z0 z1 z2 z3 HBE
        go_wp2
        exact bodyPost_ret (v := .tuple #[gcell ⟨0, 0, 0, 0⟩, .bool false]) (by simp [results, Tryd.results41, go_sem, z0, z1, z2, z3, gcell]) rfl (Rgt.n (k := 6) (by omega) HX.out HNE.out HBE.out)
  · obtain ⟨s0, s1, s2, s3⟩ := hS0.at0
    have slt := hS0.lt
    have hb1' : Below W.heap.size W (W.alloc (.cells #[.string ⟨#[]⟩, .bool false, .bool false, .bool false] 107)) := (Below.refl _ _).alloc (Nat.le_refl _) _
    have hb1 := hb0.trans (hb1'.mono hb0.size)
    obtain ⟨t0, t1, t2, t3⟩ := shape_box W ⟨#[]⟩ false false false 107
    have hlt1 : W.heap.size < (W.alloc (.cells #[.string ⟨#[]⟩, .bool false, .bool false, .bool false] 107)).heap.size := by simp
    have hR1 := hR0.below hb1' hR0.lt
    have hBl1 := hBl0.below hb1' hBl0.lt
    go_upto_region 3 with fail
    generalize W.alloc (.cells #[.string ⟨#[]⟩, .bool false, .bool false, .bool false] 107) = V at *
    clear s0 s1 s2 s3 hb1' hb0 hS0 hBl0 hR0 slt
    have HX : Hid (∀ k, 1 ≤ k → k < 7 → shw k = x → n ≠ arn k) := fun j h1 h2 e => absurd e (hno j h1 h2)
    obtain ⟨U, hU⟩ : ∃ U, U = V := ⟨_, rfl⟩
    subst hU
    obtain ⟨z0, z1, z2, z3⟩ := (hR1.put 0 0 0 0).cells
    obtain ⟨y0, y1, y2, y3⟩ := hR1.cells
    have fz := fun i => hR1.frozen i
    have HBE : Hid (Below w.heap.size w (put4 U w.heap.size 0 0 0 0)) := put4_below hb1 (Nat.le_refl _)
    have rl := hR1.lt
    clear hR1 hBl1 hb1 hno
    unfold put4 at z0 z1 z2 z3 HBE
    go_wp2
    exact bodyPost_ret (v := .tuple #[gcell ⟨0, 0, 0, 0⟩, .bool false]) (by simp [results, Tryd.results41, go_sem, z0, z1, z2, z3, gcell]) rfl ⟨.inr ⟨HX.out, rfl⟩, HBE.out⟩
end
end Go.Proofs.YtljlioglpaogdacDoor
