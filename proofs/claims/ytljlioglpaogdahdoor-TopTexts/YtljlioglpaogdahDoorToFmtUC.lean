/- Package circuit: Parse. · strings.Builder: writing, by a walk of its own (copyCheck's refused branch is never met), and String off the shelf; FormatUint by small, numDigits, formatBase10 off the shelf. · strconv.FormatUint, base 10: small, numDigits and formatBase10 off the shelf. -/
import Derived.Test.YtljlioglpaogdahDoorToCktP
import Derived.Test.YtljlioglpaogdahDoorShLay
import Derived.Test.YtljlioglpaogdahDoorToGRightC
import Derived.Test.YtljlioglpaogdahDoorSlice
import Derived.Shelf.Strings.Builder1
import Derived.Lib.AppendIntMem
namespace Go.Proofs.YtljlioglpaogdahDoor
set_option linter.unusedVariables false
set_option maxRecDepth 100000
set_option maxHeartbeats 8000000
section
open Crm Go.RowKit
theorem mt_yes : (⟨#[]⟩ : ByteArray).toList.isEmpty = true := by decide +kernel
theorem mt_no {r : ByteArray} (h : r ≠ mt) : r.toList.isEmpty = false := by
  cases e : r.toList with
  | nil =>
    exfalso
    apply h
    rw [ByteArray.toList_eq] at e
    apply ByteArray.ext
    exact Array.ext' e
  | cons a l => rfl
theorem own_baseP {w : World} {B B' n z : Nat} {E : TypeId} {v : Value} {xs : List Value} (h : w.ownsRow B E z v n xs) (hB : B' ≤ B) : w.ownsRow B' E z v n xs := by
  refine ⟨h.1, ?_⟩
  rcases h.2 with h1 | ⟨g, cap, cur, e, hb, h2⟩
  · exact .inl h1
  · exact .inr ⟨g, cap, cur, e, Nat.le_trans hB hb, h2⟩
/-- A circuit laid into its box. -/
def put2 (w : World) (b : Nat) (x y : Value) : World := (w.setCell ⟨b, 0, none⟩ x).setCell ⟨b, 1, none⟩ y
theorem put2_grown (w : World) (b : Nat) (x y : Value) : w.grownBy (put2 w b x y) (some b) := grown_trans (grown_set _ _ _ _) (grown_set _ _ _ _)
theorem put2_below {w0 w : World} {b : Nat} {x y : Value} (h : Below w0.heap.size w0 w) (hb : w0.heap.size ≤ b) : Below w0.heap.size w0 (put2 w b x y) := below_grown h (put2_grown w b x y) hb

theorem cParse (s : ByteArray) (w : World) (hs : s.size ≤ 9223372036854775807) (hS : Shp w) : Calls Tryd.prog 6 #[.string s] w fun e w' => Prn s w e w' := by
  have hZ0 := CBox.new w none 0 0 none 0 0
  have hb0 : Below w.heap.size w (w.alloc (.cells #[.slice none 0 0, .slice none 0 0] 25)) := (Below.refl _ _).alloc (Nat.le_refl _) _
  go_enter Tryd.func6, Tryd.ntmps6
  go_upto_region 1 with fail
  generalize w.alloc (.cells #[.slice none 0 0, .slice none 0 0] 25) = W at *
  have hwW : w.heap.size < W.heap.size := hZ0.lt
  by_cases hlong : 2048 < s.size
  · have HP : Hid (Par s [] [] 0 2) := .inl ⟨hlong, rfl, rfl, rfl, rfl⟩
    obtain ⟨z0, z1⟩ := hZ0.cells
    have fz := fun i => hZ0.frozen i
    obtain ⟨y0, y1⟩ := two_put (x := .slice none 0 0) (y := .slice none 0 0) z0 z1
    have HBE : Hid (Below w.heap.size w (put2 W w.heap.size (.slice none 0 0) (.slice none 0 0))) := put2_below hb0 (Nat.le_refl _)
    unfold put2 at HBE
    clear hZ0 hb0
    go_wp2
    exact bodyPost_ret (v := .tuple #[.agg #[.slice none 0 0, .slice none 0 0], .int .i64 ((0 : Nat) : Int), .int .i64 2]) (by simp [results, Tryd.results6, go_sem, y0, y1]) rfl (Prn.err HP.out HBE.out)
  · have hC0 := CBox.new W none 0 0 none 0 0
    have hb1' : Below W.heap.size W (W.alloc (.cells #[.slice none 0 0, .slice none 0 0] 25)) := (Below.refl _ _).alloc (Nat.le_refl _) _
    have hb1 := hb0.trans (hb1'.mono hb0.size)
    have hZ1 := hZ0.below hb1' hwW
    have hR1 : Crd (W.alloc (.cells #[.slice none 0 0, .slice none 0 0] 25)) W.heap.size W.heap.size none 0 0 none 0 0 [] [] := ⟨hC0, rfl, rfl, World.ownsRow_nil _ _ _ _, World.ownsRow_nil _ _ _ _⟩
    go_upto_region 4 with fail
    generalize W.alloc (.cells #[.slice none 0 0, .slice none 0 0] 25) = W1 at *
    clear hb0 hb1' hZ0 hC0
    go_wp2
    go_loopw [0, 6] (fun u v wr => ∃ (i : Nat) (r : ByteArray) (ag : Option Addr) (cg : Nat) (ao : Option Addr) (co : Nat) (G : List Gt) (O : List Int), u = .string r ∧ v = .int .i64 ((i : Int) + 1) ∧ i + r.size ≤ s.size ∧ Hid (Rst s i r) ∧ Hid (Rds (lns s) i G O) ∧ Crd wr W.heap.size W.heap.size ag G.length cg ao O.length co (G.map nmg) O ∧ CBox wr w.heap.size none 0 0 none 0 0 ∧ Below w.heap.size w wr) (fun u _ _ => (match u with | .string r => r.size | _ => 0))
    case atStart => exact ⟨0, s, none, 0, none, 0, [], [], rfl, rfl, by omega, Rst.start s, ⟨rfl, rfl⟩, hR1, hZ1, hb1⟩
    case round =>
      clear hR1 hZ1 hb1
      obtain ⟨i, r, ag, cg, ao, co, G, O, rfl, rfl, hir, HRst, HRds, hC, hZ, hbel⟩ := hrel
      have hlen := HRds.out.len
      obtain ⟨N, HN⟩ : ∃ N, Hid (G.length = N) := ⟨_, rfl⟩
      obtain ⟨M, HM⟩ : ∃ M, Hid (O.length = M) := ⟨_, rfl⟩
      rw [HN.out, HM.out] at hC hlen
      have hs1 := hbel.size
      by_cases hr0 : r = mt
      · subst hr0
        have he : (mt : ByteArray).toList.isEmpty = true := mt_yes
        obtain ⟨hl1, hl2⟩ := HRst.out.last lns_mt
        have HPE : Hid (∀ q, Cke G O G.length O.length q → q ≠ 0 → Par s [] [] 0 q) := fun q hq h0 => .inr ⟨by omega, .inr ⟨G, O, by rw [hl1]; exact HRds.out, .inr ⟨hl2, rfl, hq, .inl ⟨h0, rfl, rfl⟩⟩⟩⟩
        have HPY : Hid (Cke G O G.length O.length 0 → Par s G O 0 0) := fun hq => .inr ⟨by omega, .inr ⟨G, O, by rw [hl1]; exact HRds.out, .inr ⟨hl2, rfl, hq, .inr ⟨rfl, rfl, rfl⟩⟩⟩⟩
        have hgb := gbd_nm HRds.out.bd.1
        have hob := HRds.out.bd.2
        have HZN : Hid (∀ g ∈ G, g.k = 2 ∨ g.k = 6 ∨ g.n = 0) := HRds.out.zn
        have hG := RdG.ownA hC.own hC.ln hgb
        have hO := RdI.ownA hC.ins hob
        obtain ⟨d0, d1⟩ := hC.box.cells
        have hgl := hC.box.lt
        clear hgb hob hl1 hl2
        go_wp2_with fail
        refine (cCheckC _ _ _ _ _ _ _ _ _ hG hO (hS.below hbel)).mono ?_
        rintro e w3 ⟨q, rfl, hq, hb3⟩
        have hqb := hq.bd
        have HQ : Hid (Cke G O G.length O.length q) := by
          unfold Hid
          rw [HN.out, HM.out]
          exact (cke_nm HZN.out).1 hq
        have hC3 := hC.below hb3
        have hZ3 := hZ.below hb3 hZ.lt
        have hb3w := hbel.trans (hb3.mono hs1)
        obtain ⟨z0, z1⟩ := hZ3.cells
        have fz := fun i => hZ3.frozen i
        have zl := hZ3.lt
        clear hq hG hO hC hZ hb3 hbel d0 d1 hgl
        by_cases hq0 : q = 0
        · subst hq0
          have HP : Hid (Par s G O 0 0) := HPY.out HQ.out
          obtain ⟨d0, d1⟩ := hC3.box.cells
          have hgl := hC3.box.lt
          obtain ⟨y0, y1⟩ := two_put (x := .slice ag N cg) (y := .slice ao M co) z0 z1
          have hg1 := put2_grown w3 w.heap.size (.slice ag N cg) (.slice ao M co)
          have k1 := box_apart hZ3 hC3.own eGC
          have k2 := box_apart hZ3 hC3.ins eIC
          have HO1 : Hid (World.ownsRow _ _ _ _ _ _ _) := own_baseP (hC3.own.kept hg1 (.inr (fun e => k1 e.symm))) (Nat.le_of_lt hwW)
          have HO2 : Hid (World.ownsRow _ _ _ _ _ _ _) := own_baseP (hC3.ins.kept hg1 (.inr (fun e => k2 e.symm))) (Nat.le_of_lt hwW)
          have HBE : Hid (Below w.heap.size w (put2 w3 w.heap.size (.slice ag N cg) (.slice ao M co))) := put2_below hb3w (Nat.le_refl _)
          unfold put2 at HO1 HO2 HBE
          clear hg1 k1 k2 hC3 hZ3 hb3w hqb
          go_wp2
          exact bodyPost_ret (v := .tuple #[.agg #[.slice ag N cg, .slice ao M co], .int .i64 ((0 : Nat) : Int), .int .i64 0]) (by simp [results, Tryd.results6, go_sem, y0, y1]) rfl ⟨ag, cg, ao, co, 0, 0, G, O, by rw [HN.out, HM.out], HP.out, by rw [HN.out]; exact HO1.out, by rw [HM.out]; exact HO2.out, HBE.out⟩
        · have HP : Hid (Par s [] [] 0 q) := HPE.out q HQ.out hq0
          have hqn : (q != 0) = true := by rw [bne_iff_ne]; exact hq0
          obtain ⟨y0, y1⟩ := two_put (x := .slice none 0 0) (y := .slice none 0 0) z0 z1
          have HBE : Hid (Below w.heap.size w (put2 w3 w.heap.size (.slice none 0 0) (.slice none 0 0))) := put2_below hb3w (Nat.le_refl _)
          unfold put2 at HBE
          clear hC3 hZ3 hb3w hq0 hqb
          go_wp2
          exact bodyPost_ret (v := .tuple #[.agg #[.slice none 0 0, .slice none 0 0], .int .i64 ((0 : Nat) : Int), .int .i64 q]) (by simp [results, Tryd.results6, go_sem, y0, y1]) rfl (Prn.err HP.out HBE.out)
      · have he : r.toList.isEmpty = false := mt_no hr0
        rcases cut_cases r 10 with ⟨hx, hp⟩ | ⟨j, hx, hj, hp⟩
        · obtain ⟨hl1, hl2⟩ := HRst.out.last hp
          have HP : Hid (Par s [] [] (i + 1) 3) := .inr ⟨by omega, .inr ⟨G, O, by rw [hl1]; exact HRds.out, .inl ⟨by rw [hl2]; exact hr0, rfl, rfl, by rw [hl1], rfl⟩⟩⟩
          clear hl1 hl2 hp hr0
          go_wp2_with fail
          refine (sCutN r wr hx).mono ?_
          rintro e w3 ⟨rfl, hb3⟩
          have hZ3 := hZ.below hb3 hZ.lt
          have hb3w := hbel.trans (hb3.mono hs1)
          obtain ⟨z0, z1⟩ := hZ3.cells
          have fz := fun i => hZ3.frozen i
          have zl := hZ3.lt
          obtain ⟨y0, y1⟩ := two_put (x := .slice none 0 0) (y := .slice none 0 0) z0 z1
          have HBE : Hid (Below w.heap.size w (put2 w3 w.heap.size (.slice none 0 0) (.slice none 0 0))) := put2_below hb3w (Nat.le_refl _)
          unfold put2 at HBE
          clear hZ3 hb3w hC hZ hbel hb3 hx he
          go_wp2
          exact bodyPost_ret (v := .tuple #[.agg #[.slice none 0 0, .slice none 0 0], .int .i64 ((i + 1 : Nat) : Int), .int .i64 3]) (by simp [results, Tryd.results6, go_sem, y0, y1]) rfl (Prn.err HP.out HBE.out)
        · obtain ⟨hn1, hn2, hn3⟩ := HRst.out.next hp
          obtain ⟨t, Ht⟩ : ∃ t, Hid (r.extract 0 j = t) := ⟨_, rfl⟩
          obtain ⟨u, Hu⟩ : ∃ u, Hid (r.extract (j + 1) r.size = u) := ⟨_, rfl⟩
          have htz : t.size ≤ 2048 := by rw [← Ht.out, ByteArray.size_extract]; omega
          have huz : u.size + (j + 1) = r.size := by rw [← Hu.out, ByteArray.size_extract]; omega
          rw [Hu.out] at hn1
          rw [Ht.out] at hn2
          have HR1 : Hid (Rst s (i + 1) u) := hn1
          have HT : Hid (tx (lns s) i = t) := hn2
          have HLT : Hid (i < lnn s) := hn3
          clear hn1 hn2 hn3 hp hr0
          go_wp2_with fail
          refine (sCutY r j wr hx hj (by omega)).mono ?_
          rintro e w3 ⟨rfl, hb3⟩
          rw [Ht.out, Hu.out]
          have hC3 := hC.below hb3
          have hZ3 := hZ.below hb3 hZ.lt
          have hb3w := hbel.trans (hb3.mono hs1)
          have hS3 := hS.below hb3w
          clear hC hZ hbel hb3 hx he
          go_wp2_with fail
          refine (cReadLine W.heap.size W.heap.size t ag N cg ao M co (G.map nmg) O w3 hC3 (Nat.le_refl _) hS3 htz (by omega) (by omega) HRds.out.bd.2).mono ?_
          rintro e w4 ⟨hor, hb4⟩
          have hZ4 := hZ3.below hb4 hwW
          have hb4w : Below w.heap.size w w4 := hb3w.trans (hb4.mono (Nat.le_of_lt hwW))
          clear hC3 hZ3 hb3w hb4 hS3
          rcases hor with ⟨g, a', c', hL, hO0, rfl, hC4⟩ | ⟨x, a', c', hL, rfl, hC4⟩ | ⟨hno, rfl⟩
          · have HR : Hid (Rds (lns s) (i + 1) (G ++ [g]) O) := ⟨G, O, HRds.out, .inl ⟨g, by rw [HT.out]; exact hL, hO0, rfl, hO0⟩⟩
            have HC4 : Hid (Crd w4 W.heap.size W.heap.size a' (G ++ [g]).length c' ao O.length co ((G ++ [g]).map nmg) O) := by
              unfold Hid
              rw [HM.out, List.length_append, HN.out, List.map_append]
              exact hC4
            clear hL hO0 hC4
            go_wp2
            go_roundw
            case rel => exact ⟨i + 1, u, a', c', ao, co, G ++ [g], O, rfl, by go_num, by omega, HR1, HR, HC4.out, hZ4, hb4w⟩
            case measure => simp; omega
          · have HR : Hid (Rds (lns s) (i + 1) G (O ++ [x])) := ⟨G, O, HRds.out, .inr ⟨x, by rw [HT.out]; exact hL, rfl, rfl⟩⟩
            have HC4 : Hid (Crd w4 W.heap.size W.heap.size ag G.length cg a' (O ++ [x]).length c' (G.map nmg) (O ++ [x])) := by
              unfold Hid
              rw [HN.out, List.length_append, HM.out]
              exact hC4
            clear hL hC4
            go_wp2
            go_roundw
            case rel => exact ⟨i + 1, u, ag, cg, a', c', G, O ++ [x], rfl, by go_num, by omega, HR1, HR, HC4.out, hZ4, hb4w⟩
            case measure => simp; omega
          · have HP : Hid (Par s [] [] (i + 1) 3) := .inr ⟨by omega, .inl ⟨i, G, O, HLT.out, HRds.out, by rw [HT.out]; exact hno, rfl, rfl, rfl, rfl⟩⟩
            obtain ⟨z0, z1⟩ := hZ4.cells
            have fz := fun i => hZ4.frozen i
            have zl := hZ4.lt
            obtain ⟨y0, y1⟩ := two_put (x := .slice none 0 0) (y := .slice none 0 0) z0 z1
            have HBE : Hid (Below w.heap.size w (put2 w4 w.heap.size (.slice none 0 0) (.slice none 0 0))) := put2_below hb4w (Nat.le_refl _)
            unfold put2 at HBE
            clear hZ4 hb4w hno
            go_wp2
            exact bodyPost_ret (v := .tuple #[.agg #[.slice none 0 0, .slice none 0 0], .int .i64 ((i + 1 : Nat) : Int), .int .i64 3]) (by simp [results, Tryd.results6, go_sem, y0, y1]) rfl (Prn.err HP.out HBE.out)
end
section
open Go.RowKit Go.Shelf
theorem sizeBld : (Tryd.prog.info? 50).map (·.size) = some 2 := by kernel_rfl
theorem infoByteB : (Tryd.prog.info? 5).map (fun i => (i.zero, i.size, i.bytes)) = some (some (.int .u8 0), 1, 1) := by kernel_rfl
theorem neBld : (50 : TypeId) ≠ 5 := by decide
/-- A builder that holds the text t. -/
def Bld (B b : Nat) (t : ByteArray) (w : World) : Prop := Lib.IsBuilder 50 5 B b (Lib.strCells t) w

theorem bld_at_below {B b : Nat} {p : Value} {bs : List Value} {w w' : World} (h : Lib.BuilderAt 50 5 B b p bs w) (hb : Below w.heap.size w w') : Lib.BuilderAt 50 5 B b p bs w' := by
  have hlt := h.lt
  obtain ⟨h1, v, h2, h3, h4⟩ := h
  exact ⟨h1, v, by rw [hb.block b hlt]; exact h2, own_below h3 hb, h4⟩
theorem Bld.below {B b : Nat} {t : ByteArray} {w w' : World} (h : Bld B b t w) (hb : Below w.heap.size w w') : Bld B b t w' := by
  rcases h with h | h
  · exact .inl (bld_at_below h hb)
  · exact .inr (bld_at_below h hb)
theorem Bld.lt {B b : Nat} {t : ByteArray} {w : World} (h : Bld B b t w) : b < w.heap.size := by
  rcases h with h | h <;> exact h.lt
theorem Bld.new (w : World) : Bld w.heap.size w.heap.size ⟨#[]⟩ (w.alloc (.cells #[.pointer none, .slice none 0 0] 50)) :=
  .inl ⟨Nat.le_refl _, .slice none 0 0, heap_alloc_new w _, World.ownsRow_nil _ _ _ _, by simp [Value.ownBlock]⟩
theorem strCells_app (s t : ByteArray) : Lib.strCells s ++ Lib.strCells t = Lib.strCells (s ++ t) := by
  simp [Lib.strCells, ByteArray.data_append]

theorem sCopyFresh (b : Nat) (w : World) (h0 : w.cell? ⟨b, 0, none⟩ = some (.pointer none)) (hsh : w.shape? b = some (50, 2)) (hfz : w.frozen? ⟨b, 0, none⟩ = false) :
    Calls Tryd.prog 27 #[.pointer (some ⟨b, 0, none⟩)] w fun e w' => e = .returned (.tuple #[]) ∧ w' = w.setCell ⟨b, 0, none⟩ (.pointer (some ⟨b, 0, none⟩)) := by
  obtain ⟨j, hj, hjs⟩ := Option.map_eq_some_iff.1 sizeBld
  go_enter Tryd.func27, Tryd.ntmps27
  go_wp2
  rw [Lib.run_to_unsafe w ⟨b, 0, none⟩ Tryd.underlying47 Tryd.underlying95 hj (by rw [hjs]; decide) hsh (Nat.zero_lt_succ 1)]
  simp only [Result.andThen]
  rw [Oper.upon_value]
  go_wp2
  rw [run_callFunc_extern Tryd.func43 (by kernel_rfl) (by kernel_rfl) (by kernel_rfl) (e := Extern.AbiNoEscape.same) (by kernel_rfl), Lib.run_noEscape]
  simp only [Result.andThen]
  rw [Oper.upon_value]
  go_wp2
  rw [Lib.run_from_unsafe w ⟨b, 0, none⟩ Tryd.underlying95 Tryd.underlying47 hj hsh (by kernel_rfl)]
  simp only [Result.andThen]
  rw [Oper.upon_value]
  go_wp2
  go_end0
  exact ⟨rfl, rfl⟩
theorem sCopyUsed (b : Nat) (w : World) (h0 : w.cell? ⟨b, 0, none⟩ = some (.pointer (some ⟨b, 0, none⟩))) :
    Calls Tryd.prog 27 #[.pointer (some ⟨b, 0, none⟩)] w fun e w' => e = .returned (.tuple #[]) ∧ w' = w := by
  obtain ⟨j, hj, _⟩ := Option.map_eq_some_iff.1 sizeBld
  go_enter Tryd.func27, Tryd.ntmps27
  go_wp2
  rw [Lib.run_neq_ptr_same w _ Tryd.underlying47 hj]
  go_wp2
  go_end0
  exact ⟨rfl, rfl⟩
theorem sCopyCheck (B b : Nat) (bs : List Value) (w : World) (h : Lib.IsBuilder 50 5 B b bs w) :
    Calls Tryd.prog 27 #[.pointer (some ⟨b, 0, none⟩)] w fun e w' => e = .returned (.tuple #[]) ∧ Lib.BuilderAt 50 5 B b (.pointer (some ⟨b, 0, none⟩)) bs w' ∧ Below B w w' := by
  rcases h with h | h
  · refine (sCopyFresh b w h.cell0 h.shape h.frozen0).mono ?_
    rintro e w' ⟨rfl, rfl⟩
    exact ⟨rfl, h.used _, (Below.refl B w).setCell (p := ⟨b, 0, none⟩) h.1 _⟩
  · refine (sCopyUsed b w h.cell0).mono ?_
    rintro e w' ⟨rfl, rfl⟩
    exact ⟨rfl, h, Below.refl B _⟩

/-- A text is written behind what was written. -/
theorem sWrite (B b : Nat) (t s : ByteArray) (w : World) (h : Bld B b t w) (hlen : t.size + s.size ≤ 1000000) (hBw : B ≤ w.heap.size) :
    Calls Tryd.prog 16 #[.pointer (some ⟨b, 0, none⟩), .string s] w fun e w' => e = .returned (.tuple #[.int .i64 s.size, .nilIface]) ∧ Bld B b (t ++ s) w' ∧ Below B w w' := by
  obtain ⟨i0, hi, hz0, hz1, hz2⟩ := info_parts infoByteB
  have hcl := Lib.strCells_length t
  go_enter Tryd.func16, Tryd.ntmps16
  go_wp2_with (go_at_call 27; refine (sCopyCheck B b _ _ h).mono ?_)
  rintro e w1 ⟨rfl, ⟨hB, v, hbk, hown, hne⟩, hb1⟩
  have hs1 := hb1.size
  have c0 : w1.cell? ⟨b, 0, none⟩ = some (.pointer (some ⟨b, 0, none⟩)) := by rw [Lib.cell_of_heap hbk]; rfl
  have c1 : w1.cell? ⟨b, 1, none⟩ = some v := by rw [Lib.cell_of_heap hbk]; rfl
  have hlt : b < w1.heap.size := (Array.getElem?_eq_some_iff.1 hbk).1
  go_wp2_with (at_builtin; refine Lib.wpList_append_own_string _ rfl _ _ 48 9 rfl B 5 i0 Tryd.underlying48 Tryd.underlying9 hi hz0 hz1 hz2 _ _ _ rfl hown s rfl (by unfold maxLen; omega) (by omega) (by omega) ?_)
  intro v' w2 hown' hgrow _
  have hb2 : w2.heap[b]? = some (.cells #[.pointer (some ⟨b, 0, none⟩), v] 50 (0, 0)) := by
    rw [hgrow.block b hlt (fun e => hne e.symm)]
    exact hbk
  have d0 : w2.cell? ⟨b, 0, none⟩ = some (.pointer (some ⟨b, 0, none⟩)) := by rw [Lib.cell_of_heap hb2]; rfl
  have d1 : w2.cell? ⟨b, 1, none⟩ = some v := by rw [Lib.cell_of_heap hb2]; rfl
  have f1 : w2.frozen? ⟨b, 1, none⟩ = false := Lib.frozen_of_heap hb2 1
  obtain ⟨ao, n', cap, rfl⟩ : ∃ ao n' cap, v' = .slice ao n' cap := by
    rcases hown'.2 with ⟨hv, _⟩ | ⟨g, cap, cur, hv, _⟩ <;> exact ⟨_, _, _, hv⟩
  go_wp2
  go_ret2
  refine ⟨rfl, .inr ?_, (hb1.grown hgrow (by omega) (fun k hk => (hown.lt k hk).1)).setCell (p := ⟨b, 1, none⟩) hB _⟩
  exact Lib.BuilderAt.put hB hb2 (bs' := Lib.strCells (t ++ s)) (by rw [← strCells_app]; simpa [Lib.strCells_length] using hown') neBld
/-- What was written. -/
theorem sString (B b : Nat) (t : ByteArray) (w : World) (h : Bld B b t w) (hBw : B ≤ w.heap.size) :
    Calls Tryd.prog 19 #[.pointer (some ⟨b, 0, none⟩)] w fun e w' => e = .returned (.string t) ∧ Below B w w' := by
  have h' : Lib.IsBuilder 50 5 B b (Lib.byteCells t.data.toList) w := h
  refine (show Calls Tryd.prog 19 #[.pointer (some ⟨b, 0, none⟩)] w _ from Any.Builder_String_any Tryd.lays169 Tryd.Builder_Extra_169 B b t.data.toList w h' hBw).mono ?_
  rintro e w' ⟨rfl, hb⟩
  exact ⟨by simp, hb⟩
end
section
open Go.RowKit Go.Shelf Go.Sort
theorem sFormatU (n : Int) (w : World) (h0 : 0 ≤ n) (h1 : n ≤ 18446744073709551615) (ht : Tabs w) :
    Calls Tryd.prog 44 #[.int .u64 n, .int .i64 10] w fun e w' => e = .returned (.string (itb n)) ∧ Below w.heap.size w w' := by
  obtain ⟨u, rfl⟩ : ∃ u : Nat, n = u := ⟨n.toNat, by omega⟩
  have hE : itb (u : Int) = ⟨(Lib.decDigits u).toArray⟩ := by unfold itb; rw [Lib.itoa_nonneg]
  rw [hE]
  by_cases hs : u < 100
  · have hw : IntKind.i64.wrap (u : Int) = u := by rw [IntKind.wrap_i64]; omega
    go_enter Tryd.func44, Tryd.ntmps44
    go_wp2_with (go_at_call 63; refine (show Calls Tryd.prog 63 #[.int .i64 (u : Int)] w _ from Any.internal_strconv_small Tryd.lays283 u hs w).mono ?_; rintro e w' ⟨rfl, rfl⟩)
    go_ret
    exact ⟨rfl, Below.refl _ _⟩
  · have hu1 : 1 ≤ u := by omega
    have hu64 : u < 18446744073709551616 := by omega
    have hnd20 : Lib.nDigits u ≤ 20 := by have := Lib.numDigits_eq u hu1 hu64; split at this <;> omega
    obtain ⟨N, HN⟩ : ∃ N, Hid (Lib.nDigits u = N) := ⟨_, rfl⟩
    have hal : Tryd.prog.arrayLen 116 = 24 := by kernel_rfl
    have hsl : ∀ W, (Instr.sliceAt 116 (.pointer (some ⟨w.heap.size, 0, none⟩)) none (some (.int .i64 (N : Int))) none).run Tryd.prog W = .ok (.slice (some ⟨w.heap.size, 0, none⟩) N 24) W := fun W => by
      rw [run_sliceAt_array_h W 116 ⟨w.heap.size, 0, none⟩ (by simp [Program.arrayLen, Program.elem, Tryd.underlying116]) .i64 (N : Int) (by omega) (by rw [hal]; have := HN.out; omega)]
      go_simp
    have hH0 := Lib.holds_zero0 w 116 N (by have := HN.out; omega)
    have hfmt := Any.internal_strconv_formatBase10 Tryd.lays285 w.heap.size 0 24 u (Array.replicate N 0) (w.alloc (.cells Lib.zeros24 116)) hH0 (by rw [Array.size_replicate, ← HN.out]; exact Lib.lt_pow_nDigits u) hu64 (by rw [Array.size_replicate]; have := HN.out; omega)
    rw [Array.size_replicate] at hfmt
    have HH0 : Hid (Holds _ _ _ _ _) := hH0
    have hnum : ∀ W, Tabs W → Calls Tryd.prog 64 #[.int .u64 (u : Int)] W fun e w' => e = .returned (.int .i64 (N : Int)) ∧ w' = W := fun W hW => by
      rw [← HN.out]
      exact Any.internal_strconv_numDigits Tryd.laysM284 u hu1 hu64 W hW
    have hta : Tabs (w.alloc (.cells Lib.zeros24 116)) := ht.below ((Below.refl _ _).alloc (Nat.le_refl _) _)
    have HFM : Hid (Calls Tryd.prog 65 #[.slice (some ⟨w.heap.size, 0, none⟩) N 24, .int .u64 (u : Int)] (w.alloc (.cells Lib.zeros24 116)) fun e w' => e = .returned (.tuple #[]) ∧ ∃ (n v' : Nat) (dk : Array UInt8), w' = (putRow (fun (b : UInt8) => Value.int .u8 (b.toNat : Int)) (w.alloc (.cells Lib.zeros24 116)) w.heap.size 0 dk).drewN n ∧ Lib.FmtInv N u 0 v' dk) := hfmt
    clear hH0 hal hfmt
    go_enter Tryd.func44, Tryd.ntmps44
    go_wp2_with (first | (go_at_call 64; refine (hnum _ hta).mono ?_; rintro e w' ⟨rfl, rfl⟩))
    refine HFM.out.mono ?_
    rintro e w' ⟨rfl, k, v', dk, rfl, hF⟩
    have hcv : (convert 48 9 (.slice (some ⟨w.heap.size, 0, none⟩) N 24)).run Tryd.prog ((putRow (fun (b : UInt8) => Value.int .u8 (b.toNat : Int)) (w.alloc (.cells Lib.zeros24 116)) w.heap.size 0 dk).drewN k) = .ok (.string ⟨(Lib.decDigits u).toArray⟩) ((putRow (fun (b : UInt8) => Value.int .u8 (b.toNat : Int)) (w.alloc (.cells Lib.zeros24 116)) w.heap.size 0 dk).drewN k) := by
      have hF' := hF
      rw [← HN.out] at hF'
      have h := run_convert_bytes_back (P := Tryd.prog) ((putRow (fun (b : UInt8) => Value.int .u8 (b.toNat : Int)) (w.alloc (.cells Lib.zeros24 116)) w.heap.size 0 dk).drewN k) 48 9 5 ⟨w.heap.size, 0, none⟩ 24 (Lib.decDigits u) Tryd.underlying48 Tryd.underlying5 Tryd.underlying9 (fun j hj => by
        rw [Lib.row_is_numeral hF' j hj, Lib.add_plain, World.cell?_drewN]
        exact cell?_putRow (fun (b : UInt8) => Value.int .u8 (b.toNat : Int)) _ w.heap.size 0 _ dk HH0.out (by rw [hF.size, Array.size_replicate]) j (by rw [hF.size, ← HN.out]; rw [Lib.decDigits_length] at hj; exact hj))
      rw [Lib.decDigits_length, HN.out] at h
      exact h
    have hbE : Below w.heap.size w ((putRow (fun (b : UInt8) => Value.int .u8 (b.toNat : Int)) (w.alloc (.cells Lib.zeros24 116)) w.heap.size 0 dk).drewN k) := by
      obtain ⟨os, e⟩ := Lib.fin_at w (.cells Lib.zeros24 116) dk k 0
      rw [e]
      exact grow_below w k os
    clear HFM hnum hta HH0
    go_wp2
    go_ret
    exact ⟨rfl, hbE⟩

theorem sFormatUint (n : Int) (w : World) (h0 : 0 ≤ n) (h1 : n ≤ 18446744073709551615) (ht : Tabs w) :
    Calls Tryd.prog 28 #[.int .u64 n, .int .i64 10] w fun e w' => e = .returned (.string (itb n)) ∧ Below w.heap.size w w' := by
  go_enter Tryd.func28, Tryd.ntmps28
  go_wp2_with (go_at_call 44; refine (sFormatU n w h0 h1 ht).mono ?_; rintro e w' ⟨rfl, hb⟩)
  go_ret
  exact ⟨rfl, hb⟩
end
end Go.Proofs.YtljlioglpaogdahDoor
