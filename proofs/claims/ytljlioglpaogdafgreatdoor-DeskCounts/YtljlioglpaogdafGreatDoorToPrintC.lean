/- Package circuit: Parse. · Package circuit: gateLine, Print. · Package circuit: Print. -/
import Derived.Test.YtljlioglpaogdafGreatDoorRLineC
import Derived.Test.YtljlioglpaogdafGreatDoorToParN
import Derived.Test.YtljlioglpaogdafGreatDoorToCktC
import Derived.Test.YtljlioglpaogdafGreatDoorToBldC
namespace Go.Proofs.YtljlioglpaogdafGreatDoor
set_option linter.unusedVariables false
set_option maxRecDepth 100000
set_option maxHeartbeats 8000000
section
open Crm Go.RowKit
theorem mt_yes : (⟨#[]⟩ : ByteArray).toList.isEmpty = true := by decide +kernel
theorem mt_no {r : ByteArray} (h : r ≠ mt) : r.toList.isEmpty = false := by
  cases e : r.toList with
  | nil =>
    exfalso
    apply h
    rw [ByteArray.toList_eq] at e
    apply ByteArray.ext
    exact Array.ext' e
  | cons a l => rfl
theorem own_baseP {w : World} {B B' n z : Nat} {E : TypeId} {v : Value} {xs : List Value} (h : w.ownsRow B E z v n xs) (hB : B' ≤ B) : w.ownsRow B' E z v n xs := by
  refine ⟨h.1, ?_⟩
  rcases h.2 with h1 | ⟨g, cap, cur, e, hb, h2⟩
  · exact .inl h1
  · exact .inr ⟨g, cap, cur, e, Nat.le_trans hB hb, h2⟩
def put2 (w : World) (b : Nat) (x y : Value) : World := (w.setCell ⟨b, 0, none⟩ x).setCell ⟨b, 1, none⟩ y
theorem put2_grown (w : World) (b : Nat) (x y : Value) : w.grownBy (put2 w b x y) (some b) := grown_trans (grown_set _ _ _ _) (grown_set _ _ _ _)
theorem put2_below {w0 w : World} {b : Nat} {x y : Value} (h : Below w0.heap.size w0 w) (hb : w0.heap.size ≤ b) : Below w0.heap.size w0 (put2 w b x y) := below_grown h (put2_grown w b x y) hb

theorem cParse (s : ByteArray) (w : World) (hs : s.size ≤ 9223372036854775807) (hS : Shp w) : Calls Tryz.prog 75 #[.string s] w fun e w' => Prn s w e w' := by
  have hZ0 := CBox.new w none 0 0 none 0 0
  have hb0 : Below w.heap.size w (w.alloc (.cells #[.slice none 0 0, .slice none 0 0] 73)) := (Below.refl _ _).alloc (Nat.le_refl _) _
  go_enter Tryz.func75, Tryz.ntmps75
  go_upto_region 1 with fail
  generalize w.alloc (.cells #[.slice none 0 0, .slice none 0 0] 73) = W at *
  have hwW : w.heap.size < W.heap.size := hZ0.lt
  by_cases hlong : 2048 < s.size
  · have HP : Hid (Par s [] [] 0 2) := .inl ⟨hlong, rfl, rfl, rfl, rfl⟩
    obtain ⟨z0, z1⟩ := hZ0.cells
    have fz := fun i => hZ0.frozen i
    obtain ⟨y0, y1⟩ := two_put (x := .slice none 0 0) (y := .slice none 0 0) z0 z1
    have HBE : Hid (Below w.heap.size w (put2 W w.heap.size (.slice none 0 0) (.slice none 0 0))) := put2_below hb0 (Nat.le_refl _)
    unfold put2 at HBE
    clear hZ0 hb0
    go_wp2
    exact bodyPost_ret (v := .tuple #[.agg #[.slice none 0 0, .slice none 0 0], .int .i64 ((0 : Nat) : Int), .int .i64 2]) (by simp [results, Tryz.results75, go_sem, y0, y1]) rfl (Prn.err HP.out HBE.out)
  · have hC0 := CBox.new W none 0 0 none 0 0
    have hb1' : Below W.heap.size W (W.alloc (.cells #[.slice none 0 0, .slice none 0 0] 73)) := (Below.refl _ _).alloc (Nat.le_refl _) _
    have hb1 := hb0.trans (hb1'.mono hb0.size)
    have hZ1 := hZ0.below hb1' hwW
    have hR1 : Crd (W.alloc (.cells #[.slice none 0 0, .slice none 0 0] 73)) W.heap.size W.heap.size none 0 0 none 0 0 [] [] := ⟨hC0, rfl, rfl, World.ownsRow_nil _ _ _ _, World.ownsRow_nil _ _ _ _⟩
    go_upto_region 4 with fail
    generalize W.alloc (.cells #[.slice none 0 0, .slice none 0 0] 73) = W1 at *
    clear hb0 hb1' hZ0 hC0
    go_wp2
    go_loopw [0, 6] (fun u v wr => ∃ (i : Nat) (r : ByteArray) (ag : Option Addr) (cg : Nat) (ao : Option Addr) (co : Nat) (G : List Gt) (O : List Int), u = .string r ∧ v = .int .i64 ((i : Int) + 1) ∧ i + r.size ≤ s.size ∧ Hid (Rst s i r) ∧ Hid (Rds (lns s) i G O) ∧ Crd wr W.heap.size W.heap.size ag G.length cg ao O.length co (G.map nmg) O ∧ CBox wr w.heap.size none 0 0 none 0 0 ∧ Below w.heap.size w wr) (fun u _ _ => (match u with | .string r => r.size | _ => 0))
    case atStart => exact ⟨0, s, none, 0, none, 0, [], [], rfl, rfl, by omega, Rst.start s, ⟨rfl, rfl⟩, hR1, hZ1, hb1⟩
    case round =>
      clear hR1 hZ1 hb1
      obtain ⟨i, r, ag, cg, ao, co, G, O, rfl, rfl, hir, HRst, HRds, hC, hZ, hbel⟩ := hrel
      have hlen := HRds.out.len
      obtain ⟨N, HN⟩ : ∃ N, Hid (G.length = N) := ⟨_, rfl⟩
      obtain ⟨M, HM⟩ : ∃ M, Hid (O.length = M) := ⟨_, rfl⟩
      rw [HN.out, HM.out] at hC hlen
      have hs1 := hbel.size
      by_cases hr0 : r = mt
      · subst hr0
        have he : (mt : ByteArray).toList.isEmpty = true := mt_yes
        obtain ⟨hl1, hl2⟩ := HRst.out.last lns_mt
        have HPE : Hid (∀ q, Cke G O G.length O.length q → q ≠ 0 → Par s [] [] 0 q) := fun q hq h0 => .inr ⟨by omega, .inr ⟨G, O, by rw [hl1]; exact HRds.out, .inr ⟨hl2, rfl, hq, .inl ⟨h0, rfl, rfl⟩⟩⟩⟩
        have HPY : Hid (Cke G O G.length O.length 0 → Par s G O 0 0) := fun hq => .inr ⟨by omega, .inr ⟨G, O, by rw [hl1]; exact HRds.out, .inr ⟨hl2, rfl, hq, .inr ⟨rfl, rfl, rfl⟩⟩⟩⟩
        have hgb := gbd_nm HRds.out.bd.1
        have hob := HRds.out.bd.2
        have HZN : Hid (∀ g ∈ G, g.k = 2 ∨ g.k = 6 ∨ g.n = 0) := HRds.out.zn
        have hG := RdG.ownA hC.own hC.ln hgb
        have hO := RdI.ownA hC.ins hob
        obtain ⟨d0, d1⟩ := hC.box.cells
        have hgl := hC.box.lt
        clear hgb hob hl1 hl2
        go_wp2_with fail
        refine (cCheckC _ _ _ _ _ _ _ _ _ hG hO (hS.below hbel)).mono ?_
        rintro e w3 ⟨q, rfl, hq, hb3⟩
        have hqb := hq.bd
        have HQ : Hid (Cke G O G.length O.length q) := by
          unfold Hid
          rw [HN.out, HM.out]
          exact (cke_nm HZN.out).1 hq
        have hC3 := hC.below hb3
        have hZ3 := hZ.below hb3 hZ.lt
        have hb3w := hbel.trans (hb3.mono hs1)
        obtain ⟨z0, z1⟩ := hZ3.cells
        have fz := fun i => hZ3.frozen i
        have zl := hZ3.lt
        clear hq hG hO hC hZ hb3 hbel d0 d1 hgl
        by_cases hq0 : q = 0
        · subst hq0
          have HP : Hid (Par s G O 0 0) := HPY.out HQ.out
          obtain ⟨d0, d1⟩ := hC3.box.cells
          have hgl := hC3.box.lt
          obtain ⟨y0, y1⟩ := two_put (x := .slice ag N cg) (y := .slice ao M co) z0 z1
          have hg1 := put2_grown w3 w.heap.size (.slice ag N cg) (.slice ao M co)
          have k1 := box_apart hZ3 hC3.own eGC
          have k2 := box_apart hZ3 hC3.ins eIC
          have HO1 : Hid (World.ownsRow _ _ _ _ _ _ _) := own_baseP (hC3.own.kept hg1 (.inr (fun e => k1 e.symm))) (Nat.le_of_lt hwW)
          have HO2 : Hid (World.ownsRow _ _ _ _ _ _ _) := own_baseP (hC3.ins.kept hg1 (.inr (fun e => k2 e.symm))) (Nat.le_of_lt hwW)
          have HBE : Hid (Below w.heap.size w (put2 w3 w.heap.size (.slice ag N cg) (.slice ao M co))) := put2_below hb3w (Nat.le_refl _)
          unfold put2 at HO1 HO2 HBE
          clear hg1 k1 k2 hC3 hZ3 hb3w hqb
          go_wp2
          exact bodyPost_ret (v := .tuple #[.agg #[.slice ag N cg, .slice ao M co], .int .i64 ((0 : Nat) : Int), .int .i64 0]) (by simp [results, Tryz.results75, go_sem, y0, y1]) rfl ⟨ag, cg, ao, co, 0, 0, G, O, by rw [HN.out, HM.out], HP.out, by rw [HN.out]; exact HO1.out, by rw [HM.out]; exact HO2.out, HBE.out⟩
        · have HP : Hid (Par s [] [] 0 q) := HPE.out q HQ.out hq0
          have hqn : (q != 0) = true := by rw [bne_iff_ne]; exact hq0
          obtain ⟨y0, y1⟩ := two_put (x := .slice none 0 0) (y := .slice none 0 0) z0 z1
          have HBE : Hid (Below w.heap.size w (put2 w3 w.heap.size (.slice none 0 0) (.slice none 0 0))) := put2_below hb3w (Nat.le_refl _)
          unfold put2 at HBE
          clear hC3 hZ3 hb3w hq0 hqb
          go_wp2
          exact bodyPost_ret (v := .tuple #[.agg #[.slice none 0 0, .slice none 0 0], .int .i64 ((0 : Nat) : Int), .int .i64 q]) (by simp [results, Tryz.results75, go_sem, y0, y1]) rfl (Prn.err HP.out HBE.out)
      · have he : r.toList.isEmpty = false := mt_no hr0
        rcases cut_cases r 10 with ⟨hx, hp⟩ | ⟨j, hx, hj, hp⟩
        · obtain ⟨hl1, hl2⟩ := HRst.out.last hp
          have HP : Hid (Par s [] [] (i + 1) 3) := .inr ⟨by omega, .inr ⟨G, O, by rw [hl1]; exact HRds.out, .inl ⟨by rw [hl2]; exact hr0, rfl, rfl, by rw [hl1], rfl⟩⟩⟩
          clear hl1 hl2 hp hr0
          go_wp2_with fail
          refine (sCutN r wr hx).mono ?_
          rintro e w3 ⟨rfl, hb3⟩
          have hZ3 := hZ.below hb3 hZ.lt
          have hb3w := hbel.trans (hb3.mono hs1)
          obtain ⟨z0, z1⟩ := hZ3.cells
          have fz := fun i => hZ3.frozen i
          have zl := hZ3.lt
          obtain ⟨y0, y1⟩ := two_put (x := .slice none 0 0) (y := .slice none 0 0) z0 z1
          have HBE : Hid (Below w.heap.size w (put2 w3 w.heap.size (.slice none 0 0) (.slice none 0 0))) := put2_below hb3w (Nat.le_refl _)
          unfold put2 at HBE
          clear hZ3 hb3w hC hZ hbel hb3 hx he
          go_wp2
          exact bodyPost_ret (v := .tuple #[.agg #[.slice none 0 0, .slice none 0 0], .int .i64 ((i + 1 : Nat) : Int), .int .i64 3]) (by simp [results, Tryz.results75, go_sem, y0, y1]) rfl (Prn.err HP.out HBE.out)
        · obtain ⟨hn1, hn2, hn3⟩ := HRst.out.next hp
          obtain ⟨t, Ht⟩ : ∃ t, Hid (r.extract 0 j = t) := ⟨_, rfl⟩
          obtain ⟨u, Hu⟩ : ∃ u, Hid (r.extract (j + 1) r.size = u) := ⟨_, rfl⟩
          have htz : t.size ≤ 2048 := by rw [← Ht.out, ByteArray.size_extract]; omega
          have huz : u.size + (j + 1) = r.size := by rw [← Hu.out, ByteArray.size_extract]; omega
          rw [Hu.out] at hn1
          rw [Ht.out] at hn2
          have HR1 : Hid (Rst s (i + 1) u) := hn1
          have HT : Hid (tx (lns s) i = t) := hn2
          have HLT : Hid (i < lnn s) := hn3
          clear hn1 hn2 hn3 hp hr0
          go_wp2_with fail
          refine (sCutY r j wr hx hj (by omega)).mono ?_
          rintro e w3 ⟨rfl, hb3⟩
          rw [Ht.out, Hu.out]
          have hC3 := hC.below hb3
          have hZ3 := hZ.below hb3 hZ.lt
          have hb3w := hbel.trans (hb3.mono hs1)
          have hS3 := hS.below hb3w
          clear hC hZ hbel hb3 hx he
          go_wp2_with fail
          refine (cReadLine W.heap.size W.heap.size t ag N cg ao M co (G.map nmg) O w3 hC3 (Nat.le_refl _) hS3 htz (by omega) (by omega) HRds.out.bd.2).mono ?_
          rintro e w4 ⟨hor, hb4⟩
          have hZ4 := hZ3.below hb4 hwW
          have hb4w : Below w.heap.size w w4 := hb3w.trans (hb4.mono (Nat.le_of_lt hwW))
          clear hC3 hZ3 hb3w hb4 hS3
          rcases hor with ⟨g, a', c', hL, hO0, rfl, hC4⟩ | ⟨x, a', c', hL, rfl, hC4⟩ | ⟨hno, rfl⟩
          · have HR : Hid (Rds (lns s) (i + 1) (G ++ [g]) O) := ⟨G, O, HRds.out, .inl ⟨g, by rw [HT.out]; exact hL, hO0, rfl, hO0⟩⟩
            have HC4 : Hid (Crd w4 W.heap.size W.heap.size a' (G ++ [g]).length c' ao O.length co ((G ++ [g]).map nmg) O) := by
              unfold Hid
              rw [HM.out, List.length_append, HN.out, List.map_append]
              exact hC4
            clear hL hO0 hC4
            go_wp2
            go_roundw
            case rel => exact ⟨i + 1, u, a', c', ao, co, G ++ [g], O, rfl, by go_num, by omega, HR1, HR, HC4.out, hZ4, hb4w⟩
            case measure => simp; omega
          · have HR : Hid (Rds (lns s) (i + 1) G (O ++ [x])) := ⟨G, O, HRds.out, .inr ⟨x, by rw [HT.out]; exact hL, rfl, rfl⟩⟩
            have HC4 : Hid (Crd w4 W.heap.size W.heap.size ag G.length cg a' (O ++ [x]).length c' (G.map nmg) (O ++ [x])) := by
              unfold Hid
              rw [HN.out, List.length_append, HM.out]
              exact hC4
            clear hL hC4
            go_wp2
            go_roundw
            case rel => exact ⟨i + 1, u, ag, cg, a', c', G, O ++ [x], rfl, by go_num, by omega, HR1, HR, HC4.out, hZ4, hb4w⟩
            case measure => simp; omega
          · have HP : Hid (Par s [] [] (i + 1) 3) := .inr ⟨by omega, .inl ⟨i, G, O, HLT.out, HRds.out, by rw [HT.out]; exact hno, rfl, rfl, rfl, rfl⟩⟩
            obtain ⟨z0, z1⟩ := hZ4.cells
            have fz := fun i => hZ4.frozen i
            have zl := hZ4.lt
            obtain ⟨y0, y1⟩ := two_put (x := .slice none 0 0) (y := .slice none 0 0) z0 z1
            have HBE : Hid (Below w.heap.size w (put2 w4 w.heap.size (.slice none 0 0) (.slice none 0 0))) := put2_below hb4w (Nat.le_refl _)
            unfold put2 at HBE
            clear hZ4 hb4w hno
            go_wp2
            exact bodyPost_ret (v := .tuple #[.agg #[.slice none 0 0, .slice none 0 0], .int .i64 ((i + 1 : Nat) : Int), .int .i64 3]) (by simp [results, Tryz.results75, go_sem, y0, y1]) rfl (Prn.err HP.out HBE.out)
theorem shw_vb (k : Nat) : shw k = vb k := rfl
def Gll (g : Gt) (w : World) (e : Ending) (w' : World) : Prop := e = .returned (.string (vb g.k.toNat ++ arg g ++ ⟨#[10]⟩)) ∧ Below w.heap.size w w'

theorem cGateLine (k x y z : Int) (i : Nat) (w : World) (hok : okg i ⟨k, x, y, z⟩) (hi : i ≤ 30) (hz : 0 ≤ z ∧ z ≤ 18446744073709551615) (hS : Shp w) (hT : Tabs w) :
    Calls Tryz.prog 124 #[.agg #[.int .i64 k, .int .i64 x, .int .i64 y, .int .u64 z]] w fun e w' => Gll ⟨k, x, y, z⟩ w e w' := by
  have hb0 : Below w.heap.size w (w.alloc (.cells #[.int .i64 k, .int .i64 x, .int .i64 y, .int .u64 z] 112)) := (Below.refl _ _).alloc (Nat.le_refl _) _
  obtain ⟨q1, q2, q3, q4⟩ := gate_box w k x y z 112
  have hlt : w.heap.size < (w.alloc (.cells #[.int .i64 k, .int .i64 x, .int .i64 y, .int .u64 z] 112)).heap.size := by simp
  have hnz := nm_bd z
  have sp := sp_size
  have nl := nl_size
  go_enter Tryz.func124, Tryz.ntmps124
  go_upto_region 1 with fail
  generalize w.alloc (.cells #[.int .i64 k, .int .i64 x, .int .i64 y, .int .u64 z] 112) = W at *
  have hS0 := hS.below hb0
  clear hS
  rcases hok with ⟨p1, p2, p3, p4⟩ | ⟨p1, p2, p3⟩ | ⟨p1, p2, p3⟩ | ⟨p1, p2, p3, p4⟩
  · simp only at p1 p2 p3 p4
    subst p1 p3 p4
    obtain ⟨v, HV⟩ : ∃ v, Hid (shw 1 = v) := ⟨_, rfl⟩
    obtain ⟨s0', s1, s2, s3⟩ := hS0.at1
    have s0 : W.cell? ⟨3, 4, none⟩ = some (.string v) := by rw [← HV.out]; exact s0'
    clear s0'
    have hvz : v.size ≤ 5 := by rw [← HV.out]; exact vb_size 1 (by omega)
    have slt := hS0.lt
    have hb1' : Below W.heap.size W (W.alloc (.cells #[.string v, .bool true, .bool false, .bool false] 195)) := (Below.refl _ _).alloc (Nat.le_refl _) _
    have hb1 := hb0.trans (hb1'.mono hb0.size)
    obtain ⟨t0, t1, t2, t3⟩ := shape_box W v true false false 195
    have hlt1 : W.heap.size < (W.alloc (.cells #[.string v, .bool true, .bool false, .bool false] 195)).heap.size := by simp
    have r1 : (W.alloc (.cells #[.string v, .bool true, .bool false, .bool false] 195)).cell? ⟨w.heap.size, 0, none⟩ = some (.int .i64 1) := by rw [hb1'.cell (p := ⟨w.heap.size, 0, none⟩) hlt]; exact q1
    have r2 : (W.alloc (.cells #[.string v, .bool true, .bool false, .bool false] 195)).cell? ⟨w.heap.size, 1, none⟩ = some (.int .i64 x) := by rw [hb1'.cell (p := ⟨w.heap.size, 1, none⟩) hlt]; exact q2
    have r3 : (W.alloc (.cells #[.string v, .bool true, .bool false, .bool false] 195)).cell? ⟨w.heap.size, 2, none⟩ = some (.int .i64 0) := by rw [hb1'.cell (p := ⟨w.heap.size, 2, none⟩) hlt]; exact q3
    have r4 : (W.alloc (.cells #[.string v, .bool true, .bool false, .bool false] 195)).cell? ⟨w.heap.size, 3, none⟩ = some (.int .u64 0) := by rw [hb1'.cell (p := ⟨w.heap.size, 3, none⟩) hlt]; exact q4
    have hlt2 := Nat.lt_trans hlt hlt1
    go_upto_region 2 with fail
    generalize W.alloc (.cells #[.string v, .bool true, .bool false, .bool false] 195) = V at *
    clear s0 s1 s2 s3 q1 q2 q3 q4 hb1' hb0 hS0
    have hTV := hT.below hb1
    have HALL : Hid (∀ w', Below V.heap.size V w' → (w'.cell? ⟨W.heap.size, 0, none⟩ = some (.string v) ∧ w'.cell? ⟨W.heap.size, 1, none⟩ = some (.bool true) ∧ w'.cell? ⟨W.heap.size, 2, none⟩ = some (.bool false) ∧ w'.cell? ⟨W.heap.size, 3, none⟩ = some (.bool false)) ∧ (w'.cell? ⟨w.heap.size, 1, none⟩ = some (.int .i64 x) ∧ w'.cell? ⟨w.heap.size, 2, none⟩ = some (.int .i64 0) ∧ w'.cell? ⟨w.heap.size, 3, none⟩ = some (.int .u64 0)) ∧ w.heap.size < w'.heap.size ∧ W.heap.size < w'.heap.size ∧ Tabs w' ∧ Below w.heap.size w w') := fun w' hb => by
      refine ⟨⟨?_, ?_, ?_, ?_⟩, ⟨?_, ?_, ?_⟩, Nat.lt_of_lt_of_le hlt2 hb.size, Nat.lt_of_lt_of_le hlt1 hb.size, hTV.below hb, hb1.trans (hb.mono hb1.size)⟩
      · rw [hb.cell (p := ⟨W.heap.size, 0, none⟩) hlt1]; exact t0
      · rw [hb.cell (p := ⟨W.heap.size, 1, none⟩) hlt1]; exact t1
      · rw [hb.cell (p := ⟨W.heap.size, 2, none⟩) hlt1]; exact t2
      · rw [hb.cell (p := ⟨W.heap.size, 3, none⟩) hlt1]; exact t3
      · rw [hb.cell (p := ⟨w.heap.size, 1, none⟩) hlt2]; exact r2
      · rw [hb.cell (p := ⟨w.heap.size, 2, none⟩) hlt2]; exact r3
      · rw [hb.cell (p := ⟨w.heap.size, 3, none⟩) hlt2]; exact r4
    have hu0 := itb_size x (by omega) (by omega)
    obtain ⟨u0, Hu0⟩ : ∃ u, Hid (itb x = u) := ⟨_, rfl⟩
    rw [Hu0.out] at hu0
    have b0 := add_run (P := Tryz.prog) ⟨#[32]⟩ u0 (by (repeat rw [ByteArray.size_append]); omega)
    have a0 := add_run (P := Tryz.prog) (v) (⟨#[32]⟩ ++ u0) (by (repeat rw [ByteArray.size_append]); omega)
    have ae := add_run (P := Tryz.prog) (v ++ (⟨#[32]⟩ ++ u0)) ⟨#[10]⟩ (by (repeat rw [ByteArray.size_append]); omega)
    have HA : Hid (vb ((1 : Int).toNat) ++ arg ⟨1, x, 0, 0⟩ ++ ⟨#[10]⟩ = v ++ (⟨#[32]⟩ ++ u0) ++ ⟨#[10]⟩) := by
      unfold Hid
      rw [← HV.out, ← Hu0.out]
      show vb 1 ++ (⟨#[32]⟩ ++ itb x) ++ ⟨#[10]⟩ = _
      simp only [ByteArray.append_assoc, shw_vb]
    go_wp2_with fail
    refine (sItoa x _ (by omega) (by omega) hTV).mono ?_
    rintro e w1 ⟨rfl, hbw1⟩
    rw [Hu0.out]
    have hc0 := hbw1
    obtain ⟨⟨t00, t10, t20, t30⟩, ⟨r20, r30, r40⟩, lt0, lu0, ht0, hE0⟩ := HALL.out _ hc0
    clear hbw1
    go_wp2
    go_ret
    exact ⟨by show _ = Ending.returned (.string (vb ((1 : Int).toNat) ++ arg ⟨1, x, 0, 0⟩ ++ ⟨#[10]⟩)); rw [HA.out]; rfl, hE0⟩
  · simp only at p1 p2 p3
    subst p1 p2 p3
    obtain ⟨v, HV⟩ : ∃ v, Hid (shw 2 = v) := ⟨_, rfl⟩
    obtain ⟨s0', s1, s2, s3⟩ := hS0.at2
    have s0 : W.cell? ⟨3, 8, none⟩ = some (.string v) := by rw [← HV.out]; exact s0'
    clear s0'
    have hvz : v.size ≤ 5 := by rw [← HV.out]; exact vb_size 2 (by omega)
    have slt := hS0.lt
    have hb1' : Below W.heap.size W (W.alloc (.cells #[.string v, .bool false, .bool false, .bool true] 195)) := (Below.refl _ _).alloc (Nat.le_refl _) _
    have hb1 := hb0.trans (hb1'.mono hb0.size)
    obtain ⟨t0, t1, t2, t3⟩ := shape_box W v false false true 195
    have hlt1 : W.heap.size < (W.alloc (.cells #[.string v, .bool false, .bool false, .bool true] 195)).heap.size := by simp
    have r1 : (W.alloc (.cells #[.string v, .bool false, .bool false, .bool true] 195)).cell? ⟨w.heap.size, 0, none⟩ = some (.int .i64 2) := by rw [hb1'.cell (p := ⟨w.heap.size, 0, none⟩) hlt]; exact q1
    have r2 : (W.alloc (.cells #[.string v, .bool false, .bool false, .bool true] 195)).cell? ⟨w.heap.size, 1, none⟩ = some (.int .i64 0) := by rw [hb1'.cell (p := ⟨w.heap.size, 1, none⟩) hlt]; exact q2
    have r3 : (W.alloc (.cells #[.string v, .bool false, .bool false, .bool true] 195)).cell? ⟨w.heap.size, 2, none⟩ = some (.int .i64 0) := by rw [hb1'.cell (p := ⟨w.heap.size, 2, none⟩) hlt]; exact q3
    have r4 : (W.alloc (.cells #[.string v, .bool false, .bool false, .bool true] 195)).cell? ⟨w.heap.size, 3, none⟩ = some (.int .u64 z) := by rw [hb1'.cell (p := ⟨w.heap.size, 3, none⟩) hlt]; exact q4
    have hlt2 := Nat.lt_trans hlt hlt1
    go_upto_region 2 with fail
    generalize W.alloc (.cells #[.string v, .bool false, .bool false, .bool true] 195) = V at *
    clear s0 s1 s2 s3 q1 q2 q3 q4 hb1' hb0 hS0
    have hTV := hT.below hb1
    have HALL : Hid (∀ w', Below V.heap.size V w' → (w'.cell? ⟨W.heap.size, 0, none⟩ = some (.string v) ∧ w'.cell? ⟨W.heap.size, 1, none⟩ = some (.bool false) ∧ w'.cell? ⟨W.heap.size, 2, none⟩ = some (.bool false) ∧ w'.cell? ⟨W.heap.size, 3, none⟩ = some (.bool true)) ∧ (w'.cell? ⟨w.heap.size, 1, none⟩ = some (.int .i64 0) ∧ w'.cell? ⟨w.heap.size, 2, none⟩ = some (.int .i64 0) ∧ w'.cell? ⟨w.heap.size, 3, none⟩ = some (.int .u64 z)) ∧ w.heap.size < w'.heap.size ∧ W.heap.size < w'.heap.size ∧ Tabs w' ∧ Below w.heap.size w w') := fun w' hb => by
      refine ⟨⟨?_, ?_, ?_, ?_⟩, ⟨?_, ?_, ?_⟩, Nat.lt_of_lt_of_le hlt2 hb.size, Nat.lt_of_lt_of_le hlt1 hb.size, hTV.below hb, hb1.trans (hb.mono hb1.size)⟩
      · rw [hb.cell (p := ⟨W.heap.size, 0, none⟩) hlt1]; exact t0
      · rw [hb.cell (p := ⟨W.heap.size, 1, none⟩) hlt1]; exact t1
      · rw [hb.cell (p := ⟨W.heap.size, 2, none⟩) hlt1]; exact t2
      · rw [hb.cell (p := ⟨W.heap.size, 3, none⟩) hlt1]; exact t3
      · rw [hb.cell (p := ⟨w.heap.size, 1, none⟩) hlt2]; exact r2
      · rw [hb.cell (p := ⟨w.heap.size, 2, none⟩) hlt2]; exact r3
      · rw [hb.cell (p := ⟨w.heap.size, 3, none⟩) hlt2]; exact r4
    obtain ⟨N, HN⟩ : ∃ N, Hid (nm z = N) := ⟨_, rfl⟩
    have hnz2 := hnz
    rw [HN.out] at hnz2
    have hu0 := itb_size N (by omega) (by omega)
    obtain ⟨u0, Hu0⟩ : ∃ u, Hid (itb N = u) := ⟨_, rfl⟩
    rw [Hu0.out] at hu0
    have b0 := add_run (P := Tryz.prog) ⟨#[32]⟩ u0 (by (repeat rw [ByteArray.size_append]); omega)
    have a0 := add_run (P := Tryz.prog) (v) (⟨#[32]⟩ ++ u0) (by (repeat rw [ByteArray.size_append]); omega)
    have ae := add_run (P := Tryz.prog) (v ++ (⟨#[32]⟩ ++ u0)) ⟨#[10]⟩ (by (repeat rw [ByteArray.size_append]); omega)
    have HA : Hid (vb ((2 : Int).toNat) ++ arg ⟨2, 0, 0, z⟩ ++ ⟨#[10]⟩ = v ++ (⟨#[32]⟩ ++ u0) ++ ⟨#[10]⟩) := by
      unfold Hid
      rw [← HV.out, ← Hu0.out, ← HN.out]
      show vb 2 ++ (⟨#[32]⟩ ++ itb (nm z)) ++ ⟨#[10]⟩ = _
      simp only [ByteArray.append_assoc, shw_vb]
    go_wp2_with fail
    refine (fNorm z _ hz.1 hz.2).mono ?_
    rintro e wN ⟨rfl, hwN⟩
    have hwN := hwN.symm
    subst hwN
    rw [HN.out]
    go_wp2_with fail
    refine (sFormatUint N _ (by omega) (by omega) hTV).mono ?_
    rintro e w1 ⟨rfl, hbw1⟩
    rw [Hu0.out]
    have hc0 := hbw1
    obtain ⟨⟨t00, t10, t20, t30⟩, ⟨r20, r30, r40⟩, lt0, lu0, ht0, hE0⟩ := HALL.out _ hc0
    clear hbw1
    go_wp2
    go_ret
    exact ⟨by show _ = Ending.returned (.string (vb ((2 : Int).toNat) ++ arg ⟨2, 0, 0, z⟩ ++ ⟨#[10]⟩)); rw [HA.out]; rfl, hE0⟩
  · simp only at p1 p2 p3
    subst p1 p3
    obtain ⟨v, HV⟩ : ∃ v, Hid (shw 6 = v) := ⟨_, rfl⟩
    obtain ⟨s0', s1, s2, s3⟩ := hS0.at6
    have s0 : W.cell? ⟨3, 24, none⟩ = some (.string v) := by rw [← HV.out]; exact s0'
    clear s0'
    have hvz : v.size ≤ 5 := by rw [← HV.out]; exact vb_size 6 (by omega)
    have slt := hS0.lt
    have hb1' : Below W.heap.size W (W.alloc (.cells #[.string v, .bool true, .bool false, .bool true] 195)) := (Below.refl _ _).alloc (Nat.le_refl _) _
    have hb1 := hb0.trans (hb1'.mono hb0.size)
    obtain ⟨t0, t1, t2, t3⟩ := shape_box W v true false true 195
    have hlt1 : W.heap.size < (W.alloc (.cells #[.string v, .bool true, .bool false, .bool true] 195)).heap.size := by simp
    have r1 : (W.alloc (.cells #[.string v, .bool true, .bool false, .bool true] 195)).cell? ⟨w.heap.size, 0, none⟩ = some (.int .i64 6) := by rw [hb1'.cell (p := ⟨w.heap.size, 0, none⟩) hlt]; exact q1
    have r2 : (W.alloc (.cells #[.string v, .bool true, .bool false, .bool true] 195)).cell? ⟨w.heap.size, 1, none⟩ = some (.int .i64 x) := by rw [hb1'.cell (p := ⟨w.heap.size, 1, none⟩) hlt]; exact q2
    have r3 : (W.alloc (.cells #[.string v, .bool true, .bool false, .bool true] 195)).cell? ⟨w.heap.size, 2, none⟩ = some (.int .i64 0) := by rw [hb1'.cell (p := ⟨w.heap.size, 2, none⟩) hlt]; exact q3
    have r4 : (W.alloc (.cells #[.string v, .bool true, .bool false, .bool true] 195)).cell? ⟨w.heap.size, 3, none⟩ = some (.int .u64 z) := by rw [hb1'.cell (p := ⟨w.heap.size, 3, none⟩) hlt]; exact q4
    have hlt2 := Nat.lt_trans hlt hlt1
    go_upto_region 2 with fail
    generalize W.alloc (.cells #[.string v, .bool true, .bool false, .bool true] 195) = V at *
    clear s0 s1 s2 s3 q1 q2 q3 q4 hb1' hb0 hS0
    have hTV := hT.below hb1
    have HALL : Hid (∀ w', Below V.heap.size V w' → (w'.cell? ⟨W.heap.size, 0, none⟩ = some (.string v) ∧ w'.cell? ⟨W.heap.size, 1, none⟩ = some (.bool true) ∧ w'.cell? ⟨W.heap.size, 2, none⟩ = some (.bool false) ∧ w'.cell? ⟨W.heap.size, 3, none⟩ = some (.bool true)) ∧ (w'.cell? ⟨w.heap.size, 1, none⟩ = some (.int .i64 x) ∧ w'.cell? ⟨w.heap.size, 2, none⟩ = some (.int .i64 0) ∧ w'.cell? ⟨w.heap.size, 3, none⟩ = some (.int .u64 z)) ∧ w.heap.size < w'.heap.size ∧ W.heap.size < w'.heap.size ∧ Tabs w' ∧ Below w.heap.size w w') := fun w' hb => by
      refine ⟨⟨?_, ?_, ?_, ?_⟩, ⟨?_, ?_, ?_⟩, Nat.lt_of_lt_of_le hlt2 hb.size, Nat.lt_of_lt_of_le hlt1 hb.size, hTV.below hb, hb1.trans (hb.mono hb1.size)⟩
      · rw [hb.cell (p := ⟨W.heap.size, 0, none⟩) hlt1]; exact t0
      · rw [hb.cell (p := ⟨W.heap.size, 1, none⟩) hlt1]; exact t1
      · rw [hb.cell (p := ⟨W.heap.size, 2, none⟩) hlt1]; exact t2
      · rw [hb.cell (p := ⟨W.heap.size, 3, none⟩) hlt1]; exact t3
      · rw [hb.cell (p := ⟨w.heap.size, 1, none⟩) hlt2]; exact r2
      · rw [hb.cell (p := ⟨w.heap.size, 2, none⟩) hlt2]; exact r3
      · rw [hb.cell (p := ⟨w.heap.size, 3, none⟩) hlt2]; exact r4
    have hu0 := itb_size x (by omega) (by omega)
    obtain ⟨u0, Hu0⟩ : ∃ u, Hid (itb x = u) := ⟨_, rfl⟩
    rw [Hu0.out] at hu0
    have b0 := add_run (P := Tryz.prog) ⟨#[32]⟩ u0 (by (repeat rw [ByteArray.size_append]); omega)
    have a0 := add_run (P := Tryz.prog) (v) (⟨#[32]⟩ ++ u0) (by (repeat rw [ByteArray.size_append]); omega)
    obtain ⟨N, HN⟩ : ∃ N, Hid (nm z = N) := ⟨_, rfl⟩
    have hnz2 := hnz
    rw [HN.out] at hnz2
    have hu1 := itb_size N (by omega) (by omega)
    obtain ⟨u1, Hu1⟩ : ∃ u, Hid (itb N = u) := ⟨_, rfl⟩
    rw [Hu1.out] at hu1
    have b1 := add_run (P := Tryz.prog) ⟨#[32]⟩ u1 (by (repeat rw [ByteArray.size_append]); omega)
    have a1 := add_run (P := Tryz.prog) (v ++ (⟨#[32]⟩ ++ u0)) (⟨#[32]⟩ ++ u1) (by (repeat rw [ByteArray.size_append]); omega)
    have ae := add_run (P := Tryz.prog) (v ++ (⟨#[32]⟩ ++ u0) ++ (⟨#[32]⟩ ++ u1)) ⟨#[10]⟩ (by (repeat rw [ByteArray.size_append]); omega)
    have HA : Hid (vb ((6 : Int).toNat) ++ arg ⟨6, x, 0, z⟩ ++ ⟨#[10]⟩ = v ++ (⟨#[32]⟩ ++ u0) ++ (⟨#[32]⟩ ++ u1) ++ ⟨#[10]⟩) := by
      unfold Hid
      rw [← HV.out, ← Hu0.out, ← Hu1.out, ← HN.out]
      show vb 6 ++ (⟨#[32]⟩ ++ itb x ++ ⟨#[32]⟩ ++ itb (nm z)) ++ ⟨#[10]⟩ = _
      simp only [ByteArray.append_assoc, shw_vb]
    go_wp2_with fail
    refine (sItoa x _ (by omega) (by omega) hTV).mono ?_
    rintro e w1 ⟨rfl, hbw1⟩
    rw [Hu0.out]
    have hc0 := hbw1
    obtain ⟨⟨t00, t10, t20, t30⟩, ⟨r20, r30, r40⟩, lt0, lu0, ht0, hE0⟩ := HALL.out _ hc0
    clear hbw1
    go_wp2_with fail
    refine (fNorm z _ hz.1 hz.2).mono ?_
    rintro e wN ⟨rfl, hwN⟩
    have hwN := hwN.symm
    subst hwN
    rw [HN.out]
    go_wp2_with fail
    refine (sFormatUint N _ (by omega) (by omega) ht0).mono ?_
    rintro e w2 ⟨rfl, hbw2⟩
    rw [Hu1.out]
    have hc1 := hc0.trans (hbw2.mono hc0.size)
    obtain ⟨⟨t01, t11, t21, t31⟩, ⟨r21, r31, r41⟩, lt1, lu1, ht1, hE1⟩ := HALL.out _ hc1
    clear hbw2
    go_wp2
    go_ret
    exact ⟨by show _ = Ending.returned (.string (vb ((6 : Int).toNat) ++ arg ⟨6, x, 0, z⟩ ++ ⟨#[10]⟩)); rw [HA.out]; rfl, hE1⟩
  · simp only at p1 p2 p3 p4
    subst p4
    rcases p1 with p1 | p1 | p1
    · subst p1
      obtain ⟨v, HV⟩ : ∃ v, Hid (shw 3 = v) := ⟨_, rfl⟩
      obtain ⟨s0', s1, s2, s3⟩ := hS0.at3
      have s0 : W.cell? ⟨3, 12, none⟩ = some (.string v) := by rw [← HV.out]; exact s0'
      clear s0'
      have hvz : v.size ≤ 5 := by rw [← HV.out]; exact vb_size 3 (by omega)
      have slt := hS0.lt
      have hb1' : Below W.heap.size W (W.alloc (.cells #[.string v, .bool true, .bool true, .bool false] 195)) := (Below.refl _ _).alloc (Nat.le_refl _) _
      have hb1 := hb0.trans (hb1'.mono hb0.size)
      obtain ⟨t0, t1, t2, t3⟩ := shape_box W v true true false 195
      have hlt1 : W.heap.size < (W.alloc (.cells #[.string v, .bool true, .bool true, .bool false] 195)).heap.size := by simp
      have r1 : (W.alloc (.cells #[.string v, .bool true, .bool true, .bool false] 195)).cell? ⟨w.heap.size, 0, none⟩ = some (.int .i64 3) := by rw [hb1'.cell (p := ⟨w.heap.size, 0, none⟩) hlt]; exact q1
      have r2 : (W.alloc (.cells #[.string v, .bool true, .bool true, .bool false] 195)).cell? ⟨w.heap.size, 1, none⟩ = some (.int .i64 x) := by rw [hb1'.cell (p := ⟨w.heap.size, 1, none⟩) hlt]; exact q2
      have r3 : (W.alloc (.cells #[.string v, .bool true, .bool true, .bool false] 195)).cell? ⟨w.heap.size, 2, none⟩ = some (.int .i64 y) := by rw [hb1'.cell (p := ⟨w.heap.size, 2, none⟩) hlt]; exact q3
      have r4 : (W.alloc (.cells #[.string v, .bool true, .bool true, .bool false] 195)).cell? ⟨w.heap.size, 3, none⟩ = some (.int .u64 0) := by rw [hb1'.cell (p := ⟨w.heap.size, 3, none⟩) hlt]; exact q4
      have hlt2 := Nat.lt_trans hlt hlt1
      go_upto_region 2 with fail
      generalize W.alloc (.cells #[.string v, .bool true, .bool true, .bool false] 195) = V at *
      clear s0 s1 s2 s3 q1 q2 q3 q4 hb1' hb0 hS0
      have hTV := hT.below hb1
      have HALL : Hid (∀ w', Below V.heap.size V w' → (w'.cell? ⟨W.heap.size, 0, none⟩ = some (.string v) ∧ w'.cell? ⟨W.heap.size, 1, none⟩ = some (.bool true) ∧ w'.cell? ⟨W.heap.size, 2, none⟩ = some (.bool true) ∧ w'.cell? ⟨W.heap.size, 3, none⟩ = some (.bool false)) ∧ (w'.cell? ⟨w.heap.size, 1, none⟩ = some (.int .i64 x) ∧ w'.cell? ⟨w.heap.size, 2, none⟩ = some (.int .i64 y) ∧ w'.cell? ⟨w.heap.size, 3, none⟩ = some (.int .u64 0)) ∧ w.heap.size < w'.heap.size ∧ W.heap.size < w'.heap.size ∧ Tabs w' ∧ Below w.heap.size w w') := fun w' hb => by
        refine ⟨⟨?_, ?_, ?_, ?_⟩, ⟨?_, ?_, ?_⟩, Nat.lt_of_lt_of_le hlt2 hb.size, Nat.lt_of_lt_of_le hlt1 hb.size, hTV.below hb, hb1.trans (hb.mono hb1.size)⟩
        · rw [hb.cell (p := ⟨W.heap.size, 0, none⟩) hlt1]; exact t0
        · rw [hb.cell (p := ⟨W.heap.size, 1, none⟩) hlt1]; exact t1
        · rw [hb.cell (p := ⟨W.heap.size, 2, none⟩) hlt1]; exact t2
        · rw [hb.cell (p := ⟨W.heap.size, 3, none⟩) hlt1]; exact t3
        · rw [hb.cell (p := ⟨w.heap.size, 1, none⟩) hlt2]; exact r2
        · rw [hb.cell (p := ⟨w.heap.size, 2, none⟩) hlt2]; exact r3
        · rw [hb.cell (p := ⟨w.heap.size, 3, none⟩) hlt2]; exact r4
      have hu0 := itb_size x (by omega) (by omega)
      obtain ⟨u0, Hu0⟩ : ∃ u, Hid (itb x = u) := ⟨_, rfl⟩
      rw [Hu0.out] at hu0
      have b0 := add_run (P := Tryz.prog) ⟨#[32]⟩ u0 (by (repeat rw [ByteArray.size_append]); omega)
      have a0 := add_run (P := Tryz.prog) (v) (⟨#[32]⟩ ++ u0) (by (repeat rw [ByteArray.size_append]); omega)
      have hu1 := itb_size y (by omega) (by omega)
      obtain ⟨u1, Hu1⟩ : ∃ u, Hid (itb y = u) := ⟨_, rfl⟩
      rw [Hu1.out] at hu1
      have b1 := add_run (P := Tryz.prog) ⟨#[32]⟩ u1 (by (repeat rw [ByteArray.size_append]); omega)
      have a1 := add_run (P := Tryz.prog) (v ++ (⟨#[32]⟩ ++ u0)) (⟨#[32]⟩ ++ u1) (by (repeat rw [ByteArray.size_append]); omega)
      have ae := add_run (P := Tryz.prog) (v ++ (⟨#[32]⟩ ++ u0) ++ (⟨#[32]⟩ ++ u1)) ⟨#[10]⟩ (by (repeat rw [ByteArray.size_append]); omega)
      have HA : Hid (vb ((3 : Int).toNat) ++ arg ⟨3, x, y, 0⟩ ++ ⟨#[10]⟩ = v ++ (⟨#[32]⟩ ++ u0) ++ (⟨#[32]⟩ ++ u1) ++ ⟨#[10]⟩) := by
        unfold Hid
        rw [← HV.out, ← Hu0.out, ← Hu1.out]
        show vb 3 ++ (⟨#[32]⟩ ++ itb x ++ ⟨#[32]⟩ ++ itb y) ++ ⟨#[10]⟩ = _
        simp only [ByteArray.append_assoc, shw_vb]
      go_wp2_with fail
      refine (sItoa x _ (by omega) (by omega) hTV).mono ?_
      rintro e w1 ⟨rfl, hbw1⟩
      rw [Hu0.out]
      have hc0 := hbw1
      obtain ⟨⟨t00, t10, t20, t30⟩, ⟨r20, r30, r40⟩, lt0, lu0, ht0, hE0⟩ := HALL.out _ hc0
      clear hbw1
      go_wp2_with fail
      refine (sItoa y _ (by omega) (by omega) ht0).mono ?_
      rintro e w2 ⟨rfl, hbw2⟩
      rw [Hu1.out]
      have hc1 := hc0.trans (hbw2.mono hc0.size)
      obtain ⟨⟨t01, t11, t21, t31⟩, ⟨r21, r31, r41⟩, lt1, lu1, ht1, hE1⟩ := HALL.out _ hc1
      clear hbw2
      go_wp2
      go_ret
      exact ⟨by show _ = Ending.returned (.string (vb ((3 : Int).toNat) ++ arg ⟨3, x, y, 0⟩ ++ ⟨#[10]⟩)); rw [HA.out]; rfl, hE1⟩
    · subst p1
      obtain ⟨v, HV⟩ : ∃ v, Hid (shw 4 = v) := ⟨_, rfl⟩
      obtain ⟨s0', s1, s2, s3⟩ := hS0.at4
      have s0 : W.cell? ⟨3, 16, none⟩ = some (.string v) := by rw [← HV.out]; exact s0'
      clear s0'
      have hvz : v.size ≤ 5 := by rw [← HV.out]; exact vb_size 4 (by omega)
      have slt := hS0.lt
      have hb1' : Below W.heap.size W (W.alloc (.cells #[.string v, .bool true, .bool true, .bool false] 195)) := (Below.refl _ _).alloc (Nat.le_refl _) _
      have hb1 := hb0.trans (hb1'.mono hb0.size)
      obtain ⟨t0, t1, t2, t3⟩ := shape_box W v true true false 195
      have hlt1 : W.heap.size < (W.alloc (.cells #[.string v, .bool true, .bool true, .bool false] 195)).heap.size := by simp
      have r1 : (W.alloc (.cells #[.string v, .bool true, .bool true, .bool false] 195)).cell? ⟨w.heap.size, 0, none⟩ = some (.int .i64 4) := by rw [hb1'.cell (p := ⟨w.heap.size, 0, none⟩) hlt]; exact q1
      have r2 : (W.alloc (.cells #[.string v, .bool true, .bool true, .bool false] 195)).cell? ⟨w.heap.size, 1, none⟩ = some (.int .i64 x) := by rw [hb1'.cell (p := ⟨w.heap.size, 1, none⟩) hlt]; exact q2
      have r3 : (W.alloc (.cells #[.string v, .bool true, .bool true, .bool false] 195)).cell? ⟨w.heap.size, 2, none⟩ = some (.int .i64 y) := by rw [hb1'.cell (p := ⟨w.heap.size, 2, none⟩) hlt]; exact q3
      have r4 : (W.alloc (.cells #[.string v, .bool true, .bool true, .bool false] 195)).cell? ⟨w.heap.size, 3, none⟩ = some (.int .u64 0) := by rw [hb1'.cell (p := ⟨w.heap.size, 3, none⟩) hlt]; exact q4
      have hlt2 := Nat.lt_trans hlt hlt1
      go_upto_region 2 with fail
      generalize W.alloc (.cells #[.string v, .bool true, .bool true, .bool false] 195) = V at *
      clear s0 s1 s2 s3 q1 q2 q3 q4 hb1' hb0 hS0
      have hTV := hT.below hb1
      have HALL : Hid (∀ w', Below V.heap.size V w' → (w'.cell? ⟨W.heap.size, 0, none⟩ = some (.string v) ∧ w'.cell? ⟨W.heap.size, 1, none⟩ = some (.bool true) ∧ w'.cell? ⟨W.heap.size, 2, none⟩ = some (.bool true) ∧ w'.cell? ⟨W.heap.size, 3, none⟩ = some (.bool false)) ∧ (w'.cell? ⟨w.heap.size, 1, none⟩ = some (.int .i64 x) ∧ w'.cell? ⟨w.heap.size, 2, none⟩ = some (.int .i64 y) ∧ w'.cell? ⟨w.heap.size, 3, none⟩ = some (.int .u64 0)) ∧ w.heap.size < w'.heap.size ∧ W.heap.size < w'.heap.size ∧ Tabs w' ∧ Below w.heap.size w w') := fun w' hb => by
        refine ⟨⟨?_, ?_, ?_, ?_⟩, ⟨?_, ?_, ?_⟩, Nat.lt_of_lt_of_le hlt2 hb.size, Nat.lt_of_lt_of_le hlt1 hb.size, hTV.below hb, hb1.trans (hb.mono hb1.size)⟩
        · rw [hb.cell (p := ⟨W.heap.size, 0, none⟩) hlt1]; exact t0
        · rw [hb.cell (p := ⟨W.heap.size, 1, none⟩) hlt1]; exact t1
        · rw [hb.cell (p := ⟨W.heap.size, 2, none⟩) hlt1]; exact t2
        · rw [hb.cell (p := ⟨W.heap.size, 3, none⟩) hlt1]; exact t3
        · rw [hb.cell (p := ⟨w.heap.size, 1, none⟩) hlt2]; exact r2
        · rw [hb.cell (p := ⟨w.heap.size, 2, none⟩) hlt2]; exact r3
        · rw [hb.cell (p := ⟨w.heap.size, 3, none⟩) hlt2]; exact r4
      have hu0 := itb_size x (by omega) (by omega)
      obtain ⟨u0, Hu0⟩ : ∃ u, Hid (itb x = u) := ⟨_, rfl⟩
      rw [Hu0.out] at hu0
      have b0 := add_run (P := Tryz.prog) ⟨#[32]⟩ u0 (by (repeat rw [ByteArray.size_append]); omega)
      have a0 := add_run (P := Tryz.prog) (v) (⟨#[32]⟩ ++ u0) (by (repeat rw [ByteArray.size_append]); omega)
      have hu1 := itb_size y (by omega) (by omega)
      obtain ⟨u1, Hu1⟩ : ∃ u, Hid (itb y = u) := ⟨_, rfl⟩
      rw [Hu1.out] at hu1
      have b1 := add_run (P := Tryz.prog) ⟨#[32]⟩ u1 (by (repeat rw [ByteArray.size_append]); omega)
      have a1 := add_run (P := Tryz.prog) (v ++ (⟨#[32]⟩ ++ u0)) (⟨#[32]⟩ ++ u1) (by (repeat rw [ByteArray.size_append]); omega)
      have ae := add_run (P := Tryz.prog) (v ++ (⟨#[32]⟩ ++ u0) ++ (⟨#[32]⟩ ++ u1)) ⟨#[10]⟩ (by (repeat rw [ByteArray.size_append]); omega)
      have HA : Hid (vb ((4 : Int).toNat) ++ arg ⟨4, x, y, 0⟩ ++ ⟨#[10]⟩ = v ++ (⟨#[32]⟩ ++ u0) ++ (⟨#[32]⟩ ++ u1) ++ ⟨#[10]⟩) := by
        unfold Hid
        rw [← HV.out, ← Hu0.out, ← Hu1.out]
        show vb 4 ++ (⟨#[32]⟩ ++ itb x ++ ⟨#[32]⟩ ++ itb y) ++ ⟨#[10]⟩ = _
        simp only [ByteArray.append_assoc, shw_vb]
      go_wp2_with fail
      refine (sItoa x _ (by omega) (by omega) hTV).mono ?_
      rintro e w1 ⟨rfl, hbw1⟩
      rw [Hu0.out]
      have hc0 := hbw1
      obtain ⟨⟨t00, t10, t20, t30⟩, ⟨r20, r30, r40⟩, lt0, lu0, ht0, hE0⟩ := HALL.out _ hc0
      clear hbw1
      go_wp2_with fail
      refine (sItoa y _ (by omega) (by omega) ht0).mono ?_
      rintro e w2 ⟨rfl, hbw2⟩
      rw [Hu1.out]
      have hc1 := hc0.trans (hbw2.mono hc0.size)
      obtain ⟨⟨t01, t11, t21, t31⟩, ⟨r21, r31, r41⟩, lt1, lu1, ht1, hE1⟩ := HALL.out _ hc1
      clear hbw2
      go_wp2
      go_ret
      exact ⟨by show _ = Ending.returned (.string (vb ((4 : Int).toNat) ++ arg ⟨4, x, y, 0⟩ ++ ⟨#[10]⟩)); rw [HA.out]; rfl, hE1⟩
    · subst p1
      obtain ⟨v, HV⟩ : ∃ v, Hid (shw 5 = v) := ⟨_, rfl⟩
      obtain ⟨s0', s1, s2, s3⟩ := hS0.at5
      have s0 : W.cell? ⟨3, 20, none⟩ = some (.string v) := by rw [← HV.out]; exact s0'
      clear s0'
      have hvz : v.size ≤ 5 := by rw [← HV.out]; exact vb_size 5 (by omega)
      have slt := hS0.lt
      have hb1' : Below W.heap.size W (W.alloc (.cells #[.string v, .bool true, .bool true, .bool false] 195)) := (Below.refl _ _).alloc (Nat.le_refl _) _
      have hb1 := hb0.trans (hb1'.mono hb0.size)
      obtain ⟨t0, t1, t2, t3⟩ := shape_box W v true true false 195
      have hlt1 : W.heap.size < (W.alloc (.cells #[.string v, .bool true, .bool true, .bool false] 195)).heap.size := by simp
      have r1 : (W.alloc (.cells #[.string v, .bool true, .bool true, .bool false] 195)).cell? ⟨w.heap.size, 0, none⟩ = some (.int .i64 5) := by rw [hb1'.cell (p := ⟨w.heap.size, 0, none⟩) hlt]; exact q1
      have r2 : (W.alloc (.cells #[.string v, .bool true, .bool true, .bool false] 195)).cell? ⟨w.heap.size, 1, none⟩ = some (.int .i64 x) := by rw [hb1'.cell (p := ⟨w.heap.size, 1, none⟩) hlt]; exact q2
      have r3 : (W.alloc (.cells #[.string v, .bool true, .bool true, .bool false] 195)).cell? ⟨w.heap.size, 2, none⟩ = some (.int .i64 y) := by rw [hb1'.cell (p := ⟨w.heap.size, 2, none⟩) hlt]; exact q3
      have r4 : (W.alloc (.cells #[.string v, .bool true, .bool true, .bool false] 195)).cell? ⟨w.heap.size, 3, none⟩ = some (.int .u64 0) := by rw [hb1'.cell (p := ⟨w.heap.size, 3, none⟩) hlt]; exact q4
      have hlt2 := Nat.lt_trans hlt hlt1
      go_upto_region 2 with fail
      generalize W.alloc (.cells #[.string v, .bool true, .bool true, .bool false] 195) = V at *
      clear s0 s1 s2 s3 q1 q2 q3 q4 hb1' hb0 hS0
      have hTV := hT.below hb1
      have HALL : Hid (∀ w', Below V.heap.size V w' → (w'.cell? ⟨W.heap.size, 0, none⟩ = some (.string v) ∧ w'.cell? ⟨W.heap.size, 1, none⟩ = some (.bool true) ∧ w'.cell? ⟨W.heap.size, 2, none⟩ = some (.bool true) ∧ w'.cell? ⟨W.heap.size, 3, none⟩ = some (.bool false)) ∧ (w'.cell? ⟨w.heap.size, 1, none⟩ = some (.int .i64 x) ∧ w'.cell? ⟨w.heap.size, 2, none⟩ = some (.int .i64 y) ∧ w'.cell? ⟨w.heap.size, 3, none⟩ = some (.int .u64 0)) ∧ w.heap.size < w'.heap.size ∧ W.heap.size < w'.heap.size ∧ Tabs w' ∧ Below w.heap.size w w') := fun w' hb => by
        refine ⟨⟨?_, ?_, ?_, ?_⟩, ⟨?_, ?_, ?_⟩, Nat.lt_of_lt_of_le hlt2 hb.size, Nat.lt_of_lt_of_le hlt1 hb.size, hTV.below hb, hb1.trans (hb.mono hb1.size)⟩
        · rw [hb.cell (p := ⟨W.heap.size, 0, none⟩) hlt1]; exact t0
        · rw [hb.cell (p := ⟨W.heap.size, 1, none⟩) hlt1]; exact t1
        · rw [hb.cell (p := ⟨W.heap.size, 2, none⟩) hlt1]; exact t2
        · rw [hb.cell (p := ⟨W.heap.size, 3, none⟩) hlt1]; exact t3
        · rw [hb.cell (p := ⟨w.heap.size, 1, none⟩) hlt2]; exact r2
        · rw [hb.cell (p := ⟨w.heap.size, 2, none⟩) hlt2]; exact r3
        · rw [hb.cell (p := ⟨w.heap.size, 3, none⟩) hlt2]; exact r4
      have hu0 := itb_size x (by omega) (by omega)
      obtain ⟨u0, Hu0⟩ : ∃ u, Hid (itb x = u) := ⟨_, rfl⟩
      rw [Hu0.out] at hu0
      have b0 := add_run (P := Tryz.prog) ⟨#[32]⟩ u0 (by (repeat rw [ByteArray.size_append]); omega)
      have a0 := add_run (P := Tryz.prog) (v) (⟨#[32]⟩ ++ u0) (by (repeat rw [ByteArray.size_append]); omega)
      have hu1 := itb_size y (by omega) (by omega)
      obtain ⟨u1, Hu1⟩ : ∃ u, Hid (itb y = u) := ⟨_, rfl⟩
      rw [Hu1.out] at hu1
      have b1 := add_run (P := Tryz.prog) ⟨#[32]⟩ u1 (by (repeat rw [ByteArray.size_append]); omega)
      have a1 := add_run (P := Tryz.prog) (v ++ (⟨#[32]⟩ ++ u0)) (⟨#[32]⟩ ++ u1) (by (repeat rw [ByteArray.size_append]); omega)
      have ae := add_run (P := Tryz.prog) (v ++ (⟨#[32]⟩ ++ u0) ++ (⟨#[32]⟩ ++ u1)) ⟨#[10]⟩ (by (repeat rw [ByteArray.size_append]); omega)
      have HA : Hid (vb ((5 : Int).toNat) ++ arg ⟨5, x, y, 0⟩ ++ ⟨#[10]⟩ = v ++ (⟨#[32]⟩ ++ u0) ++ (⟨#[32]⟩ ++ u1) ++ ⟨#[10]⟩) := by
        unfold Hid
        rw [← HV.out, ← Hu0.out, ← Hu1.out]
        show vb 5 ++ (⟨#[32]⟩ ++ itb x ++ ⟨#[32]⟩ ++ itb y) ++ ⟨#[10]⟩ = _
        simp only [ByteArray.append_assoc, shw_vb]
      go_wp2_with fail
      refine (sItoa x _ (by omega) (by omega) hTV).mono ?_
      rintro e w1 ⟨rfl, hbw1⟩
      rw [Hu0.out]
      have hc0 := hbw1
      obtain ⟨⟨t00, t10, t20, t30⟩, ⟨r20, r30, r40⟩, lt0, lu0, ht0, hE0⟩ := HALL.out _ hc0
      clear hbw1
      go_wp2_with fail
      refine (sItoa y _ (by omega) (by omega) ht0).mono ?_
      rintro e w2 ⟨rfl, hbw2⟩
      rw [Hu1.out]
      have hc1 := hc0.trans (hbw2.mono hc0.size)
      obtain ⟨⟨t01, t11, t21, t31⟩, ⟨r21, r31, r41⟩, lt1, lu1, ht1, hE1⟩ := HALL.out _ hc1
      clear hbw2
      go_wp2
      go_ret
      exact ⟨by show _ = Ending.returned (.string (vb ((5 : Int).toNat) ++ arg ⟨5, x, y, 0⟩ ++ ⟨#[10]⟩)); rw [HA.out]; rfl, hE1⟩
def Cpr (G : List Gt) (O : List Int) (n m : Nat) (w : World) (e : Ending) (w' : World) : Prop :=
  ((∃ r, r ≠ 0 ∧ Cke G O n m r ∧ e = .returned (.tuple #[.string ⟨#[]⟩, .int .i64 r])) ∨ (Cke G O n m 0 ∧ e = .returned (.tuple #[.string (otx (gtx G n) O m), .int .i64 0]))) ∧ Below w.heap.size w w'

theorem cPrint (ag : Option Addr) (n cg : Nat) (G : List Gt) (ao : Option Addr) (m co : Nat) (O : List Int) (w : World) (h : RdG w ag n cg G) (g : RdI w ao m co O) (hT : Tabs w) (hS : Shp w) :
    Calls Tryz.prog 92 #[.agg #[.slice ag n cg, .slice ao m co]] w fun e w' => Cpr G O n m w e w' := by
  have hcap := h.cap
  have gcap := g.cap
  have hC0 := CBox.new w ag n cg ao m co
  have hb0 : Below w.heap.size w (w.alloc (.cells #[.slice ag n cg, .slice ao m co] 73)) := (Below.refl _ _).alloc (Nat.le_refl _) _
  go_enter Tryz.func92, Tryz.ntmps92
  go_wp2_with fail
  generalize w.alloc (.cells #[.slice ag n cg, .slice ao m co] 73) = w0 at *
  refine (cCheckC _ _ _ _ _ _ _ _ _ (h.below hb0) (g.below hb0) (hS.below hb0)).mono ?_
  rintro e w1 ⟨r, rfl, hC, hb1'⟩
  have hb1 := hb0.trans (hb1'.mono hb0.size)
  have hC1 := hC0.below hb1' hC0.lt
  clear hC0 hb1' hb0
  have hrb := hC.bd
  by_cases hr : r = 0
  · subst hr
    have HC : Hid (Cke G O n m 0) := hC
    have hn := hC.ok.1
    have hm := hC.ok.2.1
    have HG : Hid (okG G n) := hC.ok.2.2.1
    have HO : Hid (okO O n m) := hC.ok.2.2.2
    have hB0 := Bld.new w1
    have hbN : Below w1.heap.size w1 (w1.alloc (.cells #[.pointer none, .slice none 0 0] 38)) := (Below.refl _ _).alloc (Nat.le_refl _) _
    have hC2 := hC1.below hbN hC1.lt
    obtain ⟨d0, d1⟩ := hC2.cells
    have hl2 := hC2.lt
    have hl1 := hC1.lt
    have hs1 := hb1.size
    clear hC hrb
    go_upto_region 5 with fail
    generalize w1.alloc (.cells #[.pointer none, .slice none 0 0] 38) = w2 at *
    go_wp2
    go_loopw [18] (fun v wr => ∃ i : Nat, i ≤ n ∧ v = .int .i64 i ∧ Bld w1.heap.size w1.heap.size (gtx G i) wr ∧ Below w1.heap.size w1 wr) (fun v _ => n - (intOf v).toNat)
    case atStart => exact ⟨0, Nat.zero_le _, rfl, hB0, hbN⟩
    case round =>
      clear hB0 hbN d0 d1 hl2 hC2
      obtain ⟨i, hi, rfl, hB, hbel⟩ := hrel
      have hs2 := hbel.size
      by_cases hlt : i < n
      · obtain ⟨b, o, k, x, y, z, rfl, hbb, HGi, hk, hx, hy, hz, c1, c2, c3, c4⟩ := (h.below (hb1.trans (hbel.mono hs1))).one hlt
        have hok := HG.out i hlt
        rw [HGi.out] at hok
        have hbA0 : Below wr.heap.size wr (wr.alloc (.cells #[.int .i64 k, .int .i64 x, .int .i64 y, .int .u64 z] 112)) := (Below.refl _ _).alloc (Nat.le_refl _) _
        have hbA := hbel.trans (hbA0.mono hs2)
        obtain ⟨q1, q2, q3, q4⟩ := gate_box wr k x y z 112
        have hltA : wr.heap.size < (wr.alloc (.cells #[.int .i64 k, .int .i64 x, .int .i64 y, .int .u64 z] 112)).heap.size := by simp
        have hBA := hB.below hbA0
        have hts := gtx_size HG.out hn.2 (i + 1) (by omega)
        have HE : Hid (gtx G (i + 1) = gtx G i ++ (vb k.toNat ++ arg ⟨k, x, y, z⟩ ++ ⟨#[10]⟩)) := by
          unfold Hid
          rw [gtx, gln, HGi.out]
          simp only [ByteArray.append_assoc]
        rw [HE.out] at hts
        have HOK : Hid (okg i ⟨k, x, y, z⟩) := hok
        obtain ⟨t, Ht⟩ : ∃ t, Hid (gtx G i = t) := ⟨_, rfl⟩
        obtain ⟨l, Hl⟩ : ∃ l, Hid (vb k.toNat ++ arg ⟨k, x, y, z⟩ ++ ⟨#[10]⟩ = l) := ⟨_, rfl⟩
        rw [Ht.out, Hl.out] at hts
        rw [Ht.out] at hBA
        rw [ByteArray.size_append] at hts
        clear hok
        go_upto_region 8 with fail
        generalize wr.alloc (.cells #[.int .i64 k, .int .i64 x, .int .i64 y, .int .u64 z] 112) = W at *
        clear c1 c2 c3 c4 hbA0 hbel hB
        have hbwA := hb1.trans (hbA.mono hs1)
        go_wp2_with fail
        refine (cGateLine k x y z i _ HOK.out (by omega) hz (hS.below hbwA) (hT.below hbwA)).mono ?_
        rintro e w3 ⟨rfl, hb3⟩
        rw [Hl.out]
        have hB3 := hBA.below hb3
        have hbel3 := hbA.trans (hb3.mono hbA.size)
        have hs3 := hbel3.size
        clear hBA hb3 hbA hbwA q1 q2 q3 q4 hltA
        go_wp2_with fail
        refine (sWrite _ _ t l _ hB3 (by omega) hs3).mono ?_
        rintro e w4 ⟨rfl, hB4, hb4⟩
        have hbel4 := hbel3.trans hb4
        go_wp2
        go_roundw
        case rel => exact ⟨i + 1, by omega, by go_num, by rw [HE.out, Ht.out, Hl.out]; exact hB4, hbel4⟩
        case measure => simp [intOf]; omega
      · have hin : i = n := by omega
        subst hin
        have hC3 := hC1.below hbel hl1
        obtain ⟨d0, d1⟩ := hC3.cells
        have hl3 := hC3.lt
        have hts := gtx_size HG.out hn.2 i (Nat.le_refl _)
        go_wp2
        clear d0 d1 hl3 hC3
        obtain ⟨wo, hwo⟩ : ∃ x, x = wr := ⟨_, rfl⟩
        subst hwo
        go_loopw [29] (fun v wr => ∃ j : Nat, j ≤ m ∧ v = .int .i64 j ∧ Bld w1.heap.size w1.heap.size (otx (gtx G i) O j) wr ∧ Below w1.heap.size w1 wr) (fun v _ => m - (intOf v).toNat)
        case atStart => exact ⟨0, Nat.zero_le _, rfl, hB, hbel⟩
        case round =>
          clear hB hbel hs2
          obtain ⟨j, hj, rfl, hB, hbel⟩ := hrel
          have hs2 := hbel.size
          by_cases hltj : j < m
          · obtain ⟨b2, o2, x, rfl, hbb2, HX, hx0, hx1, c5⟩ := (g.below (hb1.trans (hbel.mono hs1))).one hltj
            have hos := otx_size (t := gtx G i) HO.out hn.2 j hj
            have hu := itb_size x hx0 hx1
            have nl := nl_size
            have ou := out_size
            have HE : Hid (otx (gtx G i) O (j + 1) = otx (gtx G i) O j ++ (⟨#[111, 117, 116, 32]⟩ ++ itb x ++ ⟨#[10]⟩)) := by
              unfold Hid
              rw [otx, HX.out]
            obtain ⟨t, Ht⟩ : ∃ t, Hid (otx (gtx G i) O j = t) := ⟨_, rfl⟩
            obtain ⟨u, Hu⟩ : ∃ u, Hid (itb x = u) := ⟨_, rfl⟩
            rw [Ht.out] at hos hB
            rw [Hu.out] at hu
            have a1 := add_run (P := Tryz.prog) ⟨#[111, 117, 116, 32]⟩ u (by omega)
            have a2 := add_run (P := Tryz.prog) (⟨#[111, 117, 116, 32]⟩ ++ u) ⟨#[10]⟩ (by rw [ByteArray.size_append]; omega)
            have hlz : (⟨#[111, 117, 116, 32]⟩ ++ u ++ ⟨#[10]⟩ : ByteArray).size ≤ 30 := by rw [ByteArray.size_append, ByteArray.size_append]; omega
            obtain ⟨l, Hl⟩ : ∃ l, Hid ((⟨#[111, 117, 116, 32]⟩ ++ u ++ ⟨#[10]⟩ : ByteArray) = l) := ⟨_, rfl⟩
            rw [Hl.out] at a2 hlz
            go_wp2_with fail
            refine (sItoa x _ hx0 hx1 (hT.below (hb1.trans (hbel.mono hs1)))).mono ?_
            rintro e w3 ⟨rfl, hb3⟩
            rw [Hu.out]
            have hB3 := hB.below hb3
            have hbel3 := hbel.trans (hb3.mono hs2)
            have hs3 := hbel3.size
            clear hB hb3 hbel c5
            go_wp2_with fail
            refine (sWrite _ _ t l _ hB3 (by omega) hs3).mono ?_
            rintro e w4 ⟨rfl, hB4, hb4⟩
            have hbel4 := hbel3.trans hb4
            go_wp2
            go_roundw
            case rel => exact ⟨j + 1, by omega, by go_num, by rw [HE.out, Ht.out, Hu.out, Hl.out]; exact hB4, hbel4⟩
            case measure => simp [intOf]; omega
          · have hjm : j = m := by omega
            subst hjm
            go_wp2_with fail
            refine (sString _ _ _ _ hB hs2).mono ?_
            rintro e w3 ⟨rfl, hb3⟩
            have hbE := hb1.trans ((hbel.trans hb3).mono hs1)
            clear hB hb3
            go_wp2
            go_ret2
            exact ⟨.inr ⟨HC.out, rfl⟩, hbE⟩
  · have HC : Hid (Cke G O n m r) := hC
    have HR : Hid (r ≠ 0) := hr
    have hrb2 : (r != 0) = true := by rw [bne_iff_ne]; exact hr
    clear hC hrb hr
    go_wp2
    go_ret2
    exact ⟨.inl ⟨_, HR.out, HC.out, rfl⟩, hb1⟩
end
end Go.Proofs.YtljlioglpaogdafGreatDoor
