/- Package circuit: Parse. · slices.Equal of ints. -/
import Derived.Test.YtmpnaobjgknfkacDoorToParN
import Derived.Test.YtmpnaobjgknfkacDoorToCktP
import Derived.Test.YtmpnaobjgknfkacDoorToFieldC
import Derived.Test.YtmpnaobjgknfkacDoorToCircC
namespace Go.Proofs.YtmpnaobjgknfkacDoor
open Go.RowKit Crm

theorem mt_yes : (⟨#[]⟩ : ByteArray).toList.isEmpty = true := by decide +kernel
theorem mt_no {r : ByteArray} (h : r ≠ mt) : r.toList.isEmpty = false := by
  cases e : r.toList with
  | nil =>
    exfalso
    apply h
    rw [ByteArray.toList_eq] at e
    apply ByteArray.ext
    exact Array.ext' e
  | cons a l => rfl
theorem own_baseP {w : World} {B B' n z : Nat} {E : TypeId} {v : Value} {xs : List Value} (h : w.ownsRow B E z v n xs) (hB : B' ≤ B) : w.ownsRow B' E z v n xs := by
  refine ⟨h.1, ?_⟩
  rcases h.2 with h1 | ⟨g, cap, cur, e, hb, h2⟩
  · exact .inl h1
  · exact .inr ⟨g, cap, cur, e, Nat.le_trans hB hb, h2⟩
/-- A circuit laid into its box. -/
def put2 (w : World) (b : Nat) (x y : Value) : World := (w.setCell ⟨b, 0, none⟩ x).setCell ⟨b, 1, none⟩ y
theorem put2_grown (w : World) (b : Nat) (x y : Value) : w.grownBy (put2 w b x y) (some b) := grown_trans (grown_set _ _ _ _) (grown_set _ _ _ _)
theorem put2_below {w0 w : World} {b : Nat} {x y : Value} (h : Below w0.heap.size w0 w) (hb : w0.heap.size ≤ b) : Below w0.heap.size w0 (put2 w b x y) := below_grown h (put2_grown w b x y) hb

set_option maxRecDepth 100000 in
set_option maxHeartbeats 4000000 in
theorem cParse (s : ByteArray) (w : World) (hs : s.size ≤ 9223372036854775807) (hS : Shp w) : Calls Tryd.prog 4 #[.string s] w fun e w' => Prn s w e w' := by
  have hZ0 := CBox.new w none 0 0 none 0 0
  have hb0 : Below w.heap.size w (w.alloc (.cells #[.slice none 0 0, .slice none 0 0] 25)) := (Below.refl _ _).alloc (Nat.le_refl _) _
  go_enter Tryd.func4, Tryd.ntmps4
  go_upto_region 1 with fail
  generalize w.alloc (.cells #[.slice none 0 0, .slice none 0 0] 25) = W at *
  have hwW : w.heap.size < W.heap.size := hZ0.lt
  by_cases hlong : 2048 < s.size
  · have HP : Hid (Par s [] [] 0 2) := .inl ⟨hlong, rfl, rfl, rfl, rfl⟩
    obtain ⟨z0, z1⟩ := hZ0.cells
    have fz := fun i => hZ0.frozen i
    obtain ⟨y0, y1⟩ := two_put (x := .slice none 0 0) (y := .slice none 0 0) z0 z1
    have HBE : Hid (Below w.heap.size w (put2 W w.heap.size (.slice none 0 0) (.slice none 0 0))) := put2_below hb0 (Nat.le_refl _)
    unfold put2 at HBE
    clear hZ0 hb0
    go_wp2
    exact bodyPost_ret (v := .tuple #[.agg #[.slice none 0 0, .slice none 0 0], .int .i64 ((0 : Nat) : Int), .int .i64 2]) (by simp [results, Tryd.results4, go_sem, y0, y1]) rfl (Prn.err HP.out HBE.out)
  · have hC0 := CBox.new W none 0 0 none 0 0
    have hb1' : Below W.heap.size W (W.alloc (.cells #[.slice none 0 0, .slice none 0 0] 25)) := (Below.refl _ _).alloc (Nat.le_refl _) _
    have hb1 := hb0.trans (hb1'.mono hb0.size)
    have hZ1 := hZ0.below hb1' hwW
    have hR1 : Crd (W.alloc (.cells #[.slice none 0 0, .slice none 0 0] 25)) W.heap.size W.heap.size none 0 0 none 0 0 [] [] := ⟨hC0, rfl, rfl, World.ownsRow_nil _ _ _ _, World.ownsRow_nil _ _ _ _⟩
    go_upto_region 4 with fail
    generalize W.alloc (.cells #[.slice none 0 0, .slice none 0 0] 25) = W1 at *
    clear hb0 hb1' hZ0 hC0
    go_wp2
    go_loopw [0, 6] (fun u v wr => ∃ (i : Nat) (r : ByteArray) (ag : Option Addr) (cg : Nat) (ao : Option Addr) (co : Nat) (G : List Gt) (O : List Int), u = .string r ∧ v = .int .i64 ((i : Int) + 1) ∧ i + r.size ≤ s.size ∧ Hid (Rst s i r) ∧ Hid (Rds (lns s) i G O) ∧ Crd wr W.heap.size W.heap.size ag G.length cg ao O.length co (G.map nmg) O ∧ CBox wr w.heap.size none 0 0 none 0 0 ∧ Below w.heap.size w wr) (fun u _ _ => (match u with | .string r => r.size | _ => 0))
    case atStart => exact ⟨0, s, none, 0, none, 0, [], [], rfl, rfl, by omega, Rst.start s, ⟨rfl, rfl⟩, hR1, hZ1, hb1⟩
    case round =>
      clear hR1 hZ1 hb1
      obtain ⟨i, r, ag, cg, ao, co, G, O, rfl, rfl, hir, HRst, HRds, hC, hZ, hbel⟩ := hrel
      have hlen := HRds.out.len
      obtain ⟨N, HN⟩ : ∃ N, Hid (G.length = N) := ⟨_, rfl⟩
      obtain ⟨M, HM⟩ : ∃ M, Hid (O.length = M) := ⟨_, rfl⟩
      rw [HN.out, HM.out] at hC hlen
      have hs1 := hbel.size
      by_cases hr0 : r = mt
      · subst hr0
        have he : (mt : ByteArray).toList.isEmpty = true := mt_yes
        obtain ⟨hl1, hl2⟩ := HRst.out.last lns_mt
        have HPE : Hid (∀ q, Cke G O G.length O.length q → q ≠ 0 → Par s [] [] 0 q) := fun q hq h0 => .inr ⟨by omega, .inr ⟨G, O, by rw [hl1]; exact HRds.out, .inr ⟨hl2, rfl, hq, .inl ⟨h0, rfl, rfl⟩⟩⟩⟩
        have HPY : Hid (Cke G O G.length O.length 0 → Par s G O 0 0) := fun hq => .inr ⟨by omega, .inr ⟨G, O, by rw [hl1]; exact HRds.out, .inr ⟨hl2, rfl, hq, .inr ⟨rfl, rfl, rfl⟩⟩⟩⟩
        have hgb := gbd_nm HRds.out.bd.1
        have hob := HRds.out.bd.2
        have HZN : Hid (∀ g ∈ G, g.k = 2 ∨ g.k = 6 ∨ g.n = 0) := HRds.out.zn
        have hG := RdG.ownA hC.own hC.ln hgb
        have hO := RdI.ownA hC.ins hob
        obtain ⟨d0, d1⟩ := hC.box.cells
        have hgl := hC.box.lt
        clear hgb hob hl1 hl2
        go_wp2_with fail
        refine (cCheckC _ _ _ _ _ _ _ _ _ hG hO (hS.below hbel)).mono ?_
        rintro e w3 ⟨q, rfl, hq, hb3⟩
        have hqb := hq.bd
        have HQ : Hid (Cke G O G.length O.length q) := by
          unfold Hid
          rw [HN.out, HM.out]
          exact (cke_nm HZN.out).1 hq
        have hC3 := hC.below hb3
        have hZ3 := hZ.below hb3 hZ.lt
        have hb3w := hbel.trans (hb3.mono hs1)
        obtain ⟨z0, z1⟩ := hZ3.cells
        have fz := fun i => hZ3.frozen i
        have zl := hZ3.lt
        clear hq hG hO hC hZ hb3 hbel d0 d1 hgl
        by_cases hq0 : q = 0
        · subst hq0
          have HP : Hid (Par s G O 0 0) := HPY.out HQ.out
          obtain ⟨d0, d1⟩ := hC3.box.cells
          have hgl := hC3.box.lt
          obtain ⟨y0, y1⟩ := two_put (x := .slice ag N cg) (y := .slice ao M co) z0 z1
          have hg1 := put2_grown w3 w.heap.size (.slice ag N cg) (.slice ao M co)
          have k1 := box_apart hZ3 hC3.own eGC
          have k2 := box_apart hZ3 hC3.ins eIC
          have HO1 : Hid (World.ownsRow _ _ _ _ _ _ _) := own_baseP (hC3.own.kept hg1 (.inr (fun e => k1 e.symm))) (Nat.le_of_lt hwW)
          have HO2 : Hid (World.ownsRow _ _ _ _ _ _ _) := own_baseP (hC3.ins.kept hg1 (.inr (fun e => k2 e.symm))) (Nat.le_of_lt hwW)
          have HBE : Hid (Below w.heap.size w (put2 w3 w.heap.size (.slice ag N cg) (.slice ao M co))) := put2_below hb3w (Nat.le_refl _)
          unfold put2 at HO1 HO2 HBE
          clear hg1 k1 k2 hC3 hZ3 hb3w hqb
          go_wp2
          exact bodyPost_ret (v := .tuple #[.agg #[.slice ag N cg, .slice ao M co], .int .i64 ((0 : Nat) : Int), .int .i64 0]) (by simp [results, Tryd.results4, go_sem, y0, y1]) rfl ⟨ag, cg, ao, co, 0, 0, G, O, by rw [HN.out, HM.out], HP.out, by rw [HN.out]; exact HO1.out, by rw [HM.out]; exact HO2.out, HBE.out⟩
        · have HP : Hid (Par s [] [] 0 q) := HPE.out q HQ.out hq0
          have hqn : (q != 0) = true := by rw [bne_iff_ne]; exact hq0
          obtain ⟨y0, y1⟩ := two_put (x := .slice none 0 0) (y := .slice none 0 0) z0 z1
          have HBE : Hid (Below w.heap.size w (put2 w3 w.heap.size (.slice none 0 0) (.slice none 0 0))) := put2_below hb3w (Nat.le_refl _)
          unfold put2 at HBE
          clear hC3 hZ3 hb3w hq0 hqb
          go_wp2
          exact bodyPost_ret (v := .tuple #[.agg #[.slice none 0 0, .slice none 0 0], .int .i64 ((0 : Nat) : Int), .int .i64 q]) (by simp [results, Tryd.results4, go_sem, y0, y1]) rfl (Prn.err HP.out HBE.out)
      · have he : r.toList.isEmpty = false := mt_no hr0
        rcases cut_cases r 10 with ⟨hx, hp⟩ | ⟨j, hx, hj, hp⟩
        · obtain ⟨hl1, hl2⟩ := HRst.out.last hp
          have HP : Hid (Par s [] [] (i + 1) 3) := .inr ⟨by omega, .inr ⟨G, O, by rw [hl1]; exact HRds.out, .inl ⟨by rw [hl2]; exact hr0, rfl, rfl, by rw [hl1], rfl⟩⟩⟩
          clear hl1 hl2 hp hr0
          go_wp2_with fail
          refine (sCutN r wr hx).mono ?_
          rintro e w3 ⟨rfl, hb3⟩
          have hZ3 := hZ.below hb3 hZ.lt
          have hb3w := hbel.trans (hb3.mono hs1)
          obtain ⟨z0, z1⟩ := hZ3.cells
          have fz := fun i => hZ3.frozen i
          have zl := hZ3.lt
          obtain ⟨y0, y1⟩ := two_put (x := .slice none 0 0) (y := .slice none 0 0) z0 z1
          have HBE : Hid (Below w.heap.size w (put2 w3 w.heap.size (.slice none 0 0) (.slice none 0 0))) := put2_below hb3w (Nat.le_refl _)
          unfold put2 at HBE
          clear hZ3 hb3w hC hZ hbel hb3 hx he
          go_wp2
          exact bodyPost_ret (v := .tuple #[.agg #[.slice none 0 0, .slice none 0 0], .int .i64 ((i + 1 : Nat) : Int), .int .i64 3]) (by simp [results, Tryd.results4, go_sem, y0, y1]) rfl (Prn.err HP.out HBE.out)
        · obtain ⟨hn1, hn2, hn3⟩ := HRst.out.next hp
          obtain ⟨t, Ht⟩ : ∃ t, Hid (r.extract 0 j = t) := ⟨_, rfl⟩
          obtain ⟨u, Hu⟩ : ∃ u, Hid (r.extract (j + 1) r.size = u) := ⟨_, rfl⟩
          have htz : t.size ≤ 2048 := by rw [← Ht.out, ByteArray.size_extract]; omega
          have huz : u.size + (j + 1) = r.size := by rw [← Hu.out, ByteArray.size_extract]; omega
          rw [Hu.out] at hn1
          rw [Ht.out] at hn2
          have HR1 : Hid (Rst s (i + 1) u) := hn1
          have HT : Hid (tx (lns s) i = t) := hn2
          have HLT : Hid (i < lnn s) := hn3
          clear hn1 hn2 hn3 hp hr0
          go_wp2_with fail
          refine (sCutY r j wr hx hj (by omega)).mono ?_
          rintro e w3 ⟨rfl, hb3⟩
          rw [Ht.out, Hu.out]
          have hC3 := hC.below hb3
          have hZ3 := hZ.below hb3 hZ.lt
          have hb3w := hbel.trans (hb3.mono hs1)
          have hS3 := hS.below hb3w
          clear hC hZ hbel hb3 hx he
          go_wp2_with fail
          refine (cReadLine W.heap.size W.heap.size t ag N cg ao M co (G.map nmg) O w3 hC3 (Nat.le_refl _) hS3 htz (by omega) (by omega) HRds.out.bd.2).mono ?_
          rintro e w4 ⟨hor, hb4⟩
          have hZ4 := hZ3.below hb4 hwW
          have hb4w : Below w.heap.size w w4 := hb3w.trans (hb4.mono (Nat.le_of_lt hwW))
          clear hC3 hZ3 hb3w hb4 hS3
          rcases hor with ⟨g, a', c', hL, hO0, rfl, hC4⟩ | ⟨x, a', c', hL, rfl, hC4⟩ | ⟨hno, rfl⟩
          · have HR : Hid (Rds (lns s) (i + 1) (G ++ [g]) O) := ⟨G, O, HRds.out, .inl ⟨g, by rw [HT.out]; exact hL, hO0, rfl, hO0⟩⟩
            have HC4 : Hid (Crd w4 W.heap.size W.heap.size a' (G ++ [g]).length c' ao O.length co ((G ++ [g]).map nmg) O) := by
              unfold Hid
              rw [HM.out, List.length_append, HN.out, List.map_append]
              exact hC4
            clear hL hO0 hC4
            go_wp2
            go_roundw
            case rel => exact ⟨i + 1, u, a', c', ao, co, G ++ [g], O, rfl, by go_num, by omega, HR1, HR, HC4.out, hZ4, hb4w⟩
            case measure => simp; omega
          · have HR : Hid (Rds (lns s) (i + 1) G (O ++ [x])) := ⟨G, O, HRds.out, .inr ⟨x, by rw [HT.out]; exact hL, rfl, rfl⟩⟩
            have HC4 : Hid (Crd w4 W.heap.size W.heap.size ag G.length cg a' (O ++ [x]).length c' (G.map nmg) (O ++ [x])) := by
              unfold Hid
              rw [HN.out, List.length_append, HM.out]
              exact hC4
            clear hL hC4
            go_wp2
            go_roundw
            case rel => exact ⟨i + 1, u, ag, cg, a', c', G, O ++ [x], rfl, by go_num, by omega, HR1, HR, HC4.out, hZ4, hb4w⟩
            case measure => simp; omega
          · have HP : Hid (Par s [] [] (i + 1) 3) := .inr ⟨by omega, .inl ⟨i, G, O, HLT.out, HRds.out, by rw [HT.out]; exact hno, rfl, rfl, rfl, rfl⟩⟩
            obtain ⟨z0, z1⟩ := hZ4.cells
            have fz := fun i => hZ4.frozen i
            have zl := hZ4.lt
            obtain ⟨y0, y1⟩ := two_put (x := .slice none 0 0) (y := .slice none 0 0) z0 z1
            have HBE : Hid (Below w.heap.size w (put2 w4 w.heap.size (.slice none 0 0) (.slice none 0 0))) := put2_below hb4w (Nat.le_refl _)
            unfold put2 at HBE
            clear hZ4 hb4w hno
            go_wp2
            exact bodyPost_ret (v := .tuple #[.agg #[.slice none 0 0, .slice none 0 0], .int .i64 ((i + 1 : Nat) : Int), .int .i64 3]) (by simp [results, Tryd.results4, go_sem, y0, y1]) rfl (Prn.err HP.out HBE.out)
end Go.Proofs.YtmpnaobjgknfkacDoor

namespace Go.Proofs.YtmpnaobjgknfkacDoor
open Go.RowKit Crm

set_option maxRecDepth 100000 in
theorem zEqual (a : Option Addr) (n c : Nat) (xs : List Int) (b : Option Addr) (m d : Nat) (ys : List Int) (w : World) (h : RdI w a n c xs) (g : RdI w b m d ys) :
    Calls Tryd.prog 14 #[.slice a n c, .slice b m d] w fun e w' => e = .returned (.bool (xs == ys)) ∧ Below w.heap.size w w' := by
  have hm := h.max
  have hcap := h.cap
  have hlen := h.len
  have gm := g.max
  have gcap := g.cap
  have glen := g.len
  unfold maxLen at hm gm
  by_cases hnm : n = m
  · subst hnm
    go_enter Tryd.func14, Tryd.ntmps14
    go_wp2
    go_loopw [13] (fun i wr => ∃ k : Nat, k ≤ n ∧ i = .int .i64 k ∧ Hid (xs.take k = ys.take k) ∧ Below w.heap.size w wr) (fun i _ => n - (intOf i).toNat)
    case atStart => exact ⟨0, Nat.zero_le _, rfl, rfl, Below.refl _ _⟩
    case round =>
      obtain ⟨k, hk, rfl, HT, hbel⟩ := hrel
      by_cases hlt : k < n
      · obtain ⟨b1, o1, x, rfl, hb1, HX, hx0, hx1, hc1⟩ := (h.below hbel).one hlt
        obtain ⟨b2, o2, y, rfl, hb2, HY, hy0, hy1, hc2⟩ := (g.below hbel).one hlt
        by_cases hxy : x = y
        · subst hxy
          go_wp2
          go_region
          all_goals go_wp2
          all_goals
            go_roundw
            case rel => exact ⟨k + 1, by omega, by go_num, take_eq (by omega) (by omega) HT.out (HX.out.trans HY.out.symm), by first | exact hbel.drew | exact hbel.drew.drew⟩
            case measure => simp [intOf]; omega
        · have hxb : (x != y) = true := by rw [bne_iff_ne]; exact hxy
          go_wp2
          have HE : Hid ((xs == ys) = false) := by
            refine beq_eq_false_iff_ne.2 fun e => hxy ?_
            rw [← HX.out, ← HY.out, e]
          go_region
          all_goals go_wp2
          all_goals
            go_ret
            rw [HE.out]
            exact ⟨rfl, by first | exact hbel.drew | exact hbel.drew.drew⟩
      · have HE : Hid ((xs == ys) = true) := by
          refine beq_iff_eq.2 ?_
          have := HT.out
          rwa [List.take_of_length_le (by omega), List.take_of_length_le (by omega)] at this
        go_wp2
        go_ret
        rw [HE.out]
        exact ⟨rfl, hbel⟩
  · have hb : ((n : Int) != (m : Int)) = true := by rw [bne_iff_ne]; omega
    go_enter Tryd.func14, Tryd.ntmps14
    have HE : Hid ((xs == ys) = false) := beq_eq_false_iff_ne.2 fun e => hnm (by rw [← hlen, ← glen, e])
    go_wp2
    go_ret
    rw [HE.out]
    exact ⟨rfl, Below.refl _ _⟩

/-- Two slices that read the same are equal. -/
theorem zSame (a : Option Addr) (n c : Nat) (xs : List Int) (b : Option Addr) (m d : Nat) (w : World) (h : RdI w a n c xs) (g : RdI w b m d xs) :
    Calls Tryd.prog 14 #[.slice a n c, .slice b m d] w fun e w' => e = .returned (.bool true) ∧ Below w.heap.size w w' := by
  refine (zEqual _ _ _ _ _ _ _ _ _ h g).mono ?_
  rintro e w' ⟨rfl, hb⟩
  exact ⟨by rw [beq_self_eq_true], hb⟩
end Go.Proofs.YtmpnaobjgknfkacDoor
