/- Package circuit: Check. · Package circuit: Parse. -/
import Derived.Test.YtmpnaobjgknfkafDoorToParM
import Derived.Test.YtmpnaobjgknfkafDoorToCkDef
import Derived.Test.YtmpnaobjgknfkafDoorToRLineC
namespace Go.Proofs.YtmpnaobjgknfkafDoor
open Go.RowKit Crm

theorem cGateRightY (k x y z : Int) (i : Nat) (w : World) (h : okg i ⟨k, x, y, z⟩) (hk : -9223372036854775808 ≤ k ∧ k ≤ 9223372036854775807) (hx : -9223372036854775808 ≤ x ∧ x ≤ 9223372036854775807) (hy : -9223372036854775808 ≤ y ∧ y ≤ 9223372036854775807) (hz : 0 ≤ z ∧ z ≤ 18446744073709551615) (hS : Shp w) :
    Calls Tryd.prog 30 #[.agg #[.int .i64 k, .int .i64 x, .int .i64 y, .int .u64 z], .int .i64 i] w fun e w' => e = .returned (.bool true) ∧ Below w.heap.size w w' := by
  refine (cGateRight k x y z i w hk hx hy hz hS).mono ?_
  rintro e w' ⟨⟨_, rfl⟩ | ⟨h', _⟩, hb⟩
  · exact ⟨rfl, hb⟩
  · exact absurd h h'
theorem cGateRightN (k x y z : Int) (i : Nat) (w : World) (h : ¬ okg i ⟨k, x, y, z⟩) (hk : -9223372036854775808 ≤ k ∧ k ≤ 9223372036854775807) (hx : -9223372036854775808 ≤ x ∧ x ≤ 9223372036854775807) (hy : -9223372036854775808 ≤ y ∧ y ≤ 9223372036854775807) (hz : 0 ≤ z ∧ z ≤ 18446744073709551615) (hS : Shp w) :
    Calls Tryd.prog 30 #[.agg #[.int .i64 k, .int .i64 x, .int .i64 y, .int .u64 z], .int .i64 i] w fun e w' => e = .returned (.bool false) ∧ Below w.heap.size w w' := by
  refine (cGateRight k x y z i w hk hx hy hz hS).mono ?_
  rintro e w' ⟨⟨h', _⟩ | ⟨_, rfl⟩, hb⟩
  · exact absurd h' h
  · exact ⟨rfl, hb⟩

set_option maxRecDepth 100000 in
set_option maxHeartbeats 4000000 in
theorem cCheckC (ag : Option Addr) (n cg : Nat) (G : List Gt) (ao : Option Addr) (m co : Nat) (O : List Int) (w : World) (h : RdG w ag n cg G) (g : RdI w ao m co O) (hS : Shp w) :
    Calls Tryd.prog 16 #[.agg #[.slice ag n cg, .slice ao m co]] w fun e w' => ∃ r, e = .returned (.int .i64 r) ∧ Cke G O n m r ∧ Below w.heap.size w w' := by
  have hcap := h.cap
  have hmax := h.max
  have gcap := g.cap
  have gmax := g.max
  unfold maxLen at hmax gmax
  have hC0 := CBox.new w ag n cg ao m co
  have hb0 : Below w.heap.size w (w.alloc (.cells #[.slice ag n cg, .slice ao m co] 25)) := (Below.refl _ _).alloc (Nat.le_refl _) _
  obtain ⟨d0, d1⟩ := hC0.cells
  go_enter Tryd.func16, Tryd.ntmps16
  go_upto_region 1 with fail
  generalize w.alloc (.cells #[.slice ag n cg, .slice ao m co] 25) = w0 at *
  have hl0 := hC0.lt
  by_cases hn0 : n = 0
  · have HE : Hid (Cke G O n m 1) := .inl ⟨.inl hn0, rfl⟩
    have hnb : ((n : Int) == 0) = true := by rw [beq_iff_eq]; omega
    clear hn0
    go_wp2
    go_ret
    exact ⟨1, rfl, HE.out, hb0⟩
  · have hnb : ((n : Int) == 0) = false := by rw [beq_eq_false_iff_ne]; omega
    by_cases hm0 : m = 0
    · have HE : Hid (Cke G O n m 1) := .inl ⟨.inr hm0, rfl⟩
      have hmb : ((m : Int) == 0) = true := by rw [beq_iff_eq]; omega
      clear hm0 hn0
      go_wp2
      go_ret
      exact ⟨1, rfl, HE.out, hb0⟩
    · have hmb : ((m : Int) == 0) = false := by rw [beq_eq_false_iff_ne]; omega
      by_cases hn30 : 30 < n
      · have HE : Hid (Cke G O n m 2) := .inr ⟨⟨hn0, hm0⟩, .inl ⟨.inl hn30, rfl⟩⟩
        clear hm0 hn0
        go_wp2
        go_ret
        exact ⟨2, rfl, HE.out, hb0⟩
      · by_cases hm30 : 30 < m
        · have HE : Hid (Cke G O n m 2) := .inr ⟨⟨hn0, hm0⟩, .inl ⟨.inr hm30, rfl⟩⟩
          clear hm0 hn0
          go_wp2
          go_ret
          exact ⟨2, rfl, HE.out, hb0⟩
        · have HB1 : Hid (¬ (okG G n ∧ okO O n m) → Cke G O n m 1) := fun e => .inr ⟨⟨hn0, hm0⟩, .inr ⟨⟨by omega, by omega⟩, .inl ⟨e, rfl⟩⟩⟩
          have HB0 : Hid ((okG G n ∧ okO O n m) → Cke G O n m 0) := fun e => .inr ⟨⟨hn0, hm0⟩, .inr ⟨⟨by omega, by omega⟩, .inr ⟨e, rfl⟩⟩⟩
          clear hm0 hn0
          go_wp2
          go_loopw [30] (fun v wr => ∃ i : Nat, i ≤ n ∧ v = .int .i64 i ∧ Hid (okG G i) ∧ CBox wr w.heap.size ag n cg ao m co ∧ Below w.heap.size w wr) (fun v _ => n - (intOf v).toNat)
          case atStart => exact ⟨0, Nat.zero_le _, rfl, okG_zero G, hC0, hb0⟩
          case round =>
            clear hC0 hb0 d0 d1 hl0
            obtain ⟨i, hi, rfl, HK, hC, hbel⟩ := hrel
            obtain ⟨d0, d1⟩ := hC.cells
            have hl0 := hC.lt
            have hs1 := hbel.size
            by_cases hlt : i < n
            · obtain ⟨b, o, k, x, y, z, rfl, hbb, HG, hk, hx, hy, hz, c1, c2, c3, c4⟩ := (h.below hbel).one hlt
              have hbA0 : Below wr.heap.size wr (wr.alloc (.cells #[.int .i64 k, .int .i64 x, .int .i64 y, .int .u64 z] 43)) := (Below.refl _ _).alloc (Nat.le_refl _) _
              have hbA := hbel.trans (hbA0.mono hs1)
              have hCA := hC.below hbA0 hC.lt
              obtain ⟨q1, q2, q3, q4⟩ := gate_box wr k x y z 43
              have hltA : wr.heap.size < (wr.alloc (.cells #[.int .i64 k, .int .i64 x, .int .i64 y, .int .u64 z] 43)).heap.size := by simp
              go_upto_region 8 with fail
              generalize wr.alloc (.cells #[.int .i64 k, .int .i64 x, .int .i64 y, .int .u64 z] 43) = W at *
              clear c1 c2 c3 c4 hbA0 hC hbel d0 d1
              have hSA := hS.below hbA
              by_cases hok : okg i ⟨k, x, y, z⟩
              · have HN : Hid (okG G (i + 1)) := okG_succ HK.out (by rw [HG.out]; exact hok)
                have HOK : Hid (okg i ⟨k, x, y, z⟩) := hok
                clear hok HG
                go_wp2_with (first | (go_at_call 30; refine (cGateRightY _ _ _ _ i _ HOK.out hk hx hy hz hSA).mono ?_; rintro e w2 ⟨rfl, hb2⟩; have hCB := hCA.below hb2 hCA.lt; have hbB := hbA.trans (hb2.mono hbA.size); clear hCA hbA hSA hb2 q1 q2 q3 q4))
                go_roundw
                case rel => exact ⟨i + 1, by omega, by go_num, HN, hCB, hbB⟩
                case measure => simp [intOf]; omega
              · have HN : Hid (Cke G O n m 1) := HB1.out fun e' => okG_not hlt (by rw [HG.out]; exact hok) e'.1
                have HOK : Hid (¬ okg i ⟨k, x, y, z⟩) := hok
                clear hok HG
                go_wp2_with (first | (go_at_call 30; refine (cGateRightN _ _ _ _ i _ HOK.out hk hx hy hz hSA).mono ?_; rintro e w2 ⟨rfl, hb2⟩; have hbB := hbA.trans (hb2.mono hbA.size); clear hCA hbA hSA hb2 q1 q2 q3 q4))
                go_ret
                exact ⟨1, rfl, HN.out, hbB⟩
            · have hin : i = n := by omega
              subst hin
              go_wp2
              obtain ⟨wo, hwo⟩ : ∃ x, x = wr := ⟨_, rfl⟩
              subst hwo
              go_loopw [43] (fun v wr => ∃ j : Nat, j ≤ m ∧ v = .int .i64 j ∧ Hid (okO O i j) ∧ wr = wo) (fun v _ => m - (intOf v).toNat)
              case atStart => exact ⟨0, Nat.zero_le _, rfl, okO_zero O i, rfl⟩
              case round =>
                obtain ⟨j, hj, rfl, HJ, hw⟩ := hrel
                subst hw
                by_cases hltj : j < m
                · obtain ⟨b2, o2, x, rfl, hbb2, HX, hx0, hx1, c5⟩ := (g.below hbel).one hltj
                  by_cases hxr : x < 0 ∨ (i : Int) ≤ x
                  · have HxN : Hid (x < 0 ∨ (i : Int) ≤ x) := hxr
                    have HN : Hid (Cke G O i m 1) := HB1.out fun e' => okO_not hltj HX.out hxr e'.2
                    go_wp2_with (first | (go_at_call 31; refine (cAheadN _ _ _ HxN.out).mono ?_; rintro e w' ⟨rfl, hw⟩; have hw := hw.symm; subst hw))
                    go_ret
                    exact ⟨1, rfl, HN.out, hbel⟩
                  · have HxY : Hid (0 ≤ x ∧ x < (i : Int)) := ⟨by omega, by omega⟩
                    have HN : Hid (okO O i (j + 1)) := okO_succ HJ.out HX.out (by omega) (by omega)
                    go_wp2_with (first | (go_at_call 31; refine (cAheadY _ _ _ HxY.out.1 HxY.out.2).mono ?_; rintro e w' ⟨rfl, hw⟩; have hw := hw.symm; subst hw))
                    go_roundw
                    case rel => exact ⟨j + 1, by omega, by go_num, HN, by trivial⟩
                    case measure => simp [intOf]; omega
                · have hjm : j = m := by omega
                  subst hjm
                  have HN : Hid (Cke G O i j 0) := HB0.out ⟨HK.out, HJ.out⟩
                  go_wp2
                  go_ret
                  exact ⟨0, rfl, HN.out, hbel⟩
end Go.Proofs.YtmpnaobjgknfkafDoor

namespace Go.Proofs.YtmpnaobjgknfkafDoor
open Go.RowKit Crm

theorem mt_yes : (⟨#[]⟩ : ByteArray).toList.isEmpty = true := by decide +kernel
theorem mt_no {r : ByteArray} (h : r ≠ mt) : r.toList.isEmpty = false := by
  cases e : r.toList with
  | nil =>
    exfalso
    apply h
    rw [ByteArray.toList_eq] at e
    apply ByteArray.ext
    exact Array.ext' e
  | cons a l => rfl
theorem own_baseP {w : World} {B B' n z : Nat} {E : TypeId} {v : Value} {xs : List Value} (h : w.ownsRow B E z v n xs) (hB : B' ≤ B) : w.ownsRow B' E z v n xs := by
  refine ⟨h.1, ?_⟩
  rcases h.2 with h1 | ⟨g, cap, cur, e, hb, h2⟩
  · exact .inl h1
  · exact .inr ⟨g, cap, cur, e, Nat.le_trans hB hb, h2⟩
/-- A circuit laid into its box. -/
def put2 (w : World) (b : Nat) (x y : Value) : World := (w.setCell ⟨b, 0, none⟩ x).setCell ⟨b, 1, none⟩ y
theorem put2_grown (w : World) (b : Nat) (x y : Value) : w.grownBy (put2 w b x y) (some b) := grown_trans (grown_set _ _ _ _) (grown_set _ _ _ _)
theorem put2_below {w0 w : World} {b : Nat} {x y : Value} (h : Below w0.heap.size w0 w) (hb : w0.heap.size ≤ b) : Below w0.heap.size w0 (put2 w b x y) := below_grown h (put2_grown w b x y) hb

set_option maxRecDepth 100000 in
set_option maxHeartbeats 4000000 in
theorem cParse (s : ByteArray) (w : World) (hs : s.size ≤ 9223372036854775807) (hS : Shp w) : Calls Tryd.prog 7 #[.string s] w fun e w' => Prn s w e w' := by
  have hZ0 := CBox.new w none 0 0 none 0 0
  have hb0 : Below w.heap.size w (w.alloc (.cells #[.slice none 0 0, .slice none 0 0] 25)) := (Below.refl _ _).alloc (Nat.le_refl _) _
  go_enter Tryd.func7, Tryd.ntmps7
  go_upto_region 1 with fail
  generalize w.alloc (.cells #[.slice none 0 0, .slice none 0 0] 25) = W at *
  have hwW : w.heap.size < W.heap.size := hZ0.lt
  by_cases hlong : 2048 < s.size
  · have HP : Hid (Par s [] [] 0 2) := .inl ⟨hlong, rfl, rfl, rfl, rfl⟩
    obtain ⟨z0, z1⟩ := hZ0.cells
    have fz := fun i => hZ0.frozen i
    obtain ⟨y0, y1⟩ := two_put (x := .slice none 0 0) (y := .slice none 0 0) z0 z1
    have HBE : Hid (Below w.heap.size w (put2 W w.heap.size (.slice none 0 0) (.slice none 0 0))) := put2_below hb0 (Nat.le_refl _)
    unfold put2 at HBE
    clear hZ0 hb0
    go_wp2
    exact bodyPost_ret (v := .tuple #[.agg #[.slice none 0 0, .slice none 0 0], .int .i64 ((0 : Nat) : Int), .int .i64 2]) (by simp [results, Tryd.results7, go_sem, y0, y1]) rfl (Prn.err HP.out HBE.out)
  · have hC0 := CBox.new W none 0 0 none 0 0
    have hb1' : Below W.heap.size W (W.alloc (.cells #[.slice none 0 0, .slice none 0 0] 25)) := (Below.refl _ _).alloc (Nat.le_refl _) _
    have hb1 := hb0.trans (hb1'.mono hb0.size)
    have hZ1 := hZ0.below hb1' hwW
    have hR1 : Crd (W.alloc (.cells #[.slice none 0 0, .slice none 0 0] 25)) W.heap.size W.heap.size none 0 0 none 0 0 [] [] := ⟨hC0, rfl, rfl, World.ownsRow_nil _ _ _ _, World.ownsRow_nil _ _ _ _⟩
    go_upto_region 4 with fail
    generalize W.alloc (.cells #[.slice none 0 0, .slice none 0 0] 25) = W1 at *
    clear hb0 hb1' hZ0 hC0
    go_wp2
    go_loopw [0, 6] (fun u v wr => ∃ (i : Nat) (r : ByteArray) (ag : Option Addr) (cg : Nat) (ao : Option Addr) (co : Nat) (G : List Gt) (O : List Int), u = .string r ∧ v = .int .i64 ((i : Int) + 1) ∧ i + r.size ≤ s.size ∧ Hid (Rst s i r) ∧ Hid (Rds (lns s) i G O) ∧ Crd wr W.heap.size W.heap.size ag G.length cg ao O.length co (G.map nmg) O ∧ CBox wr w.heap.size none 0 0 none 0 0 ∧ Below w.heap.size w wr) (fun u _ _ => (match u with | .string r => r.size | _ => 0))
    case atStart => exact ⟨0, s, none, 0, none, 0, [], [], rfl, rfl, by omega, Rst.start s, ⟨rfl, rfl⟩, hR1, hZ1, hb1⟩
    case round =>
      clear hR1 hZ1 hb1
      obtain ⟨i, r, ag, cg, ao, co, G, O, rfl, rfl, hir, HRst, HRds, hC, hZ, hbel⟩ := hrel
      have hlen := HRds.out.len
      obtain ⟨N, HN⟩ : ∃ N, Hid (G.length = N) := ⟨_, rfl⟩
      obtain ⟨M, HM⟩ : ∃ M, Hid (O.length = M) := ⟨_, rfl⟩
      rw [HN.out, HM.out] at hC hlen
      have hs1 := hbel.size
      by_cases hr0 : r = mt
      · subst hr0
        have he : (mt : ByteArray).toList.isEmpty = true := mt_yes
        obtain ⟨hl1, hl2⟩ := HRst.out.last lns_mt
        have HPE : Hid (∀ q, Cke G O G.length O.length q → q ≠ 0 → Par s [] [] 0 q) := fun q hq h0 => .inr ⟨by omega, .inr ⟨G, O, by rw [hl1]; exact HRds.out, .inr ⟨hl2, rfl, hq, .inl ⟨h0, rfl, rfl⟩⟩⟩⟩
        have HPY : Hid (Cke G O G.length O.length 0 → Par s G O 0 0) := fun hq => .inr ⟨by omega, .inr ⟨G, O, by rw [hl1]; exact HRds.out, .inr ⟨hl2, rfl, hq, .inr ⟨rfl, rfl, rfl⟩⟩⟩⟩
        have hgb := gbd_nm HRds.out.bd.1
        have hob := HRds.out.bd.2
        have HZN : Hid (∀ g ∈ G, g.k = 2 ∨ g.k = 6 ∨ g.n = 0) := HRds.out.zn
        have hG := RdG.ownA hC.own hC.ln hgb
        have hO := RdI.ownA hC.ins hob
        obtain ⟨d0, d1⟩ := hC.box.cells
        have hgl := hC.box.lt
        clear hgb hob hl1 hl2
        go_wp2_with fail
        refine (cCheckC _ _ _ _ _ _ _ _ _ hG hO (hS.below hbel)).mono ?_
        rintro e w3 ⟨q, rfl, hq, hb3⟩
        have hqb := hq.bd
        have HQ : Hid (Cke G O G.length O.length q) := by
          unfold Hid
          rw [HN.out, HM.out]
          exact (cke_nm HZN.out).1 hq
        have hC3 := hC.below hb3
        have hZ3 := hZ.below hb3 hZ.lt
        have hb3w := hbel.trans (hb3.mono hs1)
        obtain ⟨z0, z1⟩ := hZ3.cells
        have fz := fun i => hZ3.frozen i
        have zl := hZ3.lt
        clear hq hG hO hC hZ hb3 hbel d0 d1 hgl
        by_cases hq0 : q = 0
        · subst hq0
          have HP : Hid (Par s G O 0 0) := HPY.out HQ.out
          obtain ⟨d0, d1⟩ := hC3.box.cells
          have hgl := hC3.box.lt
          obtain ⟨y0, y1⟩ := two_put (x := .slice ag N cg) (y := .slice ao M co) z0 z1
          have hg1 := put2_grown w3 w.heap.size (.slice ag N cg) (.slice ao M co)
          have k1 := box_apart hZ3 hC3.own eGC
          have k2 := box_apart hZ3 hC3.ins eIC
          have HO1 : Hid (World.ownsRow _ _ _ _ _ _ _) := own_baseP (hC3.own.kept hg1 (.inr (fun e => k1 e.symm))) (Nat.le_of_lt hwW)
          have HO2 : Hid (World.ownsRow _ _ _ _ _ _ _) := own_baseP (hC3.ins.kept hg1 (.inr (fun e => k2 e.symm))) (Nat.le_of_lt hwW)
          have HBE : Hid (Below w.heap.size w (put2 w3 w.heap.size (.slice ag N cg) (.slice ao M co))) := put2_below hb3w (Nat.le_refl _)
          unfold put2 at HO1 HO2 HBE
          clear hg1 k1 k2 hC3 hZ3 hb3w hqb
          go_wp2
          exact bodyPost_ret (v := .tuple #[.agg #[.slice ag N cg, .slice ao M co], .int .i64 ((0 : Nat) : Int), .int .i64 0]) (by simp [results, Tryd.results7, go_sem, y0, y1]) rfl ⟨ag, cg, ao, co, 0, 0, G, O, by rw [HN.out, HM.out], HP.out, by rw [HN.out]; exact HO1.out, by rw [HM.out]; exact HO2.out, HBE.out⟩
        · have HP : Hid (Par s [] [] 0 q) := HPE.out q HQ.out hq0
          have hqn : (q != 0) = true := by rw [bne_iff_ne]; exact hq0
          obtain ⟨y0, y1⟩ := two_put (x := .slice none 0 0) (y := .slice none 0 0) z0 z1
          have HBE : Hid (Below w.heap.size w (put2 w3 w.heap.size (.slice none 0 0) (.slice none 0 0))) := put2_below hb3w (Nat.le_refl _)
          unfold put2 at HBE
          clear hC3 hZ3 hb3w hq0 hqb
          go_wp2
          exact bodyPost_ret (v := .tuple #[.agg #[.slice none 0 0, .slice none 0 0], .int .i64 ((0 : Nat) : Int), .int .i64 q]) (by simp [results, Tryd.results7, go_sem, y0, y1]) rfl (Prn.err HP.out HBE.out)
      · have he : r.toList.isEmpty = false := mt_no hr0
        rcases cut_cases r 10 with ⟨hx, hp⟩ | ⟨j, hx, hj, hp⟩
        · obtain ⟨hl1, hl2⟩ := HRst.out.last hp
          have HP : Hid (Par s [] [] (i + 1) 3) := .inr ⟨by omega, .inr ⟨G, O, by rw [hl1]; exact HRds.out, .inl ⟨by rw [hl2]; exact hr0, rfl, rfl, by rw [hl1], rfl⟩⟩⟩
          clear hl1 hl2 hp hr0
          go_wp2_with fail
          refine (sCutN r wr hx).mono ?_
          rintro e w3 ⟨rfl, hb3⟩
          have hZ3 := hZ.below hb3 hZ.lt
          have hb3w := hbel.trans (hb3.mono hs1)
          obtain ⟨z0, z1⟩ := hZ3.cells
          have fz := fun i => hZ3.frozen i
          have zl := hZ3.lt
          obtain ⟨y0, y1⟩ := two_put (x := .slice none 0 0) (y := .slice none 0 0) z0 z1
          have HBE : Hid (Below w.heap.size w (put2 w3 w.heap.size (.slice none 0 0) (.slice none 0 0))) := put2_below hb3w (Nat.le_refl _)
          unfold put2 at HBE
          clear hZ3 hb3w hC hZ hbel hb3 hx he
          go_wp2
          exact bodyPost_ret (v := .tuple #[.agg #[.slice none 0 0, .slice none 0 0], .int .i64 ((i + 1 : Nat) : Int), .int .i64 3]) (by simp [results, Tryd.results7, go_sem, y0, y1]) rfl (Prn.err HP.out HBE.out)
        · obtain ⟨hn1, hn2, hn3⟩ := HRst.out.next hp
          obtain ⟨t, Ht⟩ : ∃ t, Hid (r.extract 0 j = t) := ⟨_, rfl⟩
          obtain ⟨u, Hu⟩ : ∃ u, Hid (r.extract (j + 1) r.size = u) := ⟨_, rfl⟩
          have htz : t.size ≤ 2048 := by rw [← Ht.out, ByteArray.size_extract]; omega
          have huz : u.size + (j + 1) = r.size := by rw [← Hu.out, ByteArray.size_extract]; omega
          rw [Hu.out] at hn1
          rw [Ht.out] at hn2
          have HR1 : Hid (Rst s (i + 1) u) := hn1
          have HT : Hid (tx (lns s) i = t) := hn2
          have HLT : Hid (i < lnn s) := hn3
          clear hn1 hn2 hn3 hp hr0
          go_wp2_with fail
          refine (sCutY r j wr hx hj (by omega)).mono ?_
          rintro e w3 ⟨rfl, hb3⟩
          rw [Ht.out, Hu.out]
          have hC3 := hC.below hb3
          have hZ3 := hZ.below hb3 hZ.lt
          have hb3w := hbel.trans (hb3.mono hs1)
          have hS3 := hS.below hb3w
          clear hC hZ hbel hb3 hx he
          go_wp2_with fail
          refine (cReadLine W.heap.size W.heap.size t ag N cg ao M co (G.map nmg) O w3 hC3 (Nat.le_refl _) hS3 htz (by omega) (by omega) HRds.out.bd.2).mono ?_
          rintro e w4 ⟨hor, hb4⟩
          have hZ4 := hZ3.below hb4 hwW
          have hb4w : Below w.heap.size w w4 := hb3w.trans (hb4.mono (Nat.le_of_lt hwW))
          clear hC3 hZ3 hb3w hb4 hS3
          rcases hor with ⟨g, a', c', hL, hO0, rfl, hC4⟩ | ⟨x, a', c', hL, rfl, hC4⟩ | ⟨hno, rfl⟩
          · have HR : Hid (Rds (lns s) (i + 1) (G ++ [g]) O) := ⟨G, O, HRds.out, .inl ⟨g, by rw [HT.out]; exact hL, hO0, rfl, hO0⟩⟩
            have HC4 : Hid (Crd w4 W.heap.size W.heap.size a' (G ++ [g]).length c' ao O.length co ((G ++ [g]).map nmg) O) := by
              unfold Hid
              rw [HM.out, List.length_append, HN.out, List.map_append]
              exact hC4
            clear hL hO0 hC4
            go_wp2
            go_roundw
            case rel => exact ⟨i + 1, u, a', c', ao, co, G ++ [g], O, rfl, by go_num, by omega, HR1, HR, HC4.out, hZ4, hb4w⟩
            case measure => simp; omega
          · have HR : Hid (Rds (lns s) (i + 1) G (O ++ [x])) := ⟨G, O, HRds.out, .inr ⟨x, by rw [HT.out]; exact hL, rfl, rfl⟩⟩
            have HC4 : Hid (Crd w4 W.heap.size W.heap.size ag G.length cg a' (O ++ [x]).length c' (G.map nmg) (O ++ [x])) := by
              unfold Hid
              rw [HN.out, List.length_append, HM.out]
              exact hC4
            clear hL hC4
            go_wp2
            go_roundw
            case rel => exact ⟨i + 1, u, ag, cg, a', c', G, O ++ [x], rfl, by go_num, by omega, HR1, HR, HC4.out, hZ4, hb4w⟩
            case measure => simp; omega
          · have HP : Hid (Par s [] [] (i + 1) 3) := .inr ⟨by omega, .inl ⟨i, G, O, HLT.out, HRds.out, by rw [HT.out]; exact hno, rfl, rfl, rfl, rfl⟩⟩
            obtain ⟨z0, z1⟩ := hZ4.cells
            have fz := fun i => hZ4.frozen i
            have zl := hZ4.lt
            obtain ⟨y0, y1⟩ := two_put (x := .slice none 0 0) (y := .slice none 0 0) z0 z1
            have HBE : Hid (Below w.heap.size w (put2 w4 w.heap.size (.slice none 0 0) (.slice none 0 0))) := put2_below hb4w (Nat.le_refl _)
            unfold put2 at HBE
            clear hZ4 hb4w hno
            go_wp2
            exact bodyPost_ret (v := .tuple #[.agg #[.slice none 0 0, .slice none 0 0], .int .i64 ((i + 1 : Nat) : Int), .int .i64 3]) (by simp [results, Tryd.results7, go_sem, y0, y1]) rfl (Prn.err HP.out HBE.out)
end Go.Proofs.YtmpnaobjgknfkafDoor
