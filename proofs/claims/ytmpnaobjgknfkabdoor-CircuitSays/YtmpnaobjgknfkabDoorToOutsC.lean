/- Package circuit: Print. · croftref.Outs. -/
import Derived.Test.YtmpnaobjgknfkabDoorToGLineC
import Derived.Test.YtmpnaobjgknfkabDoorToPiecC
import Derived.Deep.RegionHeld3
namespace Go.Proofs.YtmpnaobjgknfkabDoor
open Go.RowKit Crm

/-- What Print answers. -/
def Cpr (G : List Gt) (O : List Int) (n m : Nat) (w : World) (e : Ending) (w' : World) : Prop :=
  ((∃ r, r ≠ 0 ∧ Cke G O n m r ∧ e = .returned (.tuple #[.string ⟨#[]⟩, .int .i64 r])) ∨ (Cke G O n m 0 ∧ e = .returned (.tuple #[.string (otx (gtx G n) O m), .int .i64 0]))) ∧ Below w.heap.size w w'

set_option maxRecDepth 100000 in
set_option maxHeartbeats 4000000 in
theorem cPrint (ag : Option Addr) (n cg : Nat) (G : List Gt) (ao : Option Addr) (m co : Nat) (O : List Int) (w : World) (h : RdG w ag n cg G) (g : RdI w ao m co O) (hT : Tabs w) (hS : Shp w) :
    Calls Tryd.prog 10 #[.agg #[.slice ag n cg, .slice ao m co]] w fun e w' => Cpr G O n m w e w' := by
  have hcap := h.cap
  have gcap := g.cap
  have hC0 := CBox.new w ag n cg ao m co
  have hb0 : Below w.heap.size w (w.alloc (.cells #[.slice ag n cg, .slice ao m co] 25)) := (Below.refl _ _).alloc (Nat.le_refl _) _
  go_enter Tryd.func10, Tryd.ntmps10
  go_wp2_with fail
  generalize w.alloc (.cells #[.slice ag n cg, .slice ao m co] 25) = w0 at *
  refine (cCheckC _ _ _ _ _ _ _ _ _ (h.below hb0) (g.below hb0) (hS.below hb0)).mono ?_
  rintro e w1 ⟨r, rfl, hC, hb1'⟩
  have hb1 := hb0.trans (hb1'.mono hb0.size)
  have hC1 := hC0.below hb1' hC0.lt
  clear hC0 hb1' hb0
  have hrb := hC.bd
  by_cases hr : r = 0
  · subst hr
    have HC : Hid (Cke G O n m 0) := hC
    have hn := hC.ok.1
    have hm := hC.ok.2.1
    have HG : Hid (okG G n) := hC.ok.2.2.1
    have HO : Hid (okO O n m) := hC.ok.2.2.2
    have hB0 := Bld.new w1
    have hbN : Below w1.heap.size w1 (w1.alloc (.cells #[.pointer none, .slice none 0 0] 54)) := (Below.refl _ _).alloc (Nat.le_refl _) _
    have hC2 := hC1.below hbN hC1.lt
    obtain ⟨d0, d1⟩ := hC2.cells
    have hl2 := hC2.lt
    have hl1 := hC1.lt
    have hs1 := hb1.size
    clear hC hrb
    go_upto_region 5 with fail
    generalize w1.alloc (.cells #[.pointer none, .slice none 0 0] 54) = w2 at *
    go_wp2
    go_loopw [18] (fun v wr => ∃ i : Nat, i ≤ n ∧ v = .int .i64 i ∧ Bld w1.heap.size w1.heap.size (gtx G i) wr ∧ Below w1.heap.size w1 wr) (fun v _ => n - (intOf v).toNat)
    case atStart => exact ⟨0, Nat.zero_le _, rfl, hB0, hbN⟩
    case round =>
      clear hB0 hbN d0 d1 hl2 hC2
      obtain ⟨i, hi, rfl, hB, hbel⟩ := hrel
      have hs2 := hbel.size
      by_cases hlt : i < n
      · obtain ⟨b, o, k, x, y, z, rfl, hbb, HGi, hk, hx, hy, hz, c1, c2, c3, c4⟩ := (h.below (hb1.trans (hbel.mono hs1))).one hlt
        have hok := HG.out i hlt
        rw [HGi.out] at hok
        have hbA0 : Below wr.heap.size wr (wr.alloc (.cells #[.int .i64 k, .int .i64 x, .int .i64 y, .int .u64 z] 43)) := (Below.refl _ _).alloc (Nat.le_refl _) _
        have hbA := hbel.trans (hbA0.mono hs2)
        obtain ⟨q1, q2, q3, q4⟩ := gate_box wr k x y z 43
        have hltA : wr.heap.size < (wr.alloc (.cells #[.int .i64 k, .int .i64 x, .int .i64 y, .int .u64 z] 43)).heap.size := by simp
        have hBA := hB.below hbA0
        have hts := gtx_size HG.out hn.2 (i + 1) (by omega)
        have HE : Hid (gtx G (i + 1) = gtx G i ++ (vb k.toNat ++ arg ⟨k, x, y, z⟩ ++ ⟨#[10]⟩)) := by
          unfold Hid
          rw [gtx, gln, HGi.out]
          simp only [ByteArray.append_assoc]
        rw [HE.out] at hts
        have HOK : Hid (okg i ⟨k, x, y, z⟩) := hok
        obtain ⟨t, Ht⟩ : ∃ t, Hid (gtx G i = t) := ⟨_, rfl⟩
        obtain ⟨l, Hl⟩ : ∃ l, Hid (vb k.toNat ++ arg ⟨k, x, y, z⟩ ++ ⟨#[10]⟩ = l) := ⟨_, rfl⟩
        rw [Ht.out, Hl.out] at hts
        rw [Ht.out] at hBA
        rw [ByteArray.size_append] at hts
        clear hok
        go_upto_region 8 with fail
        generalize wr.alloc (.cells #[.int .i64 k, .int .i64 x, .int .i64 y, .int .u64 z] 43) = W at *
        clear c1 c2 c3 c4 hbA0 hbel hB
        have hbwA := hb1.trans (hbA.mono hs1)
        go_wp2_with fail
        refine (cGateLine k x y z i _ HOK.out (by omega) hz (hS.below hbwA) (hT.below hbwA)).mono ?_
        rintro e w3 ⟨rfl, hb3⟩
        rw [Hl.out]
        have hB3 := hBA.below hb3
        have hbel3 := hbA.trans (hb3.mono hbA.size)
        have hs3 := hbel3.size
        clear hBA hb3 hbA hbwA q1 q2 q3 q4 hltA
        go_wp2_with fail
        refine (sWrite _ _ t l _ hB3 (by omega) hs3).mono ?_
        rintro e w4 ⟨rfl, hB4, hb4⟩
        have hbel4 := hbel3.trans hb4
        go_wp2
        go_roundw
        case rel => exact ⟨i + 1, by omega, by go_num, by rw [HE.out, Ht.out, Hl.out]; exact hB4, hbel4⟩
        case measure => simp [intOf]; omega
      · have hin : i = n := by omega
        subst hin
        have hC3 := hC1.below hbel hl1
        obtain ⟨d0, d1⟩ := hC3.cells
        have hl3 := hC3.lt
        have hts := gtx_size HG.out hn.2 i (Nat.le_refl _)
        go_wp2
        clear d0 d1 hl3 hC3
        obtain ⟨wo, hwo⟩ : ∃ x, x = wr := ⟨_, rfl⟩
        subst hwo
        go_loopw [29] (fun v wr => ∃ j : Nat, j ≤ m ∧ v = .int .i64 j ∧ Bld w1.heap.size w1.heap.size (otx (gtx G i) O j) wr ∧ Below w1.heap.size w1 wr) (fun v _ => m - (intOf v).toNat)
        case atStart => exact ⟨0, Nat.zero_le _, rfl, hB, hbel⟩
        case round =>
          clear hB hbel hs2
          obtain ⟨j, hj, rfl, hB, hbel⟩ := hrel
          have hs2 := hbel.size
          by_cases hltj : j < m
          · obtain ⟨b2, o2, x, rfl, hbb2, HX, hx0, hx1, c5⟩ := (g.below (hb1.trans (hbel.mono hs1))).one hltj
            have hos := otx_size (t := gtx G i) HO.out hn.2 j hj
            have hu := itb_size x hx0 hx1
            have nl := nl_size
            have ou := out_size
            have HE : Hid (otx (gtx G i) O (j + 1) = otx (gtx G i) O j ++ (⟨#[111, 117, 116, 32]⟩ ++ itb x ++ ⟨#[10]⟩)) := by
              unfold Hid
              rw [otx, HX.out]
            obtain ⟨t, Ht⟩ : ∃ t, Hid (otx (gtx G i) O j = t) := ⟨_, rfl⟩
            obtain ⟨u, Hu⟩ : ∃ u, Hid (itb x = u) := ⟨_, rfl⟩
            rw [Ht.out] at hos hB
            rw [Hu.out] at hu
            have a1 := add_run (P := Tryd.prog) ⟨#[111, 117, 116, 32]⟩ u (by omega)
            have a2 := add_run (P := Tryd.prog) (⟨#[111, 117, 116, 32]⟩ ++ u) ⟨#[10]⟩ (by rw [ByteArray.size_append]; omega)
            have hlz : (⟨#[111, 117, 116, 32]⟩ ++ u ++ ⟨#[10]⟩ : ByteArray).size ≤ 30 := by rw [ByteArray.size_append, ByteArray.size_append]; omega
            obtain ⟨l, Hl⟩ : ∃ l, Hid ((⟨#[111, 117, 116, 32]⟩ ++ u ++ ⟨#[10]⟩ : ByteArray) = l) := ⟨_, rfl⟩
            rw [Hl.out] at a2 hlz
            go_wp2_with fail
            refine (sItoa x _ hx0 hx1 (hT.below (hb1.trans (hbel.mono hs1)))).mono ?_
            rintro e w3 ⟨rfl, hb3⟩
            rw [Hu.out]
            have hB3 := hB.below hb3
            have hbel3 := hbel.trans (hb3.mono hs2)
            have hs3 := hbel3.size
            clear hB hb3 hbel c5
            go_wp2_with fail
            refine (sWrite _ _ t l _ hB3 (by omega) hs3).mono ?_
            rintro e w4 ⟨rfl, hB4, hb4⟩
            have hbel4 := hbel3.trans hb4
            go_wp2
            go_roundw
            case rel => exact ⟨j + 1, by omega, by go_num, by rw [HE.out, Ht.out, Hu.out, Hl.out]; exact hB4, hbel4⟩
            case measure => simp [intOf]; omega
          · have hjm : j = m := by omega
            subst hjm
            go_wp2_with fail
            refine (sString _ _ _ _ hB hs2).mono ?_
            rintro e w3 ⟨rfl, hb3⟩
            have hbE := hb1.trans ((hbel.trans hb3).mono hs1)
            clear hB hb3
            go_wp2
            go_ret2
            exact ⟨.inr ⟨HC.out, rfl⟩, hbE⟩
  · have HC : Hid (Cke G O n m r) := hC
    have HR : Hid (r ≠ 0) := hr
    have hrb2 : (r != 0) = true := by rw [bne_iff_ne]; exact hr
    clear hC hrb hr
    go_wp2
    go_ret2
    exact ⟨.inl ⟨_, HR.out, HC.out, rfl⟩, hb1⟩
end Go.Proofs.YtmpnaobjgknfkabDoor

namespace Go.Proofs.YtmpnaobjgknfkabDoor
open Go.RowKit Go.Maps Crm

theorem lawI : Keyed Tryd.prog 3 := int_keyed Tryd.underlying3
theorem zeroU (w : World) : (zeroValue 40).run Tryd.prog w = .ok (.int .u64 0) w := by kernel_rfl
theorem infoGate : (Tryd.prog.info? 43).map (fun i => (i.zero, i.size, i.bytes)) = some (some (.agg #[.int .i64 0, .int .i64 0, .int .i64 0, .int .u64 0]), 4, 32) := by kernel_rfl
theorem infoUO : (Tryd.prog.info? 40).map (fun i => (i.zero, i.size, i.bytes)) = some (some (.int .u64 0), 1, 8) := by kernel_rfl
set_option maxRecDepth 100000 in
set_option maxHeartbeats 4000000 in
theorem rOuts (ag : Option Addr) (n cg : Nat) (G : List Gt) (ao : Option Addr) (m co : Nat) (O : List Int) (ai : Option Addr) (q ca : Nat) (ins : List Int) (w : World) (h : RdG w ag n cg G) (g : RdI w ao m co O) (ih : Rd w ai q ca ins) (hn1 : 1 ≤ n) (hn : n ≤ 30) (hm : m ≤ 30) (hG : okG G n) (hO : okO O n m) (hq : q = ci G n) :
    Calls Tryd.prog 7 #[.agg #[.slice ag n cg, .slice ao m co], .slice ai q ca] w fun e w' => ∃ v, e = .returned v ∧ w'.ownsRow w.heap.size 40 1 v m ((otl G O ins m).map (Value.int .u64)) ∧ Below w.heap.size w w' := by
  obtain ⟨i0, hi, hz0, hz1, hz2⟩ := info_parts infoGate
  have HG : Hid (okG G n) := hG
  have HO : Hid (okO O n m) := hO
  have HQ : Hid (q = ci G n) := hq
  have hcap := h.cap
  have hmax := h.max
  have hlen := h.len
  clear hG hO hq
  have hmm := @run_makeMap Tryd.prog
  have hC0 := CBox.new w ag n cg ao m co
  have hb0 : Below w.heap.size w (w.alloc (.cells #[.slice ag n cg, .slice ao m co] 25)) := (Below.refl _ _).alloc (Nat.le_refl _) _
  go_enter Tryd.func7, Tryd.ntmps7
  go_upto_region 1 with fail
  generalize w.alloc (.cells #[.slice ag n cg, .slice ao m co] 25) = w0 at *
  have hM0 := World.ownsMap_made w0 Tryd.prog 3 (plainElem (H := Unit) Tryd.prog 40)
  have hbM : Below w0.heap.size w0 (w0.alloc (.map #[] 0)) := (Below.refl _ _).alloc (Nat.le_refl _) _
  have hCM := hC0.below hbM hC0.lt
  have hbw0 := hb0.trans (hbM.mono hb0.size)
  have hgB : w.heap.size ≤ w0.heap.size := hb0.size
  go_wp2
  go_loopw [7] (fun v wr => ∃ i : Nat, i ≤ n ∧ v = .int .i64 i ∧ CBox wr w.heap.size ag n cg ao m co ∧ wr.ownsMap Tryd.prog 3 (plainElem (H := Unit) Tryd.prog 40) w0.heap.size i (mpd (wi G ins) i) ∧ Below w.heap.size w wr) (fun v _ => n - (intOf v).toNat)
  case atStart => exact ⟨0, Nat.zero_le _, rfl, hCM, hM0, hbw0⟩
  case round =>
    clear hCM hM0 hbw0 hbM hC0 hb0
    obtain ⟨i, hin, rfl, hC, hM, hbel⟩ := hrel
    obtain ⟨d0, d1⟩ := hC.cells
    have hl0 := hC.lt
    have hs1 := hbel.size
    by_cases hlt : i < n
    · obtain ⟨b, o, k, x, y, z, rfl, hbb, HGi, hk, hx, hy, hz, c1, c2, c3, c4⟩ := (h.below hbel).one hlt
      have hnews := (h.below hbel).news (k := i + 1) (by omega)
      have HNews : Hid (∀ j u, (gcs (G.take (i + 1)))[j]? = some u → wr.cell? ((⟨b, o, none⟩ : Addr).add j) = some u) := hnews
      have HNl : Hid ((gcs (G.take (i + 1))).length = (i + 1) * 4) := by unfold Hid; rw [gcs_len, List.length_take, hlen]; congr 1; omega
      have HTk : Hid (G.take (i + 1) = dgj G ins (i + 1) 0) := dgj_zero G ins (by omega)
      clear hnews c1 c2 c3 c4 hk hx hy hz HGi
      go_upto_region 7 with (at_builtin; refine wpList_append_own _ rfl _ _ 22 rfl w.heap.size 43 i0 (.agg #[.int .i64 0, .int .i64 0, .int .i64 0, .int .u64 0]) 4 32 Tryd.underlying22 hi hz0 hz1 hz2 rfl (by decide) (.slice none 0 0) 0 [] rfl (World.ownsRow_nil _ _ _ _) ⟨b, o, none⟩ (i + 1) cg (gcs (G.take (i + 1))) rfl HNl.out HNews.out (gcs_one _) (by unfold maxLen; omega) (by omega) hs1 ?_; intro v2 w2 hown2 hgr2 _; rw [Nat.zero_add, List.nil_append, HTk.out] at hown2; obtain ⟨g2, c2, rfl, hg2a, hg2b, hg2c, hg2d⟩ := own_atZ hown2 (by omega))
      have hb2 : Below w.heap.size w w2 := hbel.grown hgr2 hs1 (by simp [Value.ownBlock])
      have hC2 := hC.grown hgr2 (by simp [Value.ownBlock])
      have hM2 := hM.kept hgr2 (by simp [Value.ownBlock])
      have hD3 := CBox.new w2 (some ⟨g2, 0, none⟩) (i + 1) c2 none 0 0
      have hb3' : Below w2.heap.size w2 (w2.alloc (.cells #[.slice (some ⟨g2, 0, none⟩) (i + 1) c2, .slice none 0 0] 25)) := (Below.refl _ _).alloc (Nat.le_refl _) _
      have hC3 := hC2.below hb3' hC2.lt
      have hM3 := hM2.alloc (.cells #[.slice (some ⟨g2, 0, none⟩) (i + 1) c2, .slice none 0 0] 25)
      have hown3 := hown2.alloc (.cells #[.slice (some ⟨g2, 0, none⟩) (i + 1) c2, .slice none 0 0] 25)
      have hb3 := hb2.trans (hb3'.mono hb2.size)
      have hne : w2.heap.size ≠ w.heap.size := by have := hC2.lt; omega
      generalize w2.alloc (.cells #[.slice (some ⟨g2, 0, none⟩) (i + 1) c2, .slice none 0 0] 25) = w3 at *
      clear hC hM hbel hown2 hgr2 hb2 hC2 hM2 hb3' HNews HNl HTk d0 d1 hl0
      go_wp2
      go_loopw [9] (fun v wr => ∃ j : Nat, j ≤ i ∧ v = .int .i64 j ∧ wr.ownsRow w.heap.size 43 4 (.slice (some ⟨g2, 0, none⟩) (i + 1) c2) (i + 1) (gcs (dgj G ins (i + 1) j)) ∧ CBox wr w2.heap.size (some ⟨g2, 0, none⟩) (i + 1) c2 none 0 0 ∧ CBox wr w.heap.size (some ⟨b, o, none⟩) n cg ao m co ∧ wr.ownsMap Tryd.prog 3 (plainElem (H := Unit) Tryd.prog 40) w0.heap.size i (mpd (wi G ins) i) ∧ Below w.heap.size w wr) (fun v _ => i - (intOf v).toNat)
      case atStart => exact ⟨0, Nat.zero_le _, rfl, hown3, hD3, hC3, hM3, hb3⟩
      case round =>
        clear hown3 hD3 hC3 hM3 hb3
        obtain ⟨j, hj, rfl, hown, hD, hC, hM, hbel⟩ := hrel
        obtain ⟨d0, d1⟩ := hD.cells
        have hld := hD.lt
        have hdl := dgj_len G ins (i + 1) j
        by_cases hji : j < i
        · obtain ⟨e1, e2, e3, e4⟩ := gcs_get (dgj G ins (i + 1) j) j (by rw [hdl]; omega)
          have f1 := hown.cells (g := g2) rfl _ _ e1
          have f2 := hown.cells (g := g2) rfl _ _ e2
          have f3 := hown.cells (g := g2) rfl _ _ e3
          have f4 := hown.cells (g := g2) rfl _ _ e4
          rw [Addr.add_lit, Nat.zero_add] at f1 f2 f3 f4
          have hlg := (own_lt hown).2
          have HgK : Hid ((gt (dgj G ins (i + 1) j) j).k = (gt G j).k) := by unfold Hid; rw [dgj_gt G ins j (by omega), if_neg (fun h => by omega)]
          rw [HgK.out] at f1
          obtain ⟨kk, HKK⟩ : ∃ kk, Hid ((gt G j).k = kk) := ⟨_, rfl⟩
          rw [HKK.out] at f1
          have hjb : (j : Int) < (i : Int) + 1 := by omega
          have hj0 : (0 : Int) ≤ (j : Int) := by omega
          by_cases hk1 : kk = 1
          · subst hk1
            have HD2 : Hid (gcs (dgj G ins (i + 1) j) = gcs (dgj G ins (i + 1) (j + 1))) := by unfold Hid; rw [dgj_in G ins (i + 1) j HKK.out]
            rw [HD2.out] at hown
            clear e1 e2 e3 e4
            go_wp2
            go_roundw
            case rel => exact ⟨j + 1, by omega, by go_num, hown, hD, hC, hM, hbel⟩
            case measure => simp [intOf]; omega
          · have hkb : (kk != 1) = true := by rw [bne_iff_ne]; exact hk1
            have HD2 : Hid ((dgj G ins (i + 1) j).set j ⟨2, 0, 0, wi G ins j⟩ = dgj G ins (i + 1) (j + 1)) := dgj_set G ins (by rw [HKK.out]; exact hk1)
            have HAt : Hid ((mpd (wi G ins) i).atKey (.int .i64 (j : Int)) (.lit (.int .u64 0)) = .lit (.int .u64 (wi G ins j))) := mpd_at _ _ i hji
            have z1 := own_frozenZ hown (j * 4)
            have z2 := own_frozenZ hown (j * 4 + 1)
            have z3 := own_frozenZ hown (j * 4 + 2)
            have z4 := own_frozenZ hown (j * 4 + 3)
            have hos := own_setZ (own_setZ (own_setZ (own_setZ hown (j * 4) (.int .i64 2)) (j * 4 + 1) (.int .i64 0)) (j * 4 + 2) (.int .i64 0)) (j * 4 + 3) (.int .u64 (wi G ins j))
            rw [gcs_set, HD2.out] at hos
            have hgr : wr.grownBy ((((wr.setCell ⟨g2, j * 4, none⟩ (.int .i64 2)).setCell ⟨g2, j * 4 + 1, none⟩ (.int .i64 0)).setCell ⟨g2, j * 4 + 2, none⟩ (.int .i64 0)).setCell ⟨g2, j * 4 + 3, none⟩ (.int .u64 (wi G ins j))) (some g2) := grown_trans (grown_trans (grown_trans (grown_set _ _ _ _) (grown_set _ _ _ _)) (grown_set _ _ _ _)) (grown_set _ _ _ _)
            have HE1 : Hid (World.ownsRow _ _ _ _ _ _ _) := hos
            have HE2 : Hid (CBox _ w2.heap.size _ _ _ _ _ _) := hD.grown hgr (by simp only [ne_eq, Option.some.injEq]; exact fun e => hD.apart hown (by decide) e.symm)
            have HE3 : Hid (CBox _ w.heap.size _ _ _ _ _ _) := hC.grown hgr (by simp only [ne_eq, Option.some.injEq]; exact fun e => hC.apart hown (by decide) e.symm)
            have HE4 : Hid (World.ownsMap _ _ _ _ _ _ _) := hM.kept hgr (by simp only [ne_eq, Option.some.injEq]; exact fun e => map_apart hM hown e.symm)
            have HE5 : Hid (Below w.heap.size w _) := hbel.grown hgr hbel.size (fun p hp => by simp only [Option.some.injEq] at hp; rw [← hp]; exact (own_lt hown).1)
            clear hos hgr e1 e2 e3 e4 hk1 hown hD hC hbel
            go_wp2_with (at_lookup; refine wpList_lookup_own_int _ rfl _ _ 48 rfl 3 40 .u64 lawI Tryd.underlying48 Tryd.underlying40 (zeroU _) w0.heap.size i _ rfl hM _ _ rfl (keyOf_int_mk Tryd.underlying3 (WalkArith.wf_i64 (by omega))) ?_; intro cc hat _; rw [HAt.out] at hat; obtain rfl : wi G ins j = cc := (by simpa using hat); clear hat)
            exact ⟨⟨j + 1, by omega, by go_num, HE1.out, HE2.out, HE3.out, HE4.out, HE5.out⟩, by simp [intOf]; omega⟩
        · have hji2 : j = i := by omega
          subst hji2
          have hbd : ∀ p, p < j + 1 → (-9223372036854775808 ≤ (gt (dgj G ins (j + 1) j) p).k ∧ (gt (dgj G ins (j + 1) j) p).k ≤ 9223372036854775807) ∧ (-9223372036854775808 ≤ (gt (dgj G ins (j + 1) j) p).a ∧ (gt (dgj G ins (j + 1) j) p).a ≤ 9223372036854775807) ∧ (-9223372036854775808 ≤ (gt (dgj G ins (j + 1) j) p).b ∧ (gt (dgj G ins (j + 1) j) p).b ≤ 9223372036854775807) ∧ 0 ≤ (gt (dgj G ins (j + 1) j) p).n ∧ (gt (dgj G ins (j + 1) j) p).n ≤ 18446744073709551615 := fun p hp => by
            rw [dgj_gt G ins j hp]
            split
            · have := wi_bd G ins p
              exact ⟨by simp only; omega, by simp only; omega, by simp only; omega, by simp only; omega⟩
            · exact h.bd p (by omega)
          have hRD := RdG.own hown hdl hbd
          have HRD : Hid (RdG wr (some ⟨g2, 0, none⟩) (j + 1) c2 (dgj G ins (j + 1) j)) := hRD
          obtain ⟨hgi, hdv⟩ := dgj_dv (G := G) (ins := ins) (n := j + 1) (i := j) (by omega) (HG.out j hlt)
          have HDV : Hid (dv (dgj G ins (j + 1) j) ins j = wi G ins j) := hdv
          have HGI : Hid (gt (dgj G ins (j + 1) j) j = gt G j) := hgi
          have hwb := wi_bd G ins j
          have hin2 := ih.below hbel
          have HMP : Hid ((mpd (wi G ins) j).put (.int .i64 (j : Int)) (.lit (.int .u64 (wi G ins j))) = mpd (wi G ins) (j + 1)) := rfl
          have hqc : ∀ p, p ≤ j → (gt (dgj G ins (j + 1) j) p).k = 1 → ci (dgj G ins (j + 1) j) p < q := fun p hp hk => by
            rw [dgj_ci G ins (by omega) p hp, HQ.out]
            have hk' : (gt G p).k = 1 := by
              rw [dgj_gt G ins j (by omega)] at hk
              split at hk
              · simp at hk
              · exact hk
            exact ci_lt (by omega) hk'
          have HQC : Hid (∀ p, p ≤ j → (gt (dgj G ins (j + 1) j) p).k = 1 → ci (dgj G ins (j + 1) j) p < q) := hqc
          have hs3 := hbel.size
          clear hbd hRD hgi hdv hqc hown
          go_wp2_with fail
          refine (rValue _ _ _ _ _ _ _ _ _ _ _ j _ HRD.out hin2 (by omega) (by omega) (fun p hp => (dgj_lf (by omega) hp).1) HQC.out (by rw [HGI.out]; exact HG.out j hlt)).mono ?_
          rintro e w5 ⟨rfl, hb5⟩
          rw [HDV.out]
          have hM5 := hM.kept (grown_below hb5 none) (by simp)
          have hC5 := hC.below hb5 hC.lt
          have hb05 := hbel.trans (hb5.mono hs3)
          have hneB : w0.heap.size ≠ w.heap.size := fun e => by
            obtain ⟨es, ck, e1, _⟩ := hM
            unfold CBox at hC
            rw [e] at e1
            rw [e1] at hC
            simp at hC
          clear hM hC hD hbel hb5 hin2 HRD d0 d1 hld
          go_wp2_with (at_mapUpdate; refine wpList_mapUpdate_own _ rfl _ _ _ 48 rfl 3 40 lawI Tryd.underlying48 _ w0.heap.size j _ rfl hM5 (by unfold maxLen; omega) _ _ _ rfl rfl (keyOf_int_mk Tryd.underlying3 (WalkArith.wf_i64 (by omega))) _ [] (plainElem_int Tryd.underlying40 (WalkArith.wf_u64 (by omega))) ?_; intro w6 hM6 hgr6; rw [HMP.out] at hM6; have hC6 := hC5.grown hgr6 (by simp only [ne_eq, Option.some.injEq]; exact fun e => hneB e.symm); have hb6 := hb05.grown hgr6 hb05.size (fun p hp => by simp only [Option.some.injEq] at hp; omega); clear hgr6 hM5)
          exact ⟨⟨j + 1, by omega, by go_num, hC6, hM6, hb6⟩, by simp [intOf]; omega⟩
    · have hin2 : i = n := by omega
      subst hin2
      go_wp2
      obtain ⟨wo, hwo⟩ : ∃ wo, wo = wr := ⟨_, rfl⟩
      subst hwo
      go_loopw [5, 10] (fun v p wr' => ∃ j : Nat, j ≤ m ∧ p = .int .i64 j ∧ wr'.ownsRow wo.heap.size 40 1 v j ((otl G O ins j).map (Value.int .u64)) ∧ Below wo.heap.size wo wr') (fun _ p _ => m - (intOf p).toNat)
      case atStart => exact ⟨0, Nat.zero_le _, rfl, World.ownsRow_nil _ _ _ _, Below.refl _ _⟩
      case round =>
        obtain ⟨j, hj, rfl, hown, hbe⟩ := hrel
        have hC7 := hC.below hbe hC.lt
        obtain ⟨f0, f1⟩ := hC7.cells
        have hl7 := hC7.lt
        have hM7 := hM.kept (grown_below hbe none) (by simp)
        have hs7 := hbe.size
        have hb7 := hbel.trans (hbe.mono hs1)
        have HM : Hid (World.ownsMap wo _ _ _ _ _ _) := hM
        have HC : Hid (CBox wo _ _ _ _ _ _ _) := hC
        clear hM hC d0 d1 hl0
        by_cases hjm : j < m
        · obtain ⟨b, o, x, rfl, hbb, HX, hx0, hx1, c1⟩ := (g.below hb7).one hjm
          obtain ⟨p0, p1⟩ := HO.out j hjm
          rw [HX.out] at p0 p1
          obtain ⟨p, rfl⟩ : ∃ p : Nat, x = (p : Int) := ⟨x.toNat, by omega⟩
          have HAt : Hid ((mpd (wi G ins) i).atKey (.int .i64 (p : Int)) (.lit (.int .u64 0)) = .lit (.int .u64 (wi G ins p))) := mpd_at _ _ i (by omega)
          have HSn : Hid (otl G O ins j ++ [wi G ins p] = otl G O ins (j + 1)) := by
            have := otl_snoc G O ins j
            rw [HX.out, Int.toNat_natCast] at this
            exact this
          clear hx0 hx1
          go_wp2_with (first | (at_lookup; refine wpList_lookup_own_int _ rfl _ _ 48 rfl 3 40 .u64 lawI Tryd.underlying48 Tryd.underlying40 (zeroU _) w0.heap.size i _ rfl hM7 _ _ rfl (keyOf_int_mk Tryd.underlying3 (WalkArith.wf_i64 (by omega))) ?_; intro cc hat _; rw [HAt.out] at hat; obtain rfl : wi G ins p = cc := (by simpa using hat); clear hat) | (at_builtin; refine wpList_app1 (T := 26) Tryd.underlying26 infoUO _ rfl _ _ rfl wo.heap.size _ _ _ rfl hown _ rfl (by omega) (by omega) ?_; intro v' w3 hown3 hbel3; rw [HSn.out] at hown3; have hbe3 := hbe.trans hbel3; clear hown hbel3))
          exact ⟨⟨j + 1, by omega, by go_num, hown3, hbe3⟩, by simp [intOf]; omega⟩
        · obtain rfl : j = m := by omega
          have ho2 := own_base hown hs1
          clear hown hM7
          go_wp2
          go_ret
          exact ⟨_, rfl, ho2, hb7⟩
end Go.Proofs.YtmpnaobjgknfkabDoor
