/- croftref.Times. · croftref.Wire. -/
import Derived.Test.YtfonochdnmddlabToRows2
import Derived.Test.YtfonochdnmddlabToLsV
import Derived.Test.YtfonochdnmddlabToRDealC
import Derived.Test.YtfonochdnmddlabToSubC
import Derived.Test.YtfonochdnmddlabToRefC
import Derived.BigQuiet
import Derived.Test.YtfonochdnmddlabToFaceC
namespace Go.Proofs.Ytfonochdnmddlab
open Go.RowKit Crm

theorem infoVs : (Try.prog.info? 23).map (fun i => (i.zero, i.size, i.bytes)) = some (some (.slice none 0 0), 1, 24) := by kernel_rfl

theorem wrap_i64 {x : Int} (h0 : -1000000 ≤ x) (h1 : x ≤ 1000000) : IntKind.i64.wrap x = x := by
  unfold IntKind.wrap
  simp [IntKind.signed, IntKind.bits]
  omega
/-- Rows that lie elsewhere. -/
def Far (L : List Value) (n lo hi : Nat) : Prop := ∀ p, p < n → ∀ gg, (L.getD p (.slice none 0 0)).ownBlock = some gg → gg < lo ∨ hi ≤ gg
theorem map_getDN {f : Nat → Int} {m i : Nat} (h : i < m) : ((List.range m).map f).getD i 0 = f i := by simp [h]
theorem infoS1 : (Try.prog.info? 28).map (·.size) = some 1 := by kernel_rfl
/-- What all were dealt by the first i. -/
def gti (t : Nat) (xs ys ds : List Int) (n i : Nat) : List (List Int) := (List.range n).map fun j => tmR t xs ys ds i j
theorem gti_len (t : Nat) (xs ys ds : List Int) (n i : Nat) : (gti t xs ys ds n i).length = n := by simp [gti]
theorem gti_zero (t : Nat) (xs ys ds : List Int) (n : Nat) : List.replicate n [] = gti t xs ys ds n 0 := by
  apply List.ext_getElem?
  intro i
  by_cases hi : i < n
  · simp [gti, tmR, hi]
  · simp [gti, hi]
/-- .. and the first j of them by one more. -/
def gtj (t : Nat) (xs ys ds : List Int) (n i j : Nat) : List (List Int) := (List.range n).map fun p => if p < j then tmR t xs ys ds (i + 1) p else tmR t xs ys ds i p
theorem gtj_len (t : Nat) (xs ys ds : List Int) (n i j : Nat) : (gtj t xs ys ds n i j).length = n := by simp [gtj]
theorem gtj_zero (t : Nat) (xs ys ds : List Int) (n i : Nat) : gtj t xs ys ds n i 0 = gti t xs ys ds n i := by simp [gtj, gti]
theorem gtj_full (t : Nat) (xs ys ds : List Int) (n i : Nat) : gtj t xs ys ds n i n = gti t xs ys ds n (i + 1) := by
  unfold gtj gti
  refine List.map_congr_left fun p hp => ?_
  rw [if_pos (List.mem_range.1 hp)]
theorem gtj_getD (t : Nat) (xs ys ds : List Int) {n i j : Nat} (h : j < n) : (gtj t xs ys ds n i j).getD j [] = tmR t xs ys ds i j := by simp [gtj, h]
theorem gti_getD (t : Nat) (xs ys ds : List Int) {n i j : Nat} (h : j < n) : (gti t xs ys ds n i).getD j [] = tmR t xs ys ds i j := by simp [gti, h]
theorem gtj_set (t : Nat) (xs ys ds : List Int) (n i j : Nat) : (gtj t xs ys ds n i j).set j (tmR t xs ys ds (i + 1) j) = gtj t xs ys ds n i (j + 1) := by
  apply List.ext_getElem?
  intro q
  rw [List.getElem?_set]
  by_cases hq : q < n
  · by_cases e : j = q
    · subst e; simp [gtj, hq]
    · have : (q < j + 1) = (q < j) := by apply propext; omega
      simp [gtj, hq, e, this]
  · by_cases e : j = q
    · subst e; simp [gtj, hq]
    · simp [gtj, hq, e]

set_option maxRecDepth 100000 in
set_option maxHeartbeats 4000000 in
theorem rTimes (t : Nat) (a : Option Addr) (n c : Nat) (xs : List Int) (b : Option Addr) (d : Nat) (ys : List Int) (e0 : Option Addr) (m f : Nat) (ds : List Int) (w : World) (h : Rd w a n c xs) (g : Rd w b n d ys) (k : Rd w e0 m f ds) (ht : t ≤ 4) (hn1 : 1 ≤ n) (hn9 : n ≤ 9) (hm : m = n * t) :
    Calls Try.prog 32 #[.int .i64 t, .slice a n c, .slice b n d, .slice e0 m f] w fun e w' => ∃ v u L, e = .returned (.tuple #[v, u]) ∧ w'.ownsRow w.heap.size 28 1 v n ((tmO t xs ys ds n n).map (Value.int .u64)) ∧ LsV w' w.heap.size u L (tmG t xs ys ds n) ∧ Below w.heap.size w w' := by
  obtain ⟨i0, hi, hz0, hz1, hz2⟩ := info_parts infoVs
  have HM : Hid (m = n * t) := hm
  clear hm
  go_enter Try.func32, Try.ntmps32
  go_wp2_with (at_make; refine wpList_make_full _ rfl _ _ 60 rfl w.heap.size 23 i0 (.slice none 0 0) 1 Try.underlying60 hi hz0 hz1 .i64 .i64 _ _ n rfl rfl (by omega) (by omega) (by rw [hz2]; omega) (by unfold maxLen; omega) (Nat.le_refl _) ?_; intro w1 hown hgrow)
  have hb1 : Below w.heap.size w w1 := (Below.refl _ _).grown hgrow (Nat.le_refl _) (by simp)
  have hL1 := lsv_made hown
  rw [gti_zero t xs ys ds n] at hL1
  clear hown hgrow
  go_loopw [12, 13] (fun v q wr => ∃ (i : Nat) (L : List Value), i ≤ n ∧ q = .int .i64 i ∧ wr.ownsRow w.heap.size 3 1 v i (zns (pty i)) ∧ LsV wr w.heap.size (.slice (some ⟨w.heap.size, 0, none⟩) n n) L (gti t xs ys ds n i) ∧ Below w.heap.size w wr) (fun _ q _ => n - (intOf q).toNat)
  case atStart => exact ⟨0, _, Nat.zero_le _, rfl, World.ownsRow_nil _ _ _ _, hL1, hb1⟩
  case round =>
    clear hL1 hb1
    obtain ⟨i, L, hi, rfl, hown, hL, hbel⟩ := hrel
    have hs1 := hbel.size
    by_cases hlt : i < n
    · have HA1 : Hid (∀ w', wr.grownBy w' u12.ownBlock → LsV w' w.heap.size (.slice (some ⟨w.heap.size, 0, none⟩) n n) L (gti t xs ys ds n i)) := fun w' hg => hL.grown hg (own_apart hown hL.own (by decide)) (fun j hj => own_apart hown (hL.row j hj) (by decide))
      have HSn : Hid (zns (pty i) ++ [.int .i64 ((i : Int) + 1)] = zns (pty (i + 1))) := by unfold Hid; rw [zns_snoc, pty_snoc]
      go_wp2_with (at_builtin; refine wpList_appV Try.underlying24 infoZ rfl (by omega) _ rfl _ _ rfl w.heap.size _ _ _ rfl hown (.int .i64 ((i : Int) + 1)) rfl rfl (by omega) hs1 ?_; intro v2 w2 hown2 hgr2 _; rw [HSn.out] at hown2; have hL2 := HA1.out w2 hgr2; have hb2 := hbel.grown hgr2 hs1 (fun q hq => (hown.lt q hq).1); clear hgr2 hown hL hbel HA1)
      obtain ⟨P, HP⟩ : ∃ P, Hid (i * t = P) := ⟨_, rfl⟩
      have hP : (i : Int) * (t : Int) = (P : Int) := by rw [← HP.out]; push_cast; rfl
      have hPm : P + t ≤ m := by
        have h1 : (i + 1) * t ≤ n * t := Nat.mul_le_mul_right t hlt
        rw [Nat.add_mul, Nat.one_mul, HP.out, ← HM.out] at h1
        exact h1
      have hm36 : m ≤ 36 := by rw [HM.out]; exact Nat.le_trans (Nat.mul_le_mul hn9 ht) (by omega)
      have hkc := k.cap
      obtain ⟨b1, o1, x, rfl, hb1, HX, hx0, hx1, hcx⟩ := (h.below hb2).one hlt
      obtain ⟨b2, o2, y, rfl, hb2', HY, hy0, hy1, hcy⟩ := (g.below hb2).one hlt
      have hxy := nm_bd (x * y)
      have hi0 : (0 : Int) ≤ (i : Int) := by omega
      have hin : (i : Int) < (n : Int) := by omega
      have hrk := ((k.below hb2).sub (lo := P) (k := t) hPm)
      obtain ⟨X, HX2⟩ : ∃ X, Hid (subA e0 f P = X) := ⟨_, rfl⟩
      rw [HX2.out] at hrk
      have hsl : ∀ W, (Instr.sliceAt 23 (.slice e0 m f) (some (.int .i64 (P : Int))) (some (.int .i64 ((P : Int) + (t : Int)))) none).run Try.prog W = .ok (.slice X t (f - P)) W := fun W => by rw [← HX2.out]; exact run_sub Try.underlying23 infoS1 e0 m f P t rfl rfl (by omega) W
      have HPC : Hid (nm (x * y) :: (ds.drop P).take t = prC t xs ys ds i) := by unfold Hid prC; rw [HX.out, HY.out, HP.out]
      have hsz2 := hb2.size
      have hwP : IntKind.i64.wrap (P : Int) = (P : Int) := wrap_i64 (by omega) (by omega)
      have hwPt : IntKind.i64.wrap ((P : Int) + (t : Int)) = (P : Int) + (t : Int) := wrap_i64 (by omega) (by omega)
      go_wp2
      go_region_law (first | (go_simp; go_at_call 47; refine (rMul _ _ _ (by omega) (by omega) (by omega) (by omega)).mono ?_; rintro en w' ⟨rfl, rfl⟩) | (go_simp; go_at_call 62; refine (rDealtO _ _ _ _ _ _ _ hrk.drew (by omega) (by omega) ht hn9).mono ?_; rintro en w3 ⟨vl, rfl, hol, hb3⟩))
      all_goals
        rw [HPC.out] at hol
        have hL3 := (hL2.drew).below hb3
        have hown3 := own_below (show w2.drew.ownsRow _ _ _ _ _ _ from hown2) hb3
        have hbw3 := hb2.drew.trans (hb3.mono hsz2)
        have hs23 : w2.heap.size ≤ w3.heap.size := hb3.size
        have hs3 := hbw3.size
        have HFar : Hid (Far L n w2.heap.size w3.heap.size) := fun p hp gg hgg => .inl (((hL2.row p (by rw [gti_len]; exact hp)).lt gg hgg).2)
        have HVl : Hid (∀ gg, vl.ownBlock = some gg → w2.heap.size ≤ gg ∧ gg < w3.heap.size) := fun gg hgg => hol.lt gg hgg
        rw [← gtj_zero] at hL3
        clear hrk hsl HPC hL2 hown2 hb2 hb3 hwP hwPt hP HX2
        go_wp2
        go_loopw [15] (fun q wr => ∃ (j : Nat) (L : List Value), j ≤ n ∧ q = .int .i64 j ∧ LsV wr w.heap.size (.slice (some ⟨w.heap.size, 0, none⟩) n n) L (gtj t xs ys ds n i j) ∧ Hid (Far L n w2.heap.size w3.heap.size) ∧ wr.ownsRow w2.heap.size 28 1 vl n ((dl (prC t xs ys ds i) n).map (Value.int .u64)) ∧ wr.ownsRow w.heap.size 3 1 v2 (i + 1) (zns (pty (i + 1))) ∧ w3.heap.size ≤ wr.heap.size ∧ Below w.heap.size w wr) (fun q _ => n - (intOf q).toNat)
        case atStart => exact ⟨0, L, Nat.zero_le _, rfl, hL3, HFar, hol, hown3, Nat.le_refl _, hbw3⟩
        case round =>
          clear hL3 HFar hol hown3 hbw3
          obtain ⟨j, L, hj, rfl, hL, HFar, hol, hoa, hsr, hbel⟩ := hrel
          by_cases hjn : j < n
          · have hgl := gtj_len t xs ys ds n i j
            obtain ⟨dg, fg, lg⟩ := hL.cell hgl hjn
            have hrow := hL.row j (by rw [hgl]; exact hjn)
            rw [gtj_getD t xs ys ds hjn, tmR_len] at hrow
            obtain ⟨z, HZ⟩ : ∃ z, Hid (dlf (prC t xs ys ds i) j = z) := ⟨_, rfl⟩
            obtain ⟨al, cl, rfl, hrl, _⟩ := Rd.own hol (bd_u64 (dl_bd _ _))
            obtain ⟨b3, o3, z', rfl, hb3', HZ', hz0', hz1', hcz⟩ := hrl.one hjn
            obtain rfl : z = z' := by rw [← HZ.out, ← HZ'.out, dl_getD _ hjn]
            have HTR : Hid (tmR t xs ys ds i j ++ [z] = tmR t xs ys ds (i + 1) j) := by unfold Hid; rw [← HZ.out, tmR_snoc]
            obtain ⟨u, HU⟩ : ∃ u, Hid (L.getD j (.slice none 0 0) = u) := ⟨_, rfl⟩
            rw [HU.out] at dg hrow
            have hrowD : wr.drew.ownsRow w.heap.size 28 1 u i ((tmR t xs ys ds i j).map (Value.int .u64)) := hrow
            obtain ⟨ua, uc, rfl, huc⟩ := own_slice hrow
            have hsw := hbel.size
            have HST : Hid (∀ w7, wr.drew.grownBy w7 (Value.slice ua i uc).ownBlock → (∃ x, w7.cell? ⟨w.heap.size, j, none⟩ = some x) ∧ w7.frozen? ⟨w.heap.size, j, none⟩ = false) := fun w7 hg => by
              have ho7 := (show wr.drew.ownsRow _ _ _ _ _ _ from hL.own).kept hg (own_apart hrowD (show wr.drew.ownsRow _ _ _ _ _ _ from hL.own) (by decide))
              rw [hgl] at ho7
              obtain ⟨g', x, e1, _, _, _, e5⟩ := own_at ho7 hjn
              simp only [Option.some.injEq, Addr.mk.injEq, and_true] at e1
              subst e1
              exact ⟨⟨x, e5⟩, own_frozen ho7 j⟩
            have HUP : Hid (∀ g7 cap7 w7, w7.ownsRow w.heap.size 28 1 (.slice (some ⟨g7, 0, none⟩) (i + 1) cap7) (i + 1) ((tmR t xs ys ds (i + 1) j).map (Value.int .u64)) → wr.drew.grownBy w7 (Value.slice ua i uc).ownBlock → ((Value.slice (some ⟨g7, 0, none⟩) (i + 1) cap7).ownBlock = (Value.slice ua i uc).ownBlock ∨ ∃ k, (Value.slice (some ⟨g7, 0, none⟩) (i + 1) cap7).ownBlock = some k ∧ wr.drew.heap.size ≤ k) →
                LsV (w7.setCell ⟨w.heap.size, j, none⟩ (.slice (some ⟨g7, 0, none⟩) (i + 1) cap7)) w.heap.size (.slice (some ⟨w.heap.size, 0, none⟩) n n) (L.set j (.slice (some ⟨g7, 0, none⟩) (i + 1) cap7)) (gtj t xs ys ds n i (j + 1)) ∧ Far (L.set j (.slice (some ⟨g7, 0, none⟩) (i + 1) cap7)) n w2.heap.size w3.heap.size ∧
                (w7.setCell ⟨w.heap.size, j, none⟩ (.slice (some ⟨g7, 0, none⟩) (i + 1) cap7)).ownsRow w2.heap.size 28 1 (.slice (some ⟨b3, o3, none⟩) n cl) n ((dl (prC t xs ys ds i) n).map (Value.int .u64)) ∧ (w7.setCell ⟨w.heap.size, j, none⟩ (.slice (some ⟨g7, 0, none⟩) (i + 1) cap7)).ownsRow w.heap.size 3 1 v2 (i + 1) (zns (pty (i + 1))) ∧ w3.heap.size ≤ (w7.setCell ⟨w.heap.size, j, none⟩ (.slice (some ⟨g7, 0, none⟩) (i + 1) cap7)).heap.size ∧ Below w.heap.size w (w7.setCell ⟨w.heap.size, j, none⟩ (.slice (some ⟨g7, 0, none⟩) (i + 1) cap7))) := fun g7 cap7 w7 ho hg hat => by
              have hLd := hL.drew
              have hu := hLd.upd (q := j) (row := tmR t xs ys ds (i + 1) j) (u' := .slice (some ⟨g7, 0, none⟩) (i + 1) cap7) hgl hjn (by rw [tmR_len]; exact ho) (by rw [HU.out]; exact hg) (by rw [HU.out]; exact hat)
              rw [gtj_set] at hu
              have hLl := hL.len
              have hg2 : w7.grownBy (w7.setCell ⟨w.heap.size, j, none⟩ (.slice (some ⟨g7, 0, none⟩) (i + 1) cap7)) (some w.heap.size) := grown_set _ _ _ _
              have hb7 : Below w.heap.size w w7 := hbel.drew.grown hg hsw (fun q hq => (hrow.lt q hq).1)
              have ho7 := (show wr.drew.ownsRow _ _ _ _ _ _ from hL.own).kept hg (own_apart hrowD (show wr.drew.ownsRow _ _ _ _ _ _ from hL.own) (by decide))
              have hlk : w7.ownsRow w2.heap.size 28 1 (.slice (some ⟨b3, o3, none⟩) n cl) n ((dl (prC t xs ys ds i) n).map (Value.int .u64)) := by
                refine (show wr.drew.ownsRow _ _ _ _ _ _ from hol).kept hg ?_
                right
                intro e
                cases hb : (Value.slice ua i uc).ownBlock with
                | none => rw [hb] at e; simp [Value.ownBlock] at e
                | some gg =>
                  rw [hb] at e
                  have h1 := HVl.out gg e
                  have h2 := HFar.out j hjn gg (by rw [HU.out]; exact hb)
                  omega
              have hak := (show wr.drew.ownsRow _ _ _ _ _ _ from hoa).kept hg (own_apart hrowD (show wr.drew.ownsRow _ _ _ _ _ _ from hoa) (by decide))
              refine ⟨hu, fun p hp gg hgg => ?_, hlk.kept hg2 (own_apart ho7 hlk (by decide)), hak.kept hg2 (own_apart ho7 hak (by decide)), ?_, hb7.setCell (p := ⟨w.heap.size, j, none⟩) (Nat.le_refl _) _⟩
              · rw [getD_setV _ _ _ _ _ (by rw [hLl, hgl]; exact hjn)] at hgg
                split at hgg
                · rcases hat with e | ⟨k, e, hk⟩
                  · rw [e] at hgg
                    exact HFar.out j hjn gg (by rw [HU.out]; exact hgg)
                  · rw [e] at hgg
                    obtain rfl := Option.some.inj hgg
                    right
                    exact Nat.le_trans hsr hk
                · exact HFar.out p hp gg hgg
              · exact Nat.le_trans hsr (Nat.le_trans hg.size hg2.size)
            have hj0 : (0 : Int) ≤ (j : Int) := by omega
            have hjni : (j : Int) < (n : Int) := by omega
            clear hL hol hoa HFar hbel hrow
            go_wp2
            go_region_law (refine step_appL Try.underlying23 info28 wr.drew rfl _ _ rfl w.heap.size _ _ _ rfl hrowD z rfl rfl (by omega) (by exact hsw) ?_; intro g7 cap7 w7 ho7 hgr7 hat7; rw [HTR.out] at ho7; obtain ⟨⟨xx, dd⟩, ff⟩ := HST.out w7 hgr7; have hl7 := World.block_lt_of_cell? w7 _ dd; have HE : Hid (_ ∧ _) := HUP.out g7 cap7 w7 ho7 hgr7 hat7; clear ho7 hgr7 hat7)
            all_goals
              clear HST HUP hrowD
              go_wp2
              go_roundw
              case rel => exact ⟨j + 1, _, by omega, by go_num, HE.out.1, HE.out.2.1, HE.out.2.2.1, HE.out.2.2.2.1, HE.out.2.2.2.2.1, HE.out.2.2.2.2.2⟩
              case measure => simp [intOf]; omega
          · have hjn2 : j = n := by omega
            subst hjn2
            rw [gtj_full] at hL
            go_wp2
            go_roundw
            case rel => exact ⟨i + 1, L, by omega, by go_num, hoa, hL, hbel⟩
            case measure => simp [intOf]; omega
    · have hin : i = n := by omega
      subst hin
      obtain ⟨aw, cw, rfl, hri⟩ := RdI.own hown (fun x hx => by
        obtain ⟨q, hq, rfl⟩ := List.mem_map.1 hx
        have := List.mem_range.1 hq
        omega)
      clear hown
      go_wp2_with fail
      refine (rWeights _ _ _ _ _ hri (pty_dis hn9)).mono ?_
      rintro e w2 ⟨a2, c2, rfl, hr2, hb2⟩
      have hL2 := hL.below hb2
      have hbw2 := hbel.trans (hb2.mono hs1)
      have hgl := gti_len t xs ys ds i i
      have hs2 := hbw2.size
      clear hL hbel hb2 hri
      go_wp2
      go_loopw [17, 18] (fun v q wr => ∃ j : Nat, j ≤ i ∧ q = .int .i64 j ∧ wr.ownsRow w2.heap.size 28 1 v j ((tmO t xs ys ds i j).map (Value.int .u64)) ∧ Below w2.heap.size w2 wr) (fun _ q _ => i - (intOf q).toNat)
      case atStart => exact ⟨0, Nat.zero_le _, rfl, World.ownsRow_nil _ _ _ _, Below.refl _ _⟩
      case round =>
        obtain ⟨j, hj, rfl, hown, hb3⟩ := hrel
        obtain ⟨wo, hwo⟩ : ∃ wo, wo = wr := ⟨_, rfl⟩
        subst hwo
        have hs3 := hb3.size
        by_cases hji : j < i
        · have hL3 := hL2.below hb3
          have hr3 := hr2.below hb3
          obtain ⟨dg, _, lg⟩ := hL3.cell hgl hji
          obtain ⟨ar, cr, er, hrr⟩ := hL3.one hgl hji (by rw [gti_getD t xs ys ds hji]; exact bd_u64 (tmR_bd _ _ _ _ _ _))
          rw [er] at dg
          rw [gti_getD t xs ys ds hji, tmR_len] at hrr dg
          clear er hL3
          go_wp2
          go_loopw [19, 20] (fun v q wr => ∃ (p nd : Nat) (y : Int), p ≤ i ∧ q = .int .i64 p ∧ v = .int .u64 y ∧ 0 ≤ y ∧ y ≤ 2147483646 ∧ Hid (y = nm (sm (fun i' => wt (pty i) i i' * dlf (prC t xs ys ds i') j) p)) ∧ wr = wo.drewN nd) (fun _ q _ => i - (intOf q).toNat)
          case atStart => exact ⟨0, 0, 0, Nat.zero_le _, rfl, rfl, by omega, by omega, rfl, rfl⟩
          case round =>
            obtain ⟨p, nd, y, hp, rfl, rfl, hy0, hy1, HY, hw⟩ := hrel
            have HW : Hid (wr = wo.drewN nd) := hw
            have hbd : Below wo.heap.size wo wr := by rw [hw]; exact drewN_below (Below.refl _ _) nd
            have dgr : wr.cell? ⟨w.heap.size, j, none⟩ = some (.slice ar i cr) := by rw [hbd.cell (p := ⟨w.heap.size, j, none⟩) lg]; exact dg
            have lgr : w.heap.size < wr.heap.size := Nat.lt_of_lt_of_le lg hbd.size
            clear hw
            by_cases hpi : p < i
            · obtain ⟨b1, o1, x1, rfl, hbb1, HX1, hx10, hx11, hc1⟩ := (hr3.below hbd).one hpi
              obtain ⟨b2, o2, x2, rfl, hbb2, HX2, hx20, hx21, hc2⟩ := (hrr.below hbd).one hpi
              have hmul := nm_bd (x1 * x2)
              have HV : Hid (nm (y + nm (x1 * x2)) = nm (sm (fun i' => wt (pty i) i i' * dlf (prC t xs ys ds i') j) (p + 1))) := by
                unfold Hid
                rw [sm, ← HX1.out, ← HX2.out, tmR_getD t xs ys ds j hpi, HY.out, nm_addl, nm_addr]
                unfold wtl
                rw [map_getDN hpi]
              have hp0 : (0 : Int) ≤ (p : Int) := by omega
              have hpii : (p : Int) < (i : Int) := by omega
              have hj0 : (0 : Int) ≤ (j : Int) := by omega
              have hjii : (j : Int) < (i : Int) := by omega
              go_wp2
              go_quiet ((first | (go_at_call 47; exact Calls.quiet_of_same (rMul _ _ _ (by omega) (by omega) (by omega) (by omega))) | (go_at_call 46; exact Calls.quiet_of_same (rAdd _ _ _ (by omega) (by omega) (by omega) (by omega)))))
              all_goals
                go_wp2
                go_roundw
                case rel => exact ⟨p + 1, _, _, by omega, by go_num, rfl, (nm_bd _).1, (nm_bd _).2, HV, by rw [HW.out, World.drewN_drewN]⟩
                case measure => simp [intOf]; omega
            · have hpi2 : p = i := by omega
              subst hpi2
              have HO : Hid (tmO t xs ys ds p j ++ [y] = tmO t xs ys ds p (j + 1)) := by
                unfold Hid
                rw [HY.out]
                exact tmO_snoc t xs ys ds p j
              have hownr := own_below hown hbd
              have hb4 := hb3.trans (hbd.mono hs3)
              have hs4 := hb4.size
              clear hown hb3 hbd dgr dg HY
              go_wp2_with (at_builtin; refine wpList_app1 Try.underlying23 info28 _ rfl _ _ rfl w2.heap.size _ _ _ rfl hownr _ rfl (by omega) (by omega) ?_; intro v' w7 hown7 hbel7; rw [HO.out] at hown7; have hbel8 := hb4.trans hbel7; clear hbel7 hownr hb4)
              go_roundw
              case rel => exact ⟨j + 1, by omega, by go_num, hown7, hbel8⟩
              case measure => simp [intOf]; omega
        · have hji2 : j = i := by omega
          subst hji2
          have hLE := hL2.below hb3
          have hbE := hbw2.trans (hb3.mono hs2)
          have hoE := own_base hown hs2
          have HG : Hid (gti t xs ys ds j j = tmG t xs ys ds j) := rfl
          rw [HG.out] at hLE
          go_wp2
          go_ret2
          exact ⟨_, _, L, rfl, hoE, hLE, hbE⟩
end Go.Proofs.Ytfonochdnmddlab

namespace Go.Proofs.Ytfonochdnmddlab
open Go.RowKit Crm

/-- Slices of which the lengths are read. -/
structure RdL (w : World) (g k : Nat) (ns : List Nat) : Prop where
  len : ns.length = k
  lt : g < w.heap.size
  cell : ∀ i, i < k → ∃ ai ci, w.cell? ⟨g, i, none⟩ = some (.slice ai (ns.getD i 0) ci)
theorem rdL_one (w : World) (a : Option Addr) (n c : Nat) (E : TypeId) : RdL (w.alloc (.cells #[.slice a n c] E)) w.heap.size 1 [n] := by
  refine ⟨rfl, by simp, fun i hi => ?_⟩
  obtain rfl : i = 0 := by omega
  exact ⟨a, c, by rw [cell_of_row _ _ 0 _ E (0, 0) (heap_alloc_new w _)]; rfl⟩
theorem rdL_two (w : World) (a : Option Addr) (n c : Nat) (b : Option Addr) (m d : Nat) (E : TypeId) : RdL (w.alloc (.cells #[.slice a n c, .slice b m d] E)) w.heap.size 2 [n, m] := by
  refine ⟨rfl, by simp, fun i hi => ?_⟩
  match i, hi with
  | 0, _ => exact ⟨a, c, by rw [cell_of_row _ _ 0 _ E (0, 0) (heap_alloc_new w _)]; rfl⟩
  | 1, _ => exact ⟨b, d, by rw [cell_of_row _ _ 1 _ E (0, 0) (heap_alloc_new w _)]; rfl⟩
theorem RdL.below {w w' : World} {g k : Nat} {ns : List Nat} (h : RdL w g k ns) (hb : Below w.heap.size w w') : RdL w' g k ns := by
  refine ⟨h.len, Nat.lt_of_lt_of_le h.lt hb.size, fun i hi => ?_⟩
  obtain ⟨a, c, e⟩ := h.cell i hi
  exact ⟨a, c, by rw [hb.cell (World.block_lt_of_cell? w _ e)]; exact e⟩
/-- Lists of 1 to 9 numbers, all as long. -/
def Wk (ns : List Nat) (k : Nat) : Prop := (1 ≤ ns.getD 0 0 ∧ ns.getD 0 0 ≤ 9) ∧ ∀ i, i < k → ns.getD i 0 = ns.getD 0 0

set_option maxRecDepth 100000 in
set_option maxHeartbeats 1000000 in
theorem rWire (g k : Nat) (ns : List Nat) (w : World) (h : RdL w g k ns) (hk0 : 0 < k) (hk : k ≤ 100) (hm : ∀ i, ns.getD i 0 ≤ 9223372036854775807) :
    Calls Try.prog 26 #[.slice (some ⟨g, 0, none⟩) k k] w fun e w' => Tells (Wk ns k) w e w' := by
  have hgl := h.lt
  obtain ⟨a0, c0, hc0⟩ := h.cell 0 hk0
  obtain ⟨N, HN⟩ : ∃ N, Hid (ns.getD 0 0 = N) := ⟨_, rfl⟩
  have hN := hm 0
  rw [HN.out] at hc0 hN
  have HM : Hid (∀ i, ns.getD i 0 ≤ 9223372036854775807) := hm
  clear hm
  go_enter Try.func26, Try.ntmps26
  obtain ⟨b0, hb0, HB0⟩ : ∃ b0, b0 = decide (1 ≤ N ∧ N ≤ 9) ∧ Hid (b0 = true ↔ (1 ≤ N ∧ N ≤ 9)) := ⟨_, rfl, by unfold Hid; simp⟩
  by_cases hin : (N : Int) < 1 ∨ 9 < (N : Int)
  · have HF : Hid ((N : Int) < 1 ∨ 9 < (N : Int)) := hin
    have HX : Hid (¬ Wk ns k) := fun e => by have := e.1; rw [HN.out] at this; omega
    clear hin hb0 HB0
    go_wp2_with (go_at_call 16; refine (rInN _ _ _ _ HF.out).mono ?_; rintro e w' ⟨rfl, hw⟩; have hw := hw.symm; subst hw)
    go_loopw [3, 4] (fun v q wr => ∃ i : Nat, i ≤ k ∧ q = .int .i64 i ∧ v = .bool false ∧ Below w.heap.size w wr) (fun _ q _ => k - (intOf q).toNat)
    case atStart => exact ⟨0, Nat.zero_le _, rfl, rfl, Below.refl _ _⟩
    case round =>
      obtain ⟨i, hi, rfl, rfl, hbel⟩ := hrel
      by_cases hlt : i < k
      · go_wp2_with fail
        go_quiet (fail)
        all_goals
          go_wp2
          go_roundw
          case rel => exact ⟨i + 1, by omega, by go_num, rfl, drewN_below hbel _⟩
          case measure => simp [intOf]; omega
      · have hik : i = k := by omega
        subst hik
        go_wp2
        go_ret
        exact .no HX.out hbel
  · clear hb0 HB0
    have hi1 : (1 : Int) ≤ (N : Int) := by omega
    have hi9 : (N : Int) ≤ 9 := by omega
    clear hin
    go_wp2_with (go_at_call 16; refine (rInY _ _ _ _ hi1 hi9).mono ?_; rintro e w' ⟨rfl, hw⟩; have hw := hw.symm; subst hw)
    go_loopw [3, 4] (fun v q wr => ∃ (i : Nat) (b : Bool), i ≤ k ∧ q = .int .i64 i ∧ v = .bool b ∧ Hid (b = true ↔ ∀ j, j < i → ns.getD j 0 = N) ∧ Below w.heap.size w wr) (fun _ q _ => k - (intOf q).toNat)
    case atStart => exact ⟨0, true, Nat.zero_le _, rfl, rfl, ⟨fun _ j hj => by omega, fun _ => rfl⟩, Below.refl _ _⟩
    case round =>
      obtain ⟨i, b, hi, rfl, rfl, HB, hbel⟩ := hrel
      by_cases hlt : i < k
      · cases b with
        | false =>
          have HB2 : Hid (false = true ↔ ∀ j, j < i + 1 → ns.getD j 0 = N) := ⟨fun e => (by cases e), fun e => HB.out.2 fun j hj => e j (by omega)⟩
          clear HB
          go_wp2_with fail
          go_quiet (fail)
          all_goals
            go_wp2
            go_roundw
            case rel => exact ⟨i + 1, false, by omega, by go_num, rfl, HB2, drewN_below hbel _⟩
            case measure => simp [intOf]; omega
        | true =>
          have hR := h.below hbel
          have hgr := hR.lt
          obtain ⟨ai, ci, hci⟩ := hR.cell i hlt
          have hc0r : wr.cell? ⟨g, 0, none⟩ = some (.slice a0 N c0) := by rw [hbel.cell (p := ⟨g, 0, none⟩) hgl]; exact hc0
          obtain ⟨M, HMi⟩ : ∃ M, Hid (ns.getD i 0 = M) := ⟨_, rfl⟩
          have hM := HM.out i
          rw [HMi.out] at hci hM
          by_cases hMN : M = N
          · have hmb : ((M : Int) == (N : Int)) = true := by rw [beq_iff_eq]; omega
            have HB2 : Hid (∀ j, j < i + 1 → ns.getD j 0 = N) := fun j hj => by
              by_cases e : j = i
              · rw [e, HMi.out]; exact hMN
              · exact HB.out.1 rfl j (by omega)
            clear hMN HB
            go_wp2_with fail
            go_quiet (fail)
            all_goals
              go_wp2
              go_roundw
              case rel => exact ⟨i + 1, true, by omega, by go_num, rfl, ⟨fun _ => HB2.out, fun _ => rfl⟩, drewN_below hbel _⟩
              case measure => simp [intOf]; omega
          · have hmb : ((M : Int) == (N : Int)) = false := by rw [beq_eq_false_iff_ne]; omega
            have HB2 : Hid (false = true ↔ ∀ j, j < i + 1 → ns.getD j 0 = N) := ⟨fun e => (by cases e), fun e => absurd (e i (by omega)) (by rw [HMi.out]; exact hMN)⟩
            clear hMN HB
            go_wp2_with fail
            go_quiet (fail)
            all_goals
              go_wp2
              go_roundw
              case rel => exact ⟨i + 1, false, by omega, by go_num, rfl, HB2, drewN_below hbel _⟩
              case measure => simp [intOf]; omega
      · have hik : i = k := by omega
        subst hik
        have HE : Hid (b = true ↔ Wk ns i) := by
          unfold Hid
          rw [HB.out]
          unfold Wk
          rw [HN.out]
          exact ⟨fun e => ⟨⟨by omega, by omega⟩, e⟩, fun e => e.2⟩
        clear HB
        go_wp2
        go_ret
        exact ⟨b, rfl, HE.out, hbel⟩
end Go.Proofs.Ytfonochdnmddlab
