/- Reckoning with shares: plain facts. · croftref.Times. · What the calls of package gate answer. · Package gate: wires, reckonBoth, reckonEach, and Add, Sub, Scale, Plus by them. · gate.weigh. -/
import Derived.Test.YtljlioglpaogdabToRefWtC
import Derived.Test.YtljlioglpaogdabToSubC
import Derived.Test.YtljlioglpaogdabToCheckC
import Derived.Test.YtljlioglpaogdabToGaussM
import Derived.Test.YtljlioglpaogdabProg
import Derived.Laws.CopyOwn
import Derived.Test.YtljlioglpaogdabToLsV2
import Derived.BigQuiet
import Derived.Test.YtljlioglpaogdabToSameLC
import Derived.Deep.RegionWith
namespace Go.Proofs.Ytljlioglpaogdab
set_option linter.unusedVariables false
set_option maxRecDepth 100000
set_option maxHeartbeats 8000000
section
open Crm
/-- The parties' numbers. -/
def pty (n : Nat) : List Int := (List.range n).map fun i : Nat => (i : Int) + 1
theorem pty_getD {n i : Nat} (h : i < n) : (pty n).getD i 0 = (i : Int) + 1 := by simp [pty, h]
theorem pty_snoc (n : Nat) : pty n ++ [(n : Int) + 1] = pty (n + 1) := by simp [pty, List.range_succ]
theorem pty_dis {n : Nat} (h : n ≤ 9) : dis (fi (pty n)) n := fun i hi => by
  unfold fi
  rw [pty_getD hi]
  exact ⟨⟨by omega, by omega⟩, fun j hj => by rw [pty_getD (show j < n by omega)]; omega⟩

/-- What party i deals: the product of its numbers, and its draws. -/
def prC (t : Nat) (a b ds : List Int) (i : Nat) : List Int := nm (a.getD i 0 * b.getD i 0) :: (ds.drop (i * t)).take t
/-- What party j was dealt by the first k. -/
def tmR (t : Nat) (a b ds : List Int) (k j : Nat) : List Int := (List.range k).map fun i => dlf (prC t a b ds i) j
theorem tmR_len (t : Nat) (a b ds : List Int) (k j : Nat) : (tmR t a b ds k j).length = k := by simp [tmR]
theorem tmR_getD (t : Nat) (a b ds : List Int) {k i : Nat} (j : Nat) (h : i < k) : (tmR t a b ds k j).getD i 0 = dlf (prC t a b ds i) j := by simp [tmR, h]
theorem tmR_snoc (t : Nat) (a b ds : List Int) (k j : Nat) : tmR t a b ds k j ++ [dlf (prC t a b ds k) j] = tmR t a b ds (k + 1) j := by simp [tmR, List.range_succ]
theorem tmR_bd (t : Nat) (a b ds : List Int) (k j : Nat) : ∀ z ∈ tmR t a b ds k j, 0 ≤ z ∧ z ≤ 2147483646 := by
  intro z hz
  obtain ⟨i, _, rfl⟩ := List.mem_map.1 hz
  exact dlf_bd _ _
/-- What all were dealt, party by party. -/
def tmG (t : Nat) (a b ds : List Int) (n : Nat) : List (List Int) := (List.range n).map fun j => tmR t a b ds n j
theorem tmG_len (t : Nat) (a b ds : List Int) (n : Nat) : (tmG t a b ds n).length = n := by simp [tmG]
theorem tmG_getD (t : Nat) (a b ds : List Int) {n j : Nat} (h : j < n) : (tmG t a b ds n).getD j [] = tmR t a b ds n j := by simp [tmG, h]
/-- Party j's number of the product. -/
def tmf (t : Nat) (a b ds : List Int) (n j : Nat) : Int := nm (sm (fun i => wt (pty n) n i * dlf (prC t a b ds i) j) n)
def tmO (t : Nat) (a b ds : List Int) (n k : Nat) : List Int := (List.range k).map (tmf t a b ds n)
theorem tmO_snoc (t : Nat) (a b ds : List Int) (n k : Nat) : tmO t a b ds n k ++ [tmf t a b ds n k] = tmO t a b ds n (k + 1) := by simp [tmO, List.range_succ]
theorem tmO_bd (t : Nat) (a b ds : List Int) (n k : Nat) : ∀ z ∈ tmO t a b ds n k, 0 ≤ z ∧ z ≤ 2147483646 := by
  intro z hz
  obtain ⟨i, _, rfl⟩ := List.mem_map.1 hz
  exact nm_bd _
end
section
open Crm Go.RowKit
theorem infoVs : (Try.prog.info? 23).map (fun i => (i.zero, i.size, i.bytes)) = some (some (.slice none 0 0), 1, 24) := by kernel_rfl

theorem wrap_i64 {x : Int} (h0 : -1000000 ≤ x) (h1 : x ≤ 1000000) : IntKind.i64.wrap x = x := by
  unfold IntKind.wrap
  simp [IntKind.signed, IntKind.bits]
  omega
/-- Rows that lie elsewhere. -/
def Far (L : List Value) (n lo hi : Nat) : Prop := ∀ p, p < n → ∀ gg, (L.getD p (.slice none 0 0)).ownBlock = some gg → gg < lo ∨ hi ≤ gg
theorem map_getDN {f : Nat → Int} {m i : Nat} (h : i < m) : ((List.range m).map f).getD i 0 = f i := by simp [h]
theorem infoS1 : (Try.prog.info? 28).map (·.size) = some 1 := by kernel_rfl
/-- What all were dealt by the first i. -/
def gti (t : Nat) (xs ys ds : List Int) (n i : Nat) : List (List Int) := (List.range n).map fun j => tmR t xs ys ds i j
theorem gti_len (t : Nat) (xs ys ds : List Int) (n i : Nat) : (gti t xs ys ds n i).length = n := by simp [gti]
theorem gti_zero (t : Nat) (xs ys ds : List Int) (n : Nat) : List.replicate n [] = gti t xs ys ds n 0 := by
  apply List.ext_getElem?
  intro i
  by_cases hi : i < n
  · simp [gti, tmR, hi]
  · simp [gti, hi]
/-- .. and the first j of them by one more. -/
def gtj (t : Nat) (xs ys ds : List Int) (n i j : Nat) : List (List Int) := (List.range n).map fun p => if p < j then tmR t xs ys ds (i + 1) p else tmR t xs ys ds i p
theorem gtj_len (t : Nat) (xs ys ds : List Int) (n i j : Nat) : (gtj t xs ys ds n i j).length = n := by simp [gtj]
theorem gtj_zero (t : Nat) (xs ys ds : List Int) (n i : Nat) : gtj t xs ys ds n i 0 = gti t xs ys ds n i := by simp [gtj, gti]
theorem gtj_full (t : Nat) (xs ys ds : List Int) (n i : Nat) : gtj t xs ys ds n i n = gti t xs ys ds n (i + 1) := by
  unfold gtj gti
  refine List.map_congr_left fun p hp => ?_
  rw [if_pos (List.mem_range.1 hp)]
theorem gtj_getD (t : Nat) (xs ys ds : List Int) {n i j : Nat} (h : j < n) : (gtj t xs ys ds n i j).getD j [] = tmR t xs ys ds i j := by simp [gtj, h]
theorem gti_getD (t : Nat) (xs ys ds : List Int) {n i j : Nat} (h : j < n) : (gti t xs ys ds n i).getD j [] = tmR t xs ys ds i j := by simp [gti, h]
theorem gtj_set (t : Nat) (xs ys ds : List Int) (n i j : Nat) : (gtj t xs ys ds n i j).set j (tmR t xs ys ds (i + 1) j) = gtj t xs ys ds n i (j + 1) := by
  apply List.ext_getElem?
  intro q
  rw [List.getElem?_set]
  by_cases hq : q < n
  · by_cases e : j = q
    · subst e; simp [gtj, hq]
    · have : (q < j + 1) = (q < j) := by apply propext; omega
      simp [gtj, hq, e, this]
  · by_cases e : j = q
    · subst e; simp [gtj, hq]
    · simp [gtj, hq, e]

theorem rTimes (t : Nat) (a : Option Addr) (n c : Nat) (xs : List Int) (b : Option Addr) (d : Nat) (ys : List Int) (e0 : Option Addr) (m f : Nat) (ds : List Int) (w : World) (h : Rd w a n c xs) (g : Rd w b n d ys) (k : Rd w e0 m f ds) (ht : t ≤ 4) (hn1 : 1 ≤ n) (hn9 : n ≤ 9) (hm : m = n * t) :
    Calls Try.prog 32 #[.int .i64 t, .slice a n c, .slice b n d, .slice e0 m f] w fun e w' => ∃ v u L, e = .returned (.tuple #[v, u]) ∧ w'.ownsRow w.heap.size 28 1 v n ((tmO t xs ys ds n n).map (Value.int .u64)) ∧ LsV w' w.heap.size u L (tmG t xs ys ds n) ∧ Below w.heap.size w w' := by
  obtain ⟨i0, hi, hz0, hz1, hz2⟩ := info_parts infoVs
  have HM : Hid (m = n * t) := hm
  clear hm
  go_enter Try.func32, Try.ntmps32
  go_wp2_with (at_make; refine wpList_make_full _ rfl _ _ 60 rfl w.heap.size 23 i0 (.slice none 0 0) 1 Try.underlying60 hi hz0 hz1 .i64 .i64 _ _ n rfl rfl (by omega) (by omega) (by rw [hz2]; omega) (by unfold maxLen; omega) (Nat.le_refl _) ?_; intro w1 hown hgrow)
  have hb1 : Below w.heap.size w w1 := (Below.refl _ _).grown hgrow (Nat.le_refl _) (by simp)
  have hL1 := lsv_made hown
  rw [gti_zero t xs ys ds n] at hL1
  clear hown hgrow
  go_loopw [12, 13] (fun v q wr => ∃ (i : Nat) (L : List Value), i ≤ n ∧ q = .int .i64 i ∧ wr.ownsRow w.heap.size 3 1 v i (zns (pty i)) ∧ LsV wr w.heap.size (.slice (some ⟨w.heap.size, 0, none⟩) n n) L (gti t xs ys ds n i) ∧ Below w.heap.size w wr) (fun _ q _ => n - (intOf q).toNat)
  case atStart => exact ⟨0, _, Nat.zero_le _, rfl, World.ownsRow_nil _ _ _ _, hL1, hb1⟩
  case round =>
    clear hL1 hb1
    obtain ⟨i, L, hi, rfl, hown, hL, hbel⟩ := hrel
    have hs1 := hbel.size
    by_cases hlt : i < n
    · have HA1 : Hid (∀ w', wr.grownBy w' u12.ownBlock → LsV w' w.heap.size (.slice (some ⟨w.heap.size, 0, none⟩) n n) L (gti t xs ys ds n i)) := fun w' hg => hL.grown hg (own_apart hown hL.own (by decide)) (fun j hj => own_apart hown (hL.row j hj) (by decide))
      have HSn : Hid (zns (pty i) ++ [.int .i64 ((i : Int) + 1)] = zns (pty (i + 1))) := by unfold Hid; rw [zns_snoc, pty_snoc]
      go_wp2_with (at_builtin; refine wpList_appV Try.underlying24 infoZ rfl (by omega) _ rfl _ _ rfl w.heap.size _ _ _ rfl hown (.int .i64 ((i : Int) + 1)) rfl rfl (by omega) hs1 ?_; intro v2 w2 hown2 hgr2 _; rw [HSn.out] at hown2; have hL2 := HA1.out w2 hgr2; have hb2 := hbel.grown hgr2 hs1 (fun q hq => (hown.lt q hq).1); clear hgr2 hown hL hbel HA1)
      obtain ⟨P, HP⟩ : ∃ P, Hid (i * t = P) := ⟨_, rfl⟩
      have hP : (i : Int) * (t : Int) = (P : Int) := by rw [← HP.out]; push_cast; rfl
      have hPm : P + t ≤ m := by
        have h1 : (i + 1) * t ≤ n * t := Nat.mul_le_mul_right t hlt
        rw [Nat.add_mul, Nat.one_mul, HP.out, ← HM.out] at h1
        exact h1
      have hm36 : m ≤ 36 := by rw [HM.out]; exact Nat.le_trans (Nat.mul_le_mul hn9 ht) (by omega)
      have hkc := k.cap
      obtain ⟨b1, o1, x, rfl, hb1, HX, hx0, hx1, hcx⟩ := (h.below hb2).one hlt
      obtain ⟨b2, o2, y, rfl, hb2', HY, hy0, hy1, hcy⟩ := (g.below hb2).one hlt
      have hxy := nm_bd (x * y)
      have hi0 : (0 : Int) ≤ (i : Int) := by omega
      have hin : (i : Int) < (n : Int) := by omega
      have hrk := ((k.below hb2).sub (lo := P) (k := t) hPm)
      obtain ⟨X, HX2⟩ : ∃ X, Hid (subA e0 f P = X) := ⟨_, rfl⟩
      rw [HX2.out] at hrk
      have hsl : ∀ W, (Instr.sliceAt 23 (.slice e0 m f) (some (.int .i64 (P : Int))) (some (.int .i64 ((P : Int) + (t : Int)))) none).run Try.prog W = .ok (.slice X t (f - P)) W := fun W => by rw [← HX2.out]; exact run_sub Try.underlying23 infoS1 e0 m f P t rfl rfl (by omega) W
      have HPC : Hid (nm (x * y) :: (ds.drop P).take t = prC t xs ys ds i) := by unfold Hid prC; rw [HX.out, HY.out, HP.out]
      have hsz2 := hb2.size
      have hwP : IntKind.i64.wrap (P : Int) = (P : Int) := wrap_i64 (by omega) (by omega)
      have hwPt : IntKind.i64.wrap ((P : Int) + (t : Int)) = (P : Int) + (t : Int) := wrap_i64 (by omega) (by omega)
      go_wp2
      go_region_law (first | (go_simp; go_at_call 47; refine (rMul _ _ _ (by omega) (by omega) (by omega) (by omega)).mono ?_; rintro en w' ⟨rfl, rfl⟩) | (go_simp; go_at_call 62; refine (rDealtO _ _ _ _ _ _ _ hrk.drew (by omega) (by omega) ht hn9).mono ?_; rintro en w3 ⟨vl, rfl, hol, hb3⟩))
      all_goals
        rw [HPC.out] at hol
        have hL3 := (hL2.drew).below hb3
        have hown3 := own_below (show w2.drew.ownsRow _ _ _ _ _ _ from hown2) hb3
        have hbw3 := hb2.drew.trans (hb3.mono hsz2)
        have hs23 : w2.heap.size ≤ w3.heap.size := hb3.size
        have hs3 := hbw3.size
        have HFar : Hid (Far L n w2.heap.size w3.heap.size) := fun p hp gg hgg => .inl (((hL2.row p (by rw [gti_len]; exact hp)).lt gg hgg).2)
        have HVl : Hid (∀ gg, vl.ownBlock = some gg → w2.heap.size ≤ gg ∧ gg < w3.heap.size) := fun gg hgg => hol.lt gg hgg
        rw [← gtj_zero] at hL3
        clear hrk hsl HPC hL2 hown2 hb2 hb3 hwP hwPt hP HX2
        go_wp2
        go_loopw [15] (fun q wr => ∃ (j : Nat) (L : List Value), j ≤ n ∧ q = .int .i64 j ∧ LsV wr w.heap.size (.slice (some ⟨w.heap.size, 0, none⟩) n n) L (gtj t xs ys ds n i j) ∧ Hid (Far L n w2.heap.size w3.heap.size) ∧ wr.ownsRow w2.heap.size 28 1 vl n ((dl (prC t xs ys ds i) n).map (Value.int .u64)) ∧ wr.ownsRow w.heap.size 3 1 v2 (i + 1) (zns (pty (i + 1))) ∧ w3.heap.size ≤ wr.heap.size ∧ Below w.heap.size w wr) (fun q _ => n - (intOf q).toNat)
        case atStart => exact ⟨0, L, Nat.zero_le _, rfl, hL3, HFar, hol, hown3, Nat.le_refl _, hbw3⟩
        case round =>
          clear hL3 HFar hol hown3 hbw3
          obtain ⟨j, L, hj, rfl, hL, HFar, hol, hoa, hsr, hbel⟩ := hrel
          by_cases hjn : j < n
          · have hgl := gtj_len t xs ys ds n i j
            obtain ⟨dg, fg, lg⟩ := hL.cell hgl hjn
            have hrow := hL.row j (by rw [hgl]; exact hjn)
            rw [gtj_getD t xs ys ds hjn, tmR_len] at hrow
            obtain ⟨z, HZ⟩ : ∃ z, Hid (dlf (prC t xs ys ds i) j = z) := ⟨_, rfl⟩
            obtain ⟨al, cl, rfl, hrl, _⟩ := Rd.own hol (bd_u64 (dl_bd _ _))
            obtain ⟨b3, o3, z', rfl, hb3', HZ', hz0', hz1', hcz⟩ := hrl.one hjn
            obtain rfl : z = z' := by rw [← HZ.out, ← HZ'.out, dl_getD _ hjn]
            have HTR : Hid (tmR t xs ys ds i j ++ [z] = tmR t xs ys ds (i + 1) j) := by unfold Hid; rw [← HZ.out, tmR_snoc]
            obtain ⟨u, HU⟩ : ∃ u, Hid (L.getD j (.slice none 0 0) = u) := ⟨_, rfl⟩
            rw [HU.out] at dg hrow
            have hrowD : wr.drew.ownsRow w.heap.size 28 1 u i ((tmR t xs ys ds i j).map (Value.int .u64)) := hrow
            obtain ⟨ua, uc, rfl, huc⟩ := own_slice hrow
            have hsw := hbel.size
            have HST : Hid (∀ w7, wr.drew.grownBy w7 (Value.slice ua i uc).ownBlock → (∃ x, w7.cell? ⟨w.heap.size, j, none⟩ = some x) ∧ w7.frozen? ⟨w.heap.size, j, none⟩ = false) := fun w7 hg => by
              have ho7 := (show wr.drew.ownsRow _ _ _ _ _ _ from hL.own).kept hg (own_apart hrowD (show wr.drew.ownsRow _ _ _ _ _ _ from hL.own) (by decide))
              rw [hgl] at ho7
              obtain ⟨g', x, e1, _, _, _, e5⟩ := own_at ho7 hjn
              simp only [Option.some.injEq, Addr.mk.injEq, and_true] at e1
              subst e1
              exact ⟨⟨x, e5⟩, own_frozen ho7 j⟩
            have HUP : Hid (∀ g7 cap7 w7, w7.ownsRow w.heap.size 28 1 (.slice (some ⟨g7, 0, none⟩) (i + 1) cap7) (i + 1) ((tmR t xs ys ds (i + 1) j).map (Value.int .u64)) → wr.drew.grownBy w7 (Value.slice ua i uc).ownBlock → ((Value.slice (some ⟨g7, 0, none⟩) (i + 1) cap7).ownBlock = (Value.slice ua i uc).ownBlock ∨ ∃ k, (Value.slice (some ⟨g7, 0, none⟩) (i + 1) cap7).ownBlock = some k ∧ wr.drew.heap.size ≤ k) →
                LsV (w7.setCell ⟨w.heap.size, j, none⟩ (.slice (some ⟨g7, 0, none⟩) (i + 1) cap7)) w.heap.size (.slice (some ⟨w.heap.size, 0, none⟩) n n) (L.set j (.slice (some ⟨g7, 0, none⟩) (i + 1) cap7)) (gtj t xs ys ds n i (j + 1)) ∧ Far (L.set j (.slice (some ⟨g7, 0, none⟩) (i + 1) cap7)) n w2.heap.size w3.heap.size ∧
                (w7.setCell ⟨w.heap.size, j, none⟩ (.slice (some ⟨g7, 0, none⟩) (i + 1) cap7)).ownsRow w2.heap.size 28 1 (.slice (some ⟨b3, o3, none⟩) n cl) n ((dl (prC t xs ys ds i) n).map (Value.int .u64)) ∧ (w7.setCell ⟨w.heap.size, j, none⟩ (.slice (some ⟨g7, 0, none⟩) (i + 1) cap7)).ownsRow w.heap.size 3 1 v2 (i + 1) (zns (pty (i + 1))) ∧ w3.heap.size ≤ (w7.setCell ⟨w.heap.size, j, none⟩ (.slice (some ⟨g7, 0, none⟩) (i + 1) cap7)).heap.size ∧ Below w.heap.size w (w7.setCell ⟨w.heap.size, j, none⟩ (.slice (some ⟨g7, 0, none⟩) (i + 1) cap7))) := fun g7 cap7 w7 ho hg hat => by
              have hLd := hL.drew
              have hu := hLd.upd (q := j) (row := tmR t xs ys ds (i + 1) j) (u' := .slice (some ⟨g7, 0, none⟩) (i + 1) cap7) hgl hjn (by rw [tmR_len]; exact ho) (by rw [HU.out]; exact hg) (by rw [HU.out]; exact hat)
              rw [gtj_set] at hu
              have hLl := hL.len
              have hg2 : w7.grownBy (w7.setCell ⟨w.heap.size, j, none⟩ (.slice (some ⟨g7, 0, none⟩) (i + 1) cap7)) (some w.heap.size) := grown_set _ _ _ _
              have hb7 : Below w.heap.size w w7 := hbel.drew.grown hg hsw (fun q hq => (hrow.lt q hq).1)
              have ho7 := (show wr.drew.ownsRow _ _ _ _ _ _ from hL.own).kept hg (own_apart hrowD (show wr.drew.ownsRow _ _ _ _ _ _ from hL.own) (by decide))
              have hlk : w7.ownsRow w2.heap.size 28 1 (.slice (some ⟨b3, o3, none⟩) n cl) n ((dl (prC t xs ys ds i) n).map (Value.int .u64)) := by
                refine (show wr.drew.ownsRow _ _ _ _ _ _ from hol).kept hg ?_
                right
                intro e
                cases hb : (Value.slice ua i uc).ownBlock with
                | none => rw [hb] at e; simp [Value.ownBlock] at e
                | some gg =>
                  rw [hb] at e
                  have h1 := HVl.out gg e
                  have h2 := HFar.out j hjn gg (by rw [HU.out]; exact hb)
                  omega
              have hak := (show wr.drew.ownsRow _ _ _ _ _ _ from hoa).kept hg (own_apart hrowD (show wr.drew.ownsRow _ _ _ _ _ _ from hoa) (by decide))
              refine ⟨hu, fun p hp gg hgg => ?_, hlk.kept hg2 (own_apart ho7 hlk (by decide)), hak.kept hg2 (own_apart ho7 hak (by decide)), ?_, hb7.setCell (p := ⟨w.heap.size, j, none⟩) (Nat.le_refl _) _⟩
              · rw [getD_setV _ _ _ _ _ (by rw [hLl, hgl]; exact hjn)] at hgg
                split at hgg
                · rcases hat with e | ⟨k, e, hk⟩
                  · rw [e] at hgg
                    exact HFar.out j hjn gg (by rw [HU.out]; exact hgg)
                  · rw [e] at hgg
                    obtain rfl := Option.some.inj hgg
                    right
                    exact Nat.le_trans hsr hk
                · exact HFar.out p hp gg hgg
              · exact Nat.le_trans hsr (Nat.le_trans hg.size hg2.size)
            have hj0 : (0 : Int) ≤ (j : Int) := by omega
            have hjni : (j : Int) < (n : Int) := by omega
            clear hL hol hoa HFar hbel hrow
            go_wp2
            go_region_law (refine step_appL Try.underlying23 info28 wr.drew rfl _ _ rfl w.heap.size _ _ _ rfl hrowD z rfl rfl (by omega) (by exact hsw) ?_; intro g7 cap7 w7 ho7 hgr7 hat7; rw [HTR.out] at ho7; obtain ⟨⟨xx, dd⟩, ff⟩ := HST.out w7 hgr7; have hl7 := World.block_lt_of_cell? w7 _ dd; have HE : Hid (_ ∧ _) := HUP.out g7 cap7 w7 ho7 hgr7 hat7; clear ho7 hgr7 hat7)
            all_goals
              clear HST HUP hrowD
              go_wp2
              go_roundw
              case rel => exact ⟨j + 1, _, by omega, by go_num, HE.out.1, HE.out.2.1, HE.out.2.2.1, HE.out.2.2.2.1, HE.out.2.2.2.2.1, HE.out.2.2.2.2.2⟩
              case measure => simp [intOf]; omega
          · have hjn2 : j = n := by omega
            subst hjn2
            rw [gtj_full] at hL
            go_wp2
            go_roundw
            case rel => exact ⟨i + 1, L, by omega, by go_num, hoa, hL, hbel⟩
            case measure => simp [intOf]; omega
    · have hin : i = n := by omega
      subst hin
      obtain ⟨aw, cw, rfl, hri⟩ := RdI.own hown (fun x hx => by
        obtain ⟨q, hq, rfl⟩ := List.mem_map.1 hx
        have := List.mem_range.1 hq
        omega)
      clear hown
      go_wp2_with fail
      refine (rWeights _ _ _ _ _ hri (pty_dis hn9)).mono ?_
      rintro e w2 ⟨a2, c2, rfl, hr2, hb2⟩
      have hL2 := hL.below hb2
      have hbw2 := hbel.trans (hb2.mono hs1)
      have hgl := gti_len t xs ys ds i i
      have hs2 := hbw2.size
      clear hL hbel hb2 hri
      go_wp2
      go_loopw [17, 18] (fun v q wr => ∃ j : Nat, j ≤ i ∧ q = .int .i64 j ∧ wr.ownsRow w2.heap.size 28 1 v j ((tmO t xs ys ds i j).map (Value.int .u64)) ∧ Below w2.heap.size w2 wr) (fun _ q _ => i - (intOf q).toNat)
      case atStart => exact ⟨0, Nat.zero_le _, rfl, World.ownsRow_nil _ _ _ _, Below.refl _ _⟩
      case round =>
        obtain ⟨j, hj, rfl, hown, hb3⟩ := hrel
        obtain ⟨wo, hwo⟩ : ∃ wo, wo = wr := ⟨_, rfl⟩
        subst hwo
        have hs3 := hb3.size
        by_cases hji : j < i
        · have hL3 := hL2.below hb3
          have hr3 := hr2.below hb3
          obtain ⟨dg, _, lg⟩ := hL3.cell hgl hji
          obtain ⟨ar, cr, er, hrr⟩ := hL3.one hgl hji (by rw [gti_getD t xs ys ds hji]; exact bd_u64 (tmR_bd _ _ _ _ _ _))
          rw [er] at dg
          rw [gti_getD t xs ys ds hji, tmR_len] at hrr dg
          clear er hL3
          go_wp2
          go_loopw [19, 20] (fun v q wr => ∃ (p nd : Nat) (y : Int), p ≤ i ∧ q = .int .i64 p ∧ v = .int .u64 y ∧ 0 ≤ y ∧ y ≤ 2147483646 ∧ Hid (y = nm (sm (fun i' => wt (pty i) i i' * dlf (prC t xs ys ds i') j) p)) ∧ wr = wo.drewN nd) (fun _ q _ => i - (intOf q).toNat)
          case atStart => exact ⟨0, 0, 0, Nat.zero_le _, rfl, rfl, by omega, by omega, rfl, rfl⟩
          case round =>
            obtain ⟨p, nd, y, hp, rfl, rfl, hy0, hy1, HY, hw⟩ := hrel
            have HW : Hid (wr = wo.drewN nd) := hw
            have hbd : Below wo.heap.size wo wr := by rw [hw]; exact drewN_below (Below.refl _ _) nd
            have dgr : wr.cell? ⟨w.heap.size, j, none⟩ = some (.slice ar i cr) := by rw [hbd.cell (p := ⟨w.heap.size, j, none⟩) lg]; exact dg
            have lgr : w.heap.size < wr.heap.size := Nat.lt_of_lt_of_le lg hbd.size
            clear hw
            by_cases hpi : p < i
            · obtain ⟨b1, o1, x1, rfl, hbb1, HX1, hx10, hx11, hc1⟩ := (hr3.below hbd).one hpi
              obtain ⟨b2, o2, x2, rfl, hbb2, HX2, hx20, hx21, hc2⟩ := (hrr.below hbd).one hpi
              have hmul := nm_bd (x1 * x2)
              have HV : Hid (nm (y + nm (x1 * x2)) = nm (sm (fun i' => wt (pty i) i i' * dlf (prC t xs ys ds i') j) (p + 1))) := by
                unfold Hid
                rw [sm, ← HX1.out, ← HX2.out, tmR_getD t xs ys ds j hpi, HY.out, nm_addl, nm_addr]
                unfold wtl
                rw [map_getDN hpi]
              have hp0 : (0 : Int) ≤ (p : Int) := by omega
              have hpii : (p : Int) < (i : Int) := by omega
              have hj0 : (0 : Int) ≤ (j : Int) := by omega
              have hjii : (j : Int) < (i : Int) := by omega
              go_wp2
              go_quiet ((first | (go_at_call 47; exact Calls.quiet_of_same (rMul _ _ _ (by omega) (by omega) (by omega) (by omega))) | (go_at_call 46; exact Calls.quiet_of_same (rAdd _ _ _ (by omega) (by omega) (by omega) (by omega)))))
              all_goals
                go_wp2
                go_roundw
                case rel => exact ⟨p + 1, _, _, by omega, by go_num, rfl, (nm_bd _).1, (nm_bd _).2, HV, by rw [HW.out, World.drewN_drewN]⟩
                case measure => simp [intOf]; omega
            · have hpi2 : p = i := by omega
              subst hpi2
              have HO : Hid (tmO t xs ys ds p j ++ [y] = tmO t xs ys ds p (j + 1)) := by
                unfold Hid
                rw [HY.out]
                exact tmO_snoc t xs ys ds p j
              have hownr := own_below hown hbd
              have hb4 := hb3.trans (hbd.mono hs3)
              have hs4 := hb4.size
              clear hown hb3 hbd dgr dg HY
              go_wp2_with (at_builtin; refine wpList_app1 Try.underlying23 info28 _ rfl _ _ rfl w2.heap.size _ _ _ rfl hownr _ rfl (by omega) (by omega) ?_; intro v' w7 hown7 hbel7; rw [HO.out] at hown7; have hbel8 := hb4.trans hbel7; clear hbel7 hownr hb4)
              go_roundw
              case rel => exact ⟨j + 1, by omega, by go_num, hown7, hbel8⟩
              case measure => simp [intOf]; omega
        · have hji2 : j = i := by omega
          subst hji2
          have hLE := hL2.below hb3
          have hbE := hbw2.trans (hb3.mono hs2)
          have hoE := own_base hown hs2
          have HG : Hid (gti t xs ys ds j j = tmG t xs ys ds j) := rfl
          rw [HG.out] at hLE
          go_wp2
          go_ret2
          exact ⟨_, _, L, rfl, hoE, hLE, hbE⟩
def Wr2 (n m : Nat) : Prop := (1 ≤ n ∧ n ≤ 9) ∧ m = n
theorem wk_two (n m : Nat) : Wk [n, m] 2 ↔ Wr2 n m := by
  unfold Wk Wr2
  constructor
  · intro h; exact ⟨h.1, h.2 1 (by omega)⟩
  · intro h
    refine ⟨h.1, fun i hi => ?_⟩
    match i, hi with
    | 0, _ => rfl
    | 1, _ => exact h.2
theorem len_two {n m : Nat} (h0 : n ≤ 9223372036854775807) (h1 : m ≤ 9223372036854775807) : ∀ i, [n, m].getD i 0 ≤ 9223372036854775807
  | 0 => h0
  | 1 => h1
  | i + 2 => by simp
/-- What Add, Sub, Scale, Plus answer. -/
def Gts (ok : Prop) (L : List Int) (n : Nat) (w : World) (e : Ending) (w' : World) : Prop :=
  ((¬ ok ∧ e = .returned (.tuple #[.slice none 0 0, .int .i64 5])) ∨ (ok ∧ ∃ v, e = .returned (.tuple #[v, .int .i64 0]) ∧ w'.ownsRow w.heap.size 28 1 v n (L.map (Value.int .u64)))) ∧ Below w.heap.size w w'
/-- What is wrong with what is multiplied. -/
def Gme (t : Int) (n m q : Nat) (r : Int) : Prop :=
  ((t < 0 ∨ 4 < t) ∧ r = 1) ∨ ((0 ≤ t ∧ t ≤ 4) ∧ ((¬ Wr2 n m ∧ r = 5) ∨ (Wr2 n m ∧ (((n : Int) < 2 * t + 1 ∧ r = 4) ∨ (2 * t + 1 ≤ (n : Int) ∧ (((q : Int) ≠ (n : Int) * t ∧ r = 1) ∨ ((q : Int) = (n : Int) * t ∧ r = 0)))))))
theorem Gme.one {t : Int} {n m q : Nat} {r s : Int} (h : Gme t n m q r) (k : Gme t n m q s) : r = s := by
  rcases h with ⟨h1, rfl⟩ | ⟨h1, h2⟩ <;> rcases k with ⟨k1, rfl⟩ | ⟨k1, k2⟩
  · rfl
  · exfalso; omega
  · exfalso; omega
  · rcases h2 with ⟨h2, rfl⟩ | ⟨h2, h3⟩ <;> rcases k2 with ⟨k2, rfl⟩ | ⟨k2, k3⟩
    · rfl
    · exact absurd k2 h2
    · exact absurd h2 k2
    · rcases h3 with ⟨h3, rfl⟩ | ⟨h3, ⟨h4, rfl⟩ | ⟨h4, rfl⟩⟩ <;> rcases k3 with ⟨k3, rfl⟩ | ⟨k3, ⟨k4, rfl⟩ | ⟨k4, rfl⟩⟩
      all_goals first
        | rfl
        | (exfalso; omega)
        | exact absurd k4 h4
        | exact absurd h4 k4
theorem Gme.ok {t : Int} {n m q : Nat} (h : Gme t n m q 0) : ∃ k : Nat, t = (k : Int) ∧ k ≤ 4 ∧ 1 ≤ n ∧ n ≤ 9 ∧ m = n ∧ 2 * k + 1 ≤ n ∧ q = n * k := by
  rcases h with ⟨_, h⟩ | ⟨h1, ⟨_, h⟩ | ⟨h2, ⟨_, h⟩ | ⟨h3, ⟨_, h⟩ | ⟨h4, _⟩⟩⟩⟩
  · omega
  · omega
  · omega
  · omega
  · obtain ⟨k, rfl⟩ : ∃ k : Nat, t = k := ⟨t.toNat, by omega⟩
    refine ⟨k, rfl, by omega, h2.1.1, h2.1.2, h2.2, by omega, ?_⟩
    have : ((q : Nat) : Int) = ((n * k : Nat) : Int) := by rw [h4]; push_cast; rfl
    omega
/-- What Mul answers. -/
def Gtm (t : Int) (xs ys ds : List Int) (n m q : Nat) (w : World) (e : Ending) (w' : World) : Prop :=
  ((∃ r, r ≠ 0 ∧ Gme t n m q r ∧ e = .returned (.tuple #[.slice none 0 0, .slice none 0 0, .int .i64 r])) ∨
   (Gme t n m q 0 ∧ ∃ v u L, e = .returned (.tuple #[v, u, .int .i64 0]) ∧ w'.ownsRow w.heap.size 28 1 v n ((tmO t.toNat xs ys ds n n).map (Value.int .u64)) ∧ LsV w' w.heap.size u L (tmG t.toNat xs ys ds n))) ∧ Below w.heap.size w w'
/-- A row of the call's own, all of it. -/
theorem Blk.mine {w : World} {g n B : Nat} {L : List Int} (h : Blk w g L) (hl : L.length = n) (hB : B ≤ g) (hn : n ≤ 1000) : w.ownsRow B 28 1 (.slice (some ⟨g, 0, none⟩) n n) n (L.map (Value.int .u64)) :=
  ⟨by simp [hl], .inr ⟨g, n, _, rfl, hB, h, Nat.le_refl _, by unfold maxLen; omega, by simp [hl], by rw [List.take_of_length_le (by simp [hl])]⟩⟩

theorem cWires (g k : Nat) (ns : List Nat) (w : World) (h : RdL w g k ns) (hk0 : 0 < k) (hk : k ≤ 100) (hm : ∀ i, ns.getD i 0 ≤ 9223372036854775807) :
    Calls Try.prog 81 #[.slice (some ⟨g, 0, none⟩) k k] w fun e w' => Tells (Wk ns k) w e w' := by
  have hgl := h.lt
  obtain ⟨a0, c0, hc0⟩ := h.cell 0 hk0
  obtain ⟨N, HN⟩ : ∃ N, Hid (ns.getD 0 0 = N) := ⟨_, rfl⟩
  have hN := hm 0
  rw [HN.out] at hc0 hN
  have HM : Hid (∀ i, ns.getD i 0 ≤ 9223372036854775807) := hm
  clear hm
  go_enter Try.func81, Try.ntmps81
  go_wp2
  go_loop [7] (fun q => ∃ i : Nat, i ≤ k ∧ q = .int .i64 i ∧ Hid (∀ j, j < i → (1 ≤ ns.getD j 0 ∧ ns.getD j 0 ≤ 9) ∧ ns.getD j 0 = N)) (fun q => k - (intOf q).toNat)
  case atStart => exact ⟨0, Nat.zero_le _, rfl, fun j hj => by omega⟩
  case round =>
    obtain ⟨i, hi, rfl, HB⟩ := hrel
    by_cases hlt : i < k
    · obtain ⟨ai, ci, hci⟩ := h.cell i hlt
      obtain ⟨M, HMi⟩ : ∃ M, Hid (ns.getD i 0 = M) := ⟨_, rfl⟩
      have hM := HM.out i
      rw [HMi.out] at hci hM
      by_cases h1 : M < 1
      · have HX : Hid (¬ Wk ns k) := fun e => by have h2 := e.2 i hlt; have h3 := e.1; rw [← h2, HMi.out] at h3; omega
        clear HB
        go_wp2
        go_ret
        exact .no HX.out (Below.refl _ _)
      · by_cases h9 : 9 < M
        · have HX : Hid (¬ Wk ns k) := fun e => by have h2 := e.2 i hlt; have h3 := e.1; rw [← h2, HMi.out] at h3; omega
          clear HB
          go_wp2
          go_ret
          exact .no HX.out (Below.refl _ _)
        · by_cases hMN : M = N
          · have hmb : ((M : Int) != (N : Int)) = false := by rw [bne_eq_false_iff_eq]; omega
            have HB2 : Hid (∀ j, j < i + 1 → (1 ≤ ns.getD j 0 ∧ ns.getD j 0 ≤ 9) ∧ ns.getD j 0 = N) := fun j hj => by
              by_cases e : j = i
              · rw [e, HMi.out]; exact ⟨by omega, hMN⟩
              · exact HB.out j (by omega)
            clear hMN HB
            go_wp2
            go_round
            case rel => exact ⟨i + 1, by omega, by go_num, HB2⟩
            case measure => simp [intOf]; omega
          · have hmb : ((M : Int) != (N : Int)) = true := by rw [bne_iff_ne]; omega
            have HX : Hid (¬ Wk ns k) := fun e => hMN (by have h2 := e.2 i hlt; rw [HMi.out, HN.out] at h2; exact h2)
            clear hMN HB
            go_wp2
            go_ret
            exact .no HX.out (Below.refl _ _)
    · have hik : i = k := by omega
      subst hik
      have HE : Hid (Wk ns i) := by
        unfold Hid Wk
        rw [HN.out]
        have h0 := HB.out 0 hk0
        rw [HN.out] at h0
        exact ⟨h0.1, fun j hj => (HB.out j hj).2⟩
      clear HB
      go_wp2
      go_ret
      exact .yes HE.out (Below.refl _ _)

theorem cBoth (F : Nat) (op : Int → Int → Int) (eg : ∀ args w, (callFunc F args).run Try.prog w = .ok (.enter F args) w) (HF : Hid (∀ (x y : Int) (w : World), 0 ≤ x → x ≤ 18446744073709551615 → 0 ≤ y → y ≤ 18446744073709551615 → Calls Try.prog F #[.int .u64 x, .int .u64 y] w fun e w' => e = .returned (.int .u64 (nm (op x y))) ∧ w' = w)) (a : Option Addr) (n c : Nat) (xs : List Int) (b : Option Addr) (m d : Nat) (ys : List Int) (w : World) (h : Rd w a n c xs) (g : Rd w b m d ys) :
    Calls Try.prog 57 #[.func (.func F) #[] #[], .slice a n c, .slice b m d] w fun e w' => Gts (Wr2 n m) ((List.range n).map fun i => nm (op (xs.getD i 0) (ys.getD i 0))) n w e w' := by
  obtain ⟨i0, hi, hz0, hz1, hz2⟩ := info_parts info28
  have hmx := h.max
  have hgx := g.max
  have hc := h.cap
  have gc := g.cap
  unfold maxLen at hmx hgx
  have hRL := rdL_two w a n c b m d 23
  have hbA : Below w.heap.size w (w.alloc (.cells #[.slice a n c, .slice b m d] 23)) := (Below.refl _ _).alloc (Nat.le_refl _) _
  go_enter Try.func57, Try.ntmps57
  go_wp2_with fail
  generalize w.alloc (.cells #[.slice a n c, .slice b m d] 23) = wA at *
  refine (cWires _ _ _ _ hRL (by omega) (by omega) (len_two (by omega) (by omega))).mono ?_
  rintro e w1 ⟨r, rfl, hr, hb1⟩
  rw [wk_two] at hr
  have HR : Hid (_ ↔ _) := hr
  have hbw := hbA.trans (hb1.mono hbA.size)
  clear hr hb1 hbA hRL
  cases r with
  | false =>
    have HN : Hid (¬ Wr2 n m) := fun e => by have := HR.out.2 e; cases this
    go_wp2
    go_ret2
    exact ⟨.inl ⟨HN.out, rfl⟩, hbw⟩
  | true =>
    have HY : Hid (Wr2 n m) := HR.out.1 rfl
    obtain rfl : m = n := HY.out.2
    have hn9 := HY.out.1.2
    have hs1 := hbw.size
    go_wp2_with (at_make; refine wpList_make_full _ rfl _ _ 23 rfl w1.heap.size 28 i0 (.int .u64 0) 1 Try.underlying23 hi hz0 hz1 .i64 .i64 _ _ m rfl rfl (by omega) (by omega) (by rw [hz2]; omega) (by unfold maxLen; omega) (Nat.le_refl _) ?_; intro w2 hown hgrow)
    have hB2 : Blk w2 w1.heap.size (fil (fun i => nm (op (xs.getD i 0) (ys.getD i 0))) m 0) := by rw [← fil_zero]; exact Blk.made hown
    have hb2 : Below w1.heap.size w1 w2 := (Below.refl _ _).grown hgrow (Nat.le_refl _) (by simp)
    have hb12 : Below w.heap.size w w2 := hbw.trans (hb2.mono hs1)
    clear hown hgrow hb2
    go_loopw [20] (fun i wr => ∃ k : Nat, k ≤ m ∧ i = .int .i64 k ∧ Blk wr w1.heap.size (fil (fun i => nm (op (xs.getD i 0) (ys.getD i 0))) m k) ∧ Below w.heap.size w wr) (fun i _ => m - (intOf i).toNat)
    case atStart => exact ⟨0, Nat.zero_le _, rfl, hB2, hb12⟩
    case round =>
      clear hB2 hb12
      obtain ⟨k, hk, rfl, hblk, hbel⟩ := hrel
      by_cases hlt : k < m
      · obtain ⟨b1, o1, x, rfl, hbb1, HX, hx0, hx1, hcx⟩ := (h.below hbel).one hlt
        obtain ⟨b2, o2, y, rfl, hbb2, HY2, hy0, hy1, hcy⟩ := (g.below hbel).one hlt
        have hcell := hblk.cell (i := k) (by rw [fil_len]; exact hlt)
        have hfz := hblk.frozen k
        have hlt3 := hblk.lt
        have hblk4 := hblk.set k (nm (op x y))
        rw [fil_set (by rw [← HX.out, ← HY2.out])] at hblk4
        have Hbl : Hid (Blk _ _ _) := hblk4
        have Hb5 : Hid (Below w.heap.size w (wr.setCell ⟨w1.heap.size, k, none⟩ (.int .u64 (nm (op x y))))) := hbel.setCell hs1 _
        have hk0 : (0 : Int) ≤ (k : Int) := by omega
        have hkn : (k : Int) < (m : Int) := by omega
        clear hbel hblk hblk4
        go_wp2
        go_region_with (refine (HF.out _ _ _ (by omega) (by omega) (by omega) (by omega)).mono ?_; rintro e w' ⟨rfl, rfl⟩)
        all_goals
          go_wp2
          go_roundw
          case rel => exact ⟨k + 1, by omega, by go_num, Hbl.out, Hb5.out.drew⟩
          case measure => simp [intOf]; omega
      · have hkm : k = m := by omega
        subst hkm
        rw [fil_full] at hblk
        have ho := hblk.mine (B := w.heap.size) (by simp) hs1 (show k ≤ 1000 by omega)
        go_wp2
        go_ret2
        exact ⟨.inr ⟨HY.out, _, rfl, ho⟩, hbel⟩

theorem cBothMul (a : Option Addr) (n c : Nat) (xs : List Int) (b : Option Addr) (m d : Nat) (ys : List Int) (w : World) (h : Rd w a n c xs) (g : Rd w b m d ys) :
    Calls Try.prog 57 #[.func (.func 61) #[] #[], .slice a n c, .slice b m d] w fun e w' => Gts (Wr2 n m) ((List.range n).map fun i => nm (xs.getD i 0 * ys.getD i 0)) n w e w' :=
  cBoth 61 (fun x y => x * y) Try.call61 (fun x y w a b c d => fMul x y w a b c d) a n c xs b m d ys w h g
theorem infoZg : (Try.prog.info? 3).map (fun i => (i.zero, i.size, i.bytes)) = some (some (.int .i64 0), 1, 8) := by kernel_rfl
theorem own_madeZ {w : World} {B n : Nat} {v : Value} (h : w.ownsRow B 3 1 v n (madeCells (Value.int .i64 0).cells (n * 1)).toList) : w.ownsRow B 3 1 v n (zns (List.replicate n 0)) := by
  have e : (Value.int .i64 0).cells = #[Value.int .i64 0] := rfl
  rw [e, Nat.mul_one, toList_madeCells_one] at h
  unfold zns
  rw [List.map_replicate]
  exact h
/-- One party's number, when the first p are put together. -/
def wgs (rows : List (List Int)) (n j p : Nat) : Int := nm (sm (fun i => wt (pty n) n i * (rows.getD j []).getD i 0) p)
theorem wgs_bd (rows : List (List Int)) (n j p : Nat) : 0 ≤ wgs rows n j p ∧ wgs rows n j p ≤ 2147483646 := nm_bd _
theorem wgs_zero (rows : List (List Int)) (n j : Nat) : wgs rows n j 0 = 0 := rfl
theorem wgs_succ (rows : List (List Int)) (n j p : Nat) : nm (wgs rows n j p + nm ((rows.getD j []).getD p 0 * wt (pty n) n p)) = wgs rows n j (p + 1) := by
  unfold wgs
  rw [sm, nm_addl, nm_addr, Int.mul_comm]
theorem fil_put0 (F : Nat → Int) {n j : Nat} : (fil F n j).set j 0 = fil F n j := by
  refine list_ext (by simp) fun t ht => ?_
  have htn : t < n := by simpa [fil] using ht
  rw [getD_set, fil_len]
  by_cases e : j = t
  · subst e; rw [if_pos ⟨rfl, htn⟩]; simp [fil, htn]
  · rw [if_neg (fun h => e h.1)]
theorem fil_ptyG (n : Nat) : fil (fun i : Nat => (i : Int) + 1) n n = pty n := by rw [fil_full]; rfl

theorem cWeigh (a : Option Addr) (n c : Nat) (rows : List (List Int)) (w : World) (h : RdR w a n c rows) (hn1 : 1 ≤ n) (hn9 : n ≤ 9) (hrl : ∀ j, j < n → (rows.getD j []).length = n) :
    Calls Try.prog 65 #[.slice a n c] w fun e w' => ∃ u, e = .returned u ∧ w'.ownsRow w.heap.size 28 1 u n (((List.range n).map fun j => wgs rows n j n).map (Value.int .u64)) ∧ Below w.heap.size w w' := by
  obtain ⟨i0, hi, hz0, hz1, hz2⟩ := info_parts infoZg
  obtain ⟨j0, hj, hy0, hy1, hy2⟩ := info_parts info28
  have HRL : Hid (∀ j, j < n → (rows.getD j []).length = n) := hrl
  clear hrl
  have hcap := h.cap
  go_enter Try.func65, Try.ntmps65
  go_wp2_with (at_make; refine wpList_make_full _ rfl _ _ 24 rfl w.heap.size 3 i0 (.int .i64 0) 1 Try.underlying24 hi hz0 hz1 .i64 .i64 _ _ n rfl rfl (by omega) (by omega) (by rw [hz2]; omega) (by unfold maxLen; omega) (Nat.le_refl _) ?_; intro w1 hown hgrow)
  have hb1 : Below w.heap.size w w1 := (Below.refl _ _).grown hgrow (Nat.le_refl _) (by simp)
  have ho1 := own_madeZ hown
  rw [fil_zero (fun i : Nat => (i : Int) + 1) n] at ho1
  clear hown hgrow
  go_loopw [17] (fun q wr => ∃ i : Nat, i ≤ n ∧ q = .int .i64 i ∧ wr.ownsRow w.heap.size 3 1 (.slice (some ⟨w.heap.size, 0, none⟩) n n) n (zns (fil (fun i : Nat => (i : Int) + 1) n i)) ∧ Below w.heap.size w wr) (fun q _ => n - (intOf q).toNat)
  case atStart => exact ⟨0, Nat.zero_le _, rfl, ho1, hb1⟩
  case round =>
    clear ho1 hb1
    obtain ⟨i, hi', rfl, hown, hbel⟩ := hrel
    by_cases hlt : i < n
    · obtain ⟨gu, yy, e1, hgu0, hgu1, _, hcu⟩ := own_at hown hlt
      simp only [Option.some.injEq, Addr.mk.injEq, and_true] at e1
      subst e1
      have hfu := own_frozen hown i
      have ho2 := own_set hown i (.int .i64 ((i : Int) + 1))
      rw [zns_set, fil_set rfl] at ho2
      have HO : Hid (World.ownsRow _ _ _ _ _ _ _) := ho2
      have HB : Hid (Below w.heap.size w (wr.setCell ⟨w.heap.size, i, none⟩ (.int .i64 ((i : Int) + 1)))) := hbel.setCell (Nat.le_refl _) _
      clear hown hbel ho2
      go_wp2
      go_roundw
      case rel => exact ⟨i + 1, by omega, by go_num, HO.out, HB.out⟩
      case measure => simp [intOf]; omega
    · have hin : i = n := by omega
      subst hin
      rw [fil_ptyG] at hown
      obtain ⟨wo, hwo⟩ : ∃ wo, wo = wr := ⟨_, rfl⟩
      subst hwo
      obtain ⟨aw, cw, ev, hri⟩ := RdI.own hown (fun x hx => by
        obtain ⟨q, hq, rfl⟩ := List.mem_map.1 hx
        have := List.mem_range.1 hq
        omega)
      simp only [Value.slice.injEq] at ev
      obtain ⟨rfl, _, rfl⟩ := ev
      clear hown
      go_wp2_with fail
      refine (cWeights1 _ _ _ _ _ hri (by omega)).mono ?_
      rintro e w2 ⟨⟨hno, _⟩ | ⟨_, g2, rfl, hr2, hg2⟩, hb2⟩
      · exact absurd (pty_dis hn9) hno
      have hbw2 := hbel.trans (hb2.mono hbel.size)
      have hs2 := hbw2.size
      clear hbel hb2 hri
      go_wp2_with (at_make; refine wpList_make_full _ rfl _ _ 23 rfl w2.heap.size 28 j0 (.int .u64 0) 1 Try.underlying23 hj hy0 hy1 .i64 .i64 _ _ i rfl rfl (by omega) (by omega) (by rw [hy2]; omega) (by unfold maxLen; omega) (Nat.le_refl _) ?_; intro w3 hown hgrow)
      have hb3 : Below w2.heap.size w2 w3 := (Below.refl _ _).grown hgrow (Nat.le_refl _) (by simp)
      have hB3 : Blk w3 w2.heap.size (fil (fun j => wgs rows i j i) i 0) := by rw [← fil_zero]; exact Blk.made hown
      clear hown hgrow
      go_loopw [36] (fun q wr => ∃ j : Nat, j ≤ i ∧ q = .int .i64 j ∧ Blk wr w2.heap.size (fil (fun j => wgs rows i j i) i j) ∧ Below w2.heap.size w2 wr) (fun q _ => i - (intOf q).toNat)
      case atStart => exact ⟨0, Nat.zero_le _, rfl, hB3, hb3⟩
      case round =>
        clear hB3 hb3
        obtain ⟨j, hj', rfl, hblk, hbel⟩ := hrel
        obtain ⟨w4, hw4⟩ : ∃ w4, w4 = wr := ⟨_, rfl⟩
        subst hw4
        by_cases hji : j < i
        · obtain ⟨bR, oR, ai, ni, ci, row, rfl, hbR, HRow, hcR0, hrR⟩ := h.one hji
          obtain rfl : ni = i := by rw [← hrR.len, ← HRow.out]; exact HRL.out j hji
          have hcR : w4.cell? ⟨bR, oR + j, none⟩ = some (.slice ai ni ci) := by rw [(hbw2.trans (hbel.mono hs2)).cell (p := ⟨bR, oR + j, none⟩) hbR]; exact hcR0
          have hbR4 : bR < w4.heap.size := Nat.lt_of_lt_of_le hbR (hbw2.trans (hbel.mono hs2)).size
          rw [← fil_put0, ← wgs_zero rows ni j] at hblk
          clear hcR0
          go_wp2
          go_loopw [43] (fun q wr => ∃ p : Nat, p ≤ ni ∧ q = .int .i64 p ∧ Blk wr w2.heap.size ((fil (fun j => wgs rows ni j ni) ni j).set j (wgs rows ni j p)) ∧ Below w2.heap.size w2 wr) (fun q _ => ni - (intOf q).toNat)
          case atStart => exact ⟨0, Nat.zero_le _, rfl, hblk, hbel⟩
          case round =>
            clear hblk hbel hcR
            obtain ⟨p, hp', rfl, hblk, hbel⟩ := hrel
            by_cases hpi : p < ni
            · obtain ⟨b1, o1, x, rfl, hb1, HX, hx0, hx1, hcx⟩ := (hrR.below (hbw2.trans (hbel.mono hs2))).one hpi
              obtain ⟨b2, o2, y, e2, hb2, HY, hy0, hy1, hcy⟩ := (hr2.below hbel).one hpi
              simp only [Option.some.injEq, Addr.mk.injEq, and_true] at e2
              obtain ⟨rfl, rfl⟩ := e2
              rw [Nat.zero_add] at hcy
              obtain ⟨S, HS⟩ : ∃ S, Hid (wgs rows ni j p = S) := ⟨_, rfl⟩
              have hSb := wgs_bd rows ni j p
              rw [HS.out] at hblk hSb
              have hcell := hblk.cell (i := j) (by rw [List.length_set, fil_len]; exact hji)
              rw [getD_set, fil_len, if_pos ⟨rfl, hji⟩] at hcell
              have hfz := hblk.frozen j
              have hlt3 := hblk.lt
              have hS0 := hSb.1
              have hS1 := hSb.2
              have hm := nm_bd (x * y)
              have HSn : Hid (nm (S + nm (x * y)) = wgs rows ni j (p + 1)) := by
                unfold Hid
                rw [← wgs_succ, HS.out, HRow.out, HX.out, ← HY.out]
                simp [hpi]
              have hblk4 := hblk.set j (nm (S + nm (x * y)))
              rw [List.set_set, HSn.out] at hblk4
              have Hbl : Hid (Blk (wr.setCell ⟨w2.heap.size, j, none⟩ (.int .u64 (nm (S + nm (x * y))))) w2.heap.size ((fil (fun j => wgs rows ni j ni) ni j).set j (wgs rows ni j (p + 1)))) := by unfold Hid; rw [HSn.out]; exact hblk4
              have Hb5 : Hid (Below w2.heap.size w2 (wr.setCell ⟨w2.heap.size, j, none⟩ (.int .u64 (nm (S + nm (x * y)))))) := hbel.setCell (Nat.le_refl _) _
              have hk0 : (0 : Int) ≤ (j : Int) := by omega
              have hkn : (j : Int) < (ni : Int) := by omega
              have hp0 : (0 : Int) ≤ (p : Int) := by omega
              have hpn : (p : Int) < (ni : Int) := by omega
              clear hbel hblk hblk4 hSb
              go_wp2
              go_region_with (first | (go_at_call 61; refine (fMul _ _ _ (by omega) (by omega) (by omega) (by omega)).mono ?_; rintro e w' ⟨rfl, rfl⟩) | (go_at_call 58; refine (fAdd _ _ _ (by omega) (by omega) (by omega) (by omega)).mono ?_; rintro e w' ⟨rfl, rfl⟩))
              all_goals
                go_wp2
                go_roundw
                case rel => exact ⟨p + 1, by omega, by go_num, Hbl.out, Hb5.out.drew⟩
                case measure => simp [intOf]; omega
            · have hpi2 : p = ni := by omega
              subst hpi2
              rw [fil_set rfl] at hblk
              go_wp2
              go_roundw
              case rel => exact ⟨j + 1, by omega, by go_num, hblk, hbel⟩
              case measure => simp [intOf]; omega
        · have hji2 : j = i := by omega
          subst hji2
          rw [fil_full] at hblk
          have ho := hblk.mine (B := w.heap.size) (by simp) hs2 (show j ≤ 1000 by omega)
          go_wp2
          go_ret
          exact ⟨_, rfl, ho, hbw2.trans (hbel.mono hs2)⟩
end
end Go.Proofs.Ytljlioglpaogdab
