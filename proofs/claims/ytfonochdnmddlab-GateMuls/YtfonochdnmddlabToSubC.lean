/- croftref.Weights. · A piece of a slice: x[l:h]. -/
import Derived.Test.YtfonochdnmddlabToShamirM
import Derived.Test.YtfonochdnmddlabToJoinC
import Derived.Test.YtfonochdnmddlabToCrewC
import Derived.Test.YtfonochdnmddlabToWeightC
import Derived.Test.YtfonochdnmddlabToMath
namespace Go.Proofs.Ytfonochdnmddlab
open Go.RowKit Crm

/-- The shares of which party i's number is 1, the others' 0. -/
def swl (ts : List Int) (i m : Nat) : List (Int × Int) := (List.range m).map fun j => (ts.getD j 0, if j = i then 1 else 0)
theorem swl_len (ts : List Int) (i m : Nat) : (swl ts i m).length = m := by simp [swl]
theorem swl_snoc (ts : List Int) (i m : Nat) {x y : Int} (hx : ts.getD m 0 = x) (hy : y = if m = i then 1 else 0) : swl ts i m ++ [(x, y)] = swl ts i (m + 1) := by
  unfold swl
  rw [List.range_succ, List.map_append, hy, ← hx]
  rfl
theorem swl_getD (ts : List Int) (i : Nat) {m j : Nat} (h : j < m) : (swl ts i m).getD j (0, 0) = (ts.getD j 0, if j = i then 1 else 0) := by simp [swl, h]
theorem swl_ok {ts : List Int} {n : Nat} (i : Nat) (hd : dis (fi ts) n) : okk (swl ts i n) n := by
  intro j hj
  rw [swl_getD ts i hj]
  have h1 := (hd j hj).1
  unfold fi at h1
  refine ⟨⟨h1.1, by simp only; omega⟩, fun q hq => ?_⟩
  rw [swl_getD ts i (show q < n by omega)]
  exact (hd j hj).2 q hq
theorem swl_wt {ts : List Int} {n i : Nat} {p : List Int} (hd : dis (fi ts) n) (hi : i < n) (h : LoI (swl ts i n) n n p) : nm (ev p 0) = wt ts n i := by
  refine Wgt.one hd ⟨p, h.le, fun j hj => ?_, rfl⟩ (wt_wgt hd hi)
  have := h.val j hj
  rw [if_pos hj, swl_getD ts i hj] at this
  rw [this]
  split <;> rfl
def wtl (ts : List Int) (n k : Nat) : List Int := (List.range k).map (wt ts n)
theorem wtl_snoc (ts : List Int) (n k : Nat) : wtl ts n k ++ [wt ts n k] = wtl ts n (k + 1) := by simp [wtl, List.range_succ]
theorem wtl_bd (ts : List Int) (n k : Nat) : ∀ x ∈ wtl ts n k, 0 ≤ x ∧ x ≤ 2147483646 := by
  intro x hx
  obtain ⟨i, _, rfl⟩ := List.mem_map.1 hx
  exact wt_bd ts n i

set_option maxRecDepth 100000 in
set_option maxHeartbeats 1000000 in
theorem rWeights (a : Option Addr) (n c : Nat) (ts : List Int) (w : World) (h : RdI w a n c ts) (hd : dis (fi ts) n) :
    Calls Try.prog 63 #[.slice a n c] w fun e w' => ∃ a' c', e = .returned (.slice a' n c') ∧ Rd w' a' n c' (wtl ts n n) ∧ Below w.heap.size w w' := by
  have HD : Hid (dis (fi ts) n) := hd
  have hn9 := dis_nine hd
  clear hd
  have hcap := h.cap
  have hmax := h.max
  unfold maxLen at hmax
  go_enter Try.func63, Try.ntmps63
  go_wp2
  go_loopw [3, 4] (fun v i wr => ∃ k : Nat, k ≤ n ∧ i = .int .i64 k ∧ wr.ownsRow w.heap.size 28 1 v k ((wtl ts n k).map (Value.int .u64)) ∧ Below w.heap.size w wr) (fun _ i _ => n - (intOf i).toNat)
  case atStart => exact ⟨0, Nat.zero_le _, rfl, World.ownsRow_nil _ _ _ _, Below.refl _ _⟩
  case round =>
    obtain ⟨k, hk, rfl, hown, hbel⟩ := hrel
    obtain ⟨wo, hwo⟩ : ∃ wo, wo = wr := ⟨_, rfl⟩
    subst hwo
    have hs1 := hbel.size
    by_cases hlt : k < n
    · go_wp2
      go_loopw [5, 6] (fun v i wr => ∃ m : Nat, m ≤ n ∧ i = .int .i64 m ∧ wr.ownsRow wo.heap.size 73 2 v m (shc (swl ts k m)) ∧ Below wo.heap.size wo wr) (fun _ i _ => n - (intOf i).toNat)
      case atStart => exact ⟨0, Nat.zero_le _, rfl, World.ownsRow_nil _ _ _ _, Below.refl _ _⟩
      case round =>
        obtain ⟨m, hm, rfl, hownS, hbm⟩ := hrel
        have hbw := hbel.trans (hbm.mono hs1)
        have hs2 := hbm.size
        by_cases hmn : m < n
        · obtain ⟨b, o, x, rfl, hbb, HX, hx0, hx1, hcx⟩ := (h.below hbw).one hmn
          by_cases hmk : m = k
          · have hmb : ((m : Int) == (k : Int)) = true := by rw [beq_iff_eq]; omega
            have HS : Hid (swl ts k m ++ [(x, 1)] = swl ts k (m + 1)) := swl_snoc ts k m HX.out (by rw [if_pos hmk])
            clear hmk
            go_wp2_with (at_builtin; refine wpList_appS Try.underlying22 infoSh _ rfl _ _ rfl wo.heap.size _ _ _ rfl hownS _ _ rfl (by omega) (by omega) ?_; intro v' w7 hown7 hbel7; rw [HS.out] at hown7; have hbel8 := hbm.trans hbel7; clear hbel7)
            go_roundw
            case rel => exact ⟨m + 1, by omega, by go_num, hown7, hbel8⟩
            case measure => simp [intOf]; omega
          · have hmb : ((m : Int) == (k : Int)) = false := by rw [beq_eq_false_iff_ne]; omega
            have HS : Hid (swl ts k m ++ [(x, 0)] = swl ts k (m + 1)) := swl_snoc ts k m HX.out (by rw [if_neg hmk])
            clear hmk
            go_wp2_with (at_builtin; refine wpList_appS Try.underlying22 infoSh _ rfl _ _ rfl wo.heap.size _ _ _ rfl hownS _ _ rfl (by omega) (by omega) ?_; intro v' w7 hown7 hbel7; rw [HS.out] at hown7; have hbel8 := hbm.trans hbel7; clear hbel7)
            go_roundw
            case rel => exact ⟨m + 1, by omega, by go_num, hown7, hbel8⟩
            case measure => simp [intOf]; omega
        · have hmn' : m = n := by omega
          subst hmn'
          have hlk := swl_len ts k m
          have hbd : ∀ i, i < m → (-9223372036854775808 ≤ ((swl ts k m).getD i (0, 0)).1 ∧ ((swl ts k m).getD i (0, 0)).1 ≤ 9223372036854775807) ∧ 0 ≤ ((swl ts k m).getD i (0, 0)).2 ∧ ((swl ts k m).getD i (0, 0)).2 ≤ 18446744073709551615 := fun i hi => by
            rw [swl_getD ts k hi]
            have h1 := (HD.out i hi).1
            unfold fi at h1
            refine ⟨⟨by simp only; omega, by simp only; omega⟩, ?_⟩
            simp only
            split <;> omega
          obtain ⟨al, cl, rfl, hl⟩ := RdS.own hownS hlk hbd
          have HOK : Hid (okk (swl ts k m) m) := swl_ok k HD.out
          have hown2 := own_below hown hbm
          clear hbd hownS hown
          go_wp2_with fail
          refine (rThrough _ _ _ _ _ hl (by omega) HOK.out).mono ?_
          rintro e w5 ⟨p, ap, cp, rfl, hrp, hLo, hb5⟩
          have HV : Hid (nm (ev p 0) = wt ts m k) := swl_wt HD.out hlt hLo
          have hpl := hLo.le
          obtain ⟨N, hN⟩ : ∃ N, N = p.length := ⟨_, rfl⟩
          rw [← hN] at hrp hpl ⊢
          have hown5 := own_below hown2 hb5
          have hbw5 := hbw.trans (hb5.mono hbw.size)
          have hs5 := hbw5.size
          clear hN hLo hown2 hl hb5 hbw hbm
          go_wp2_with fail
          refine (rEval _ _ _ _ _ _ hrp (by omega) (by omega) (by omega)).mono ?_
          rintro e w6 ⟨rfl, hw⟩
          have hw := hw.symm
          subst hw
          rw [HV.out]
          go_wp2_with (at_builtin; refine wpList_app1 Try.underlying23 info28 _ rfl _ _ rfl w.heap.size _ _ _ rfl hown5 _ rfl (by omega) (by omega) ?_; intro v' w7 hown7 hbel7; rw [wtl_snoc] at hown7; have hbel8 := hbw5.trans hbel7)
          go_roundw
          case rel => exact ⟨k + 1, by omega, by go_num, hown7, hbel8⟩
          case measure => simp [intOf]; omega
    · have hkn : k = n := by omega
      subst hkn
      obtain ⟨a', c', rfl, hr', _⟩ := Rd.own hown (bd_u64 (wtl_bd _ _ _))
      go_wp2
      go_ret
      exact ⟨_, _, rfl, hr', hbel⟩
end Go.Proofs.Ytfonochdnmddlab

namespace Go.Proofs.Ytfonochdnmddlab
open Go.RowKit

/-- Where a piece lies. -/
def subA (a : Option Addr) (c lo : Nat) : Option Addr := if c = lo then a else a.map (·.add lo)
theorem Rd.sub {w : World} {a : Option Addr} {n c : Nat} {xs : List Int} (h : Rd w a n c xs) {lo k : Nat} (hk : lo + k ≤ n) : Rd w (subA a c lo) k (c - lo) ((xs.drop lo).take k) := by
  have hl := h.len
  have hc := h.cap
  have hm := h.max
  refine ⟨by simp; omega, by omega, by omega, fun x hx => h.bd x (List.mem_of_mem_drop (List.mem_of_mem_take hx)), fun e => ?_, fun x hx i hi => ?_⟩
  · unfold subA at e
    split at e
    · omega
    · cases a with
      | none => have := h.nil rfl; omega
      | some y => simp at e
  · obtain ⟨b, o, rfl, _, hcell⟩ := h.at (k := lo + i) (by omega)
    unfold subA at hx
    rw [if_neg (by omega), Option.map_some] at hx
    obtain rfl := Option.some.inj hx
    rw [Addr.add_lit, Addr.add_lit, Nat.add_assoc, hcell (lo + i) (by omega)]
    congr 2
    simp [hi]
/-- .. as a walk meets it. -/
theorem run_sub {P : Program} {T E : TypeId} (hT : P.underlying T = some (.slice E)) (hE : (P.info? E).map (·.size) = some 1) (a : Option Addr) (n c lo k : Nat) {l h : Int} (hl : l = (lo : Int)) (hh : h = (lo : Int) + (k : Int)) (hc : lo + k ≤ c) (W : World) :
    (Instr.sliceAt T (.slice a n c) (some (.int .i64 l)) (some (.int .i64 h)) none).run P W = .ok (.slice (subA a c lo) k (c - lo)) W := by
  subst hl hh
  have he : P.elem T = E := by simp [Program.elem, hT]
  have hT' : P.underlying T = some (.slice (P.elem T)) := by rw [he]; exact hT
  have e1 : ((lo : Int) + (k : Int)).toNat = lo + k := by omega
  cases hi : P.info? E with
  | none => simp [hi] at hE
  | some i =>
    have hs : i.size = 1 := by simpa [hi] using hE
    rw [run_sliceAt_slice W T _ _ _ _ hT', run_slice_lh W T a n c hT' .i64 .i64 (lo : Int) ((lo : Int) + (k : Int)) (by omega) (by omega) (by omega), he, e1]
    simp [sizeOf, typeInfo, hi, hs, sliced, subA, Result.andThen]
end Go.Proofs.Ytfonochdnmddlab
