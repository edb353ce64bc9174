/- What package keys is asked, call by call. · (*croftref.Store).has, keep. · A piece of a slice: x[l:h]. -/
import Derived.Test.YtgmelcdgnjcojacToKyDef
import Derived.BigQuiet
import Derived.Test.YtgmelcdgnjcojacToPolyM
namespace Go.Proofs.Ytgmelcdgnjcojac
open Go.RowKit Crm

def KcNew : Prop := ∀ (n t : Int) (w : World), i64r n → i64r t → Calls Try.prog 16 #[.int .i64 n, .int .i64 t] w (Knw n t w)
def KcGen : Prop := ∀ (p : Nat) (G : Nat → Prop) (s : Kt) (a : Option Addr) (m c : Nat) (ds : List Int) (w : World), Kst w p G s → Rd w a m c ds → s.last ≤ 1000000 → Calls Try.prog 18 #[.pointer (some ⟨p, 0, none⟩), .slice a m c] w (Kke p G (kgen s ds) w)
def KcRefresh : Prop := ∀ (p : Nat) (G : Nat → Prop) (s : Kt) (x : Int) (a : Option Addr) (m c : Nat) (ds : List Int) (w : World), Kst w p G s → i64r x → Rd w a m c ds → Calls Try.prog 20 #[.pointer (some ⟨p, 0, none⟩), .int .i64 x, .slice a m c] w (Kkt p G (krfr s x ds) w)
def KcTweak : Prop := ∀ (p : Nat) (G : Nat → Prop) (s : Kt) (x u : Int) (w : World), Kst w p G s → i64r x → 0 ≤ u → u ≤ 18446744073709551615 → s.last ≤ 1000000 → Calls Try.prog 22 #[.pointer (some ⟨p, 0, none⟩), .int .i64 x, .int .u64 u] w (Kke p G (kmix s x x 1 0 u) w)
def KcCombine : Prop := ∀ (p : Nat) (G : Nat → Prop) (s : Kt) (g x u v : Int) (w : World), Kst w p G s → i64r g → i64r x → 0 ≤ u → u ≤ 18446744073709551615 → 0 ≤ v → v ≤ 18446744073709551615 → s.last ≤ 1000000 → Calls Try.prog 24 #[.pointer (some ⟨p, 0, none⟩), .int .i64 g, .int .i64 x, .int .u64 u, .int .u64 v] w (Kke p G (kmix s g x u v 0) w)
def KcMultiply : Prop := ∀ (p : Nat) (G : Nat → Prop) (s : Kt) (g x : Int) (a : Option Addr) (m c : Nat) (ds : List Int) (w : World), Kst w p G s → i64r g → i64r x → Rd w a m c ds → s.last ≤ 1000000 → Calls Try.prog 25 #[.pointer (some ⟨p, 0, none⟩), .int .i64 g, .int .i64 x, .slice a m c] w (Kke p G (kmul s g x ds) w)
def KcOpen : Prop := ∀ (p : Nat) (G : Nat → Prop) (s : Kt) (x : Int) (w : World), Kst w p G s → i64r x → Calls Try.prog 29 #[.pointer (some ⟨p, 0, none⟩), .int .i64 x] w (Kpn s x w)
def KcShares : Prop := ∀ (p : Nat) (G : Nat → Prop) (s : Kt) (x : Int) (w : World), Kst w p G s → i64r x → Calls Try.prog 31 #[.pointer (some ⟨p, 0, none⟩), .int .i64 x] w (Ksr s x w)
def KcDrop : Prop := ∀ (p : Nat) (G : Nat → Prop) (s : Kt) (x : Int) (w : World), Kst w p G s → i64r x → Calls Try.prog 27 #[.pointer (some ⟨p, 0, none⟩), .int .i64 x] w (Kkt p G (kdrp s x) w)
end Go.Proofs.Ytgmelcdgnjcojac

namespace Go.Proofs.Ytgmelcdgnjcojac
open Go.RowKit Crm

theorem zeroL (w : World) : (zeroValue 24).run Try.prog w = .ok (.slice none 0 0) w := by kernel_rfl
/-- Are there the first k of these keys? -/
def hsl (s : Kt) (hs : List Int) (k : Nat) : Bool := (hs.take k).all fun h => (s.f h).isSome
theorem hsl_step (s : Kt) {hs : List Int} {k : Nat} (h : k < hs.length) : hsl s hs (k + 1) = (hsl s hs k && (s.f (hs.getD k 0)).isSome) := by
  unfold hsl
  rw [List.take_add_one, List.all_append, List.getElem?_eq_getElem h]
  simp [List.getD_eq_getElem?_getD, List.getElem?_eq_getElem h]

set_option maxRecDepth 100000 in
set_option maxHeartbeats 2000000 in
theorem rHas (p : Nat) (G : Nat → Prop) (s : Kt) (a : Option Addr) (n c : Nat) (hs : List Int) (w : World) (h : Stx 55 w p G s) (r : RdI w a n c hs) :
    Calls Try.prog 50 #[.pointer (some ⟨p, 0, none⟩), .slice a n c] w fun e w' => e = .returned (.bool (hsl s hs n)) ∧ Below w.heap.size w w' := by
  have hcap := r.cap
  have hmax := r.max
  have hlen := r.len
  unfold maxLen at hmax
  go_enter Try.func50, Try.ntmps50
  go_wp2
  go_loopw [5, 6] (fun ok i wr => ∃ k : Nat, k ≤ n ∧ i = .int .i64 k ∧ ok = .bool (hsl s hs k) ∧ Below w.heap.size w wr) (fun _ i _ => n - (intOf i).toNat)
  case atStart => exact ⟨0, Nat.zero_le _, rfl, rfl, Below.refl _ _⟩
  case round =>
    obtain ⟨k, hk, rfl, rfl, hbel⟩ := hrel
    by_cases hlt : k < n
    · obtain ⟨bb, o, x, rfl, hbb, HX, hx0, hx1, hcx⟩ := (r.below hbel).one hlt
      obtain ⟨⟨b, V, hS, _⟩, _⟩ := h.same hbel
      obtain ⟨c0, c1, c2, c3⟩ := hS.four
      have hpl := hS.lt
      obtain ⟨v, bv, HS, HL⟩ : ∃ v bv, Hid ((s.f x).isSome = bv) ∧ ∀ q, (Instr.lookup 53 (.map (some b)) (.int .i64 x) true).run Try.prog (wr.drewN q) = .ok (.tuple #[v, .bool bv]) (wr.drewN q) := by
        refine ⟨(V x).getD (.slice none 0 0), (s.f x).isSome, rfl, fun q => ?_⟩
        rw [← hS.isKey x]
        exact ((show MapI (wr.drewN q) b s.cnt V from hS.map).look Try.underlying53 (zeroL _) ⟨hx0, hx1⟩).1
      have HN : Hid (hsl s hs (k + 1) = (hsl s hs k && bv)) := by unfold Hid; rw [hsl_step s (by omega), HX.out, HS.out]
      have hkn : (k : Int) < (n : Int) := by omega
      clear hS
      go_wp2
      go_quiet (fail)
      obtain ⟨hk1, HK1⟩ : ∃ b, Hid (hsl s hs k = b) := ⟨_, rfl⟩
      rw [HK1.out] at HN ⊢
      cases hk1 with
      | true =>
        go_wp2
        go_roundw
        case rel => exact ⟨k + 1, by omega, by go_num, by rw [HN.out]; simp, drewN_below hbel _⟩
        case measure => simp [intOf]; omega
      | false =>
        go_wp2
        go_roundw
        case rel => exact ⟨k + 1, by omega, by go_num, by rw [HN.out]; simp, drewN_below hbel _⟩
        case measure => simp [intOf]; omega
    · obtain rfl : k = n := by omega
      go_wp2
      go_ret
      exact ⟨rfl, hbel⟩

set_option maxRecDepth 100000 in
set_option maxHeartbeats 2000000 in
theorem rKeep (p : Nat) (G : Nat → Prop) (s : Kt) (a : Option Addr) (c : Nat) (l : List Int) (w : World) (h : Stx 55 w p G s) (r : Rd w a s.n c l) (hl : ∀ x ∈ l, 0 ≤ x ∧ x ≤ 2147483646) (hG : ∀ x, a = some x → G x.block) (hlast : s.last ≤ 1000000) :
    Calls Try.prog 48 #[.pointer (some ⟨p, 0, none⟩), .slice a s.n c] w (Kde 55 p G (kadd s l) w) := by
  have H0 : Hid (Stx 55 w p G s) := h
  obtain ⟨⟨b, V, hS, hF⟩, hGl⟩ := h
  obtain ⟨c0, c1, c2, c3⟩ := hS.four
  have hpl := hS.lt
  have hM := hS.map
  by_cases hc : 8 ≤ s.cnt
  · have HE : Hid (kadd s l = (0, 2, s)) := if_pos hc
    have hci : (8 : Int) ≤ (s.cnt : Int) := by omega
    go_enter Try.func48, Try.ntmps48
    go_wp2_with (at_len; refine wpList_lenK _ rfl _ 53 rfl 24 Try.underlying53 b s.cnt V rfl hM ?_)
    go_ret2
    rw [HE.out]
    exact ⟨rfl, H0.out.below (Below.refl _ _), Tch.refl _ _⟩
  · have HE : Hid (kadd s l = ((s.last : Int) + 1, 0, kput s l)) := if_neg hc
    have hci : ¬ ((8 : Int) ≤ (s.cnt : Int)) := by omega
    obtain ⟨L1, HL1⟩ : ∃ L1, Hid ((s.last : Int) + 1 = L1) := ⟨_, rfl⟩
    have hL0 : (s.last : Int) + 1 = L1 := HL1.out
    have hLb : 1 ≤ L1 ∧ L1 ≤ 1000001 := by omega
    have hfz := frozen_of_row w p 2 _ _ hS.row
    have hrow := heap_setCell_same w p 2 _ _ (.int .i64 L1) hS.row
    have hM2 : MapI (w.setCell ⟨p, 2, none⟩ (.int .i64 L1)) b s.cnt V := hM.block (heap_setCell_other w ⟨p, 2, none⟩ b _ hS.ne)
    have d2 : (w.setCell ⟨p, 2, none⟩ (.int .i64 L1)).cell? ⟨p, 2, none⟩ = some (.int .i64 L1) := by rw [cell_of_row _ p 2 _ _ (0, 0) hrow]; simp
    have d3 : (w.setCell ⟨p, 2, none⟩ (.int .i64 L1)).cell? ⟨p, 3, none⟩ = some (.map (some b)) := by rw [cell_of_row _ p 3 _ _ (0, 0) hrow]; simp
    have hpl2 : p < (w.setCell ⟨p, 2, none⟩ (.int .i64 L1)).heap.size := (Array.getElem?_eq_some_iff.1 hrow).1
    obtain ⟨w', hrun, hM3, htn⟩ := (show MapI (w.setCell ⟨p, 2, none⟩ (.int .i64 L1)).drew b s.cnt V from hM2).store (t := 53) Try.underlying53 (by have := hS.wf.c8; omega) (k := L1) ⟨by omega, by omega⟩ (.slice a s.n c)
    have hgr := htn.grown
    have hk : ∀ i, i < w.heap.size → i ≠ p → i ≠ b → w'.heap[i]? = w.heap[i]? := fun i hi h1 h2 => by
      rw [hgr.block i (by simpa using hi) (by simpa using h2)]; exact heap_setCell_other w ⟨p, 2, none⟩ i _ h1
    have hrw : w'.heap[p]? = some (.cells #[.int .i64 s.n, .int .i64 s.t, .int .i64 L1, .map (some b)] 55 (0, 0)) := by
      rw [hgr.block p hpl2 (by simpa using hS.ne.symm)]
      refine hrow.trans ?_
      simp
    have HP : Hid (Sto 55 w' p b (mset V ((s.last : Int) + 1) (some (.slice a s.n c))) (kput s l)) := by
      refine hS.put (by omega) hl r (by rw [hL0]; exact hM3) (by rw [hL0]; exact hrw) hk
    have hsz : w.heap.size ≤ w'.heap.size := Nat.le_trans (by simp) hgr.size
    have HX : Hid (Stx 55 w' p (Gnx G w w') (kput s l)) := by
      refine ⟨⟨b, _, HP.out, fun i hi => .inl ?_⟩, Gnx.lt hGl (by omega)⟩
      rcases hi with rfl | rfl | ⟨hh, a', m, c', e, rfl⟩
      · exact hF _ (.inl rfl)
      · exact hF _ (.inr (.inl rfl))
      · unfold mset at e
        split at e
        · simp only [Option.some.injEq, Value.slice.injEq] at e
          exact hG a' e.1
        · exact hF _ (.inr (.inr ⟨hh, a', m, c', e, rfl⟩))
    have HT : Hid (Tch w w' G) := ⟨hgr.os, hgr.tape, hgr.output, by omega, fun i hi hn => hk i hi (fun e => hn (hF _ (.inl e))) (fun e => hn (hF _ (.inr (.inl e))))⟩
    have hc2 : w'.cell? ⟨p, 2, none⟩ = some (.int .i64 L1) := by rw [cell_of_row _ p 2 _ _ (0, 0) hrw]; rfl
    have hpl3 : p < w'.heap.size := by omega
    clear hgr htn hk hrw hM3 hrow hF hGl hG hc
    go_enter Try.func48, Try.ntmps48
    go_wp2_with (at_len; refine wpList_lenK _ rfl _ 53 rfl 24 Try.underlying53 b s.cnt V rfl hM ?_)
    go_region
    all_goals
      go_wp2
      go_ret2
      rw [HE.out, hL0]
      exact ⟨rfl, HX.out, HT.out⟩
end Go.Proofs.Ytgmelcdgnjcojac

namespace Go.Proofs.Ytgmelcdgnjcojac
open Go.RowKit

/-- Where a piece lies. -/
def subA (a : Option Addr) (c lo : Nat) : Option Addr := if c = lo then a else a.map (·.add lo)
theorem Rd.sub {w : World} {a : Option Addr} {n c : Nat} {xs : List Int} (h : Rd w a n c xs) {lo k : Nat} (hk : lo + k ≤ n) : Rd w (subA a c lo) k (c - lo) ((xs.drop lo).take k) := by
  have hl := h.len
  have hc := h.cap
  have hm := h.max
  refine ⟨by simp; omega, by omega, by omega, fun x hx => h.bd x (List.mem_of_mem_drop (List.mem_of_mem_take hx)), fun e => ?_, fun x hx i hi => ?_⟩
  · unfold subA at e
    split at e
    · omega
    · cases a with
      | none => have := h.nil rfl; omega
      | some y => simp at e
  · obtain ⟨b, o, rfl, _, hcell⟩ := h.at (k := lo + i) (by omega)
    unfold subA at hx
    rw [if_neg (by omega), Option.map_some] at hx
    obtain rfl := Option.some.inj hx
    rw [Addr.add_lit, Addr.add_lit, Nat.add_assoc, hcell (lo + i) (by omega)]
    congr 2
    simp [hi]
/-- .. as a walk meets it. -/
theorem run_sub {P : Program} {T E : TypeId} (hT : P.underlying T = some (.slice E)) (hE : (P.info? E).map (·.size) = some 1) (a : Option Addr) (n c lo k : Nat) {l h : Int} (hl : l = (lo : Int)) (hh : h = (lo : Int) + (k : Int)) (hc : lo + k ≤ c) (W : World) :
    (Instr.sliceAt T (.slice a n c) (some (.int .i64 l)) (some (.int .i64 h)) none).run P W = .ok (.slice (subA a c lo) k (c - lo)) W := by
  subst hl hh
  have he : P.elem T = E := by simp [Program.elem, hT]
  have hT' : P.underlying T = some (.slice (P.elem T)) := by rw [he]; exact hT
  have e1 : ((lo : Int) + (k : Int)).toNat = lo + k := by omega
  cases hi : P.info? E with
  | none => simp [hi] at hE
  | some i =>
    have hs : i.size = 1 := by simpa [hi] using hE
    rw [run_sliceAt_slice W T _ _ _ _ hT', run_slice_lh W T a n c hT' .i64 .i64 (lo : Int) ((lo : Int) + (k : Int)) (by omega) (by omega) (by omega), he, e1]
    simp [sizeOf, typeInfo, hi, hs, sliced, subA, Result.andThen]
theorem run_subl {P : Program} {T E : TypeId} (hT : P.underlying T = some (.slice E)) (hE : (P.info? E).map (·.size) = some 1) (a : Option Addr) (n c lo : Nat) {l : Int} (hl : l = (lo : Int)) (hn : lo ≤ n) (W : World) :
    (Instr.sliceAt T (.slice a n c) (some (.int .i64 l)) none none).run P W = .ok (.slice (subA a c lo) (n - lo) (c - lo)) W := by
  subst hl
  have he : P.elem T = E := by simp [Program.elem, hT]
  have hT' : P.underlying T = some (.slice (P.elem T)) := by rw [he]; exact hT
  cases hi : P.info? E with
  | none => simp [hi] at hE
  | some i =>
    have hs : i.size = 1 := by simpa [hi] using hE
    rw [run_sliceAt_slice W T _ _ _ _ hT', run_slice_l W T a n c hT' .i64 (lo : Int) (by omega) (by omega), he]
    simp [sizeOf, typeInfo, hi, hs, sliced, subA, Result.andThen]
end Go.Proofs.Ytgmelcdgnjcojac
