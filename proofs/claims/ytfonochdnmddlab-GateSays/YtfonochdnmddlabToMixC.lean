/- append as a step of a region that draws. · croftref.Mixed. -/
import Derived.Test.YtfonochdnmddlabToMath
import Derived.Deep.AppendLies
import Derived.Deep.RegionLaw
import Derived.Test.YtfonochdnmddlabToRefA
namespace Go.Proofs.Ytfonochdnmddlab
open Go.RowKit

/-- A slice that the call itself gathers, and one number more: a step of a region that draws. -/
theorem step_app1 {P : Program} {T E : TypeId} (hT : P.underlying T = some (.slice E)) (info : (P.info? E).map (fun i => (i.zero, i.size, i.bytes)) = some (some (.int .u64 0), 1, 8))
    (w : World) {w1 : World} {ops : Array Oper} {o : Oper} {a : Act} {K : Act → World → Prop} {Q : Exit → Act → World → Prop} {F : Prop} (hgd : o.guard = none) (s x : Operand)
    (ho : o.op = .call { callee := .builtin .append, args := #[s, x], argTypes := #[T, T] })
    (base : Nat) (v : Value) (n : Nat) (xs : List Int) (hs : a.eval s = v) (hown : w.ownsRow base E 1 v n (xs.map (Value.int .u64))) (y : Int) (hx : a.eval x = .slice (some ⟨w.heap.size, 0, none⟩) 1 1)
    (hw1 : w1 = w.alloc (.cells #[.int .u64 y] E)) (hn : n ≤ 1000000) (hbase : base ≤ w.heap.size)
    (h : ∀ v' w', w'.ownsRow base E 1 v' (n + 1) ((xs ++ [y]).map (Value.int .u64)) → Below base w w' → K (a.put o.dst v') w') :
    if Region.wanted o (yielded ops a.tmps) = true then Oper.wp P o a w1 K Q else F := by
  subst hw1
  obtain ⟨i0, hi, hz0, hz1, hz2⟩ := info_parts info
  refine step_append_lies _ hgd s x T ho base E i0 (.int .u64 0) 1 8 hT hi hz0 hz1 hz2 rfl (by decide) v n _ hs (hown.alloc _) ⟨w.heap.size, 0, none⟩ 1 1 [.int .u64 y] hx rfl ?_ ?_ (by decide) (by unfold maxLen; omega) (by omega) (by simp; omega) _ rfl ?_
  · intro j u hj
    match j, hj with
    | 0, hj => simp at hj; subst hj; simp [Addr.add]
  · intro u hu; simp at hu; subst hu; rfl
  · intro g cap w' hown' hgrow _ _
    refine h _ w' (by rw [List.map_append]; exact hown') ?_
    exact ((Below.refl _ _).alloc hbase _).grown hgrow (by simp; omega) (fun k hk => (hown.lt k hk).1)
end Go.Proofs.Ytfonochdnmddlab

namespace Go.Proofs.Ytfonochdnmddlab
open Go.RowKit Crm

set_option maxRecDepth 100000 in
set_option maxHeartbeats 2000000 in
theorem rMixed (a : Option Addr) (n c : Nat) (xs : List Int) (b : Option Addr) (d : Nat) (ys : List Int) (p q r : Int) (w : World) (h : Rd w a n c xs) (g : Rd w b n d ys) (hn : n ≤ 1000) (p0 : 0 ≤ p) (p1 : p ≤ 18446744073709551615) (q0 : 0 ≤ q) (q1 : q ≤ 18446744073709551615) (r0 : 0 ≤ r) (r1 : r ≤ 18446744073709551615) :
    Calls Try.prog 27 #[.slice a n c, .slice b n d, .int .u64 p, .int .u64 q, .int .u64 r] w fun e w' => ∃ v, e = .returned v ∧ w'.ownsRow w.heap.size 28 1 v n ((mxl xs ys p q r n).map (Value.int .u64)) ∧ Below w.heap.size w w' := by
  go_enter Try.func27, Try.ntmps27
  go_wp2
  go_loopw [11, 12] (fun v i wr => ∃ k : Nat, k ≤ n ∧ i = .int .i64 k ∧ wr.ownsRow w.heap.size 28 1 v k ((mxl xs ys p q r k).map (Value.int .u64)) ∧ Below w.heap.size w wr) (fun _ i _ => n - (intOf i).toNat)
  case atStart => exact ⟨0, Nat.zero_le _, rfl, World.ownsRow_nil _ _ _ _, Below.refl _ _⟩
  case round =>
    obtain ⟨k, hk, rfl, hown, hbel⟩ := hrel
    have hs1 := hbel.size
    by_cases hlt : k < n
    · obtain ⟨b1, o1, x, rfl, hb1, HX, hx0, hx1, hcx⟩ := (h.below hbel).one hlt
      obtain ⟨b2, o2, y, rfl, hb2, HY, hy0, hy1, hcy⟩ := (g.below hbel).one hlt
      have m1 := nm_bd (p * x)
      have m2 := nm_bd (q * y)
      have m3 := nm_bd (nm (p * x) + nm (q * y))
      have HV : Hid (mxl xs ys p q r k ++ [nm (nm (nm (p * x) + nm (q * y)) + r)] = mxl xs ys p q r (k + 1)) := by
        unfold Hid
        rw [mxl_one, ← HX.out, ← HY.out]
        exact mxl_snoc xs ys p q r k
      have hk0 : (0 : Int) ≤ (k : Int) := by omega
      have hkn : (k : Int) < (n : Int) := by omega
      have hown2 : wr.drew.ownsRow w.heap.size 28 1 u11 k ((mxl xs ys p q r k).map (Value.int .u64)) := hown
      have hbel2 := hbel.drew
      go_wp2
      go_region_law (first | (refine step_app1 Try.underlying23 info28 wr.drew rfl _ _ rfl w.heap.size _ _ _ rfl hown2 (nm (nm (nm (p * x) + nm (q * y)) + r)) rfl rfl (by omega) (by exact hs1) ?_; intro v' w3 hown3 hbel3; rw [HV.out] at hown3; have hbel4 := hbel2.trans hbel3) | (go_simp; go_at_call 47; refine (rMul _ _ _ (by omega) (by omega) (by omega) (by omega)).mono ?_; rintro en w' ⟨rfl, rfl⟩) | (go_simp; go_at_call 46; refine (rAdd _ _ _ (by omega) (by omega) (by omega) (by omega)).mono ?_; rintro en w' ⟨rfl, rfl⟩))
      all_goals
        clear hown hbel hown2 hbel2 hbel3
        go_wp2
        go_roundw
        case rel => exact ⟨k + 1, by omega, by go_num, hown3, hbel4⟩
        case measure => simp [intOf]; omega
    · have hkn : k = n := by omega
      subst hkn
      go_wp2
      go_ret
      exact ⟨_, rfl, hown, hbel⟩
end Go.Proofs.Ytfonochdnmddlab
