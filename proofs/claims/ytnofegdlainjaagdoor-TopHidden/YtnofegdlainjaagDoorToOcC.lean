/- Circuits without products: what a few see is the same for other inputs: plain facts. · slices.Index and Contains of ints that came in. · A list of numbers that was gathered and is then written in place (Oc); the lists that croftref.Leads gathers (Bas). -/
import Derived.Test.YtnofegdlainjaagDoorToHidM
import Derived.Test.YtnofegdlainjaagDoorToOpenG
import Derived.Test.YtnofegdlainjaagDoorToGatesR
namespace Go.Proofs.YtnofegdlainjaagDoor
open Crm

theorem dwn_nomul {G : List Gt} {N : Nat} (h : ∀ i, i < N → (gt G i).k ≠ 5) (n t : Nat) : ∀ i, i ≤ N → dwn G n t i = ci G i * t
  | 0, _ => by rw [ci_zero, Nat.zero_mul]; rfl
  | i + 1, hi => by
    rw [dwn, dwn_nomul h n t i (by omega)]
    by_cases h1 : (gt G i).k = 1
    · rw [if_pos h1, ci_in h1, Nat.add_mul, Nat.one_mul]
    · rw [if_neg h1, if_neg (h i (by omega)), ci_no h1, Nat.add_zero]
theorem flat_len {f : Nat → List Int} {t : Nat} (hf : ∀ i, (f i).length = t) : ∀ q, ((List.range q).flatMap f).length = q * t
  | 0 => by simp
  | q + 1 => by rw [List.range_succ, List.flatMap_append, List.length_append, flat_len hf q, List.flatMap_cons, List.flatMap_nil, List.append_nil, hf, Nat.add_mul, Nat.one_mul]
theorem flat_snoc (f : Nat → List Int) (q : Nat) : (List.range q).flatMap f ++ f q = (List.range (q + 1)).flatMap f := by rw [List.range_succ, List.flatMap_append, List.flatMap_cons, List.flatMap_nil, List.append_nil]
theorem flat_block {f : Nat → List Int} {t : Nat} (hf : ∀ i, (f i).length = t) : ∀ q i, i < q → (((List.range q).flatMap f).drop (i * t)).take t = f i
  | 0, i, h => by omega
  | q + 1, i, h => by
    have hl := flat_len hf q
    rw [← flat_snoc]
    by_cases e : i = q
    · subst e
      rw [List.drop_append, hl, Nat.sub_self, List.drop_zero, List.drop_eq_nil_of_le (by omega), List.nil_append, List.take_of_length_le (by rw [hf]; exact Nat.le_refl _)]
    · have h1 : i * t + t ≤ q * t := by
        have : (i + 1) * t ≤ q * t := Nat.mul_le_mul_right t (by omega)
        rwa [Nat.add_mul, Nat.one_mul] at this
      rw [List.drop_append_of_le_length (by omega), List.take_append_of_le_length (by rw [List.length_drop]; omega)]
      exact flat_block hf q i (by omega)
/-- The draws of each input, shifted. -/
def esf (who : List Int) (k t : Nat) (xs ys ds : List Int) (i : Nat) : List Int := shf who k (xs.getD i 0) (ys.getD i 0) ((ds.drop (i * t)).take t) t
def esl (who : List Int) (k t : Nat) (xs ys ds : List Int) (q : Nat) : List Int := (List.range q).flatMap (esf who k t xs ys ds)
theorem esf_len (who : List Int) (k t : Nat) (xs ys ds : List Int) (i : Nat) : (esf who k t xs ys ds i).length = t := shf_len _ _ _ _ _ _
theorem esl_len (who : List Int) (k t : Nat) (xs ys ds : List Int) (q : Nat) : (esl who k t xs ys ds q).length = q * t := flat_len (esf_len who k t xs ys ds) q
theorem esl_snoc (who : List Int) (k t : Nat) (xs ys ds : List Int) (q : Nat) : esl who k t xs ys ds q ++ esf who k t xs ys ds q = esl who k t xs ys ds (q + 1) := flat_snoc _ _
theorem esl_bd (who : List Int) (k t : Nat) (xs ys ds : List Int) (q : Nat) : ∀ z ∈ esl who k t xs ys ds q, 0 ≤ z ∧ z ≤ 2147483646 := fun z hz => by
  obtain ⟨i, _, hi⟩ := List.mem_flatMap.1 hz
  exact shf_bd _ _ _ _ _ _ z hi
theorem esl_block (who : List Int) (k t : Nat) (xs ys ds : List Int) {q i : Nat} (h : i < q) : ((esl who k t xs ys ds q).drop (i * t)).take t = esf who k t xs ys ds i := flat_block (esf_len who k t xs ys ds) q i h
/-- Of each wire, each party's number has turned by what the wire has turned, times the polynomial there. -/
theorem hid_wire {G : List Gt} {N n t k : Nat} {who xs ys ds : List Int} (hG : okG G N) (hno : ∀ i, i < N → (gt G i).k ≠ 5) (hk : k ≤ t) (hd : ds.length = ci G N * t) :
    ∀ i, i < N → ∀ p, p < n → (ew G n t ys (esl who k t xs ys ds (ci G N)) i).getD p 0 = nm ((ew G n t xs ds i).getD p 0 + (wi G ys i - wi G xs i) * ev (bl who k) ((p : Int) + 1)) := by
  intro i
  induction i using Nat.strongRecOn with
  | _ i ih =>
    intro hi p hp
    obtain ⟨E, hE⟩ : ∃ E, ev (bl who k) ((p : Int) + 1) = E := ⟨_, rfl⟩
    rw [hE]
    have hbd : ∀ (s d : List Int) (j : Nat), nm ((ew G n t s d j).getD p 0) = (ew G n t s d j).getD p 0 := fun s d j => by
      have := getD_bd' (ew_bd G n t s d j) p
      exact nm_small this.1 this.2
    rcases hG i hi with ⟨h1, _, _, _⟩ | ⟨h1, _, _⟩ | ⟨h1, h2, _⟩ | ⟨h1, h2, h3, _⟩
    · have hc := ci_lt hi h1
      have hcl : ci G i * t + t ≤ ds.length := by
        have : (ci G i + 1) * t ≤ ci G N * t := Nat.mul_le_mul_right t hc
        rw [Nat.add_mul, Nat.one_mul] at this
        omega
      rw [ew_in h1, ew_in h1, dl_getD _ hp, dl_getD _ hp, wi_in h1, wi_in h1]
      unfold dlf edr
      rw [dwn_nomul hno n t i (by omega), esl_block who k t xs ys ds hc]
      unfold esf
      rw [shf_ev hk (by rw [List.length_take, List.length_drop]; omega), hE, nm_addl]
      refine nm_add_congr rfl (nm_mul_congr ?_ rfl)
      rw [nm_subl, nm_subr]
    · rw [ew_const h1, ew_const h1, wi_const h1, wi_const h1, Int.sub_self, Int.zero_mul, Int.add_zero]
      have e : (List.replicate n (nm (gt G i).n)).getD p 0 = nm (gt G i).n := by simp [hp]
      rw [e, nm_nm]
    · obtain ⟨a, ha⟩ : ∃ a : Nat, (gt G i).a = a := ⟨(gt G i).a.toNat, by omega⟩
      have h := ih a (by omega) (by omega) p hp
      rw [hE] at h
      rw [ew_scale h1 ha (by omega), ew_scale h1 ha (by omega), mxl_getD _ _ _ _ _ hp, mxl_getD _ _ _ _ _ hp, wi_scale h1 ha (by omega), wi_scale h1 ha (by omega), h]
      generalize (ew G n t xs ds a).getD p 0 = A
      generalize wi G ys a = u
      generalize wi G xs a = v
      generalize (gt G i).n = c
      rw [Int.zero_mul, Int.zero_mul, Int.add_zero, Int.add_zero, Int.add_zero, Int.add_zero, nm_mulr, nm_addl]
      have e1 : nm ((nm (u * c) - nm (v * c)) * E) = nm ((u * c - v * c) * E) := nm_mul_congr (by rw [nm_subl, nm_subr]) rfl
      rw [← nm_addr (c * A), e1, nm_addr]
      congr 1
      rw [Int.mul_add, ← Int.sub_mul, Int.mul_comm (u - v) c, Int.mul_assoc]
    · obtain ⟨a, ha⟩ : ∃ a : Nat, (gt G i).a = a := ⟨(gt G i).a.toNat, by omega⟩
      obtain ⟨b, hb⟩ : ∃ b : Nat, (gt G i).b = b := ⟨(gt G i).b.toNat, by omega⟩
      have ha1 := ih a (by omega) (by omega) p hp
      have hb1 := ih b (by omega) (by omega) p hp
      rw [hE] at ha1 hb1
      rcases h1 with h1 | h1 | h1
      · rw [ew_add h1 ha (by omega) hb (by omega), ew_add h1 ha (by omega) hb (by omega), mxl_getD _ _ _ _ _ hp, mxl_getD _ _ _ _ _ hp, wi_add h1 ha (by omega) hb (by omega), wi_add h1 ha (by omega) hb (by omega), ha1, hb1]
        generalize (ew G n t xs ds a).getD p 0 = A
        generalize (ew G n t xs ds b).getD p 0 = B
        generalize wi G ys a = u
        generalize wi G xs a = v
        generalize wi G ys b = x
        generalize wi G xs b = y
        rw [Int.one_mul, Int.one_mul, Int.one_mul, Int.one_mul, Int.add_zero, Int.add_zero, nm_addl, nm_addr, nm_addl]
        have e1 : nm ((nm (u + x) - nm (v + y)) * E) = nm ((u + x - (v + y)) * E) := nm_mul_congr (by rw [nm_subl, nm_subr]) rfl
        rw [← nm_addr (A + B), e1, nm_addr]
        congr 1
        rw [show u + x - (v + y) = (u - v) + (x - y) by omega, Int.add_mul (u - v) (x - y) E]
        omega
      · rw [ew_sub h1 ha (by omega) hb (by omega), ew_sub h1 ha (by omega) hb (by omega), mxl_getD _ _ _ _ _ hp, mxl_getD _ _ _ _ _ hp, wi_sub h1 ha (by omega) hb (by omega), wi_sub h1 ha (by omega) hb (by omega), ha1, hb1]
        generalize (ew G n t xs ds a).getD p 0 = A
        generalize (ew G n t xs ds b).getD p 0 = B
        generalize wi G ys a = u
        generalize wi G xs a = v
        generalize wi G ys b = x
        generalize wi G xs b = y
        have neg : ∀ X Y : Int, nm (1 * X + 2147483646 * Y + 0) = nm (X - Y) := fun X Y => by unfold nm; omega
        rw [neg, neg, nm_subl, nm_subr, nm_addl]
        have e1 : nm ((nm (u - x) - nm (v - y)) * E) = nm ((u - x - (v - y)) * E) := nm_mul_congr (by rw [nm_subl, nm_subr]) rfl
        rw [← nm_addr (A - B), e1, nm_addr]
        congr 1
        rw [show u - x - (v - y) = (u - v) - (x - y) by omega, Int.sub_mul (u - v) (x - y) E]
        omega
      · exact absurd h1 (hno i hi)
/-- What those who look see is the same. -/
theorem hid_seen {G : List Gt} {O : List Int} {N m n t k j p : Nat} {who xs ys ds : List Int} (hG : okG G N) (hO : okO O N m) (hno : ∀ i, i < N → (gt G i).k ≠ 5) (hk : k ≤ t) (hd : ds.length = ci G N * t) (ho : otl G O xs m = otl G O ys m) (hj : j < k) (hz : nm (who.getD j 0) ≠ 0) (hp : who.getD j 0 = (p : Int) + 1) (hpn : p < n) :
    sno G O n t ys (esl who k t xs ys ds (ci G N)) N m p = sno G O n t xs ds N m p := by
  have hw := hid_wire (n := n) (who := who) (xs := xs) (ys := ys) hG hno hk hd
  have hb : ∀ (s d : List Int) (i p : Nat), nm ((ew G n t s d i).getD p 0) = (ew G n t s d i).getD p 0 := fun s d i p => by
    have := getD_bd' (ew_bd G n t s d i) p
    exact nm_small this.1 this.2
  have hr := bl_root (k := k) hj hz
  rw [hp] at hr
  have hfe : ∀ {f g : Nat → List Int} {q : Nat}, (∀ i, i < q → f i = g i) → (List.range q).flatMap f = (List.range q).flatMap g := fun {f g q} h => by
    induction q with
    | zero => rfl
    | succ q ih => rw [← flat_snoc, ← flat_snoc, ih fun i hi => h i (by omega), h q (by omega)]
  unfold sno sng
  congr 1
  · refine hfe fun i hi => ?_
    unfold esn
    by_cases h1 : (gt G i).k = 1
    · rw [if_pos h1, if_pos h1, hw i hi p hpn, ← nm_addr, ← nm_mulr, hr, Int.mul_zero]
      show [nm (_ + nm 0)] = _
      rw [nm_addr, Int.add_zero, hb]
    · rw [if_neg h1, if_neg h1, if_neg (hno i hi), if_neg (hno i hi)]
  · refine hfe fun o hoq => ?_
    have hlt := hO o hoq
    have hoe : wi G ys (O.getD o 0).toNat = wi G xs (O.getD o 0).toNat := by
      rw [← otl_getD G O ys hoq, ← otl_getD G O xs hoq, ho]
    refine list_ext (by rw [ew_len, ew_len]) fun q hq => ?_
    rw [ew_len] at hq
    rw [hw _ (by omega) q hq, hoe, Int.sub_self, Int.zero_mul, Int.add_zero, hb]
end Go.Proofs.YtnofegdlainjaagDoor

namespace Go.Proofs.YtnofegdlainjaagDoor
open Go.RowKit Crm

set_option maxRecDepth 100000 in
theorem iIndexF (a : Option Addr) (n c : Nat) (ts : List Int) (x : Int) (w : World) (h : RdI w a n c ts) (hno : ∀ j, j < n → ts.getD j 0 ≠ x) :
    Calls Tryd.prog 62 #[.slice a n c, .int .i64 x] w fun e w' => e = .returned (.int .i64 (-1)) ∧ w' = w := by
  have hcap := h.cap
  have hmax := h.max
  unfold maxLen at hmax
  have HNO : Hid (∀ j, j < n → ts.getD j 0 ≠ x) := hno
  clear hno
  go_enter Tryd.func62, Tryd.ntmps62
  go_wp2
  go_loop [8] (fun i => ∃ k : Nat, k ≤ n ∧ i = .int .i64 k) (fun i => n - (intOf i).toNat)
  case atStart => exact ⟨0, Nat.zero_le _, rfl⟩
  case round =>
    obtain ⟨k, hk, rfl⟩ := hrel
    by_cases hlt : k < n
    · obtain ⟨b, o, y, rfl, hbb, HY, hy0, hy1, hcy⟩ := h.one hlt
      have hxb : (x == y) = false := by rw [beq_eq_false_iff_ne]; exact fun e => HNO.out k hlt (by rw [HY.out, e])
      go_wp2
      go_round
      case rel => exact ⟨k + 1, by omega, by go_num⟩
      case measure => simp [intOf]; omega
    · go_wp2
      go_ret
      exact ⟨rfl, rfl⟩
set_option maxRecDepth 100000 in
theorem iIndexT (a : Option Addr) (n c : Nat) (ts : List Int) (x : Int) (w : World) (h : RdI w a n c ts) {j0 : Nat} (hj : j0 < n) (hx : ts.getD j0 0 = x) :
    Calls Tryd.prog 62 #[.slice a n c, .int .i64 x] w fun e w' => (∃ r : Nat, r ≤ n ∧ e = .returned (.int .i64 r)) ∧ w' = w := by
  have hcap := h.cap
  have hmax := h.max
  unfold maxLen at hmax
  have HX : Hid (ts.getD j0 0 = x) := hx
  clear hx
  go_enter Tryd.func62, Tryd.ntmps62
  go_wp2
  go_loop [8] (fun i => ∃ k : Nat, k ≤ j0 ∧ i = .int .i64 k) (fun i => n - (intOf i).toNat)
  case atStart => exact ⟨0, Nat.zero_le _, rfl⟩
  case round =>
    obtain ⟨k, hk, rfl⟩ := hrel
    obtain ⟨b, o, y, rfl, hbb, HY, hy0, hy1, hcy⟩ := h.one (show k < n by omega)
    by_cases hxy : x = y
    · have hxb : (x == y) = true := by rw [beq_iff_eq]; exact hxy
      clear hxy
      go_wp2
      go_ret
      exact ⟨⟨k, by omega, rfl⟩, rfl⟩
    · have hxb : (x == y) = false := by rw [beq_eq_false_iff_ne]; exact hxy
      have hkj : k < j0 := by
        rcases Nat.lt_or_ge k j0 with h' | h'
        · exact h'
        · exfalso
          obtain rfl : k = j0 := by omega
          exact hxy (by rw [← HX.out, HY.out])
      clear hxy
      go_wp2
      go_round
      case rel => exact ⟨k + 1, by omega, by go_num⟩
      case measure => simp [intOf]; omega
set_option maxRecDepth 100000 in
theorem iContF (a : Option Addr) (n c : Nat) (ts : List Int) (x : Int) (w : World) (h : RdI w a n c ts) (hno : ∀ j, j < n → ts.getD j 0 ≠ x) :
    Calls Tryd.prog 33 #[.slice a n c, .int .i64 x] w fun e w' => e = .returned (.bool false) ∧ w' = w := by
  have HNO : Hid (∀ j, j < n → ts.getD j 0 ≠ x) := hno
  clear hno
  go_enter Tryd.func33, Tryd.ntmps33
  go_wp2_with (go_at_call 62; refine (iIndexF _ _ _ _ _ _ h HNO.out).mono ?_; rintro e w3 ⟨rfl, hw⟩; have hw := hw.symm; subst hw)
  go_ret
  exact ⟨rfl, rfl⟩
set_option maxRecDepth 100000 in
theorem iContT (a : Option Addr) (n c : Nat) (ts : List Int) (x : Int) (w : World) (h : RdI w a n c ts) {j0 : Nat} (hj : j0 < n) (hx : ts.getD j0 0 = x) :
    Calls Tryd.prog 33 #[.slice a n c, .int .i64 x] w fun e w' => e = .returned (.bool true) ∧ w' = w := by
  have hcap := h.cap
  have hmax := h.max
  unfold maxLen at hmax
  have HX : Hid (ts.getD j0 0 = x) := hx
  clear hx
  go_enter Tryd.func33, Tryd.ntmps33
  go_wp2_with (go_at_call 62; refine (iIndexT _ _ _ _ _ _ h hj HX.out).mono ?_; rintro e w3 ⟨⟨r, hr, rfl⟩, hw⟩; have hw := hw.symm; subst hw)
  go_ret
  exact ⟨rfl, rfl⟩
end Go.Proofs.YtnofegdlainjaagDoor

namespace Go.Proofs.YtnofegdlainjaagDoor
open Go.RowKit Crm

structure Oc (w : World) (B : Nat) (a : Option Addr) (r c : Nat) (L : List Int) : Prop where
  len : L.length = r
  cap : r ≤ c
  max : c ≤ maxLen
  bd : ∀ x ∈ L, 0 ≤ x ∧ x ≤ 2147483646
  nil : a = none → c = 0
  blk : ∀ x, a = some x → ∃ (g : Nat) (cur : Array Value), x = ⟨g, 0, none⟩ ∧ B ≤ g ∧ w.heap[g]? = some (.cells cur 34 (0, 0)) ∧ cur.size = c ∧ ∀ i, i < r → cur[i]? = some (.int .u64 (L.getD i 0))

theorem Oc.of_own {w : World} {B r : Nat} {v : Value} {L : List Int} (h : w.ownsRow B 34 1 v r (L.map (Value.int .u64))) (hb : ∀ x ∈ L, 0 ≤ x ∧ x ≤ 2147483646) : ∃ a c, v = .slice a r c ∧ Oc w B a r c L := by
  have hl : L.length = r := by simpa using h.1
  rcases h.2 with ⟨rfl, rfl⟩ | ⟨g, cap, cur, rfl, h1, hg, h2, h3, hs, ht⟩
  · exact ⟨none, 0, rfl, hl, Nat.le_refl _, Nat.zero_le _, hb, fun _ => rfl, by simp⟩
  · refine ⟨_, _, rfl, hl, h2, h3, hb, by simp, fun x hx => ?_⟩
    obtain rfl := Option.some.inj hx
    refine ⟨g, cur, rfl, h1, hg, by omega, fun i hi => ?_⟩
    have h4 : (cur.toList.take (r * 1))[i]? = some (.int .u64 (L.getD i 0)) := by
      rw [ht]; simp [List.getElem?_eq_getElem (show i < L.length by omega)]
    rw [List.getElem?_take] at h4
    split at h4
    · simpa using h4
    · cases h4
theorem Oc.at_ {w : World} {B : Nat} {a : Option Addr} {r c : Nat} {L : List Int} (h : Oc w B a r c L) {k : Nat} (hk : k < r) : ∃ g, a = some ⟨g, 0, none⟩ ∧ B ≤ g ∧ g < w.heap.size ∧ w.frozen? ⟨g, k, none⟩ = false ∧ w.cell? ⟨g, k, none⟩ = some (.int .u64 (L.getD k 0)) := by
  cases ha : a with
  | none => have := h.nil ha; have := h.cap; omega
  | some x =>
    obtain ⟨g, cur, rfl, hb, hg, hs, hc⟩ := h.blk x ha
    exact ⟨g, rfl, hb, (Array.getElem?_eq_some_iff.1 hg).1, frozen_of_row w g k _ _ hg, by rw [cell_of_row w g k _ _ (0, 0) hg]; exact hc k hk⟩
theorem Oc.nbd {w : World} {B : Nat} {a : Option Addr} {r c : Nat} {L : List Int} (h : Oc w B a r c L) (k : Nat) : 0 ≤ L.getD k 0 ∧ L.getD k 0 ≤ 2147483646 := getD_bd' h.bd k
theorem Oc.below {w : World} {B : Nat} {a : Option Addr} {r c : Nat} {L : List Int} (h : Oc w B a r c L) {w' : World} (hb : Below w.heap.size w w') : Oc w' B a r c L := by
  refine ⟨h.len, h.cap, h.max, h.bd, h.nil, fun x hx => ?_⟩
  obtain ⟨g, cur, h1, h2, h3, h4⟩ := h.blk x hx
  exact ⟨g, cur, h1, h2, by rw [hb.block g (Array.getElem?_eq_some_iff.1 h3).1]; exact h3, h4⟩
theorem Oc.drew {w : World} {B : Nat} {a : Option Addr} {r c : Nat} {L : List Int} (h : Oc w B a r c L) : Oc w.drew B a r c L := ⟨h.len, h.cap, h.max, h.bd, h.nil, h.blk⟩
theorem Oc.set {w : World} {B : Nat} {a : Option Addr} {r c : Nat} {L : List Int} (h : Oc w B a r c L) {g k : Nat} (ha : a = some ⟨g, 0, none⟩) {v : Int} (hv : 0 ≤ v ∧ v ≤ 2147483646) : Oc (w.setCell ⟨g, k, none⟩ (.int .u64 v)) B a r c (L.set k v) := by
  refine ⟨by rw [List.length_set]; exact h.len, h.cap, h.max, fun x hx => ?_, h.nil, fun x hx => ?_⟩
  · rcases List.mem_or_eq_of_mem_set hx with h1 | h1
    · exact h.bd x h1
    · rw [h1]; exact hv
  · obtain ⟨g', cur, h1, h2, h3, h4, h5⟩ := h.blk x hx
    rw [ha] at hx
    obtain rfl := Option.some.inj hx
    simp only [Addr.mk.injEq, and_true] at h1
    subst h1
    refine ⟨g, _, rfl, h2, heap_setCell_same w g k _ _ _ h3, by simpa using h4, fun i hi => ?_⟩
    rw [Array.getElem?_setIfInBounds, getD_set]
    have hcp := h.cap
    have hln := h.len
    by_cases e : k = i
    · subst e; simp [h4, hln, hi]; omega
    · rw [if_neg e, if_neg (fun hh => e hh.1)]; exact h5 i hi
theorem Oc.rd {w : World} {B : Nat} {a : Option Addr} {r c : Nat} {L : List Int} (h : Oc w B a r c L) : Rd w a r c L := by
  refine ⟨h.len, h.cap, h.max, bd_u64 h.bd, h.nil, fun x hx i hi => ?_⟩
  obtain ⟨g, cur, rfl, h2, h3, h4, h5⟩ := h.blk x hx
  rw [Addr.add_lit, Nat.zero_add, cell_of_row w g i _ _ (0, 0) h3]
  exact h5 i hi

theorem own_kept {w w' : World} {base n : Nat} {E : TypeId} {v u : Value} {xs : List Value} (h : w.ownsRow base E 1 v n xs) (hg : w.grownBy w' u.ownBlock) (hd : ∀ k, v.ownBlock = some k → u.ownBlock ≠ some k) : w'.ownsRow base E 1 v n xs := by
  refine h.kept hg ?_
  cases hv : v.ownBlock with
  | none => exact .inl rfl
  | some k => exact .inr fun e => hd k hv e.symm

theorem getD_snoc_old {BB : List (List Int)} {b : List Int} {k : Nat} (h : k < BB.length) : (BB ++ [b]).getD k [] = BB.getD k [] := by simp [List.getElem?_append_left h]
theorem getD_snoc_new (BB : List (List Int)) (b : List Int) : (BB ++ [b]).getD BB.length [] = b := by simp

end Go.Proofs.YtnofegdlainjaagDoor
