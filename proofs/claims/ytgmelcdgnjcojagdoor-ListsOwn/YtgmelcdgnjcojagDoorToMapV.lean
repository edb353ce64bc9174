/- Keys: numbers that are dealt; what is reckoned with them is dealt: plain facts. · Keys: their state, and what each call makes of it: plain. · Maps from ints whose elements are taken as they stand. -/
import Derived.Test.YtgmelcdgnjcojagDoorToEngM
import Derived.Test.YtgmelcdgnjcojagDoorToNewtonM
import Derived.Test.YtgmelcdgnjcojagDoorToPolyM
import Derived.Maps.OwnSet
import Derived.Maps.OwnOps
namespace Go.Proofs.YtgmelcdgnjcojagDoor
open Crm

/-- The parties' numbers L are shares, of t at the most, of v. -/
def Ksh (n t : Nat) (L : List Int) (v : Int) : Prop := ∃ P : List Int, P.length ≤ t + 1 ∧ L = dl P n ∧ nm (ev P 0) = v
theorem Ksh.len {n t : Nat} {L : List Int} {v : Int} (h : Ksh n t L v) : L.length = n := by
  obtain ⟨P, _, rfl, _⟩ := h
  exact dl_len _ _
theorem Ksh.bd {n t : Nat} {L : List Int} {v : Int} (h : Ksh n t L v) : ∀ z ∈ L, 0 ≤ z ∧ z ≤ 2147483646 := by
  obtain ⟨P, _, rfl, _⟩ := h
  exact dl_bd _ _
theorem Ksh.val {n t : Nat} {L : List Int} {v : Int} (h : Ksh n t L v) : 0 ≤ v ∧ v ≤ 2147483646 := by
  obtain ⟨P, _, _, rfl⟩ := h
  exact nm_bd _
theorem ksh_deal {n t : Nat} {x : Int} {ds : List Int} (h : ds.length ≤ t) : Ksh n t (dl (x :: ds) n) (nm x) := ⟨x :: ds, by rw [List.length_cons]; omega, rfl, by rw [ev, Int.zero_mul, Int.add_zero]⟩
theorem ksh_zero (n t : Nat) : Ksh n t (List.replicate n 0) 0 := by
  refine ⟨[], Nat.zero_le _, ?_, rfl⟩
  exact dl_of (by simp) fun i hi => by simp [hi, ev]; rfl
/-- A mix of them. -/
theorem Ksh.mix {n t : Nat} {L M : List Int} {v u : Int} (a b c : Int) (h : Ksh n t L v) (g : Ksh n t M u) : Ksh n t (mxl L M a b c n) (nm (a * v + b * u + c)) := by
  obtain ⟨A, a1, rfl, rfl⟩ := h
  obtain ⟨B, b1, rfl, rfl⟩ := g
  obtain ⟨P, p1, p2, p3⟩ := mxl_dealt (A := A) (B := B) (a := a) (b := b) (c := c) (n := n) a1 b1
  refine ⟨P, p1, dl_of (mxl_len _ _ _ _ _ _) p2, ?_⟩
  rw [p3]
  refine nm_add_congr (nm_add_congr ?_ ?_) rfl
  · rw [nm_mulr]
  · rw [nm_mulr]
/-- Their product, dealt again. -/
theorem Ksh.times {n t : Nat} {L M ds : List Int} {v u : Int} (h : Ksh n t L v) (g : Ksh n t M u) (hn : 2 * t + 1 ≤ n) (hn9 : n ≤ 9) : Ksh n t (tmO t L M ds n n) (nm (v * u)) := by
  obtain ⟨A, a1, rfl, rfl⟩ := h
  obtain ⟨B, b1, rfl, rfl⟩ := g
  obtain ⟨P, p1, p2, p3⟩ := times_dealt (t := t) (n := n) (A := A) (B := B) (ds := ds) a1 b1 hn hn9
  refine ⟨P, p1, dl_of (tmO_len _ _ _ _ _ _) fun j hj => ?_, ?_⟩
  · rw [tmO_getD _ _ _ _ _ hj]
    exact p2 j hj
  · rw [p3, nm_mull, nm_mulr]
/-- What is told of them. -/
theorem Ksh.opened {n t : Nat} {L : List Int} {v x r : Int} (h : Ksh n t L v) (hn : 2 * t + 1 ≤ n) (hn9 : n ≤ 9) (hO : Opn (shl L n) n t x r) : x = v ∧ r = 0 := by
  obtain ⟨P, p1, rfl, rfl⟩ := h
  exact shl_open hn9 (show t ≤ 4 by omega) (by omega) p1 (fun i hi => dl_getD P hi) hO
/-- What party i deals: its own first draw, or nought, with t draws. -/
def kdr (t : Nat) (sec : Bool) (ds : List Int) (i : Nat) : List Int := if sec then ds.getD (i * (t + 1)) 0 :: (ds.drop (i * (t + 1) + 1)).take t else 0 :: (ds.drop (i * t)).take t
/-- The sums of what the first i parties have dealt. -/
def ksm (n t : Nat) (sec : Bool) (ds : List Int) : Nat → List Int
  | 0 => List.replicate n 0
  | i + 1 => mxl (ksm n t sec ds i) (dl (kdr t sec ds i) n) 1 1 0 n
/-- The sum of what they dealt. -/
def ksv (t : Nat) (sec : Bool) (ds : List Int) : Nat → Int
  | 0 => 0
  | i + 1 => nm (ksv t sec ds i + nm ((kdr t sec ds i).getD 0 0))
theorem kdr_ksh (n t : Nat) (sec : Bool) (ds : List Int) (i : Nat) : Ksh n t (dl (kdr t sec ds i) n) (nm ((kdr t sec ds i).getD 0 0)) := by
  unfold kdr
  cases sec with
  | true =>
    rw [if_pos rfl]
    exact ksh_deal (by rw [List.length_take]; omega)
  | false =>
    rw [if_neg (by decide)]
    exact ksh_deal (by rw [List.length_take]; omega)
theorem ksm_ksh (n t : Nat) (sec : Bool) (ds : List Int) : ∀ i, Ksh n t (ksm n t sec ds i) (ksv t sec ds i)
  | 0 => ksh_zero n t
  | i + 1 => by
    have h := (ksm_ksh n t sec ds i).mix 1 1 0 (kdr_ksh n t sec ds i)
    rw [Int.one_mul, Int.one_mul, Int.add_zero] at h
    exact h
/-- Refreshing turns shares, not what is told. -/
theorem ksv_false (t : Nat) (ds : List Int) : ∀ i, ksv t false ds i = 0
  | 0 => rfl
  | i + 1 => by
    rw [ksv, ksv_false t ds i]
    rfl
theorem Ksh.fresh {n t : Nat} {L ds : List Int} {v : Int} (h : Ksh n t L v) : Ksh n t (mxl L (ksm n t false ds n) 1 1 0 n) v := by
  have g := h.mix 1 1 0 (ksm_ksh n t false ds n)
  rw [ksv_false, Int.one_mul, Int.one_mul, Int.add_zero, Int.add_zero, nm_small h.val.1 h.val.2] at g
  exact g
end Go.Proofs.YtgmelcdgnjcojagDoor

namespace Go.Proofs.YtgmelcdgnjcojagDoor
open Crm

/-- n parties, t of whom may look; the last handle that ever was; how many keys there are; the parties' numbers by handle. -/
structure Kt where
  n : Nat
  t : Nat
  last : Nat
  cnt : Nat
  f : Int → Option (List Int)
def kset (f : Int → Option (List Int)) (h : Int) (v : Option (List Int)) : Int → Option (List Int) := fun i => if i = h then v else f i
theorem kset_same (f : Int → Option (List Int)) (h : Int) (v : Option (List Int)) : kset f h v h = v := if_pos rfl
theorem kset_other (f : Int → Option (List Int)) {h i : Int} (v : Option (List Int)) (e : i ≠ h) : kset f h v i = f i := if_neg e
structure Kwf (s : Kt) : Prop where
  t4 : s.t ≤ 4
  n9 : s.n ≤ 9
  nt : 2 * s.t + 1 ≤ s.n
  c8 : s.cnt ≤ 8
  key : ∀ h l, s.f h = some l → (1 ≤ h ∧ h ≤ (s.last : Int)) ∧ l.length = s.n ∧ ∀ x ∈ l, 0 ≤ x ∧ x ≤ 2147483646
/-- No keys. -/
def k0 (n t : Nat) : Kt := ⟨n, t, 0, 0, fun _ => none⟩
theorem k0_wf {n t : Nat} (ht : t ≤ 4) (hn : n ≤ 9) (h : 2 * t + 1 ≤ n) : Kwf (k0 n t) := ⟨ht, hn, h, Nat.zero_le _, fun h l e => by cases e⟩
/-- A key more. -/
def kput (s : Kt) (l : List Int) : Kt := ⟨s.n, s.t, s.last + 1, s.cnt + 1, kset s.f ((s.last : Int) + 1) (some l)⟩
def kadd (s : Kt) (l : List Int) : Int × Int × Kt := if 8 ≤ s.cnt then (0, 2, s) else ((s.last : Int) + 1, 0, kput s l)
def kgen (s : Kt) (ds : List Int) : Int × Int × Kt := if ds.length = s.n * (s.t + 1) then kadd s (ksm s.n s.t true ds s.n) else (0, 1, s)
def kmix (s : Kt) (g h : Int) (a b c : Int) : Int × Int × Kt :=
  match s.f g, s.f h with
  | some l, some m => kadd s (mxl l m a b c s.n)
  | _, _ => (0, 4, s)
def kmul (s : Kt) (g h : Int) (ds : List Int) : Int × Int × Kt :=
  match s.f g, s.f h with
  | some l, some m => if ds.length = s.n * s.t then kadd s (tmO s.t l m ds s.n s.n) else (0, 1, s)
  | _, _ => (0, 4, s)
/-- The numbers of a key are turned. -/
def ktrn (s : Kt) (h : Int) (l : List Int) : Kt := ⟨s.n, s.t, s.last, s.cnt, kset s.f h (some l)⟩
def krfr (s : Kt) (h : Int) (ds : List Int) : Int × Kt :=
  match s.f h with
  | some l => if ds.length = s.n * s.t then (0, ktrn s h (mxl l (ksm s.n s.t false ds s.n) 1 1 0 s.n)) else (1, s)
  | none => (4, s)
/-- A key is gone. -/
def kout (s : Kt) (h : Int) : Kt := ⟨s.n, s.t, s.last, s.cnt - 1, kset s.f h none⟩
def kdrp (s : Kt) (h : Int) : Int × Kt :=
  match s.f h with
  | some _ => (0, kout s h)
  | none => (4, s)
/-- What Open answers. -/
def Kop (s : Kt) (h x r : Int) : Prop := (s.f h = none ∧ x = 0 ∧ r = 4) ∨ ∃ l, s.f h = some l ∧ Opn (shl l s.n) s.n s.t x r
theorem Kop.one {s : Kt} {h x r y q : Int} (a : Kop s h x r) (b : Kop s h y q) : x = y ∧ r = q := by
  rcases a with ⟨a1, rfl, rfl⟩ | ⟨l, a1, a2⟩ <;> rcases b with ⟨b1, rfl, rfl⟩ | ⟨m, b1, b2⟩
  · exact ⟨rfl, rfl⟩
  · rw [a1] at b1; cases b1
  · rw [a1] at b1; cases b1
  · rw [a1] at b1
    obtain rfl := Option.some.inj b1
    exact a2.one b2
theorem kput_wf {s : Kt} {l : List Int} (h : Kwf s) (hc : s.cnt < 8) (hl : l.length = s.n) (hb : ∀ x ∈ l, 0 ≤ x ∧ x ≤ 2147483646) : Kwf (kput s l) := by
  refine ⟨h.t4, h.n9, h.nt, hc, fun i m e => ?_⟩
  unfold kput kset at e
  simp only at e
  split at e
  · rename_i hi
    obtain rfl := Option.some.inj e
    refine ⟨⟨by omega, ?_⟩, hl, hb⟩
    show i ≤ ((s.last + 1 : Nat) : Int)
    omega
  · have := h.key i m e
    refine ⟨⟨this.1.1, ?_⟩, this.2⟩
    show i ≤ ((s.last + 1 : Nat) : Int)
    omega
theorem ktrn_wf {s : Kt} {h : Int} {l m : List Int} (w : Kwf s) (hm : s.f h = some m) (hl : l.length = s.n) (hb : ∀ x ∈ l, 0 ≤ x ∧ x ≤ 2147483646) : Kwf (ktrn s h l) := by
  refine ⟨w.t4, w.n9, w.nt, w.c8, fun i k e => ?_⟩
  unfold ktrn kset at e
  simp only at e
  split at e
  · rename_i hi
    obtain rfl := Option.some.inj e
    have := w.key h m hm
    rw [hi]
    exact ⟨this.1, hl, hb⟩
  · exact w.key i k e
theorem kout_wf {s : Kt} {h : Int} (w : Kwf s) : Kwf (kout s h) := by
  refine ⟨w.t4, w.n9, w.nt, ?_, fun i k e => ?_⟩
  · have := w.c8
    show s.cnt - 1 ≤ 8
    omega
  · unfold kout kset at e
    simp only at e
    split at e
    · cases e
    · exact w.key i k e
theorem ksm_len (n t : Nat) (b : Bool) (ds : List Int) (i : Nat) : (ksm n t b ds i).length = n := (ksm_ksh n t b ds i).len
theorem ksm_bd (n t : Nat) (b : Bool) (ds : List Int) (i : Nat) : ∀ x ∈ ksm n t b ds i, 0 ≤ x ∧ x ≤ 2147483646 := (ksm_ksh n t b ds i).bd
theorem tmO_bd' (t : Nat) (a b ds : List Int) (n k : Nat) : ∀ x ∈ tmO t a b ds n k, 0 ≤ x ∧ x ≤ 2147483646 := fun x hx => by
  unfold tmO at hx
  obtain ⟨j, _, rfl⟩ := List.mem_map.1 hx
  exact nm_bd _
/-- What is told of a new key: its handle and no error, or none and that there are too many. -/
theorem kadd_cases (s : Kt) (l : List Int) : (8 ≤ s.cnt ∧ kadd s l = (0, 2, s)) ∨ (s.cnt < 8 ∧ kadd s l = ((s.last : Int) + 1, 0, kput s l)) := by
  unfold kadd
  split
  · exact .inl ⟨by assumption, rfl⟩
  · exact .inr ⟨by omega, rfl⟩
theorem kadd_wf {s : Kt} {l : List Int} (h : Kwf s) (hl : l.length = s.n) (hb : ∀ x ∈ l, 0 ≤ x ∧ x ≤ 2147483646) : Kwf (kadd s l).2.2 ∧ (kadd s l).2.2.last ≤ s.last + 1 ∧ (kadd s l).2.2.n = s.n ∧ (kadd s l).2.2.t = s.t := by
  rcases kadd_cases s l with ⟨_, e⟩ | ⟨hc, e⟩
  · rw [e]; exact ⟨h, by simp, rfl, rfl⟩
  · rw [e]; exact ⟨kput_wf h hc hl hb, Nat.le_refl _, rfl, rfl⟩
theorem kgen_wf {s : Kt} (ds : List Int) (h : Kwf s) : Kwf (kgen s ds).2.2 ∧ (kgen s ds).2.2.last ≤ s.last + 1 ∧ (kgen s ds).2.2.n = s.n ∧ (kgen s ds).2.2.t = s.t := by
  unfold kgen
  split
  · exact kadd_wf h (ksm_len _ _ _ _ _) (ksm_bd _ _ _ _ _)
  · exact ⟨h, by simp, rfl, rfl⟩
theorem kmix_wf {s : Kt} (g i a b c : Int) (h : Kwf s) : Kwf (kmix s g i a b c).2.2 ∧ (kmix s g i a b c).2.2.last ≤ s.last + 1 ∧ (kmix s g i a b c).2.2.n = s.n ∧ (kmix s g i a b c).2.2.t = s.t := by
  unfold kmix
  split
  · exact kadd_wf h (mxl_len _ _ _ _ _ _) (mxl_bd _ _ _ _ _ _)
  · exact ⟨h, by simp, rfl, rfl⟩
theorem kmul_wf {s : Kt} (g i : Int) (ds : List Int) (h : Kwf s) : Kwf (kmul s g i ds).2.2 ∧ (kmul s g i ds).2.2.last ≤ s.last + 1 ∧ (kmul s g i ds).2.2.n = s.n ∧ (kmul s g i ds).2.2.t = s.t := by
  unfold kmul
  split
  · split
    · exact kadd_wf h (tmO_len _ _ _ _ _ _) (tmO_bd' _ _ _ _ _ _)
    · exact ⟨h, by simp, rfl, rfl⟩
  · exact ⟨h, by simp, rfl, rfl⟩
theorem krfr_wf {s : Kt} (i : Int) (ds : List Int) (h : Kwf s) : Kwf (krfr s i ds).2 ∧ (krfr s i ds).2.last = s.last ∧ (krfr s i ds).2.n = s.n ∧ (krfr s i ds).2.t = s.t := by
  unfold krfr
  split
  · rename_i l hl
    split
    · exact ⟨ktrn_wf h hl (mxl_len _ _ _ _ _ _) (mxl_bd _ _ _ _ _ _), rfl, rfl, rfl⟩
    · exact ⟨h, rfl, rfl, rfl⟩
  · exact ⟨h, rfl, rfl, rfl⟩
theorem kdrp_wf {s : Kt} (i : Int) (h : Kwf s) : Kwf (kdrp s i).2 ∧ (kdrp s i).2.last = s.last ∧ (kdrp s i).2.n = s.n ∧ (kdrp s i).2.t = s.t := by
  unfold kdrp
  split
  · exact ⟨kout_wf h, rfl, rfl, rfl⟩
  · exact ⟨h, rfl, rfl, rfl⟩
end Go.Proofs.YtgmelcdgnjcojagDoor

namespace Go.Proofs.YtgmelcdgnjcojagDoor
open Go.RowKit Go.Maps

theorem lawK : Keyed Tryd.prog 3 := int_keyed Tryd.underlying3
/-- An element as it stands. -/
def rawE (v : Value) : Option (DataW Value × List MemPlace) := some (.held v, [])
/-- An int. -/
def i64r (k : Int) : Prop := -9223372036854775808 ≤ k ∧ k ≤ 9223372036854775807
/-- Block b is a map of q entries: F. -/
def MapI (w : World) (b q : Nat) (F : Int → Option Value) : Prop :=
  ∃ D : DataW Value, w.ownsMap Tryd.prog 3 rawE b q D ∧ Maps.size D = q ∧ ∀ k : Int, i64r k → Maps.has D (.int .i64 k) = (F k).isSome ∧ ∀ v, F k = some v → ∀ z, D.atKey (.int .i64 k) z = .held v
theorem own_tight {w : World} {P : Program} {k : TypeId} {R : Value → Option (DataW Value × List MemPlace)} {b n : Nat} {D : DataW Value} (h : w.ownsMap P k R b n D) : w.ownsMap P k R b (Maps.size D) D := by
  obtain ⟨es, clock, hb, F, _, hD⟩ := h
  refine ⟨es, clock, hb, F, ?_, hD⟩
  rw [hD]
  simp [Maps.size, length_sorted]
theorem keyK {k : Int} (h : i64r k) : keyOf Tryd.prog 3 (.int .i64 k) = some (.int .i64 k) := keyOf_int_mk Tryd.underlying3 (WalkArith.wf_i64 h)
theorem MapI.lt {w : World} {b q : Nat} {F : Int → Option Value} (h : MapI w b q F) : b < w.heap.size := let ⟨_, h1, _⟩ := h; h1.lt
theorem MapI.block {w w' : World} {b q : Nat} {F : Int → Option Value} (h : MapI w b q F) (e : w'.heap[b]? = w.heap[b]?) : MapI w' b q F := by
  obtain ⟨D, ⟨es, clock, hb, h1, h2, h3⟩, h4, h5⟩ := h
  exact ⟨D, ⟨es, clock, e.trans hb, h1, h2, h3⟩, h4, h5⟩
theorem MapI.below {w w' : World} {B b q : Nat} {F : Int → Option Value} (h : MapI w b q F) (hb : Below B w w') (hB : b < B) : MapI w' b q F := h.block (hb.block b hB)
theorem MapI.map {w : World} {b q : Nat} {F : Int → Option Value} (h : MapI w b q F) : ∃ es clock, w.heap[b]? = some (.map es clock) := by
  obtain ⟨D, ⟨es, clock, hb, _⟩, _⟩ := h
  exact ⟨es, clock, hb⟩
theorem MapI.made (w : World) : MapI (w.alloc (.map #[] 0)) w.heap.size 0 (fun _ => none) :=
  ⟨.map [], World.ownsMap_made _ _ _ _, rfl, fun k _ => ⟨rfl, by simp⟩⟩
/-- One entry is laid. -/
def mset (F : Int → Option Value) (k : Int) (v : Option Value) : Int → Option Value := fun i => if i = k then v else F i
theorem lit_ne {i k : Int} (h : i ≠ k) : (Lit.int .i64 i) ≠ (Lit.int .i64 k) := fun e => h (by injection e)
theorem MapI.store {w : World} {b q : Nat} {F : Int → Option Value} {t e : TypeId} (h : MapI w b q F) (ht : Tryd.prog.underlying t = some (.map 3 e)) (hq : q ≤ 1000) {k : Int} (hk : i64r k) (v : Value) :
    ∃ w', (Instr.mapUpdate t (.map (some b)) (.int .i64 k) v).run Tryd.prog w = .ok () w' ∧ MapI w' b (if (F k).isSome then q else q + 1) (mset F k (some v)) ∧ w.mapTurned w' b := by
  obtain ⟨D, ho, hs, hF⟩ := h
  obtain ⟨w', hr, ho', ht'⟩ := ho.store lawK ht (by unfold maxLen; omega) (keyK hk) (show rawE v = some (.held v, []) from rfl)
  have hsz : Maps.size (D.put (.int .i64 k) (.held v)) = if (F k).isSome then q else q + 1 := by rw [size_put (ho.tidy lawK), (hF k hk).1, hs]
  refine ⟨w', hr, ⟨_, hsz ▸ own_tight ho', hsz, fun i hi => ?_⟩, ht'⟩
  unfold mset
  by_cases e : i = k
  · subst e
    rw [if_pos rfl, has_put_same ho.isMap (show WideAt.IsKeyLit (.int .i64 i) from trivial)]
    refine ⟨rfl, fun u hu z => ?_⟩
    obtain rfl := Option.some.inj hu
    exact atKey_put_same ho.isMap (show WideAt.IsKeyLit (.int .i64 i) from trivial) _ _
  · rw [if_neg e, has_put_other (lit_ne e)]
    refine ⟨(hF i hi).1, fun u hu z => ?_⟩
    rw [atKey_put_other (lit_ne e)]
    exact (hF i hi).2 u hu z
theorem MapI.drop {w : World} {b q : Nat} {F : Int → Option Value} {t e : TypeId} (h : MapI w b q F) (ht : Tryd.prog.underlying t = some (.map 3 e)) {k : Int} (hk : i64r k) (ty : TypeId) :
    ∃ w', (Builtin.delete_ #[t, 3] ty #[.map (some b), .int .i64 k]).run Tryd.prog w = .ok (.tuple #[]) w' ∧ MapI w' b (if (F k).isSome then q - 1 else q) (mset F k none) ∧ w.mapTurned w' b := by
  obtain ⟨D, ho, hs, hF⟩ := h
  obtain ⟨w', hr, ho', ht'⟩ := ho.drop lawK ht (keyK hk) ty
  have hsz : Maps.size (D.del (.int .i64 k)) = if (F k).isSome then q - 1 else q := by
    have := size_del (k := .int .i64 k) (ho.tidy lawK)
    rw [(hF k hk).1, hs] at this
    split at this <;> simp_all <;> omega
  refine ⟨w', hr, ⟨_, hsz ▸ own_tight ho', hsz, fun i hi => ?_⟩, ht'⟩
  unfold mset
  by_cases e : i = k
  · subst e
    rw [if_pos rfl, has_del_same]
    exact ⟨rfl, fun u hu => by cases hu⟩
  · rw [if_neg e, has_del_other (lit_ne e)]
    refine ⟨(hF i hi).1, fun u hu z => ?_⟩
    rw [atKey_del_other (lit_ne e)]
    exact (hF i hi).2 u hu z
theorem MapI.look {w : World} {b q : Nat} {F : Int → Option Value} {t e : TypeId} (h : MapI w b q F) (ht : Tryd.prog.underlying t = some (.map 3 e)) {z : Value} (hz : (zeroValue e).run Tryd.prog w = .ok z w) {k : Int} (hk : i64r k) :
    (Instr.lookup t (.map (some b)) (.int .i64 k) true).run Tryd.prog w = .ok (.tuple #[(F k).getD z, .bool (F k).isSome]) w ∧ (Instr.lookup t (.map (some b)) (.int .i64 k) false).run Tryd.prog w = .ok ((F k).getD z) w := by
  obtain ⟨D, ho, hs, hF⟩ := h
  have hv : ∀ (v : Value) (ps : List MemPlace), rawE v = some (D.atKey (.int .i64 k) (.held z), ps) → v = (F k).getD z := fun v ps hv => by
    unfold rawE at hv
    simp only [Option.some.injEq, Prod.mk.injEq] at hv
    have h1 := hv.1
    cases hf : F k with
    | none =>
      rw [atKey_of_not_has (by rw [(hF k hk).1, hf]; rfl)] at h1
      injection h1
    | some u =>
      rw [(hF k hk).2 u hf] at h1
      injection h1
  obtain ⟨v, ps, hr, hp⟩ := ho.look_ok lawK ht hz (show rawE z = some (.held z, []) from rfl) (keyK hk)
  obtain ⟨v2, ps2, hr2, hp2⟩ := ho.lookup lawK ht hz (show rawE z = some (.held z, []) from rfl) (keyK hk)
  rw [hr, hr2, hv v ps hp, hv v2 ps2 hp2, (hF k hk).1]
  exact ⟨rfl, rfl⟩
theorem MapI.len {w : World} {b q : Nat} {F : Int → Option Value} {t e : TypeId} (h : MapI w b q F) (ht : Tryd.prog.underlying t = some (.map 3 e)) (ty : TypeId) : (Builtin.len_ #[t] ty #[.map (some b)]).run Tryd.prog w = .ok (.int .i64 (q : Int)) w := by
  obtain ⟨D, ho, hs, _⟩ := h
  rw [ho.len ht ty, hs]

/-! At the operation. -/
theorem wpList_lookK (w : World) {ops : Array Oper} {rest : List Oper} {o : Oper} {a : Act} {Q : Exit → Act → World → Prop} (hg : o.guard = none) (m x : Operand) (t : TypeId) (hop : o.op = Op.lookup t m x true)
    (e : TypeId) (ht : Tryd.prog.underlying t = some (.map 3 e)) (z : Value) (hz : (zeroValue e).run Tryd.prog w = .ok z w) (b q : Nat) (F : Int → Option Value) (hm : a.eval m = .map (some b)) (h : MapI w b q F) (k : Int) (hx : a.eval x = .int .i64 k) (hk : i64r k)
    (hK : wpList Tryd.prog ops Q rest (a.put o.dst (.tuple #[(F k).getD z, .bool (F k).isSome])) w) : wpList Tryd.prog ops Q (o :: rest) a w := by
  refine wpList_plain hg fun K' hK' => ?_
  unfold Oper.wp
  simp [execOp, hop, hm, hx, (h.look ht hz hk).1, Result.andThen]
  exact hK' _ _ hK
theorem wpList_lookV (w : World) {ops : Array Oper} {rest : List Oper} {o : Oper} {a : Act} {Q : Exit → Act → World → Prop} (hg : o.guard = none) (m x : Operand) (t : TypeId) (hop : o.op = Op.lookup t m x false)
    (e : TypeId) (ht : Tryd.prog.underlying t = some (.map 3 e)) (z : Value) (hz : (zeroValue e).run Tryd.prog w = .ok z w) (b q : Nat) (F : Int → Option Value) (hm : a.eval m = .map (some b)) (h : MapI w b q F) (k : Int) (hx : a.eval x = .int .i64 k) (hk : i64r k)
    (hK : wpList Tryd.prog ops Q rest (a.put o.dst ((F k).getD z)) w) : wpList Tryd.prog ops Q (o :: rest) a w := by
  refine wpList_plain hg fun K' hK' => ?_
  unfold Oper.wp
  simp [execOp, hop, hm, hx, (h.look ht hz hk).2, Result.andThen]
  exact hK' _ _ hK
theorem wpList_putK (w : World) {ops : Array Oper} {rest : List Oper} {o : Oper} {a : Act} {Q : Exit → Act → World → Prop} (hg : o.guard = none) (m x y : Operand) (t : TypeId) (hop : o.op = Op.mapUpdate t m x y)
    (e : TypeId) (ht : Tryd.prog.underlying t = some (.map 3 e)) (b q : Nat) (F : Int → Option Value) (hm : a.eval m = .map (some b)) (h : MapI w b q F) (hq : q ≤ 1000) (k : Int) (v : Value) (hx : a.eval x = .int .i64 k) (hv : a.eval y = v) (hk : i64r k)
    (hK : ∀ w', MapI w' b (if (F k).isSome then q else q + 1) (mset F k (some v)) → w.grownBy w' (some b) → wpList Tryd.prog ops Q rest (a.put o.dst undef) w') : wpList Tryd.prog ops Q (o :: rest) a w := by
  refine wpList_plain hg fun K' hK' => ?_
  obtain ⟨w', hrun, r1, r2⟩ := h.store ht hq hk v
  unfold Oper.wp
  simp [execOp, hop, hm, hx, hv, hrun, Result.andThen]
  exact hK' _ _ (hK w' r1 r2.grown)
theorem wpList_delK (w : World) {ops : Array Oper} {rest : List Oper} {o : Oper} {a : Act} {Q : Exit → Act → World → Prop} (hg : o.guard = none) (m x : Operand) (t : TypeId) (hop : o.op = Op.call { callee := Callee.builtin Builtin.delete, args := #[m, x], argTypes := #[t, 3] })
    (e : TypeId) (ht : Tryd.prog.underlying t = some (.map 3 e)) (b q : Nat) (F : Int → Option Value) (hm : a.eval m = .map (some b)) (h : MapI w b q F) (k : Int) (hx : a.eval x = .int .i64 k) (hk : i64r k)
    (hK : ∀ w', MapI w' b (if (F k).isSome then q - 1 else q) (mset F k none) → w.grownBy w' (some b) → wpList Tryd.prog ops Q rest (a.put o.dst (.tuple #[])) w') : wpList Tryd.prog ops Q (o :: rest) a w := by
  refine wpList_plain hg fun K' hK' => ?_
  obtain ⟨w', hrun, r1, r2⟩ := h.drop ht hk o.type
  unfold Oper.wp
  simp [execOp, hop, resolve, invoke, builtin, hm, hx, hrun, Result.andThen]
  exact hK' _ _ (hK w' r1 r2.grown)
theorem wpList_lenK (w : World) {ops : Array Oper} {rest : List Oper} {o : Oper} {a : Act} {Q : Exit → Act → World → Prop} (hg : o.guard = none) (m : Operand) (t : TypeId) (hop : o.op = Op.call { callee := Callee.builtin Builtin.len, args := #[m], argTypes := #[t] })
    (e : TypeId) (ht : Tryd.prog.underlying t = some (.map 3 e)) (b q : Nat) (F : Int → Option Value) (hm : a.eval m = .map (some b)) (h : MapI w b q F)
    (hK : wpList Tryd.prog ops Q rest (a.put o.dst (.int .i64 (q : Int))) w) : wpList Tryd.prog ops Q (o :: rest) a w := by
  refine wpList_plain hg fun K' hK' => ?_
  unfold Oper.wp
  simp [execOp, hop, resolve, invoke, builtin, hm, h.len ht o.type, Result.andThen]
  exact hK' _ _ hK
end Go.Proofs.YtgmelcdgnjcojagDoor
