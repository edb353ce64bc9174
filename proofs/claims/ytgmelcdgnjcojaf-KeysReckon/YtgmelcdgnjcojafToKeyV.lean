/- Keys: numbers that are dealt; what is reckoned with them is dealt: plain facts. · Keys: their state, and what each call makes of it: plain. · Keys: what is told of them: plain. -/
import Derived.Test.YtgmelcdgnjcojafToEngM
namespace Go.Proofs.Ytgmelcdgnjcojaf
open Crm

/-- The parties' numbers L are shares, of t at the most, of v. -/
def Ksh (n t : Nat) (L : List Int) (v : Int) : Prop := ∃ P : List Int, P.length ≤ t + 1 ∧ L = dl P n ∧ nm (ev P 0) = v
theorem Ksh.len {n t : Nat} {L : List Int} {v : Int} (h : Ksh n t L v) : L.length = n := by
  obtain ⟨P, _, rfl, _⟩ := h
  exact dl_len _ _
theorem Ksh.bd {n t : Nat} {L : List Int} {v : Int} (h : Ksh n t L v) : ∀ z ∈ L, 0 ≤ z ∧ z ≤ 2147483646 := by
  obtain ⟨P, _, rfl, _⟩ := h
  exact dl_bd _ _
theorem Ksh.val {n t : Nat} {L : List Int} {v : Int} (h : Ksh n t L v) : 0 ≤ v ∧ v ≤ 2147483646 := by
  obtain ⟨P, _, _, rfl⟩ := h
  exact nm_bd _
theorem ksh_deal {n t : Nat} {x : Int} {ds : List Int} (h : ds.length ≤ t) : Ksh n t (dl (x :: ds) n) (nm x) := ⟨x :: ds, by rw [List.length_cons]; omega, rfl, by rw [ev, Int.zero_mul, Int.add_zero]⟩
theorem ksh_zero (n t : Nat) : Ksh n t (List.replicate n 0) 0 := by
  refine ⟨[], Nat.zero_le _, ?_, rfl⟩
  exact dl_of (by simp) fun i hi => by simp [hi, ev]; rfl
/-- A mix of them. -/
theorem Ksh.mix {n t : Nat} {L M : List Int} {v u : Int} (a b c : Int) (h : Ksh n t L v) (g : Ksh n t M u) : Ksh n t (mxl L M a b c n) (nm (a * v + b * u + c)) := by
  obtain ⟨A, a1, rfl, rfl⟩ := h
  obtain ⟨B, b1, rfl, rfl⟩ := g
  obtain ⟨P, p1, p2, p3⟩ := mxl_dealt (A := A) (B := B) (a := a) (b := b) (c := c) (n := n) a1 b1
  refine ⟨P, p1, dl_of (mxl_len _ _ _ _ _ _) p2, ?_⟩
  rw [p3]
  refine nm_add_congr (nm_add_congr ?_ ?_) rfl
  · rw [nm_mulr]
  · rw [nm_mulr]
/-- Their product, dealt again. -/
theorem Ksh.times {n t : Nat} {L M ds : List Int} {v u : Int} (h : Ksh n t L v) (g : Ksh n t M u) (hn : 2 * t + 1 ≤ n) (hn9 : n ≤ 9) : Ksh n t (tmO t L M ds n n) (nm (v * u)) := by
  obtain ⟨A, a1, rfl, rfl⟩ := h
  obtain ⟨B, b1, rfl, rfl⟩ := g
  obtain ⟨P, p1, p2, p3⟩ := times_dealt (t := t) (n := n) (A := A) (B := B) (ds := ds) a1 b1 hn hn9
  refine ⟨P, p1, dl_of (tmO_len _ _ _ _ _ _) fun j hj => ?_, ?_⟩
  · rw [tmO_getD _ _ _ _ _ hj]
    exact p2 j hj
  · rw [p3, nm_mull, nm_mulr]
/-- What is told of them. -/
theorem Ksh.opened {n t : Nat} {L : List Int} {v x r : Int} (h : Ksh n t L v) (hn : 2 * t + 1 ≤ n) (hn9 : n ≤ 9) (hO : Opn (shl L n) n t x r) : x = v ∧ r = 0 := by
  obtain ⟨P, p1, rfl, rfl⟩ := h
  exact shl_open hn9 (show t ≤ 4 by omega) (by omega) p1 (fun i hi => dl_getD P hi) hO
/-- What party i deals: its own first draw, or nought, with t draws. -/
def kdr (t : Nat) (sec : Bool) (ds : List Int) (i : Nat) : List Int := if sec then ds.getD (i * (t + 1)) 0 :: (ds.drop (i * (t + 1) + 1)).take t else 0 :: (ds.drop (i * t)).take t
/-- The sums of what the first i parties have dealt. -/
def ksm (n t : Nat) (sec : Bool) (ds : List Int) : Nat → List Int
  | 0 => List.replicate n 0
  | i + 1 => mxl (ksm n t sec ds i) (dl (kdr t sec ds i) n) 1 1 0 n
/-- The sum of what they dealt. -/
def ksv (t : Nat) (sec : Bool) (ds : List Int) : Nat → Int
  | 0 => 0
  | i + 1 => nm (ksv t sec ds i + nm ((kdr t sec ds i).getD 0 0))
theorem kdr_ksh (n t : Nat) (sec : Bool) (ds : List Int) (i : Nat) : Ksh n t (dl (kdr t sec ds i) n) (nm ((kdr t sec ds i).getD 0 0)) := by
  unfold kdr
  cases sec with
  | true =>
    rw [if_pos rfl]
    exact ksh_deal (by rw [List.length_take]; omega)
  | false =>
    rw [if_neg (by decide)]
    exact ksh_deal (by rw [List.length_take]; omega)
theorem ksm_ksh (n t : Nat) (sec : Bool) (ds : List Int) : ∀ i, Ksh n t (ksm n t sec ds i) (ksv t sec ds i)
  | 0 => ksh_zero n t
  | i + 1 => by
    have h := (ksm_ksh n t sec ds i).mix 1 1 0 (kdr_ksh n t sec ds i)
    rw [Int.one_mul, Int.one_mul, Int.add_zero] at h
    exact h
/-- Refreshing turns shares, not what is told. -/
theorem ksv_false (t : Nat) (ds : List Int) : ∀ i, ksv t false ds i = 0
  | 0 => rfl
  | i + 1 => by
    rw [ksv, ksv_false t ds i]
    rfl
theorem Ksh.fresh {n t : Nat} {L ds : List Int} {v : Int} (h : Ksh n t L v) : Ksh n t (mxl L (ksm n t false ds n) 1 1 0 n) v := by
  have g := h.mix 1 1 0 (ksm_ksh n t false ds n)
  rw [ksv_false, Int.one_mul, Int.one_mul, Int.add_zero, Int.add_zero, nm_small h.val.1 h.val.2] at g
  exact g
end Go.Proofs.Ytgmelcdgnjcojaf

namespace Go.Proofs.Ytgmelcdgnjcojaf
open Crm

/-- n parties, t of whom may look; the last handle that ever was; how many keys there are; the parties' numbers by handle. -/
structure Kt where
  n : Nat
  t : Nat
  last : Nat
  cnt : Nat
  f : Int → Option (List Int)
def kset (f : Int → Option (List Int)) (h : Int) (v : Option (List Int)) : Int → Option (List Int) := fun i => if i = h then v else f i
theorem kset_same (f : Int → Option (List Int)) (h : Int) (v : Option (List Int)) : kset f h v h = v := if_pos rfl
theorem kset_other (f : Int → Option (List Int)) {h i : Int} (v : Option (List Int)) (e : i ≠ h) : kset f h v i = f i := if_neg e
structure Kwf (s : Kt) : Prop where
  t4 : s.t ≤ 4
  n9 : s.n ≤ 9
  nt : 2 * s.t + 1 ≤ s.n
  c8 : s.cnt ≤ 8
  key : ∀ h l, s.f h = some l → (1 ≤ h ∧ h ≤ (s.last : Int)) ∧ l.length = s.n ∧ ∀ x ∈ l, 0 ≤ x ∧ x ≤ 2147483646
/-- No keys. -/
def k0 (n t : Nat) : Kt := ⟨n, t, 0, 0, fun _ => none⟩
theorem k0_wf {n t : Nat} (ht : t ≤ 4) (hn : n ≤ 9) (h : 2 * t + 1 ≤ n) : Kwf (k0 n t) := ⟨ht, hn, h, Nat.zero_le _, fun h l e => by cases e⟩
/-- A key more. -/
def kput (s : Kt) (l : List Int) : Kt := ⟨s.n, s.t, s.last + 1, s.cnt + 1, kset s.f ((s.last : Int) + 1) (some l)⟩
def kadd (s : Kt) (l : List Int) : Int × Int × Kt := if 8 ≤ s.cnt then (0, 2, s) else ((s.last : Int) + 1, 0, kput s l)
def kgen (s : Kt) (ds : List Int) : Int × Int × Kt := if ds.length = s.n * (s.t + 1) then kadd s (ksm s.n s.t true ds s.n) else (0, 1, s)
def kmix (s : Kt) (g h : Int) (a b c : Int) : Int × Int × Kt :=
  match s.f g, s.f h with
  | some l, some m => kadd s (mxl l m a b c s.n)
  | _, _ => (0, 4, s)
def kmul (s : Kt) (g h : Int) (ds : List Int) : Int × Int × Kt :=
  match s.f g, s.f h with
  | some l, some m => if ds.length = s.n * s.t then kadd s (tmO s.t l m ds s.n s.n) else (0, 1, s)
  | _, _ => (0, 4, s)
/-- The numbers of a key are turned. -/
def ktrn (s : Kt) (h : Int) (l : List Int) : Kt := ⟨s.n, s.t, s.last, s.cnt, kset s.f h (some l)⟩
def krfr (s : Kt) (h : Int) (ds : List Int) : Int × Kt :=
  match s.f h with
  | some l => if ds.length = s.n * s.t then (0, ktrn s h (mxl l (ksm s.n s.t false ds s.n) 1 1 0 s.n)) else (1, s)
  | none => (4, s)
/-- A key is gone. -/
def kout (s : Kt) (h : Int) : Kt := ⟨s.n, s.t, s.last, s.cnt - 1, kset s.f h none⟩
def kdrp (s : Kt) (h : Int) : Int × Kt :=
  match s.f h with
  | some _ => (0, kout s h)
  | none => (4, s)
/-- What Open answers. -/
def Kop (s : Kt) (h x r : Int) : Prop := (s.f h = none ∧ x = 0 ∧ r = 4) ∨ ∃ l, s.f h = some l ∧ Opn (shl l s.n) s.n s.t x r
theorem Kop.one {s : Kt} {h x r y q : Int} (a : Kop s h x r) (b : Kop s h y q) : x = y ∧ r = q := by
  rcases a with ⟨a1, rfl, rfl⟩ | ⟨l, a1, a2⟩ <;> rcases b with ⟨b1, rfl, rfl⟩ | ⟨m, b1, b2⟩
  · exact ⟨rfl, rfl⟩
  · rw [a1] at b1; cases b1
  · rw [a1] at b1; cases b1
  · rw [a1] at b1
    obtain rfl := Option.some.inj b1
    exact a2.one b2
theorem kput_wf {s : Kt} {l : List Int} (h : Kwf s) (hc : s.cnt < 8) (hl : l.length = s.n) (hb : ∀ x ∈ l, 0 ≤ x ∧ x ≤ 2147483646) : Kwf (kput s l) := by
  refine ⟨h.t4, h.n9, h.nt, hc, fun i m e => ?_⟩
  unfold kput kset at e
  simp only at e
  split at e
  · rename_i hi
    obtain rfl := Option.some.inj e
    refine ⟨⟨by omega, ?_⟩, hl, hb⟩
    show i ≤ ((s.last + 1 : Nat) : Int)
    omega
  · have := h.key i m e
    refine ⟨⟨this.1.1, ?_⟩, this.2⟩
    show i ≤ ((s.last + 1 : Nat) : Int)
    omega
theorem ktrn_wf {s : Kt} {h : Int} {l m : List Int} (w : Kwf s) (hm : s.f h = some m) (hl : l.length = s.n) (hb : ∀ x ∈ l, 0 ≤ x ∧ x ≤ 2147483646) : Kwf (ktrn s h l) := by
  refine ⟨w.t4, w.n9, w.nt, w.c8, fun i k e => ?_⟩
  unfold ktrn kset at e
  simp only at e
  split at e
  · rename_i hi
    obtain rfl := Option.some.inj e
    have := w.key h m hm
    rw [hi]
    exact ⟨this.1, hl, hb⟩
  · exact w.key i k e
theorem kout_wf {s : Kt} {h : Int} (w : Kwf s) : Kwf (kout s h) := by
  refine ⟨w.t4, w.n9, w.nt, ?_, fun i k e => ?_⟩
  · have := w.c8
    show s.cnt - 1 ≤ 8
    omega
  · unfold kout kset at e
    simp only at e
    split at e
    · cases e
    · exact w.key i k e
theorem ksm_len (n t : Nat) (b : Bool) (ds : List Int) (i : Nat) : (ksm n t b ds i).length = n := (ksm_ksh n t b ds i).len
theorem ksm_bd (n t : Nat) (b : Bool) (ds : List Int) (i : Nat) : ∀ x ∈ ksm n t b ds i, 0 ≤ x ∧ x ≤ 2147483646 := (ksm_ksh n t b ds i).bd
theorem tmO_bd' (t : Nat) (a b ds : List Int) (n k : Nat) : ∀ x ∈ tmO t a b ds n k, 0 ≤ x ∧ x ≤ 2147483646 := fun x hx => by
  unfold tmO at hx
  obtain ⟨j, _, rfl⟩ := List.mem_map.1 hx
  exact nm_bd _
/-- What is told of a new key: its handle and no error, or none and that there are too many. -/
theorem kadd_cases (s : Kt) (l : List Int) : (8 ≤ s.cnt ∧ kadd s l = (0, 2, s)) ∨ (s.cnt < 8 ∧ kadd s l = ((s.last : Int) + 1, 0, kput s l)) := by
  unfold kadd
  split
  · exact .inl ⟨by assumption, rfl⟩
  · exact .inr ⟨by omega, rfl⟩
theorem kadd_wf {s : Kt} {l : List Int} (h : Kwf s) (hl : l.length = s.n) (hb : ∀ x ∈ l, 0 ≤ x ∧ x ≤ 2147483646) : Kwf (kadd s l).2.2 ∧ (kadd s l).2.2.last ≤ s.last + 1 ∧ (kadd s l).2.2.n = s.n ∧ (kadd s l).2.2.t = s.t := by
  rcases kadd_cases s l with ⟨_, e⟩ | ⟨hc, e⟩
  · rw [e]; exact ⟨h, by simp, rfl, rfl⟩
  · rw [e]; exact ⟨kput_wf h hc hl hb, Nat.le_refl _, rfl, rfl⟩
theorem kgen_wf {s : Kt} (ds : List Int) (h : Kwf s) : Kwf (kgen s ds).2.2 ∧ (kgen s ds).2.2.last ≤ s.last + 1 ∧ (kgen s ds).2.2.n = s.n ∧ (kgen s ds).2.2.t = s.t := by
  unfold kgen
  split
  · exact kadd_wf h (ksm_len _ _ _ _ _) (ksm_bd _ _ _ _ _)
  · exact ⟨h, by simp, rfl, rfl⟩
theorem kmix_wf {s : Kt} (g i a b c : Int) (h : Kwf s) : Kwf (kmix s g i a b c).2.2 ∧ (kmix s g i a b c).2.2.last ≤ s.last + 1 ∧ (kmix s g i a b c).2.2.n = s.n ∧ (kmix s g i a b c).2.2.t = s.t := by
  unfold kmix
  split
  · exact kadd_wf h (mxl_len _ _ _ _ _ _) (mxl_bd _ _ _ _ _ _)
  · exact ⟨h, by simp, rfl, rfl⟩
theorem kmul_wf {s : Kt} (g i : Int) (ds : List Int) (h : Kwf s) : Kwf (kmul s g i ds).2.2 ∧ (kmul s g i ds).2.2.last ≤ s.last + 1 ∧ (kmul s g i ds).2.2.n = s.n ∧ (kmul s g i ds).2.2.t = s.t := by
  unfold kmul
  split
  · split
    · exact kadd_wf h (tmO_len _ _ _ _ _ _) (tmO_bd' _ _ _ _ _ _)
    · exact ⟨h, by simp, rfl, rfl⟩
  · exact ⟨h, by simp, rfl, rfl⟩
theorem krfr_wf {s : Kt} (i : Int) (ds : List Int) (h : Kwf s) : Kwf (krfr s i ds).2 ∧ (krfr s i ds).2.last = s.last ∧ (krfr s i ds).2.n = s.n ∧ (krfr s i ds).2.t = s.t := by
  unfold krfr
  split
  · rename_i l hl
    split
    · exact ⟨ktrn_wf h hl (mxl_len _ _ _ _ _ _) (mxl_bd _ _ _ _ _ _), rfl, rfl, rfl⟩
    · exact ⟨h, rfl, rfl, rfl⟩
  · exact ⟨h, rfl, rfl, rfl⟩
theorem kdrp_wf {s : Kt} (i : Int) (h : Kwf s) : Kwf (kdrp s i).2 ∧ (kdrp s i).2.last = s.last ∧ (kdrp s i).2.n = s.n ∧ (kdrp s i).2.t = s.t := by
  unfold kdrp
  split
  · exact ⟨kout_wf h, rfl, rfl, rfl⟩
  · exact ⟨h, rfl, rfl, rfl⟩
end Go.Proofs.Ytgmelcdgnjcojaf

namespace Go.Proofs.Ytgmelcdgnjcojaf
open Crm

/-- Of each key the parties' numbers are shares, of t at the most, of g. -/
def Kvl (s : Kt) (g : Int → Option Int) : Prop := ∀ h, (s.f h = none ∧ g h = none) ∨ ∃ l v, s.f h = some l ∧ g h = some v ∧ Ksh s.n s.t l v
def gset (g : Int → Option Int) (h : Int) (v : Option Int) : Int → Option Int := fun i => if i = h then v else g i
theorem k0_vl (n t : Nat) : Kvl (k0 n t) (fun _ => none) := fun _ => .inl ⟨rfl, rfl⟩
theorem kput_vl {s : Kt} {g : Int → Option Int} {l : List Int} {v : Int} (h : Kvl s g) (hl : Ksh s.n s.t l v) : Kvl (kput s l) (gset g ((s.last : Int) + 1) (some v)) := fun i => by
  show (kset s.f ((s.last : Int) + 1) (some l) i = none ∧ gset g ((s.last : Int) + 1) (some v) i = none) ∨ ∃ l' v', kset s.f ((s.last : Int) + 1) (some l) i = some l' ∧ gset g ((s.last : Int) + 1) (some v) i = some v' ∧ Ksh s.n s.t l' v'
  unfold kset gset
  split
  · exact .inr ⟨l, v, rfl, rfl, hl⟩
  · exact h i
theorem ktrn_vl {s : Kt} {g : Int → Option Int} {l m : List Int} {v k : Int} (h : Kvl s g) (hm : s.f k = some m) (hv : Ksh s.n s.t m v → Ksh s.n s.t l v) (hg : g k = some v) : Kvl (ktrn s k l) g := fun i => by
  show (kset s.f k (some l) i = none ∧ g i = none) ∨ ∃ l' v', kset s.f k (some l) i = some l' ∧ g i = some v' ∧ Ksh s.n s.t l' v'
  unfold kset
  split
  · rename_i e
    rcases h k with ⟨e1, _⟩ | ⟨l', v', e1, e2, e3⟩
    · rw [hm] at e1; cases e1
    · rw [hm] at e1
      obtain rfl := Option.some.inj e1
      rw [hg] at e2
      obtain rfl := Option.some.inj e2
      rw [e]
      exact .inr ⟨l, v, rfl, hg, hv e3⟩
  · exact h i
theorem kout_vl {s : Kt} {g : Int → Option Int} (h : Kvl s g) (k : Int) : Kvl (kout s k) (gset g k none) := fun i => by
  show (kset s.f k none i = none ∧ gset g k none i = none) ∨ ∃ l' v', kset s.f k none i = some l' ∧ gset g k none i = some v' ∧ Ksh s.n s.t l' v'
  unfold kset gset
  split
  · exact .inl ⟨rfl, rfl⟩
  · exact h i
theorem Kvl.some {s : Kt} {g : Int → Option Int} (h : Kvl s g) {i : Int} {l : List Int} (hf : s.f i = Option.some l) : ∃ v, g i = Option.some v ∧ Ksh s.n s.t l v := by
  rcases h i with ⟨e, _⟩ | ⟨l', v, e1, e2, e3⟩
  · rw [e] at hf; cases hf
  · rw [e1] at hf
    obtain rfl := Option.some.inj hf
    exact ⟨v, e2, e3⟩
/-- What is told of a key is its value. -/
theorem Kvl.told {s : Kt} {g : Int → Option Int} (h : Kvl s g) (w : Kwf s) {i x r : Int} {l : List Int} (hf : s.f i = Option.some l) (hO : Kop s i x r) : g i = Option.some x ∧ r = 0 := by
  obtain ⟨v, e1, e2⟩ := h.some hf
  rcases hO with ⟨e, _⟩ | ⟨l', e, hO⟩
  · rw [e] at hf; cases hf
  · rw [e] at hf
    obtain rfl := Option.some.inj hf
    obtain ⟨rfl, rfl⟩ := e2.opened w.nt w.n9 hO
    exact ⟨e1, rfl⟩
theorem Kop.none {s : Kt} {i x r : Int} (hO : Kop s i x r) (hf : s.f i = Option.none) : x = 0 ∧ r = 4 := by
  rcases hO with ⟨_, e⟩ | ⟨l, e, _⟩
  · exact e
  · rw [e] at hf; cases hf
/-- There are values. -/
def Kvd (s : Kt) : Prop := ∃ g, Kvl s g
theorem k0_vd (n t : Nat) : Kvd (k0 n t) := ⟨_, k0_vl n t⟩
theorem kadd_vd {s : Kt} {l : List Int} {v : Int} (h : Kvd s) (hl : Ksh s.n s.t l v) : Kvd (kadd s l).2.2 := by
  obtain ⟨g, h⟩ := h
  rcases kadd_cases s l with ⟨_, e⟩ | ⟨_, e⟩
  · rw [e]; exact ⟨g, h⟩
  · rw [e]; exact ⟨_, kput_vl h hl⟩
theorem kgen_vd {s : Kt} (h : Kvd s) (ds : List Int) : Kvd (kgen s ds).2.2 := by
  unfold kgen
  split
  · exact kadd_vd h (ksm_ksh _ _ _ _ _)
  · exact h
theorem kmix_vd {s : Kt} (h : Kvd s) (g i a b c : Int) : Kvd (kmix s g i a b c).2.2 := by
  obtain ⟨q, hq⟩ := h
  unfold kmix
  split
  · rename_i l m e1 e2
    obtain ⟨v, _, hv⟩ := hq.some e1
    obtain ⟨u, _, hu⟩ := hq.some e2
    exact kadd_vd ⟨q, hq⟩ (hv.mix a b c hu)
  · exact ⟨q, hq⟩
theorem kmul_vd {s : Kt} (h : Kvd s) (w : Kwf s) (g i : Int) (ds : List Int) : Kvd (kmul s g i ds).2.2 := by
  obtain ⟨q, hq⟩ := h
  unfold kmul
  split
  · rename_i l m e1 e2
    split
    · obtain ⟨v, _, hv⟩ := hq.some e1
      obtain ⟨u, _, hu⟩ := hq.some e2
      exact kadd_vd ⟨q, hq⟩ (hv.times hu w.nt w.n9)
    · exact ⟨q, hq⟩
  · exact ⟨q, hq⟩
theorem krfr_vd {s : Kt} (h : Kvd s) (i : Int) (ds : List Int) : Kvd (krfr s i ds).2 := by
  obtain ⟨q, hq⟩ := h
  unfold krfr
  split
  · rename_i l e1
    split
    · obtain ⟨v, e2, _⟩ := hq.some e1
      exact ⟨q, ktrn_vl hq e1 (fun hv => hv.fresh) e2⟩
    · exact ⟨q, hq⟩
  · exact ⟨q, hq⟩
theorem kdrp_vd {s : Kt} (h : Kvd s) (i : Int) : Kvd (kdrp s i).2 := by
  obtain ⟨q, hq⟩ := h
  unfold kdrp
  split
  · exact ⟨_, kout_vl hq i⟩
  · exact ⟨q, hq⟩
end Go.Proofs.Ytgmelcdgnjcojaf
