/- Keys: their state, and what each call makes of it: plain. · A store of keys in memory: a struct of four cells, its map, the lists in it. · A program's store of keys in memory (keys.Keys), and what its calls leave. · What package keys is asked, call by call. · (*croftref.Store).has, keep. · (*croftref.Store).sums. · croftref.NewStore; (*croftref.Store).Drop, Open. · (*croftref.Store).Combine, Multiply. · Package keys: keep, withDealt, both. · Package keys: New, Tweak, Combine, Multiply, Shares, Drop. · Package keys: Gen. · Keys: what is told of them: plain. -/
import Derived.Test.YtljlioglpaogdagDoorToTopRightM
import Derived.Test.YtljlioglpaogdagDoorToShortC
import Derived.BigQuiet
import Derived.Test.YtljlioglpaogdagDoorToBadM
import Derived.Test.YtljlioglpaogdagDoorToOpenC
import Derived.Test.YtljlioglpaogdagDoorToGaussM
import Derived.Test.YtljlioglpaogdagDoorToTimesC
import Derived.Test.YtljlioglpaogdagDoorToLsV2
import Derived.Deep.RegionWith
import Derived.Test.YtljlioglpaogdagDoorProg
import Derived.WalkKit
import Derived.WalkSpells
import Derived.WalkLawsBesides
import Derived.Deep.AppendLies
import Derived.Deep.RegionLaw
import Derived.Test.YtljlioglpaogdagDoorToCloneC
namespace Go.Proofs.YtljlioglpaogdagDoor
set_option linter.unusedVariables false
set_option maxRecDepth 100000
set_option maxHeartbeats 8000000
section
open Crm
/-- n parties, t of whom may look; the last handle that ever was; how many keys there are; the parties' numbers by handle. -/
structure Kt where
  n : Nat
  t : Nat
  last : Nat
  cnt : Nat
  f : Int → Option (List Int)
def kset (f : Int → Option (List Int)) (h : Int) (v : Option (List Int)) : Int → Option (List Int) := fun i => if i = h then v else f i
theorem kset_same (f : Int → Option (List Int)) (h : Int) (v : Option (List Int)) : kset f h v h = v := if_pos rfl
theorem kset_other (f : Int → Option (List Int)) {h i : Int} (v : Option (List Int)) (e : i ≠ h) : kset f h v i = f i := if_neg e
structure Kwf (s : Kt) : Prop where
  t4 : s.t ≤ 4
  n9 : s.n ≤ 9
  nt : 2 * s.t + 1 ≤ s.n
  c8 : s.cnt ≤ 8
  key : ∀ h l, s.f h = some l → (1 ≤ h ∧ h ≤ (s.last : Int)) ∧ l.length = s.n ∧ ∀ x ∈ l, 0 ≤ x ∧ x ≤ 2147483646
/-- No keys. -/
def k0 (n t : Nat) : Kt := ⟨n, t, 0, 0, fun _ => none⟩
theorem k0_wf {n t : Nat} (ht : t ≤ 4) (hn : n ≤ 9) (h : 2 * t + 1 ≤ n) : Kwf (k0 n t) := ⟨ht, hn, h, Nat.zero_le _, fun h l e => by cases e⟩
/-- A key more. -/
def kput (s : Kt) (l : List Int) : Kt := ⟨s.n, s.t, s.last + 1, s.cnt + 1, kset s.f ((s.last : Int) + 1) (some l)⟩
def kadd (s : Kt) (l : List Int) : Int × Int × Kt := if 8 ≤ s.cnt then (0, 2, s) else ((s.last : Int) + 1, 0, kput s l)
def kgen (s : Kt) (ds : List Int) : Int × Int × Kt := if ds.length = s.n * (s.t + 1) then kadd s (ksm s.n s.t true ds s.n) else (0, 1, s)
def kmix (s : Kt) (g h : Int) (a b c : Int) : Int × Int × Kt :=
  match s.f g, s.f h with
  | some l, some m => kadd s (mxl l m a b c s.n)
  | _, _ => (0, 4, s)
/-- The numbers of a key are turned. -/
def ktrn (s : Kt) (h : Int) (l : List Int) : Kt := ⟨s.n, s.t, s.last, s.cnt, kset s.f h (some l)⟩
/-- A key is gone. -/
def kout (s : Kt) (h : Int) : Kt := ⟨s.n, s.t, s.last, s.cnt - 1, kset s.f h none⟩
/-- What Open answers. -/
def Kop (s : Kt) (h x r : Int) : Prop := (s.f h = none ∧ x = 0 ∧ r = 4) ∨ ∃ l, s.f h = some l ∧ Opn (shl l s.n) s.n s.t x r
theorem Kop.one {s : Kt} {h x r y q : Int} (a : Kop s h x r) (b : Kop s h y q) : x = y ∧ r = q := by
  rcases a with ⟨a1, rfl, rfl⟩ | ⟨l, a1, a2⟩ <;> rcases b with ⟨b1, rfl, rfl⟩ | ⟨m, b1, b2⟩
  · exact ⟨rfl, rfl⟩
  · rw [a1] at b1; cases b1
  · rw [a1] at b1; cases b1
  · rw [a1] at b1
    obtain rfl := Option.some.inj b1
    exact a2.one b2
theorem kput_wf {s : Kt} {l : List Int} (h : Kwf s) (hc : s.cnt < 8) (hl : l.length = s.n) (hb : ∀ x ∈ l, 0 ≤ x ∧ x ≤ 2147483646) : Kwf (kput s l) := by
  refine ⟨h.t4, h.n9, h.nt, hc, fun i m e => ?_⟩
  unfold kput kset at e
  simp only at e
  split at e
  · rename_i hi
    obtain rfl := Option.some.inj e
    refine ⟨⟨by omega, ?_⟩, hl, hb⟩
    show i ≤ ((s.last + 1 : Nat) : Int)
    omega
  · have := h.key i m e
    refine ⟨⟨this.1.1, ?_⟩, this.2⟩
    show i ≤ ((s.last + 1 : Nat) : Int)
    omega
theorem ktrn_wf {s : Kt} {h : Int} {l m : List Int} (w : Kwf s) (hm : s.f h = some m) (hl : l.length = s.n) (hb : ∀ x ∈ l, 0 ≤ x ∧ x ≤ 2147483646) : Kwf (ktrn s h l) := by
  refine ⟨w.t4, w.n9, w.nt, w.c8, fun i k e => ?_⟩
  unfold ktrn kset at e
  simp only at e
  split at e
  · rename_i hi
    obtain rfl := Option.some.inj e
    have := w.key h m hm
    rw [hi]
    exact ⟨this.1, hl, hb⟩
  · exact w.key i k e
theorem kout_wf {s : Kt} {h : Int} (w : Kwf s) : Kwf (kout s h) := by
  refine ⟨w.t4, w.n9, w.nt, ?_, fun i k e => ?_⟩
  · have := w.c8
    show s.cnt - 1 ≤ 8
    omega
  · unfold kout kset at e
    simp only at e
    split at e
    · cases e
    · exact w.key i k e
theorem ksm_bd (n t : Nat) (b : Bool) (ds : List Int) (i : Nat) : ∀ x ∈ ksm n t b ds i, 0 ≤ x ∧ x ≤ 2147483646 := (ksm_ksh n t b ds i).bd
/-- What is told of a new key: its handle and no error, or none and that there are too many. -/
theorem kadd_cases (s : Kt) (l : List Int) : (8 ≤ s.cnt ∧ kadd s l = (0, 2, s)) ∨ (s.cnt < 8 ∧ kadd s l = ((s.last : Int) + 1, 0, kput s l)) := by
  unfold kadd
  split
  · exact .inl ⟨by assumption, rfl⟩
  · exact .inr ⟨by omega, rfl⟩
end
section
open Crm Go.RowKit
theorem cell_block {w w' : World} {p : Addr} (e : w'.heap[p.block]? = w.heap[p.block]?) : w'.cell? p = w.cell? p := by unfold World.cell?; rw [e]
theorem add_block (x : Addr) (i : Nat) : (x.add i).block = x.block := by unfold Addr.add; split <;> rfl
theorem Rd.block {w w' : World} {a : Option Addr} {n c : Nat} {xs : List Int} (h : Rd w a n c xs) (hk : ∀ x, a = some x → w'.heap[x.block]? = w.heap[x.block]?) : Rd w' a n c xs := by
  refine ⟨h.len, h.cap, h.max, h.bd, h.nil, fun x hx i hi => ?_⟩
  have e : w'.cell? (x.add i) = w.cell? (x.add i) := cell_block (by rw [add_block]; exact hk x hx)
  rw [e]
  exact h.cell x hx i hi
/-- Nothing that was there has turned but in G. -/
structure Tch (w w' : World) (G : Nat → Prop) : Prop where
  os : w'.os = w.os
  tape : w'.tape = w.tape
  output : w'.output = w.output
  size : w.heap.size ≤ w'.heap.size
  block : ∀ i, i < w.heap.size → ¬ G i → w'.heap[i]? = w.heap[i]?
/-- G, and what is new. -/
def Gnx (G : Nat → Prop) (w w' : World) : Nat → Prop := fun i => G i ∨ (w.heap.size ≤ i ∧ i < w'.heap.size)
theorem Tch.refl (w : World) (G : Nat → Prop) : Tch w w G := ⟨rfl, rfl, rfl, Nat.le_refl _, fun _ _ _ => rfl⟩
theorem Tch.of_below {w w' : World} {G : Nat → Prop} (h : Below w.heap.size w w') : Tch w w' G := ⟨h.os, h.tape, h.output, h.size, fun i hi _ => h.block i hi⟩
theorem Tch.trans {w w1 w2 : World} {G : Nat → Prop} (h : Tch w w1 G) (k : Tch w1 w2 (Gnx G w w1)) : Tch w w2 G :=
  ⟨k.os.trans h.os, k.tape.trans h.tape, k.output.trans h.output, Nat.le_trans h.size k.size, fun i hi hn => (k.block i (Nat.lt_of_lt_of_le hi h.size) (fun g => g.elim hn (fun g => by omega))).trans (h.block i hi hn)⟩
theorem Tch.below {B : Nat} {w0 w w' : World} {G : Nat → Prop} (h : Tch w w' G) (hb : Below B w0 w) (hG : ∀ i, G i → B ≤ i) (hB : B ≤ w.heap.size) : Below B w0 w' :=
  ⟨h.os.trans hb.os, h.tape.trans hb.tape, h.output.trans hb.output, Nat.le_trans hb.size h.size, fun i hi => (h.block i (by omega) (fun g => by have := hG i g; omega)).trans (hb.block i hi)⟩
theorem Tch.rd {w w' : World} {G : Nat → Prop} {a : Option Addr} {n c : Nat} {xs : List Int} (h : Tch w w' G) (r : Rd w a n c xs) (hn : 0 < n) (hG : ∀ x, a = some x → ¬ G x.block) : Rd w' a n c xs := by
  refine r.block fun x hx => h.block _ ?_ (hG x hx)
  obtain ⟨b, o, rfl, hb, _⟩ := r.at hn
  obtain rfl := Option.some.inj hx
  exact hb
theorem Gnx.lt {G : Nat → Prop} {w w' : World} (h : ∀ i, G i → i < w.heap.size) (hs : w.heap.size ≤ w'.heap.size) : ∀ i, Gnx G w w' i → i < w'.heap.size := fun i g => g.elim (fun g => Nat.lt_of_lt_of_le (h i g) hs) (fun g => g.2)
theorem Gnx.sub {G : Nat → Prop} {w w1 w2 : World} (h : w.heap.size ≤ w1.heap.size) (hs : w1.heap.size ≤ w2.heap.size) : ∀ i, Gnx (Gnx G w w1) w1 w2 i → Gnx G w w2 i := fun i g =>
  g.elim (fun g => g.elim .inl (fun g => .inr ⟨g.1, by omega⟩)) (fun g => .inr ⟨by omega, g.2⟩)

/-- The struct at p, its map at b with the elements V: the state s. -/
structure Sto (TY : TypeId) (w : World) (p b : Nat) (V : Int → Option Value) (s : Kt) : Prop where
  row : w.heap[p]? = some (.cells #[.int .i64 s.n, .int .i64 s.t, .int .i64 s.last, .map (some b)] TY (0, 0))
  map : MapI w b s.cnt V
  val : ∀ h, (s.f h = none ∧ V h = none) ∨ ∃ l a c, s.f h = some l ∧ V h = some (.slice a s.n c) ∧ Rd w a s.n c l
  wf : Kwf s
def Ftp (p b : Nat) (V : Int → Option Value) : Nat → Prop := fun i => i = p ∨ i = b ∨ ∃ h a m c, V h = some (.slice (some a) m c) ∧ a.block = i
theorem Sto.keep {TY : TypeId} {w w' : World} {p b : Nat} {V : Int → Option Value} {s : Kt} (h : Sto TY w p b V s) (hk : ∀ i, Ftp p b V i → w'.heap[i]? = w.heap[i]?) : Sto TY w' p b V s := by
  refine ⟨by rw [hk p (.inl rfl)]; exact h.row, h.map.block (hk b (.inr (.inl rfl))), fun i => ?_, h.wf⟩
  rcases h.val i with e | ⟨l, a, c, e1, e2, e3⟩
  · exact .inl e
  · exact .inr ⟨l, a, c, e1, e2, e3.block fun x hx => hk _ (.inr (.inr ⟨i, x, _, _, by rw [← hx]; exact e2, rfl⟩))⟩
/-- There is a store of state s at p, all of it in G. -/
def Stx (TY : TypeId) (w : World) (p : Nat) (G : Nat → Prop) (s : Kt) : Prop := (∃ b V, Sto TY w p b V s ∧ ∀ i, Ftp p b V i → G i) ∧ ∀ i, G i → i < w.heap.size
theorem Stx.keep {TY : TypeId} {w w' : World} {p : Nat} {G : Nat → Prop} {s : Kt} (h : Stx TY w p G s) (hk : ∀ i, G i → w'.heap[i]? = w.heap[i]?) : Stx TY w' p G s := by
  obtain ⟨⟨b, V, h1, h2⟩, h3⟩ := h
  refine ⟨⟨b, V, h1.keep fun i hi => hk i (h2 i hi), h2⟩, fun i hi => ?_⟩
  have e := hk i hi
  rw [Array.getElem?_eq_getElem (h3 i hi)] at e
  exact (Array.getElem?_eq_some_iff.1 e).1
theorem Stx.mono {TY : TypeId} {w : World} {p : Nat} {G G' : Nat → Prop} {s : Kt} (h : Stx TY w p G s) (hG : ∀ i, G i → G' i) (hl : ∀ i, G' i → i < w.heap.size) : Stx TY w p G' s := by
  obtain ⟨⟨b, V, h1, h2⟩, h3⟩ := h
  exact ⟨⟨b, V, h1, fun i hi => hG i (h2 i hi)⟩, hl⟩
theorem Stx.below {TY : TypeId} {w w' : World} {p : Nat} {G : Nat → Prop} {s : Kt} (h : Stx TY w p G s) (hb : Below w.heap.size w w') : Stx TY w' p (Gnx G w w') s :=
  (h.keep fun i hi => hb.block i (h.2 i hi)).mono (fun _ => .inl) (Gnx.lt h.2 hb.size)
theorem Stx.same {TY : TypeId} {w w' : World} {p : Nat} {G : Nat → Prop} {s : Kt} (h : Stx TY w p G s) (hb : Below w.heap.size w w') : Stx TY w' p G s := h.keep fun i hi => hb.block i (h.2 i hi)
theorem Stx.wf {TY : TypeId} {w : World} {p : Nat} {G : Nat → Prop} {s : Kt} (h : Stx TY w p G s) : Kwf s := let ⟨⟨_, _, h1, _⟩, _⟩ := h; h1.wf
/-- It stays while another one turns. -/
theorem Stx.aside {TY : TypeId} {w w' : World} {p : Nat} {G G' : Nat → Prop} {s : Kt} (h : Stx TY w p G s) (ht : Tch w w' G') (hd : ∀ i, G i → ¬ G' i) : Stx TY w' p G s := h.keep fun i hi => ht.block i (h.2 i hi) (hd i hi)
/-- What a call that may make a key leaves. -/
def Kde (TY : TypeId) (p : Nat) (G : Nat → Prop) (r : Int × Int × Kt) (w : World) (e : Ending) (w' : World) : Prop :=
  e = .returned (.tuple #[.int .i64 r.1, .int .i64 r.2.1]) ∧ Stx TY w' p (Gnx G w w') r.2.2 ∧ Tch w w' G
/-- What a call that turns a key, or drops it, leaves. -/
def Kte (TY : TypeId) (p : Nat) (G : Nat → Prop) (r : Int × Kt) (w : World) (e : Ending) (w' : World) : Prop :=
  e = .returned (.int .i64 r.1) ∧ Stx TY w' p (Gnx G w w') r.2 ∧ Tch w w' G
/-- What is behind one step more. -/
theorem Kde.behind {TY : TypeId} {p : Nat} {G : Nat → Prop} {r : Int × Int × Kt} {w w1 w' : World} {e : Ending} (hb : Below w.heap.size w w1) (h : Kde TY p (Gnx G w w1) r w1 e w') (hG : ∀ i, G i → i < w.heap.size) : Kde TY p G r w e w' := by
  obtain ⟨h1, h2, h3⟩ := h
  refine ⟨h1, h2.mono (Gnx.sub hb.size h3.size) (Gnx.lt hG (Nat.le_trans hb.size h3.size)), (Tch.of_below hb).trans h3⟩
theorem Kte.behind {TY : TypeId} {p : Nat} {G : Nat → Prop} {r : Int × Kt} {w w1 w' : World} {e : Ending} (hb : Below w.heap.size w w1) (h : Kte TY p (Gnx G w w1) r w1 e w') (hG : ∀ i, G i → i < w.heap.size) : Kte TY p G r w e w' := by
  obtain ⟨h1, h2, h3⟩ := h
  refine ⟨h1, h2.mono (Gnx.sub hb.size h3.size) (Gnx.lt hG (Nat.le_trans hb.size h3.size)), (Tch.of_below hb).trans h3⟩
/-- A list that is new lies in what is new. -/
theorem gnx_new {G : Nat → Prop} {w w1 : World} {a : Option Addr} {n c : Nat} {xs : List Int} (r : Rd w1 a n c xs) (hn : 0 < n) (hx : ∀ x, a = some x → w.heap.size ≤ x.block) : ∀ x, a = some x → Gnx G w w1 x.block := fun x e => by
  obtain ⟨b, o, e2, hb, _⟩ := r.at hn
  rw [e] at e2
  obtain rfl := Option.some.inj e2
  exact .inr ⟨hx _ e, hb⟩
/-- Its cells. -/
theorem Sto.four {TY : TypeId} {w : World} {p b : Nat} {V : Int → Option Value} {s : Kt} (h : Sto TY w p b V s) : w.cell? ⟨p, 0, none⟩ = some (.int .i64 s.n) ∧ w.cell? ⟨p, 1, none⟩ = some (.int .i64 s.t) ∧ w.cell? ⟨p, 2, none⟩ = some (.int .i64 s.last) ∧ w.cell? ⟨p, 3, none⟩ = some (.map (some b)) := by
  refine ⟨?_, ?_, ?_, ?_⟩ <;> (rw [cell_of_row w p _ _ _ (0, 0) h.row]; rfl)
theorem Sto.lt {TY : TypeId} {w : World} {p b : Nat} {V : Int → Option Value} {s : Kt} (h : Sto TY w p b V s) : p < w.heap.size := (Array.getElem?_eq_some_iff.1 h.row).1
theorem Sto.ne {TY : TypeId} {w : World} {p b : Nat} {V : Int → Option Value} {s : Kt} (h : Sto TY w p b V s) : b ≠ p := fun e => by
  obtain ⟨es, ck, hm⟩ := h.map.map
  rw [e, h.row] at hm
  cases hm
/-- The struct holds no number of a list. -/
theorem Sto.apart {TY : TypeId} {w : World} {p b : Nat} {V : Int → Option Value} {s : Kt} (h : Sto TY w p b V s) {a : Addr} {n c : Nat} {xs : List Int} (r : Rd w (some a) n c xs) (hn : 0 < n) : a.block ≠ p ∧ a.block ≠ b := by
  obtain ⟨g, o, e, _, hc⟩ := r.at hn
  obtain rfl := Option.some.inj e
  have h0 := hc 0 hn
  constructor
  · intro e
    simp only at e
    subst e
    rw [cell_of_row w g _ _ _ (0, 0) h.row] at h0
    have hcase : o + 0 = 0 ∨ o + 0 = 1 ∨ o + 0 = 2 ∨ o + 0 = 3 ∨ 4 ≤ o + 0 := by omega
    rcases hcase with e | e | e | e | e
    · rw [e] at h0; simp at h0
    · rw [e] at h0; simp at h0
    · rw [e] at h0; simp at h0
    · rw [e] at h0; simp at h0
    · rw [Array.getElem?_eq_none (by simpa using e)] at h0
      cases h0
  · intro e
    simp only at e
    subst e
    obtain ⟨es, ck, hm⟩ := h.map.map
    unfold World.cell? at h0
    simp [hm] at h0
/-- A handle more: the struct's cell and the map have turned. -/
theorem Sto.put {TY : TypeId} {w w' : World} {p b : Nat} {V : Int → Option Value} {s : Kt} {a : Option Addr} {c : Nat} {l : List Int} (h : Sto TY w p b V s) (hc : s.cnt < 8) (hl : ∀ x ∈ l, 0 ≤ x ∧ x ≤ 2147483646) (r : Rd w a s.n c l)
    (hm : MapI w' b (if (V ((s.last : Int) + 1)).isSome then s.cnt else s.cnt + 1) (mset V ((s.last : Int) + 1) (some (.slice a s.n c))))
    (hr : w'.heap[p]? = some (.cells #[.int .i64 s.n, .int .i64 s.t, .int .i64 ((s.last : Int) + 1), .map (some b)] TY (0, 0))) (hk : ∀ i, i < w.heap.size → i ≠ p → i ≠ b → w'.heap[i]? = w.heap[i]?) :
    Sto TY w' p b (mset V ((s.last : Int) + 1) (some (.slice a s.n c))) (kput s l) := by
  have hn : 0 < s.n := by have := h.wf.nt; omega
  have hrd : ∀ {a : Option Addr} {c : Nat} {l : List Int}, Rd w a s.n c l → Rd w' a s.n c l := fun {a c l} r => r.block fun x hx => by
    subst hx
    have h1 := h.apart r hn
    obtain ⟨g, o, e, hg, _⟩ := r.at hn
    obtain rfl := Option.some.inj e
    exact hk _ hg h1.1 h1.2
  have hv : V ((s.last : Int) + 1) = none := by
    rcases h.val ((s.last : Int) + 1) with e | ⟨m, _, _, e, _⟩
    · exact e.2
    · have := (h.wf.key _ m e).1
      omega
  refine ⟨?_, ?_, fun i => ?_, kput_wf h.wf hc r.len hl⟩
  · rw [hr]; unfold kput; simp
  · rw [hv] at hm
    exact hm
  · unfold mset
    show (kset s.f ((s.last : Int) + 1) (some l) i = none ∧ _) ∨ ∃ l_1 a_1 c_1, kset s.f ((s.last : Int) + 1) (some l) i = some l_1 ∧ _ ∧ Rd w' a_1 s.n c_1 l_1
    by_cases e : i = (s.last : Int) + 1
    · subst e
      rw [kset_same, if_pos rfl]
      exact .inr ⟨l, a, c, rfl, rfl, hrd r⟩
    · rw [kset_other _ _ e, if_neg e]
      rcases h.val i with e | ⟨l, a, c, e1, e2, e3⟩
      · exact .inl e
      · exact .inr ⟨l, a, c, e1, e2, hrd e3⟩
/-- A key's numbers are other ones. -/
theorem Sto.turn {TY : TypeId} {w w' : World} {p b : Nat} {V : Int → Option Value} {s : Kt} {a : Option Addr} {c : Nat} {l m : List Int} {k : Int} (h : Sto TY w p b V s) (hm0 : s.f k = some m) (hl : ∀ x ∈ l, 0 ≤ x ∧ x ≤ 2147483646) (r : Rd w a s.n c l)
    (hm : MapI w' b (if (V k).isSome then s.cnt else s.cnt + 1) (mset V k (some (.slice a s.n c)))) (hk : ∀ i, i < w.heap.size → i ≠ b → w'.heap[i]? = w.heap[i]?) :
    Sto TY w' p b (mset V k (some (.slice a s.n c))) (ktrn s k l) := by
  have hn : 0 < s.n := by have := h.wf.nt; omega
  have hrd : ∀ {a : Option Addr} {c : Nat} {l : List Int}, Rd w a s.n c l → Rd w' a s.n c l := fun {a c l} r => r.block fun x hx => by
    subst hx
    have h1 := h.apart r hn
    obtain ⟨g, o, e, hg, _⟩ := r.at hn
    obtain rfl := Option.some.inj e
    exact hk _ hg h1.2
  have hv : (V k).isSome = true := by
    rcases h.val k with e | ⟨m, _, _, _, e, _⟩
    · rw [e.1] at hm0; cases hm0
    · rw [e]; rfl
  refine ⟨by rw [hk p h.lt h.ne.symm]; exact h.row, ?_, fun i => ?_, ktrn_wf h.wf hm0 r.len hl⟩
  · rw [hv] at hm
    exact hm
  · unfold mset
    show (kset s.f k (some l) i = none ∧ _) ∨ ∃ l_1 a_1 c_1, kset s.f k (some l) i = some l_1 ∧ _ ∧ Rd w' a_1 s.n c_1 l_1
    by_cases e : i = k
    · subst e
      rw [kset_same, if_pos rfl]
      exact .inr ⟨l, a, c, rfl, rfl, hrd r⟩
    · rw [kset_other _ _ e, if_neg e]
      rcases h.val i with e | ⟨l, a, c, e1, e2, e3⟩
      · exact .inl e
      · exact .inr ⟨l, a, c, e1, e2, hrd e3⟩
/-- A key is gone. -/
theorem Sto.out {TY : TypeId} {w w' : World} {p b : Nat} {V : Int → Option Value} {s : Kt} {m : List Int} {k : Int} (h : Sto TY w p b V s) (hm0 : s.f k = some m)
    (hm : MapI w' b (if (V k).isSome then s.cnt - 1 else s.cnt) (mset V k none)) (hk : ∀ i, i < w.heap.size → i ≠ b → w'.heap[i]? = w.heap[i]?) : Sto TY w' p b (mset V k none) (kout s k) := by
  have hn : 0 < s.n := by have := h.wf.nt; omega
  have hrd : ∀ {a : Option Addr} {c : Nat} {l : List Int}, Rd w a s.n c l → Rd w' a s.n c l := fun {a c l} r => r.block fun x hx => by
    subst hx
    have h1 := h.apart r hn
    obtain ⟨g, o, e, hg, _⟩ := r.at hn
    obtain rfl := Option.some.inj e
    exact hk _ hg h1.2
  have hv : (V k).isSome = true := by
    rcases h.val k with e | ⟨m, _, _, _, e, _⟩
    · rw [e.1] at hm0; cases hm0
    · rw [e]; rfl
  refine ⟨by rw [hk p h.lt h.ne.symm]; exact h.row, ?_, fun i => ?_, kout_wf h.wf⟩
  · rw [hv] at hm
    exact hm
  · unfold mset
    show (kset s.f k none i = none ∧ _) ∨ ∃ l_1 a_1 c_1, kset s.f k none i = some l_1 ∧ _ ∧ Rd w' a_1 s.n c_1 l_1
    by_cases e : i = k
    · subst e
      rw [kset_same, if_pos rfl]
      exact .inl ⟨rfl, rfl⟩
    · rw [kset_other _ _ e, if_neg e]
      rcases h.val i with e | ⟨l, a, c, e1, e2, e3⟩
      · exact .inl e
      · exact .inr ⟨l, a, c, e1, e2, hrd e3⟩
/-- There is a store of state s at p, all of it in G. -/
def Kst (w : World) (p : Nat) (G : Nat → Prop) (s : Kt) : Prop := Stx 107 w p G s
theorem Kst.lt {w : World} {p : Nat} {G : Nat → Prop} {s : Kt} (h : Kst w p G s) : ∀ i, G i → i < w.heap.size := h.2
theorem Kst.wf {w : World} {p : Nat} {G : Nat → Prop} {s : Kt} (h : Kst w p G s) : Kwf s := Stx.wf h
theorem Kst.same {w w' : World} {p : Nat} {G : Nat → Prop} {s : Kt} (h : Kst w p G s) (hb : Below w.heap.size w w') : Kst w' p G s := Stx.same h hb
theorem Kst.aside {w w' : World} {p : Nat} {G G' : Nat → Prop} {s : Kt} (h : Kst w p G s) (ht : Tch w w' G') (hd : ∀ i, G i → ¬ G' i) : Kst w' p G s := Stx.aside h ht hd
/-- What a call that may make a key leaves. -/
def Kke (p : Nat) (G : Nat → Prop) (r : Int × Int × Kt) (w : World) (e : Ending) (w' : World) : Prop :=
  e = .returned (.tuple #[.int .i64 r.1, .int .i64 r.2.1]) ∧ Kst w' p (Gnx G w w') r.2.2 ∧ Tch w w' G
/-- What New answers. -/
def Knw (n t : Int) (w : World) (e : Ending) (w' : World) : Prop :=
  ((¬ ((0 ≤ t ∧ t ≤ 4) ∧ n ≤ 9 ∧ 2 * t + 1 ≤ n) ∧ e = .returned (.tuple #[.pointer none, .int .i64 1])) ∨
    ∃ (n' t' p : Nat) (G : Nat → Prop), n = (n' : Int) ∧ t = (t' : Int) ∧ t' ≤ 4 ∧ n' ≤ 9 ∧ 2 * t' + 1 ≤ n' ∧ e = .returned (.tuple #[.pointer (some ⟨p, 0, none⟩), .int .i64 0]) ∧ Kst w' p G (k0 n' t') ∧ ∀ i, G i → w.heap.size ≤ i) ∧ Below w.heap.size w w'
/-- What Shares answers. -/
def Ksr (s : Kt) (x : Int) (w : World) (e : Ending) (w' : World) : Prop :=
  ((s.f x = none ∧ e = .returned (.tuple #[.slice none 0 0, .int .i64 4])) ∨ ∃ l v, s.f x = some l ∧ e = .returned (.tuple #[v, .int .i64 0]) ∧ w'.ownsRow w.heap.size 34 1 v s.n (l.map (Value.int .u64))) ∧ Below w.heap.size w w'
/-- What Open answers. -/
def Kpn (s : Kt) (x : Int) (w : World) (e : Ending) (w' : World) : Prop := ∃ y r, e = .returned (.tuple #[.int .u64 y, .int .i64 r]) ∧ Kop s x y r ∧ Below w.heap.size w w'
theorem Kop.val {s : Kt} {x y r : Int} (h : Kop s x y r) : 0 ≤ y ∧ y ≤ 2147483646 := by
  rcases h with ⟨_, rfl, _⟩ | ⟨l, _, ⟨_, _, rfl⟩ | ⟨_, ⟨S, _, _, rfl, _⟩ | ⟨_, rfl, _⟩⟩⟩
  · omega
  · omega
  · exact nm_bd _
  · omega
def KcNew : Prop := ∀ (n t : Int) (w : World), i64r n → i64r t → Calls Tryd.prog 21 #[.int .i64 n, .int .i64 t] w (Knw n t w)
def KcGen : Prop := ∀ (p : Nat) (G : Nat → Prop) (s : Kt) (a : Option Addr) (m c : Nat) (ds : List Int) (w : World), Kst w p G s → Rd w a m c ds → s.last ≤ 1000000 → Calls Tryd.prog 22 #[.pointer (some ⟨p, 0, none⟩), .slice a m c] w (Kke p G (kgen s ds) w)
def KcOpen : Prop := ∀ (p : Nat) (G : Nat → Prop) (s : Kt) (x : Int) (w : World), Kst w p G s → i64r x → Calls Tryd.prog 23 #[.pointer (some ⟨p, 0, none⟩), .int .i64 x] w (Kpn s x w)
def KcShares : Prop := ∀ (p : Nat) (G : Nat → Prop) (s : Kt) (x : Int) (w : World), Kst w p G s → i64r x → Calls Tryd.prog 24 #[.pointer (some ⟨p, 0, none⟩), .int .i64 x] w (Ksr s x w)
theorem zeroL (w : World) : (zeroValue 22).run Tryd.prog w = .ok (.slice none 0 0) w := by kernel_rfl
/-- Are there the first k of these keys? -/
def hsl (s : Kt) (hs : List Int) (k : Nat) : Bool := (hs.take k).all fun h => (s.f h).isSome
/-- How many draws the first i parties take. -/
def kat (t : Nat) (sec : Bool) (i : Nat) : Nat := if sec then i * (t + 1) else i * t
theorem kdr_true (t : Nat) (ds : List Int) (i : Nat) : kdr t true ds i = ds.getD (kat t true i) 0 :: (ds.drop (kat t true i + 1)).take t := rfl
theorem infoU1 : (Tryd.prog.info? 34).map (·.size) = some 1 := by kernel_rfl
theorem sto_new (w : World) {n t : Nat} (ht : t ≤ 4) (hn : n ≤ 9) (h : 2 * t + 1 ≤ n) (TY : TypeId) {A : World} (hA : A = (w.alloc (.map #[] 0)).alloc (.cells #[.int .i64 n, .int .i64 t, .int .i64 0, .map (some w.heap.size)] TY)) :
    Stx TY A (w.heap.size + 1) (fun i => w.heap.size ≤ i ∧ i < w.heap.size + 2) (k0 n t) ∧ Below w.heap.size w A := by
  subst hA
  have h1 := MapI.made w
  have e1 : (w.alloc (.map #[] 0)).heap.size = w.heap.size + 1 := by simp
  have hb : Below (w.alloc (.map #[] 0)).heap.size (w.alloc (.map #[] 0)) ((w.alloc (.map #[] 0)).alloc (.cells #[.int .i64 n, .int .i64 t, .int .i64 0, .map (some w.heap.size)] TY)) := (Below.refl _ _).alloc (Nat.le_refl _) _
  have h2 := heap_alloc_new (w.alloc (.map #[] 0)) (.cells #[.int .i64 n, .int .i64 t, .int .i64 0, .map (some w.heap.size)] TY)
  rw [e1] at h2
  refine ⟨⟨⟨w.heap.size, fun _ => none, ⟨h2, h1.below hb h1.lt, fun i => .inl ⟨rfl, rfl⟩, k0_wf ht hn h⟩, fun i hi => ?_⟩, fun i hi => by simp; omega⟩, ((Below.refl _ _).alloc (Nat.le_refl _) _).alloc (by simp) _⟩
  rcases hi with rfl | rfl | ⟨_, _, _, _, e, _⟩
  · omega
  · omega
  · cases e
/-- What a handle's look-up tells. -/
theorem Sto.slice {TY : TypeId} {w : World} {p b : Nat} {V : Int → Option Value} {s : Kt} (h : Sto TY w p b V s) {x : Int} {l : List Int} (hf : s.f x = some l) : ∃ a c, V x = some (Value.slice a s.n c) ∧ Rd w a s.n c l := by
  rcases h.val x with e | ⟨l', a, c, e1, e2, e3⟩
  · rw [e.1] at hf; cases hf
  · rw [e1] at hf
    obtain rfl := Option.some.inj hf
    exact ⟨a, c, e2, e3⟩
theorem cKeepK (p : Nat) (G : Nat → Prop) (s : Kt) (a : Option Addr) (c : Nat) (l : List Int) (w : World) (h : Kst w p G s) (r : Rd w a s.n c l) (hl : ∀ x ∈ l, 0 ≤ x ∧ x ≤ 2147483646) (hG : ∀ x, a = some x → G x.block) (hlast : s.last ≤ 1000000) :
    Calls Tryd.prog 62 #[.pointer (some ⟨p, 0, none⟩), .slice a s.n c] w (Kke p G (kadd s l) w) := by
  have H0 : Hid (Stx 107 w p G s) := h
  obtain ⟨⟨b, V, hS, hF⟩, hGl⟩ := h
  obtain ⟨c0, c1, c2, c3⟩ := hS.four
  have hpl := hS.lt
  have hM := hS.map
  by_cases hc : 8 ≤ s.cnt
  · have HE : Hid (kadd s l = (0, 2, s)) := if_pos hc
    have hci : (8 : Int) ≤ (s.cnt : Int) := by omega
    go_enter Tryd.func62, Tryd.ntmps62
    go_wp2_with (at_len; refine wpList_lenK _ rfl _ 105 rfl 22 Tryd.underlying105 b s.cnt V rfl hM ?_)
    go_ret2
    rw [HE.out]
    exact ⟨rfl, H0.out.below (Below.refl _ _), Tch.refl _ _⟩
  · have HE : Hid (kadd s l = ((s.last : Int) + 1, 0, kput s l)) := if_neg hc
    have hci : ¬ ((8 : Int) ≤ (s.cnt : Int)) := by omega
    obtain ⟨L1, HL1⟩ : ∃ L1, Hid ((s.last : Int) + 1 = L1) := ⟨_, rfl⟩
    have hL0 : (s.last : Int) + 1 = L1 := HL1.out
    have hLb : 1 ≤ L1 ∧ L1 ≤ 1000001 := by omega
    have hfz := frozen_of_row w p 2 _ _ hS.row
    have hrow := heap_setCell_same w p 2 _ _ (.int .i64 L1) hS.row
    have hM2 : MapI (w.setCell ⟨p, 2, none⟩ (.int .i64 L1)) b s.cnt V := hM.block (heap_setCell_other w ⟨p, 2, none⟩ b _ hS.ne)
    have d2 : (w.setCell ⟨p, 2, none⟩ (.int .i64 L1)).cell? ⟨p, 2, none⟩ = some (.int .i64 L1) := by rw [cell_of_row _ p 2 _ _ (0, 0) hrow]; simp
    have d3 : (w.setCell ⟨p, 2, none⟩ (.int .i64 L1)).cell? ⟨p, 3, none⟩ = some (.map (some b)) := by rw [cell_of_row _ p 3 _ _ (0, 0) hrow]; simp
    have hpl2 : p < (w.setCell ⟨p, 2, none⟩ (.int .i64 L1)).heap.size := (Array.getElem?_eq_some_iff.1 hrow).1
    obtain ⟨w', hrun, hM3, htn⟩ := (show MapI (w.setCell ⟨p, 2, none⟩ (.int .i64 L1)).drew b s.cnt V from hM2).store (t := 105) Tryd.underlying105 (by have := hS.wf.c8; omega) (k := L1) ⟨by omega, by omega⟩ (.slice a s.n c)
    have hgr := htn.grown
    have hk : ∀ i, i < w.heap.size → i ≠ p → i ≠ b → w'.heap[i]? = w.heap[i]? := fun i hi h1 h2 => by
      rw [hgr.block i (by simpa using hi) (by simpa using h2)]; exact heap_setCell_other w ⟨p, 2, none⟩ i _ h1
    have hrw : w'.heap[p]? = some (.cells #[.int .i64 s.n, .int .i64 s.t, .int .i64 L1, .map (some b)] 107 (0, 0)) := by
      rw [hgr.block p hpl2 (by simpa using hS.ne.symm)]
      refine hrow.trans ?_
      simp
    have HP : Hid (Sto 107 w' p b (mset V ((s.last : Int) + 1) (some (.slice a s.n c))) (kput s l)) := by
      refine hS.put (by omega) hl r (by rw [hL0]; exact hM3) (by rw [hL0]; exact hrw) hk
    have hsz : w.heap.size ≤ w'.heap.size := Nat.le_trans (by simp) hgr.size
    have HX : Hid (Stx 107 w' p (Gnx G w w') (kput s l)) := by
      refine ⟨⟨b, _, HP.out, fun i hi => .inl ?_⟩, Gnx.lt hGl (by omega)⟩
      rcases hi with rfl | rfl | ⟨hh, a', m, c', e, rfl⟩
      · exact hF _ (.inl rfl)
      · exact hF _ (.inr (.inl rfl))
      · unfold mset at e
        split at e
        · simp only [Option.some.injEq, Value.slice.injEq] at e
          exact hG a' e.1
        · exact hF _ (.inr (.inr ⟨hh, a', m, c', e, rfl⟩))
    have HT : Hid (Tch w w' G) := ⟨hgr.os, hgr.tape, hgr.output, by omega, fun i hi hn => hk i hi (fun e => hn (hF _ (.inl e))) (fun e => hn (hF _ (.inr (.inl e))))⟩
    have hc2 : w'.cell? ⟨p, 2, none⟩ = some (.int .i64 L1) := by rw [cell_of_row _ p 2 _ _ (0, 0) hrw]; rfl
    have hpl3 : p < w'.heap.size := by omega
    clear hgr htn hk hrw hM3 hrow hF hGl hG hc
    go_enter Tryd.func62, Tryd.ntmps62
    go_wp2_with (at_len; refine wpList_lenK _ rfl _ 105 rfl 22 Tryd.underlying105 b s.cnt V rfl hM ?_)
    go_region
    all_goals
      go_wp2
      go_ret2
      rw [HE.out, hL0]
      exact ⟨rfl, HX.out, HT.out⟩

theorem cWith (p : Nat) (G : Nat → Prop) (s : Kt) (a : Option Addr) (c : Nat) (l : List Int) (x : Int) (ad : Option Addr) (cd : Nat) (ds : List Int) (w : World) (h : Kst w p G s) (r : Rd w a s.n c l) (hx0 : 0 ≤ x) (hx1 : x ≤ 18446744073709551615) (rd : Rd w ad s.t cd ds) :
    Calls Tryd.prog 61 #[.pointer (some ⟨p, 0, none⟩), .slice a s.n c, .int .u64 x, .slice ad s.t cd] w fun e w' => ∃ v, e = .returned v ∧ w'.ownsRow w.heap.size 34 1 v s.n ((mxl l (dl (x :: ds) s.n) 1 1 0 s.n).map (Value.int .u64)) ∧ Below w.heap.size w w' := by
  have hw := h.wf
  have ht4 := hw.t4
  have hn9 := hw.n9
  have hnt := hw.nt
  obtain ⟨⟨b, V, hS, _⟩, _⟩ := h
  obtain ⟨c0, c1, c2, c3⟩ := hS.four
  have hpl := hS.lt
  clear hS hw
  obtain ⟨n, HN⟩ : ∃ n, Hid (s.n = n) := ⟨_, rfl⟩
  obtain ⟨t, HT⟩ : ∃ t, Hid (s.t = t) := ⟨_, rfl⟩
  rw [HN.out] at c0 hn9 hnt r ⊢
  rw [HT.out] at c1 ht4 hnt rd ⊢
  go_enter Tryd.func61, Tryd.ntmps61
  go_wp2_with fail
  refine (cDealB x _ _ _ ds n _ rd hx0 hx1 ht4 (by omega) hn9).mono ?_
  rintro e w1 ⟨v1, rfl, ho1, hb1⟩
  obtain ⟨a1, k1, rfl, hr1, _⟩ := Rd.own ho1 (bd_u64 (dl_bd _ _))
  have r1 := r.below hb1
  clear ho1 c0 c1 c2 c3 hpl
  go_wp2_with fail
  refine (cGAdd _ _ _ _ _ _ _ _ _ r1 hr1).mono ?_
  rintro e w2 ⟨⟨hbad, _⟩ | ⟨_, v2, rfl, ho2⟩, hb2⟩
  · exact absurd ⟨⟨by omega, by omega⟩, rfl⟩ hbad
  have ho3 := own_baseV ho2 hb1.size
  have hb3 := hb1.trans (hb2.mono hb1.size)
  clear ho2 hb1 hb2 hr1 r1
  go_wp2
  go_ret
  exact ⟨v2, rfl, ho3, hb3⟩
theorem cNewK : KcNew := by
  intro n t w hn ht
  have hmm := @run_makeMap Tryd.prog
  unfold i64r at hn ht
  by_cases h0 : t < 0
  · have HB : Hid (¬ ((0 ≤ t ∧ t ≤ 4) ∧ n ≤ 9 ∧ 2 * t + 1 ≤ n)) := by unfold Hid; omega
    go_enter Tryd.func21, Tryd.ntmps21
    go_wp2
    go_ret2
    exact ⟨.inl ⟨HB.out, rfl⟩, Below.refl _ _⟩
  by_cases h1 : 4 < t
  · have HB : Hid (¬ ((0 ≤ t ∧ t ≤ 4) ∧ n ≤ 9 ∧ 2 * t + 1 ≤ n)) := by unfold Hid; omega
    go_enter Tryd.func21, Tryd.ntmps21
    go_wp2
    go_ret2
    exact ⟨.inl ⟨HB.out, rfl⟩, Below.refl _ _⟩
  by_cases h2 : n < 2 * t + 1
  · have HB : Hid (¬ ((0 ≤ t ∧ t ≤ 4) ∧ n ≤ 9 ∧ 2 * t + 1 ≤ n)) := by unfold Hid; omega
    go_enter Tryd.func21, Tryd.ntmps21
    go_wp2
    go_ret2
    exact ⟨.inl ⟨HB.out, rfl⟩, Below.refl _ _⟩
  by_cases h3 : 9 < n
  · have HB : Hid (¬ ((0 ≤ t ∧ t ≤ 4) ∧ n ≤ 9 ∧ 2 * t + 1 ≤ n)) := by unfold Hid; omega
    go_enter Tryd.func21, Tryd.ntmps21
    go_wp2
    go_ret2
    exact ⟨.inl ⟨HB.out, rfl⟩, Below.refl _ _⟩
  obtain ⟨t', rfl⟩ : ∃ k : Nat, t = k := ⟨t.toNat, by omega⟩
  obtain ⟨n', rfl⟩ : ∃ k : Nat, n = k := ⟨n.toNat, by omega⟩
  have ht4 : t' ≤ 4 := by omega
  have hn9 : n' ≤ 9 := by omega
  have hnt : 2 * t' + 1 ≤ n' := by omega
  obtain ⟨hX, hB⟩ := sto_new w ht4 hn9 hnt 107 rfl
  have HX : Hid (Stx _ _ _ _ _) := hX
  have HB : Hid (Below _ _ _) := hB
  clear hX hB
  go_enter Tryd.func21, Tryd.ntmps21
  go_wp2
  go_ret2
  exact ⟨.inr ⟨n', t', _, _, rfl, rfl, ht4, hn9, hnt, rfl, HX.out, fun i hi => hi.1⟩, HB.out⟩

theorem cSharesK : KcShares := by
  intro p G s x w h hx
  have hn9 := h.wf.n9
  have hnt := h.wf.nt
  obtain ⟨⟨b, V, hS, _⟩, _⟩ := h
  obtain ⟨c0, c1, c2, c3⟩ := hS.four
  have hpl := hS.lt
  have hM := hS.map
  rcases hS.val x with ⟨fx, vx⟩ | ⟨l, ax, cx, fx, vx, rx⟩
  · have HF : Hid (s.f x = none) := fx
    have HV : Hid (V x = none) := vx
    clear hS fx vx
    go_enter Tryd.func24, Tryd.ntmps24
    go_wp2_with (at_lookup; refine wpList_lookK _ rfl _ _ 105 rfl 22 Tryd.underlying105 _ (zeroL _) b s.cnt V rfl hM x rfl hx ?_; rw [HV.out]; simp only [Option.getD_none, Option.isSome_none])
    go_ret2
    exact ⟨.inl ⟨HF.out, rfl⟩, Below.refl _ _⟩
  · have HF : Hid (s.f x = some l) := fx
    have HV : Hid (V x = some (.slice ax s.n cx)) := vx
    clear hS fx vx
    go_enter Tryd.func24, Tryd.ntmps24
    go_wp2_with (at_lookup; refine wpList_lookK _ rfl _ _ 105 rfl 22 Tryd.underlying105 _ (zeroL _) b s.cnt V rfl hM x rfl hx ?_; rw [HV.out]; simp only [Option.getD_some, Option.isSome_some])
    refine (cClone _ _ _ _ _ rx (by omega) (by omega)).mono ?_
    rintro e w1 ⟨v1, rfl, ho1, hb1⟩
    clear c0 c1 c2 c3 hpl hM
    go_wp2
    go_ret2
    exact ⟨.inr ⟨l, v1, HF.out, rfl, ho1⟩, hb1⟩
theorem take_own (ds : List Int) (A t : Nat) : ((((ds.drop A).take (t + 1)).drop 1).take t) = (ds.drop (A + 1)).take t := by
  rw [List.drop_take, List.drop_drop, List.take_take]
  congr 1
  omega
theorem take_first {ds : List Int} {A t : Nat} : ((ds.drop A).take (t + 1)).getD 0 0 = ds.getD A 0 := by
  simp [List.getD_eq_getElem?_getD]

theorem cGenK : KcGen := by
  intro p G s a m c ds w h r hlast
  obtain ⟨i0, hi, hz0, hz1, hz2⟩ := info_parts info34
  have hw := h.wf
  have ht4 := hw.t4
  have hn9 := hw.n9
  have hnt := hw.nt
  have hcap := r.cap
  have hmax := r.max
  have hlen := r.len
  unfold maxLen at hmax
  have hGl := h.lt
  have HH : Hid (∀ w', Below w.heap.size w w' → Kst w' p G s) := fun w' hb => h.same hb
  obtain ⟨n, HN⟩ : ∃ n, Hid (s.n = n) := ⟨_, rfl⟩
  obtain ⟨t, HT⟩ : ∃ t, Hid (s.t = t) := ⟨_, rfl⟩
  rw [HN.out] at hn9 hnt
  rw [HT.out] at ht4 hnt
  have HC : Hid (∀ w', Below w.heap.size w w' → w'.cell? ⟨p, 0, none⟩ = some (.int .i64 (n : Int)) ∧ w'.cell? ⟨p, 1, none⟩ = some (.int .i64 (t : Int)) ∧ p < w'.heap.size) := fun w' hb => by
    obtain ⟨⟨b, V, hS, _⟩, _⟩ := HH.out w' hb
    have := hS.four
    rw [HN.out, HT.out] at this
    exact ⟨this.1, this.2.1, hS.lt⟩
  clear h hw
  obtain ⟨c0, c1, hpl⟩ := HC.out w (Below.refl _ _)
  obtain ⟨T1, HT1⟩ : ∃ T1, Hid (t + 1 = T1) := ⟨_, rfl⟩
  have hT1 : (t : Int) + 1 = (T1 : Int) := by rw [← HT1.out]; omega
  have hT5 : 1 ≤ T1 ∧ T1 ≤ 5 := by rw [← HT1.out]; omega
  obtain ⟨M, HM⟩ : ∃ M, Hid (n * T1 = M) := ⟨_, rfl⟩
  have hMI : (n : Int) * (T1 : Int) = (M : Int) := by rw [← HM.out]; push_cast; rfl
  have hM45 : M ≤ 45 := by rw [← HM.out]; exact Nat.mul_le_mul hn9 (show T1 ≤ 5 by omega)
  have hw1 : IntKind.i64.wrap ((T1 : Int)) = (T1 : Int) := by rw [IntKind.wrap_i64]; omega
  have hw2 : IntKind.i64.wrap ((M : Int)) = (M : Int) := by rw [IntKind.wrap_i64]; omega
  have HMK : Hid (s.n * (s.t + 1) = M) := by unfold Hid; rw [HN.out, HT.out, HT1.out, HM.out]
  have hn0 : ((n : Int) == 0) = false := by rw [beq_eq_false_iff_ne]; omega
  by_cases hm : m = M
  · subst hm
    have HG : Hid (kgen s ds = kadd s (ksm s.n s.t true ds s.n)) := if_pos (by rw [hlen, HMK.out])
    have hmm : ((m : Int) != (m : Int)) = false := by simp
    go_enter Tryd.func22, Tryd.ntmps22
    go_wp2_with (at_make; refine wpList_make_full _ rfl _ _ 22 rfl w.heap.size 34 i0 (.int .u64 0) 1 Tryd.underlying22 hi hz0 hz1 .i64 .i64 _ _ n rfl rfl rfl rfl (by rw [hz2]; omega) (by unfold maxLen; omega) (Nat.le_refl _) ?_; intro w2 hown hgrow; have hb2 : Below w.heap.size w w2 := (Below.refl _ _).grown hgrow (Nat.le_refl _) (by simp); obtain ⟨d0, d1, hpl2⟩ := HC.out w2 hb2)
    have ho2 : w2.ownsRow w.heap.size 34 1 (.slice (some ⟨w.heap.size, 0, none⟩) n n) n ((ksm n t true ds 0).map (Value.int .u64)) := (Blk.made hown).own (by simp) (Nat.le_refl _) (by omega)
    clear hown hgrow d0 d1 hpl2
    go_loopw [7, 40] (fun v j wr => ∃ i : Nat, i ≤ n ∧ j = .int .i64 i ∧ wr.ownsRow w.heap.size 34 1 v n ((ksm n t true ds i).map (Value.int .u64)) ∧ Below w.heap.size w wr) (fun _ j _ => n - (intOf j).toNat)
    case atStart => exact ⟨0, Nat.zero_le _, rfl, ho2, hb2⟩
    case round =>
      clear ho2 hb2 c0 c1 hpl
      obtain ⟨i, hin, rfl, hown, hbel⟩ := hrel
      obtain ⟨c0, c1, hpl⟩ := HC.out wr hbel
      have hs1 := hbel.size
      by_cases hlt : i < n
      · have hlti : (i : Int) < (n : Int) := by omega
        obtain ⟨A, HA⟩ : ∃ A, Hid (i * T1 = A) := ⟨_, rfl⟩
        have hAI : (i : Int) * (T1 : Int) = (A : Int) := by rw [← HA.out]; push_cast; rfl
        have hBI : ((i : Int) + 1) * (T1 : Int) = (A : Int) + (T1 : Int) := by rw [Int.add_mul, hAI, Int.one_mul]
        have hAm : A + T1 ≤ m := by
          rw [← HA.out, ← HM.out]
          have := Nat.mul_le_mul_right T1 (show i + 1 ≤ n by omega)
          rw [Nat.add_mul, Nat.one_mul] at this
          exact this
        have rr := r.below hbel
        have HD2 : Hid (mxl (ksm n t true ds i) (dl (kdr t true ds i) n) 1 1 0 n = ksm n t true ds (i + 1)) := rfl
        obtain ⟨u, c', rfl, hru, _⟩ := Rd.own hown (bd_u64 (ksm_ksh n t true ds i).bd)
        have hrs := rr.sub (lo := A) (k := T1) hAm
        obtain ⟨sa, HSA⟩ : ∃ sa, Hid (subA a c A = sa) := ⟨_, rfl⟩
        have hsl : ∀ W, (Instr.sliceAt 22 (.slice a m c) (some (.int .i64 (A : Int))) (some (.int .i64 ((A : Int) + (T1 : Int)))) none).run Tryd.prog W = .ok (.slice sa T1 (c - A)) W := fun W => by
          rw [← HSA.out]
          exact run_sub Tryd.underlying22 infoU1 _ m c A T1 rfl rfl (by omega) W
        rw [HSA.out] at hrs
        obtain ⟨L, HL⟩ : ∃ L, Hid ((ds.drop A).take T1 = L) := ⟨_, rfl⟩
        rw [HL.out] at hrs
        obtain ⟨C, HC2⟩ : ∃ C, Hid (c - A = C) := ⟨_, rfl⟩
        rw [HC2.out] at hrs hsl
        have hrt := hrs.sub (lo := 1) (k := t) (by rw [← HT1.out]; omega)
        have hlT := hrs.len
        obtain ⟨bb, o, x, rfl, hbb, HX, hx0, hx1, hcx⟩ := hrs.one (show 0 < T1 by omega)
        obtain ⟨sb, HSB⟩ : ∃ sb, Hid (subA (some ⟨bb, o, none⟩) C 1 = sb) := ⟨_, rfl⟩
        have hsl2 : ∀ W, (Instr.sliceAt 22 (.slice (some ⟨bb, o, none⟩) T1 C) (some (.int .i64 1)) none none).run Tryd.prog W = .ok (.slice sb t (C - 1)) W := fun W => by
          rw [← HSB.out]
          have e := run_subl Tryd.underlying22 infoU1 (some ⟨bb, o, none⟩) T1 C 1 (l := 1) rfl (by omega) W
          rw [show T1 - 1 = t by rw [← HT1.out]; omega] at e
          exact e
        rw [HSB.out] at hrt
        have HKD : Hid (kdr t true ds i = x :: (L.drop 1).take t) := by
          unfold Hid
          have e : kat t true i = A := by unfold kat; rw [if_pos rfl, HT1.out, HA.out]
          rw [kdr_true, e, ← HX.out, ← HL.out, ← HT1.out, take_own, take_first]
        rw [Nat.add_zero] at hcx
        have hcC := hrs.cap
        have hcM := hrs.max
        unfold maxLen at hcM
        have h0T : (0 : Int) < (T1 : Int) := by omega
        have HRU : Hid (Rd wr u n c' (ksm n t true ds i)) := hru
        have HRT : Hid (Rd wr sb t (C - 1) ((L.drop 1).take t)) := hrt
        have HCW : Hid (∀ w0, Kst w0 p G s → Rd w0 u n c' (ksm n t true ds i) → Rd w0 sb t (C - 1) ((L.drop 1).take t) → Calls Tryd.prog 61 #[.pointer (some ⟨p, 0, none⟩), .slice u n c', .int .u64 x, .slice sb t (C - 1)] w0 fun e w' => ∃ v, e = .returned v ∧ w'.ownsRow w0.heap.size 34 1 v n ((ksm n t true ds (i + 1)).map (Value.int .u64)) ∧ Below w0.heap.size w0 w') := fun w0 k0 k1 k2 => by
          have e := cWith p G s u c' (ksm n t true ds i) x sb (C - 1) ((L.drop 1).take t) w0 k0
          rw [HN.out, HT.out, ← HKD.out, HD2.out] at e
          exact e k1 hx0 hx1 k2
        clear rr hrs hown hru hrt hlT c0 c1 hpl
        go_wp2_with fail
        go_region_with (go_at_call 61; refine (HCW.out _ (HH.out _ hbel.drew) HRU.out.drew HRT.out.drew).mono ?_; rintro e w3 ⟨v3, rfl, ho3, hb3⟩)
        all_goals
          have hb4 : Below wr.heap.size wr w3 := ((Below.refl _ _).drew).trans (hb3.mono (Nat.le_refl _))
          have hbel3 := hbel.trans (hb4.mono hs1)
          have ho6 := own_baseV ho3 hs1
          clear hb3 hb4 ho3 hbel hsl hsl2 hcx hbb
          go_wp2
          go_roundw
          case rel => exact ⟨i + 1, by omega, by go_num, ho6, hbel3⟩
          case measure => simp [intOf]; omega
      · obtain rfl : i = n := by omega
        have hnn : ¬ ((i : Int) < (i : Int)) := by omega
        obtain ⟨u, c', rfl, hru, hxu⟩ := Rd.own hown (bd_u64 (ksm_ksh i t true ds i).bd)
        have hGu : ∀ y, u = some y → Gnx G w wr y.block := gnx_new (G := G) hru (by omega) hxu
        have hK := (HH.out w (Below.refl _ _)).below hbel
        clear hown hxu
        have hru2 : Rd wr u s.n c' (ksm s.n s.t true ds s.n) := by rw [HN.out, HT.out]; exact hru
        have HCK : Hid (Calls Tryd.prog 62 #[.pointer (some ⟨p, 0, none⟩), .slice u s.n c'] wr (Kke p (Gnx G w wr) (kadd s (ksm s.n s.t true ds s.n)) wr)) := cKeepK p (Gnx G w wr) s u c' _ wr hK hru2 (ksm_bd _ _ _ _ _) hGu hlast
        have HCZ : Hid (∀ Z, s.n = Z → Calls Tryd.prog 62 #[.pointer (some ⟨p, 0, none⟩), .slice u Z c'] wr (Kke p (Gnx G w wr) (kadd s (ksm s.n s.t true ds s.n)) wr)) := fun Z e => by rw [← e]; exact HCK.out
        clear hru hru2 hGu hK c0 c1 hpl HCK
        go_wp2_with fail
        refine (HCZ.out _ HN.out).mono ?_
        intro e w3 hK
        have HR : Hid (Kke p G (kadd s (ksm s.n s.t true ds s.n)) w e w3) := Kde.behind hbel hK hGl
        obtain ⟨rfl, _, _⟩ := hK
        clear HCZ hbel
        go_wp2
        go_ret2
        rw [HG.out]
        exact HR.out
  · have HG : Hid (kgen s ds = (0, 1, s)) := if_neg (by rw [hlen, HMK.out]; exact hm)
    have hmm : ((m : Int) != (M : Int)) = true := by rw [bne_iff_ne]; omega
    clear hm
    go_enter Tryd.func22, Tryd.ntmps22
    go_wp2
    go_ret2
    rw [HG.out]
    exact ⟨rfl, (HH.out w (Below.refl _ _)).below (Below.refl _ _), Tch.refl _ _⟩
end
section
open Crm
/-- Of each key the parties' numbers are shares, of t at the most, of g. -/
def Kvl (s : Kt) (g : Int → Option Int) : Prop := ∀ h, (s.f h = none ∧ g h = none) ∨ ∃ l v, s.f h = some l ∧ g h = some v ∧ Ksh s.n s.t l v
def gset (g : Int → Option Int) (h : Int) (v : Option Int) : Int → Option Int := fun i => if i = h then v else g i
theorem kput_vl {s : Kt} {g : Int → Option Int} {l : List Int} {v : Int} (h : Kvl s g) (hl : Ksh s.n s.t l v) : Kvl (kput s l) (gset g ((s.last : Int) + 1) (some v)) := fun i => by
  show (kset s.f ((s.last : Int) + 1) (some l) i = none ∧ gset g ((s.last : Int) + 1) (some v) i = none) ∨ ∃ l' v', kset s.f ((s.last : Int) + 1) (some l) i = some l' ∧ gset g ((s.last : Int) + 1) (some v) i = some v' ∧ Ksh s.n s.t l' v'
  unfold kset gset
  split
  · exact .inr ⟨l, v, rfl, rfl, hl⟩
  · exact h i
theorem Kvl.some {s : Kt} {g : Int → Option Int} (h : Kvl s g) {i : Int} {l : List Int} (hf : s.f i = Option.some l) : ∃ v, g i = Option.some v ∧ Ksh s.n s.t l v := by
  rcases h i with ⟨e, _⟩ | ⟨l', v, e1, e2, e3⟩
  · rw [e] at hf; cases hf
  · rw [e1] at hf
    obtain rfl := Option.some.inj hf
    exact ⟨v, e2, e3⟩
end
end Go.Proofs.YtljlioglpaogdagDoor
