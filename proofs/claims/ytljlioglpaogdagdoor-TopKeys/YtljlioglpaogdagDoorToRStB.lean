/- A store of keys in memory: a struct of four cells, its map, the lists in it. · A program's store of keys in memory (keys.Keys), and what its calls leave. · What package keys is asked, call by call. · What the calls of package gate answer. · Package gate: wires, reckonBoth, reckonEach, and Add, Sub, Scale, Plus by them. · gate.Add, Sub, Scale, Plus. · croftkeep.dealt; shares that are written. · (*croftref.Store).has, keep. · The square of numbers of a dealing in two variables: plain facts, and its block. · (*twine.square).row. · (*croftref.Store).sums. -/
import Derived.Test.YtljlioglpaogdagDoorToEnDef
import Derived.Test.YtljlioglpaogdagDoorToLsW
import Derived.Test.YtljlioglpaogdagDoorToLsV2
import Derived.Test.YtljlioglpaogdagDoorToTEqC
import Derived.Test.YtljlioglpaogdagDoorToFitC
import Derived.Deep.RegionWith
import Derived.BigQuiet
import Derived.Test.YtljlioglpaogdagDoorToLstC
import Derived.Test.YtljlioglpaogdagDoorToBadM
import Derived.Test.YtljlioglpaogdagDoorToGaussM
import Derived.Test.YtljlioglpaogdagDoorToShpM
import Derived.Laws.Rows
import Derived.Laws.Tables
import Derived.Test.YtljlioglpaogdagDoorProg
import Derived.WalkKit
import Derived.WalkSpells
import Derived.WalkLawsBesides
import Derived.Deep.AppendLies
import Derived.Deep.RegionLaw
namespace Go.Proofs.YtljlioglpaogdagDoor
set_option linter.unusedVariables false
set_option maxRecDepth 100000
set_option maxHeartbeats 8000000
section
open Crm Go.RowKit
theorem cell_block {w w' : World} {p : Addr} (e : w'.heap[p.block]? = w.heap[p.block]?) : w'.cell? p = w.cell? p := by unfold World.cell?; rw [e]
theorem add_block (x : Addr) (i : Nat) : (x.add i).block = x.block := by unfold Addr.add; split <;> rfl
theorem Rd.block {w w' : World} {a : Option Addr} {n c : Nat} {xs : List Int} (h : Rd w a n c xs) (hk : ∀ x, a = some x → w'.heap[x.block]? = w.heap[x.block]?) : Rd w' a n c xs := by
  refine ⟨h.len, h.cap, h.max, h.bd, h.nil, fun x hx i hi => ?_⟩
  have e : w'.cell? (x.add i) = w.cell? (x.add i) := cell_block (by rw [add_block]; exact hk x hx)
  rw [e]
  exact h.cell x hx i hi
/-- Nothing that was there has turned but in G. -/
structure Tch (w w' : World) (G : Nat → Prop) : Prop where
  os : w'.os = w.os
  tape : w'.tape = w.tape
  output : w'.output = w.output
  size : w.heap.size ≤ w'.heap.size
  block : ∀ i, i < w.heap.size → ¬ G i → w'.heap[i]? = w.heap[i]?
/-- G, and what is new. -/
def Gnx (G : Nat → Prop) (w w' : World) : Nat → Prop := fun i => G i ∨ (w.heap.size ≤ i ∧ i < w'.heap.size)
theorem Tch.refl (w : World) (G : Nat → Prop) : Tch w w G := ⟨rfl, rfl, rfl, Nat.le_refl _, fun _ _ _ => rfl⟩
theorem Tch.of_below {w w' : World} {G : Nat → Prop} (h : Below w.heap.size w w') : Tch w w' G := ⟨h.os, h.tape, h.output, h.size, fun i hi _ => h.block i hi⟩
theorem Tch.trans {w w1 w2 : World} {G : Nat → Prop} (h : Tch w w1 G) (k : Tch w1 w2 (Gnx G w w1)) : Tch w w2 G :=
  ⟨k.os.trans h.os, k.tape.trans h.tape, k.output.trans h.output, Nat.le_trans h.size k.size, fun i hi hn => (k.block i (Nat.lt_of_lt_of_le hi h.size) (fun g => g.elim hn (fun g => by omega))).trans (h.block i hi hn)⟩
theorem Tch.below {B : Nat} {w0 w w' : World} {G : Nat → Prop} (h : Tch w w' G) (hb : Below B w0 w) (hG : ∀ i, G i → B ≤ i) (hB : B ≤ w.heap.size) : Below B w0 w' :=
  ⟨h.os.trans hb.os, h.tape.trans hb.tape, h.output.trans hb.output, Nat.le_trans hb.size h.size, fun i hi => (h.block i (by omega) (fun g => by have := hG i g; omega)).trans (hb.block i hi)⟩
theorem Tch.rd {w w' : World} {G : Nat → Prop} {a : Option Addr} {n c : Nat} {xs : List Int} (h : Tch w w' G) (r : Rd w a n c xs) (hn : 0 < n) (hG : ∀ x, a = some x → ¬ G x.block) : Rd w' a n c xs := by
  refine r.block fun x hx => h.block _ ?_ (hG x hx)
  obtain ⟨b, o, rfl, hb, _⟩ := r.at hn
  obtain rfl := Option.some.inj hx
  exact hb
theorem Gnx.lt {G : Nat → Prop} {w w' : World} (h : ∀ i, G i → i < w.heap.size) (hs : w.heap.size ≤ w'.heap.size) : ∀ i, Gnx G w w' i → i < w'.heap.size := fun i g => g.elim (fun g => Nat.lt_of_lt_of_le (h i g) hs) (fun g => g.2)
theorem Gnx.ge {G : Nat → Prop} {w w' : World} {B : Nat} (h : ∀ i, G i → B ≤ i) (hs : B ≤ w.heap.size) : ∀ i, Gnx G w w' i → B ≤ i := fun i g => g.elim (h i) (fun g => Nat.le_trans hs g.1)
theorem Gnx.sub {G : Nat → Prop} {w w1 w2 : World} (h : w.heap.size ≤ w1.heap.size) (hs : w1.heap.size ≤ w2.heap.size) : ∀ i, Gnx (Gnx G w w1) w1 w2 i → Gnx G w w2 i := fun i g =>
  g.elim (fun g => g.elim .inl (fun g => .inr ⟨g.1, by omega⟩)) (fun g => .inr ⟨by omega, g.2⟩)

/-- The struct at p, its map at b with the elements V: the state s. -/
structure Sto (TY : TypeId) (w : World) (p b : Nat) (V : Int → Option Value) (s : Kt) : Prop where
  row : w.heap[p]? = some (.cells #[.int .i64 s.n, .int .i64 s.t, .int .i64 s.last, .map (some b)] TY (0, 0))
  map : MapI w b s.cnt V
  val : ∀ h, (s.f h = none ∧ V h = none) ∨ ∃ l a c, s.f h = some l ∧ V h = some (.slice a s.n c) ∧ Rd w a s.n c l
  wf : Kwf s
def Ftp (p b : Nat) (V : Int → Option Value) : Nat → Prop := fun i => i = p ∨ i = b ∨ ∃ h a m c, V h = some (.slice (some a) m c) ∧ a.block = i
theorem Sto.keep {TY : TypeId} {w w' : World} {p b : Nat} {V : Int → Option Value} {s : Kt} (h : Sto TY w p b V s) (hk : ∀ i, Ftp p b V i → w'.heap[i]? = w.heap[i]?) : Sto TY w' p b V s := by
  refine ⟨by rw [hk p (.inl rfl)]; exact h.row, h.map.block (hk b (.inr (.inl rfl))), fun i => ?_, h.wf⟩
  rcases h.val i with e | ⟨l, a, c, e1, e2, e3⟩
  · exact .inl e
  · exact .inr ⟨l, a, c, e1, e2, e3.block fun x hx => hk _ (.inr (.inr ⟨i, x, _, _, by rw [← hx]; exact e2, rfl⟩))⟩
/-- There is a store of state s at p, all of it in G. -/
def Stx (TY : TypeId) (w : World) (p : Nat) (G : Nat → Prop) (s : Kt) : Prop := (∃ b V, Sto TY w p b V s ∧ ∀ i, Ftp p b V i → G i) ∧ ∀ i, G i → i < w.heap.size
theorem Stx.keep {TY : TypeId} {w w' : World} {p : Nat} {G : Nat → Prop} {s : Kt} (h : Stx TY w p G s) (hk : ∀ i, G i → w'.heap[i]? = w.heap[i]?) : Stx TY w' p G s := by
  obtain ⟨⟨b, V, h1, h2⟩, h3⟩ := h
  refine ⟨⟨b, V, h1.keep fun i hi => hk i (h2 i hi), h2⟩, fun i hi => ?_⟩
  have e := hk i hi
  rw [Array.getElem?_eq_getElem (h3 i hi)] at e
  exact (Array.getElem?_eq_some_iff.1 e).1
theorem Stx.mono {TY : TypeId} {w : World} {p : Nat} {G G' : Nat → Prop} {s : Kt} (h : Stx TY w p G s) (hG : ∀ i, G i → G' i) (hl : ∀ i, G' i → i < w.heap.size) : Stx TY w p G' s := by
  obtain ⟨⟨b, V, h1, h2⟩, h3⟩ := h
  exact ⟨⟨b, V, h1, fun i hi => hG i (h2 i hi)⟩, hl⟩
theorem Stx.below {TY : TypeId} {w w' : World} {p : Nat} {G : Nat → Prop} {s : Kt} (h : Stx TY w p G s) (hb : Below w.heap.size w w') : Stx TY w' p (Gnx G w w') s :=
  (h.keep fun i hi => hb.block i (h.2 i hi)).mono (fun _ => .inl) (Gnx.lt h.2 hb.size)
theorem Stx.same {TY : TypeId} {w w' : World} {p : Nat} {G : Nat → Prop} {s : Kt} (h : Stx TY w p G s) (hb : Below w.heap.size w w') : Stx TY w' p G s := h.keep fun i hi => hb.block i (h.2 i hi)
theorem Stx.wf {TY : TypeId} {w : World} {p : Nat} {G : Nat → Prop} {s : Kt} (h : Stx TY w p G s) : Kwf s := let ⟨⟨_, _, h1, _⟩, _⟩ := h; h1.wf
/-- It stays while another one turns. -/
theorem Stx.aside {TY : TypeId} {w w' : World} {p : Nat} {G G' : Nat → Prop} {s : Kt} (h : Stx TY w p G s) (ht : Tch w w' G') (hd : ∀ i, G i → ¬ G' i) : Stx TY w' p G s := h.keep fun i hi => ht.block i (h.2 i hi) (hd i hi)
/-- What a call that may make a key leaves. -/
def Kde (TY : TypeId) (p : Nat) (G : Nat → Prop) (r : Int × Int × Kt) (w : World) (e : Ending) (w' : World) : Prop :=
  e = .returned (.tuple #[.int .i64 r.1, .int .i64 r.2.1]) ∧ Stx TY w' p (Gnx G w w') r.2.2 ∧ Tch w w' G
/-- What a call that turns a key, or drops it, leaves. -/
def Kte (TY : TypeId) (p : Nat) (G : Nat → Prop) (r : Int × Kt) (w : World) (e : Ending) (w' : World) : Prop :=
  e = .returned (.int .i64 r.1) ∧ Stx TY w' p (Gnx G w w') r.2 ∧ Tch w w' G
/-- What is behind one step more. -/
theorem Kde.behind {TY : TypeId} {p : Nat} {G : Nat → Prop} {r : Int × Int × Kt} {w w1 w' : World} {e : Ending} (hb : Below w.heap.size w w1) (h : Kde TY p (Gnx G w w1) r w1 e w') (hG : ∀ i, G i → i < w.heap.size) : Kde TY p G r w e w' := by
  obtain ⟨h1, h2, h3⟩ := h
  refine ⟨h1, h2.mono (Gnx.sub hb.size h3.size) (Gnx.lt hG (Nat.le_trans hb.size h3.size)), (Tch.of_below hb).trans h3⟩
theorem Kte.behind {TY : TypeId} {p : Nat} {G : Nat → Prop} {r : Int × Kt} {w w1 w' : World} {e : Ending} (hb : Below w.heap.size w w1) (h : Kte TY p (Gnx G w w1) r w1 e w') (hG : ∀ i, G i → i < w.heap.size) : Kte TY p G r w e w' := by
  obtain ⟨h1, h2, h3⟩ := h
  refine ⟨h1, h2.mono (Gnx.sub hb.size h3.size) (Gnx.lt hG (Nat.le_trans hb.size h3.size)), (Tch.of_below hb).trans h3⟩
/-- A list that is new lies in what is new. -/
theorem gnx_new {G : Nat → Prop} {w w1 : World} {a : Option Addr} {n c : Nat} {xs : List Int} (r : Rd w1 a n c xs) (hn : 0 < n) (hx : ∀ x, a = some x → w.heap.size ≤ x.block) : ∀ x, a = some x → Gnx G w w1 x.block := fun x e => by
  obtain ⟨b, o, e2, hb, _⟩ := r.at hn
  rw [e] at e2
  obtain rfl := Option.some.inj e2
  exact .inr ⟨hx _ e, hb⟩
/-- Its cells. -/
theorem Sto.four {TY : TypeId} {w : World} {p b : Nat} {V : Int → Option Value} {s : Kt} (h : Sto TY w p b V s) : w.cell? ⟨p, 0, none⟩ = some (.int .i64 s.n) ∧ w.cell? ⟨p, 1, none⟩ = some (.int .i64 s.t) ∧ w.cell? ⟨p, 2, none⟩ = some (.int .i64 s.last) ∧ w.cell? ⟨p, 3, none⟩ = some (.map (some b)) := by
  refine ⟨?_, ?_, ?_, ?_⟩ <;> (rw [cell_of_row w p _ _ _ (0, 0) h.row]; rfl)
theorem Sto.lt {TY : TypeId} {w : World} {p b : Nat} {V : Int → Option Value} {s : Kt} (h : Sto TY w p b V s) : p < w.heap.size := (Array.getElem?_eq_some_iff.1 h.row).1
theorem Sto.ne {TY : TypeId} {w : World} {p b : Nat} {V : Int → Option Value} {s : Kt} (h : Sto TY w p b V s) : b ≠ p := fun e => by
  obtain ⟨es, ck, hm⟩ := h.map.map
  rw [e, h.row] at hm
  cases hm
/-- The struct holds no number of a list. -/
theorem Sto.apart {TY : TypeId} {w : World} {p b : Nat} {V : Int → Option Value} {s : Kt} (h : Sto TY w p b V s) {a : Addr} {n c : Nat} {xs : List Int} (r : Rd w (some a) n c xs) (hn : 0 < n) : a.block ≠ p ∧ a.block ≠ b := by
  obtain ⟨g, o, e, _, hc⟩ := r.at hn
  obtain rfl := Option.some.inj e
  have h0 := hc 0 hn
  constructor
  · intro e
    simp only at e
    subst e
    rw [cell_of_row w g _ _ _ (0, 0) h.row] at h0
    have hcase : o + 0 = 0 ∨ o + 0 = 1 ∨ o + 0 = 2 ∨ o + 0 = 3 ∨ 4 ≤ o + 0 := by omega
    rcases hcase with e | e | e | e | e
    · rw [e] at h0; simp at h0
    · rw [e] at h0; simp at h0
    · rw [e] at h0; simp at h0
    · rw [e] at h0; simp at h0
    · rw [Array.getElem?_eq_none (by simpa using e)] at h0
      cases h0
  · intro e
    simp only at e
    subst e
    obtain ⟨es, ck, hm⟩ := h.map.map
    unfold World.cell? at h0
    simp [hm] at h0
/-- A handle more: the struct's cell and the map have turned. -/
theorem Sto.put {TY : TypeId} {w w' : World} {p b : Nat} {V : Int → Option Value} {s : Kt} {a : Option Addr} {c : Nat} {l : List Int} (h : Sto TY w p b V s) (hc : s.cnt < 8) (hl : ∀ x ∈ l, 0 ≤ x ∧ x ≤ 2147483646) (r : Rd w a s.n c l)
    (hm : MapI w' b (if (V ((s.last : Int) + 1)).isSome then s.cnt else s.cnt + 1) (mset V ((s.last : Int) + 1) (some (.slice a s.n c))))
    (hr : w'.heap[p]? = some (.cells #[.int .i64 s.n, .int .i64 s.t, .int .i64 ((s.last : Int) + 1), .map (some b)] TY (0, 0))) (hk : ∀ i, i < w.heap.size → i ≠ p → i ≠ b → w'.heap[i]? = w.heap[i]?) :
    Sto TY w' p b (mset V ((s.last : Int) + 1) (some (.slice a s.n c))) (kput s l) := by
  have hn : 0 < s.n := by have := h.wf.nt; omega
  have hrd : ∀ {a : Option Addr} {c : Nat} {l : List Int}, Rd w a s.n c l → Rd w' a s.n c l := fun {a c l} r => r.block fun x hx => by
    subst hx
    have h1 := h.apart r hn
    obtain ⟨g, o, e, hg, _⟩ := r.at hn
    obtain rfl := Option.some.inj e
    exact hk _ hg h1.1 h1.2
  have hv : V ((s.last : Int) + 1) = none := by
    rcases h.val ((s.last : Int) + 1) with e | ⟨m, _, _, e, _⟩
    · exact e.2
    · have := (h.wf.key _ m e).1
      omega
  refine ⟨?_, ?_, fun i => ?_, kput_wf h.wf hc r.len hl⟩
  · rw [hr]; unfold kput; simp
  · rw [hv] at hm
    exact hm
  · unfold mset
    show (kset s.f ((s.last : Int) + 1) (some l) i = none ∧ _) ∨ ∃ l_1 a_1 c_1, kset s.f ((s.last : Int) + 1) (some l) i = some l_1 ∧ _ ∧ Rd w' a_1 s.n c_1 l_1
    by_cases e : i = (s.last : Int) + 1
    · subst e
      rw [kset_same, if_pos rfl]
      exact .inr ⟨l, a, c, rfl, rfl, hrd r⟩
    · rw [kset_other _ _ e, if_neg e]
      rcases h.val i with e | ⟨l, a, c, e1, e2, e3⟩
      · exact .inl e
      · exact .inr ⟨l, a, c, e1, e2, hrd e3⟩
/-- A key's numbers are other ones. -/
theorem Sto.turn {TY : TypeId} {w w' : World} {p b : Nat} {V : Int → Option Value} {s : Kt} {a : Option Addr} {c : Nat} {l m : List Int} {k : Int} (h : Sto TY w p b V s) (hm0 : s.f k = some m) (hl : ∀ x ∈ l, 0 ≤ x ∧ x ≤ 2147483646) (r : Rd w a s.n c l)
    (hm : MapI w' b (if (V k).isSome then s.cnt else s.cnt + 1) (mset V k (some (.slice a s.n c)))) (hk : ∀ i, i < w.heap.size → i ≠ b → w'.heap[i]? = w.heap[i]?) :
    Sto TY w' p b (mset V k (some (.slice a s.n c))) (ktrn s k l) := by
  have hn : 0 < s.n := by have := h.wf.nt; omega
  have hrd : ∀ {a : Option Addr} {c : Nat} {l : List Int}, Rd w a s.n c l → Rd w' a s.n c l := fun {a c l} r => r.block fun x hx => by
    subst hx
    have h1 := h.apart r hn
    obtain ⟨g, o, e, hg, _⟩ := r.at hn
    obtain rfl := Option.some.inj e
    exact hk _ hg h1.2
  have hv : (V k).isSome = true := by
    rcases h.val k with e | ⟨m, _, _, _, e, _⟩
    · rw [e.1] at hm0; cases hm0
    · rw [e]; rfl
  refine ⟨by rw [hk p h.lt h.ne.symm]; exact h.row, ?_, fun i => ?_, ktrn_wf h.wf hm0 r.len hl⟩
  · rw [hv] at hm
    exact hm
  · unfold mset
    show (kset s.f k (some l) i = none ∧ _) ∨ ∃ l_1 a_1 c_1, kset s.f k (some l) i = some l_1 ∧ _ ∧ Rd w' a_1 s.n c_1 l_1
    by_cases e : i = k
    · subst e
      rw [kset_same, if_pos rfl]
      exact .inr ⟨l, a, c, rfl, rfl, hrd r⟩
    · rw [kset_other _ _ e, if_neg e]
      rcases h.val i with e | ⟨l, a, c, e1, e2, e3⟩
      · exact .inl e
      · exact .inr ⟨l, a, c, e1, e2, hrd e3⟩
/-- A key is gone. -/
theorem Sto.out {TY : TypeId} {w w' : World} {p b : Nat} {V : Int → Option Value} {s : Kt} {m : List Int} {k : Int} (h : Sto TY w p b V s) (hm0 : s.f k = some m)
    (hm : MapI w' b (if (V k).isSome then s.cnt - 1 else s.cnt) (mset V k none)) (hk : ∀ i, i < w.heap.size → i ≠ b → w'.heap[i]? = w.heap[i]?) : Sto TY w' p b (mset V k none) (kout s k) := by
  have hn : 0 < s.n := by have := h.wf.nt; omega
  have hrd : ∀ {a : Option Addr} {c : Nat} {l : List Int}, Rd w a s.n c l → Rd w' a s.n c l := fun {a c l} r => r.block fun x hx => by
    subst hx
    have h1 := h.apart r hn
    obtain ⟨g, o, e, hg, _⟩ := r.at hn
    obtain rfl := Option.some.inj e
    exact hk _ hg h1.2
  have hv : (V k).isSome = true := by
    rcases h.val k with e | ⟨m, _, _, _, e, _⟩
    · rw [e.1] at hm0; cases hm0
    · rw [e]; rfl
  refine ⟨by rw [hk p h.lt h.ne.symm]; exact h.row, ?_, fun i => ?_, kout_wf h.wf⟩
  · rw [hv] at hm
    exact hm
  · unfold mset
    show (kset s.f k none i = none ∧ _) ∨ ∃ l_1 a_1 c_1, kset s.f k none i = some l_1 ∧ _ ∧ Rd w' a_1 s.n c_1 l_1
    by_cases e : i = k
    · subst e
      rw [kset_same, if_pos rfl]
      exact .inl ⟨rfl, rfl⟩
    · rw [kset_other _ _ e, if_neg e]
      rcases h.val i with e | ⟨l, a, c, e1, e2, e3⟩
      · exact .inl e
      · exact .inr ⟨l, a, c, e1, e2, hrd e3⟩
/-- There is a store of state s at p, all of it in G. -/
def Kst (w : World) (p : Nat) (G : Nat → Prop) (s : Kt) : Prop := Stx 107 w p G s
theorem Kst.lt {w : World} {p : Nat} {G : Nat → Prop} {s : Kt} (h : Kst w p G s) : ∀ i, G i → i < w.heap.size := h.2
theorem Kst.wf {w : World} {p : Nat} {G : Nat → Prop} {s : Kt} (h : Kst w p G s) : Kwf s := Stx.wf h
theorem Kst.same {w w' : World} {p : Nat} {G : Nat → Prop} {s : Kt} (h : Kst w p G s) (hb : Below w.heap.size w w') : Kst w' p G s := Stx.same h hb
theorem Kst.aside {w w' : World} {p : Nat} {G G' : Nat → Prop} {s : Kt} (h : Kst w p G s) (ht : Tch w w' G') (hd : ∀ i, G i → ¬ G' i) : Kst w' p G s := Stx.aside h ht hd
/-- What a call that may make a key leaves. -/
def Kke (p : Nat) (G : Nat → Prop) (r : Int × Int × Kt) (w : World) (e : Ending) (w' : World) : Prop :=
  e = .returned (.tuple #[.int .i64 r.1, .int .i64 r.2.1]) ∧ Kst w' p (Gnx G w w') r.2.2 ∧ Tch w w' G
/-- What a call that turns a key, or drops it, leaves. -/
def Kkt (p : Nat) (G : Nat → Prop) (r : Int × Kt) (w : World) (e : Ending) (w' : World) : Prop :=
  e = .returned (.int .i64 r.1) ∧ Kst w' p (Gnx G w w') r.2 ∧ Tch w w' G
/-- What New answers. -/
def Knw (n t : Int) (w : World) (e : Ending) (w' : World) : Prop :=
  ((¬ ((0 ≤ t ∧ t ≤ 4) ∧ n ≤ 9 ∧ 2 * t + 1 ≤ n) ∧ e = .returned (.tuple #[.pointer none, .int .i64 1])) ∨
    ∃ (n' t' p : Nat) (G : Nat → Prop), n = (n' : Int) ∧ t = (t' : Int) ∧ t' ≤ 4 ∧ n' ≤ 9 ∧ 2 * t' + 1 ≤ n' ∧ e = .returned (.tuple #[.pointer (some ⟨p, 0, none⟩), .int .i64 0]) ∧ Kst w' p G (k0 n' t') ∧ ∀ i, G i → w.heap.size ≤ i) ∧ Below w.heap.size w w'
/-- What Open answers. -/
def Kpn (s : Kt) (x : Int) (w : World) (e : Ending) (w' : World) : Prop := ∃ y r, e = .returned (.tuple #[.int .u64 y, .int .i64 r]) ∧ Kop s x y r ∧ Below w.heap.size w w'
theorem Kop.val {s : Kt} {x y r : Int} (h : Kop s x y r) : 0 ≤ y ∧ y ≤ 2147483646 := by
  rcases h with ⟨_, rfl, _⟩ | ⟨l, _, ⟨_, _, rfl⟩ | ⟨_, ⟨S, _, _, rfl, _⟩ | ⟨_, rfl, _⟩⟩⟩
  · omega
  · omega
  · exact nm_bd _
  · omega
def KcNew : Prop := ∀ (n t : Int) (w : World), i64r n → i64r t → Calls Tryd.prog 21 #[.int .i64 n, .int .i64 t] w (Knw n t w)
def KcGen : Prop := ∀ (p : Nat) (G : Nat → Prop) (s : Kt) (a : Option Addr) (m c : Nat) (ds : List Int) (w : World), Kst w p G s → Rd w a m c ds → s.last ≤ 1000000 → Calls Tryd.prog 22 #[.pointer (some ⟨p, 0, none⟩), .slice a m c] w (Kke p G (kgen s ds) w)
def KcRefresh : Prop := ∀ (p : Nat) (G : Nat → Prop) (s : Kt) (x : Int) (a : Option Addr) (m c : Nat) (ds : List Int) (w : World), Kst w p G s → i64r x → Rd w a m c ds → Calls Tryd.prog 46 #[.pointer (some ⟨p, 0, none⟩), .int .i64 x, .slice a m c] w (Kkt p G (krfr s x ds) w)
def KcTweak : Prop := ∀ (p : Nat) (G : Nat → Prop) (s : Kt) (x u : Int) (w : World), Kst w p G s → i64r x → 0 ≤ u → u ≤ 18446744073709551615 → s.last ≤ 1000000 → Calls Tryd.prog 47 #[.pointer (some ⟨p, 0, none⟩), .int .i64 x, .int .u64 u] w (Kke p G (kmix s x x 1 0 u) w)
def KcCombine : Prop := ∀ (p : Nat) (G : Nat → Prop) (s : Kt) (g x u v : Int) (w : World), Kst w p G s → i64r g → i64r x → 0 ≤ u → u ≤ 18446744073709551615 → 0 ≤ v → v ≤ 18446744073709551615 → s.last ≤ 1000000 → Calls Tryd.prog 48 #[.pointer (some ⟨p, 0, none⟩), .int .i64 g, .int .i64 x, .int .u64 u, .int .u64 v] w (Kke p G (kmix s g x u v 0) w)
def KcMultiply : Prop := ∀ (p : Nat) (G : Nat → Prop) (s : Kt) (g x : Int) (a : Option Addr) (m c : Nat) (ds : List Int) (w : World), Kst w p G s → i64r g → i64r x → Rd w a m c ds → s.last ≤ 1000000 → Calls Tryd.prog 50 #[.pointer (some ⟨p, 0, none⟩), .int .i64 g, .int .i64 x, .slice a m c] w (Kke p G (kmul s g x ds) w)
def KcOpen : Prop := ∀ (p : Nat) (G : Nat → Prop) (s : Kt) (x : Int) (w : World), Kst w p G s → i64r x → Calls Tryd.prog 23 #[.pointer (some ⟨p, 0, none⟩), .int .i64 x] w (Kpn s x w)
def KcDrop : Prop := ∀ (p : Nat) (G : Nat → Prop) (s : Kt) (x : Int) (w : World), Kst w p G s → i64r x → Calls Tryd.prog 51 #[.pointer (some ⟨p, 0, none⟩), .int .i64 x] w (Kkt p G (kdrp s x) w)
/-- Wires that may be. -/
def Wr1 (n : Nat) : Prop := 1 ≤ n ∧ n ≤ 9
def Wr2 (n m : Nat) : Prop := (1 ≤ n ∧ n ≤ 9) ∧ m = n
theorem wk_one (n : Nat) : Wk [n] 1 ↔ Wr1 n := by
  unfold Wk Wr1
  constructor
  · intro h; exact h.1
  · intro h
    refine ⟨h, fun i hi => ?_⟩
    obtain rfl : i = 0 := by omega
    rfl
theorem wk_two (n m : Nat) : Wk [n, m] 2 ↔ Wr2 n m := by
  unfold Wk Wr2
  constructor
  · intro h; exact ⟨h.1, h.2 1 (by omega)⟩
  · intro h
    refine ⟨h.1, fun i hi => ?_⟩
    match i, hi with
    | 0, _ => rfl
    | 1, _ => exact h.2
theorem len_two {n m : Nat} (h0 : n ≤ 9223372036854775807) (h1 : m ≤ 9223372036854775807) : ∀ i, [n, m].getD i 0 ≤ 9223372036854775807
  | 0 => h0
  | 1 => h1
  | i + 2 => by simp
theorem len_one {n : Nat} (h0 : n ≤ 9223372036854775807) : ∀ i, [n].getD i 0 ≤ 9223372036854775807
  | 0 => h0
  | i + 1 => by simp
/-- What Add, Sub, Scale, Plus answer. -/
def Gts (ok : Prop) (L : List Int) (n : Nat) (w : World) (e : Ending) (w' : World) : Prop :=
  ((¬ ok ∧ e = .returned (.tuple #[.slice none 0 0, .int .i64 5])) ∨ (ok ∧ ∃ v, e = .returned (.tuple #[v, .int .i64 0]) ∧ w'.ownsRow w.heap.size 34 1 v n (L.map (Value.int .u64)))) ∧ Below w.heap.size w w'
/-- What is wrong with what is multiplied. -/
def Gme (t : Int) (n m q : Nat) (r : Int) : Prop :=
  ((t < 0 ∨ 4 < t) ∧ r = 1) ∨ ((0 ≤ t ∧ t ≤ 4) ∧ ((¬ Wr2 n m ∧ r = 5) ∨ (Wr2 n m ∧ (((n : Int) < 2 * t + 1 ∧ r = 4) ∨ (2 * t + 1 ≤ (n : Int) ∧ (((q : Int) ≠ (n : Int) * t ∧ r = 1) ∨ ((q : Int) = (n : Int) * t ∧ r = 0)))))))
theorem Gme.one {t : Int} {n m q : Nat} {r s : Int} (h : Gme t n m q r) (k : Gme t n m q s) : r = s := by
  rcases h with ⟨h1, rfl⟩ | ⟨h1, h2⟩ <;> rcases k with ⟨k1, rfl⟩ | ⟨k1, k2⟩
  · rfl
  · exfalso; omega
  · exfalso; omega
  · rcases h2 with ⟨h2, rfl⟩ | ⟨h2, h3⟩ <;> rcases k2 with ⟨k2, rfl⟩ | ⟨k2, k3⟩
    · rfl
    · exact absurd k2 h2
    · exact absurd h2 k2
    · rcases h3 with ⟨h3, rfl⟩ | ⟨h3, ⟨h4, rfl⟩ | ⟨h4, rfl⟩⟩ <;> rcases k3 with ⟨k3, rfl⟩ | ⟨k3, ⟨k4, rfl⟩ | ⟨k4, rfl⟩⟩
      all_goals first
        | rfl
        | (exfalso; omega)
        | exact absurd k4 h4
        | exact absurd h4 k4
theorem Gme.ok {t : Int} {n m q : Nat} (h : Gme t n m q 0) : ∃ k : Nat, t = (k : Int) ∧ k ≤ 4 ∧ 1 ≤ n ∧ n ≤ 9 ∧ m = n ∧ 2 * k + 1 ≤ n ∧ q = n * k := by
  rcases h with ⟨_, h⟩ | ⟨h1, ⟨_, h⟩ | ⟨h2, ⟨_, h⟩ | ⟨h3, ⟨_, h⟩ | ⟨h4, _⟩⟩⟩⟩
  · omega
  · omega
  · omega
  · omega
  · obtain ⟨k, rfl⟩ : ∃ k : Nat, t = k := ⟨t.toNat, by omega⟩
    refine ⟨k, rfl, by omega, h2.1.1, h2.1.2, h2.2, by omega, ?_⟩
    have : ((q : Nat) : Int) = ((n * k : Nat) : Int) := by rw [h4]; push_cast; rfl
    omega
/-- What Mul answers. -/
def Gtm (t : Int) (xs ys ds : List Int) (n m q : Nat) (w : World) (e : Ending) (w' : World) : Prop :=
  ((∃ r, r ≠ 0 ∧ Gme t n m q r ∧ e = .returned (.tuple #[.slice none 0 0, .slice none 0 0, .int .i64 r])) ∨
   (Gme t n m q 0 ∧ ∃ v u L, e = .returned (.tuple #[v, u, .int .i64 0]) ∧ w'.ownsRow w.heap.size 34 1 v n ((tmO t.toNat xs ys ds n n).map (Value.int .u64)) ∧ LsV w' w.heap.size u L (tmG t.toNat xs ys ds n))) ∧ Below w.heap.size w w'
/-- A row of the call's own, all of it. -/
theorem Blk.mine {w : World} {g n B : Nat} {L : List Int} (h : Blk w g L) (hl : L.length = n) (hB : B ≤ g) (hn : n ≤ 1000) : w.ownsRow B 34 1 (.slice (some ⟨g, 0, none⟩) n n) n (L.map (Value.int .u64)) :=
  ⟨by simp [hl], .inr ⟨g, n, _, rfl, hB, h, Nat.le_refl _, by unfold maxLen; omega, by simp [hl], by rw [List.take_of_length_le (by simp [hl])]⟩⟩

theorem cWires (g k : Nat) (ns : List Nat) (w : World) (h : RdL w g k ns) (hk0 : 0 < k) (hk : k ≤ 100) (hm : ∀ i, ns.getD i 0 ≤ 9223372036854775807) :
    Calls Tryd.prog 85 #[.slice (some ⟨g, 0, none⟩) k k] w fun e w' => Tells (Wk ns k) w e w' := by
  have hgl := h.lt
  obtain ⟨a0, c0, hc0⟩ := h.cell 0 hk0
  obtain ⟨N, HN⟩ : ∃ N, Hid (ns.getD 0 0 = N) := ⟨_, rfl⟩
  have hN := hm 0
  rw [HN.out] at hc0 hN
  have HM : Hid (∀ i, ns.getD i 0 ≤ 9223372036854775807) := hm
  clear hm
  go_enter Tryd.func85, Tryd.ntmps85
  go_wp2
  go_loop [7] (fun q => ∃ i : Nat, i ≤ k ∧ q = .int .i64 i ∧ Hid (∀ j, j < i → (1 ≤ ns.getD j 0 ∧ ns.getD j 0 ≤ 9) ∧ ns.getD j 0 = N)) (fun q => k - (intOf q).toNat)
  case atStart => exact ⟨0, Nat.zero_le _, rfl, fun j hj => by omega⟩
  case round =>
    obtain ⟨i, hi, rfl, HB⟩ := hrel
    by_cases hlt : i < k
    · obtain ⟨ai, ci, hci⟩ := h.cell i hlt
      obtain ⟨M, HMi⟩ : ∃ M, Hid (ns.getD i 0 = M) := ⟨_, rfl⟩
      have hM := HM.out i
      rw [HMi.out] at hci hM
      by_cases h1 : M < 1
      · have HX : Hid (¬ Wk ns k) := fun e => by have h2 := e.2 i hlt; have h3 := e.1; rw [← h2, HMi.out] at h3; omega
        clear HB
        go_wp2
        go_ret
        exact .no HX.out (Below.refl _ _)
      · by_cases h9 : 9 < M
        · have HX : Hid (¬ Wk ns k) := fun e => by have h2 := e.2 i hlt; have h3 := e.1; rw [← h2, HMi.out] at h3; omega
          clear HB
          go_wp2
          go_ret
          exact .no HX.out (Below.refl _ _)
        · by_cases hMN : M = N
          · have hmb : ((M : Int) != (N : Int)) = false := by rw [bne_eq_false_iff_eq]; omega
            have HB2 : Hid (∀ j, j < i + 1 → (1 ≤ ns.getD j 0 ∧ ns.getD j 0 ≤ 9) ∧ ns.getD j 0 = N) := fun j hj => by
              by_cases e : j = i
              · rw [e, HMi.out]; exact ⟨by omega, hMN⟩
              · exact HB.out j (by omega)
            clear hMN HB
            go_wp2
            go_round
            case rel => exact ⟨i + 1, by omega, by go_num, HB2⟩
            case measure => simp [intOf]; omega
          · have hmb : ((M : Int) != (N : Int)) = true := by rw [bne_iff_ne]; omega
            have HX : Hid (¬ Wk ns k) := fun e => hMN (by have h2 := e.2 i hlt; rw [HMi.out, HN.out] at h2; exact h2)
            clear hMN HB
            go_wp2
            go_ret
            exact .no HX.out (Below.refl _ _)
    · have hik : i = k := by omega
      subst hik
      have HE : Hid (Wk ns i) := by
        unfold Hid Wk
        rw [HN.out]
        have h0 := HB.out 0 hk0
        rw [HN.out] at h0
        exact ⟨h0.1, fun j hj => (HB.out j hj).2⟩
      clear HB
      go_wp2
      go_ret
      exact .yes HE.out (Below.refl _ _)

theorem cBoth (F : Nat) (op : Int → Int → Int) (eg : ∀ args w, (callFunc F args).run Tryd.prog w = .ok (.enter F args) w) (HF : Hid (∀ (x y : Int) (w : World), 0 ≤ x → x ≤ 18446744073709551615 → 0 ≤ y → y ≤ 18446744073709551615 → Calls Tryd.prog F #[.int .u64 x, .int .u64 y] w fun e w' => e = .returned (.int .u64 (nm (op x y))) ∧ w' = w)) (a : Option Addr) (n c : Nat) (xs : List Int) (b : Option Addr) (m d : Nat) (ys : List Int) (w : World) (h : Rd w a n c xs) (g : Rd w b m d ys) :
    Calls Tryd.prog 54 #[.func (.func F) #[] #[], .slice a n c, .slice b m d] w fun e w' => Gts (Wr2 n m) ((List.range n).map fun i => nm (op (xs.getD i 0) (ys.getD i 0))) n w e w' := by
  obtain ⟨i0, hi, hz0, hz1, hz2⟩ := info_parts info34
  have hmx := h.max
  have hgx := g.max
  have hc := h.cap
  have gc := g.cap
  unfold maxLen at hmx hgx
  have hRL := rdL_two w a n c b m d 22
  have hbA : Below w.heap.size w (w.alloc (.cells #[.slice a n c, .slice b m d] 22)) := (Below.refl _ _).alloc (Nat.le_refl _) _
  go_enter Tryd.func54, Tryd.ntmps54
  go_wp2_with fail
  generalize w.alloc (.cells #[.slice a n c, .slice b m d] 22) = wA at *
  refine (cWires _ _ _ _ hRL (by omega) (by omega) (len_two (by omega) (by omega))).mono ?_
  rintro e w1 ⟨r, rfl, hr, hb1⟩
  rw [wk_two] at hr
  have HR : Hid (_ ↔ _) := hr
  have hbw := hbA.trans (hb1.mono hbA.size)
  clear hr hb1 hbA hRL
  cases r with
  | false =>
    have HN : Hid (¬ Wr2 n m) := fun e => by have := HR.out.2 e; cases this
    go_wp2
    go_ret2
    exact ⟨.inl ⟨HN.out, rfl⟩, hbw⟩
  | true =>
    have HY : Hid (Wr2 n m) := HR.out.1 rfl
    obtain rfl : m = n := HY.out.2
    have hn9 := HY.out.1.2
    have hs1 := hbw.size
    go_wp2_with (at_make; refine wpList_make_full _ rfl _ _ 22 rfl w1.heap.size 34 i0 (.int .u64 0) 1 Tryd.underlying22 hi hz0 hz1 .i64 .i64 _ _ m rfl rfl (by omega) (by omega) (by rw [hz2]; omega) (by unfold maxLen; omega) (Nat.le_refl _) ?_; intro w2 hown hgrow)
    have hB2 : Blk w2 w1.heap.size (fil (fun i => nm (op (xs.getD i 0) (ys.getD i 0))) m 0) := by rw [← fil_zero]; exact Blk.made hown
    have hb2 : Below w1.heap.size w1 w2 := (Below.refl _ _).grown hgrow (Nat.le_refl _) (by simp)
    have hb12 : Below w.heap.size w w2 := hbw.trans (hb2.mono hs1)
    clear hown hgrow hb2
    go_loopw [20] (fun i wr => ∃ k : Nat, k ≤ m ∧ i = .int .i64 k ∧ Blk wr w1.heap.size (fil (fun i => nm (op (xs.getD i 0) (ys.getD i 0))) m k) ∧ Below w.heap.size w wr) (fun i _ => m - (intOf i).toNat)
    case atStart => exact ⟨0, Nat.zero_le _, rfl, hB2, hb12⟩
    case round =>
      clear hB2 hb12
      obtain ⟨k, hk, rfl, hblk, hbel⟩ := hrel
      by_cases hlt : k < m
      · obtain ⟨b1, o1, x, rfl, hbb1, HX, hx0, hx1, hcx⟩ := (h.below hbel).one hlt
        obtain ⟨b2, o2, y, rfl, hbb2, HY2, hy0, hy1, hcy⟩ := (g.below hbel).one hlt
        have hcell := hblk.cell (i := k) (by rw [fil_len]; exact hlt)
        have hfz := hblk.frozen k
        have hlt3 := hblk.lt
        have hblk4 := hblk.set k (nm (op x y))
        rw [fil_set (by rw [← HX.out, ← HY2.out])] at hblk4
        have Hbl : Hid (Blk _ _ _) := hblk4
        have Hb5 : Hid (Below w.heap.size w (wr.setCell ⟨w1.heap.size, k, none⟩ (.int .u64 (nm (op x y))))) := hbel.setCell hs1 _
        have hk0 : (0 : Int) ≤ (k : Int) := by omega
        have hkn : (k : Int) < (m : Int) := by omega
        clear hbel hblk hblk4
        go_wp2
        go_region_with (refine (HF.out _ _ _ (by omega) (by omega) (by omega) (by omega)).mono ?_; rintro e w' ⟨rfl, rfl⟩)
        all_goals
          go_wp2
          go_roundw
          case rel => exact ⟨k + 1, by omega, by go_num, Hbl.out, Hb5.out.drew⟩
          case measure => simp [intOf]; omega
      · have hkm : k = m := by omega
        subst hkm
        rw [fil_full] at hblk
        have ho := hblk.mine (B := w.heap.size) (by simp) hs1 (show k ≤ 1000 by omega)
        go_wp2
        go_ret2
        exact ⟨.inr ⟨HY.out, _, rfl, ho⟩, hbel⟩

theorem cEach (F : Nat) (op : Int → Int → Int) (eg : ∀ args w, (callFunc F args).run Tryd.prog w = .ok (.enter F args) w) (HF : Hid (∀ (x y : Int) (w : World), 0 ≤ x → x ≤ 18446744073709551615 → 0 ≤ y → y ≤ 18446744073709551615 → Calls Tryd.prog F #[.int .u64 x, .int .u64 y] w fun e w' => e = .returned (.int .u64 (nm (op x y))) ∧ w' = w)) (a : Option Addr) (n c : Nat) (xs : List Int) (q : Int) (w : World) (h : Rd w a n c xs) (q0 : 0 ≤ q) (q1 : q ≤ 18446744073709551615) :
    Calls Tryd.prog 105 #[.func (.func F) #[] #[], .slice a n c, .int .u64 q] w fun e w' => Gts (Wr1 n) ((List.range n).map fun i => nm (op (xs.getD i 0) q)) n w e w' := by
  obtain ⟨i0, hi, hz0, hz1, hz2⟩ := info_parts info34
  have hmx := h.max
  have hc := h.cap
  unfold maxLen at hmx
  have hRL := rdL_one w a n c 22
  have hbA : Below w.heap.size w (w.alloc (.cells #[.slice a n c] 22)) := (Below.refl _ _).alloc (Nat.le_refl _) _
  go_enter Tryd.func105, Tryd.ntmps105
  go_wp2_with fail
  generalize w.alloc (.cells #[.slice a n c] 22) = wA at *
  refine (cWires _ _ _ _ hRL (by omega) (by omega) (len_one (by omega))).mono ?_
  rintro e w1 ⟨r, rfl, hr, hb1⟩
  rw [wk_one] at hr
  have HR : Hid (_ ↔ _) := hr
  have hbw := hbA.trans (hb1.mono hbA.size)
  clear hr hb1 hbA hRL
  cases r with
  | false =>
    have HN : Hid (¬ Wr1 n) := fun e => by have := HR.out.2 e; cases this
    go_wp2
    go_ret2
    exact ⟨.inl ⟨HN.out, rfl⟩, hbw⟩
  | true =>
    have HY : Hid (Wr1 n) := HR.out.1 rfl
    have hn9 := HY.out.2
    have hs1 := hbw.size
    go_wp2_with (at_make; refine wpList_make_full _ rfl _ _ 22 rfl w1.heap.size 34 i0 (.int .u64 0) 1 Tryd.underlying22 hi hz0 hz1 .i64 .i64 _ _ n rfl rfl (by omega) (by omega) (by rw [hz2]; omega) (by unfold maxLen; omega) (Nat.le_refl _) ?_; intro w2 hown hgrow)
    have hB2 : Blk w2 w1.heap.size (fil (fun i => nm (op (xs.getD i 0) q)) n 0) := by rw [← fil_zero]; exact Blk.made hown
    have hb2 : Below w1.heap.size w1 w2 := (Below.refl _ _).grown hgrow (Nat.le_refl _) (by simp)
    have hb12 : Below w.heap.size w w2 := hbw.trans (hb2.mono hs1)
    clear hown hgrow hb2
    go_loopw [19] (fun i wr => ∃ k : Nat, k ≤ n ∧ i = .int .i64 k ∧ Blk wr w1.heap.size (fil (fun i => nm (op (xs.getD i 0) q)) n k) ∧ Below w.heap.size w wr) (fun i _ => n - (intOf i).toNat)
    case atStart => exact ⟨0, Nat.zero_le _, rfl, hB2, hb12⟩
    case round =>
      clear hB2 hb12
      obtain ⟨k, hk, rfl, hblk, hbel⟩ := hrel
      by_cases hlt : k < n
      · obtain ⟨b1, o1, x, rfl, hbb1, HX, hx0, hx1, hcx⟩ := (h.below hbel).one hlt
        have hcell := hblk.cell (i := k) (by rw [fil_len]; exact hlt)
        have hfz := hblk.frozen k
        have hlt3 := hblk.lt
        have hblk4 := hblk.set k (nm (op x q))
        rw [fil_set (by rw [← HX.out])] at hblk4
        have Hbl : Hid (Blk _ _ _) := hblk4
        have Hb5 : Hid (Below w.heap.size w (wr.setCell ⟨w1.heap.size, k, none⟩ (.int .u64 (nm (op x q))))) := hbel.setCell hs1 _
        have hk0 : (0 : Int) ≤ (k : Int) := by omega
        have hkn : (k : Int) < (n : Int) := by omega
        clear hbel hblk hblk4
        go_wp2_with fail
        refine (HF.out _ _ _ (by omega) (by omega) (by omega) (by omega)).mono ?_
        rintro e w' ⟨rfl, hw⟩
        have hw := hw.symm
        subst hw
        go_wp2
        go_roundw
        case rel => exact ⟨k + 1, by omega, by go_num, Hbl.out, Hb5.out⟩
        case measure => simp [intOf]; omega
      · have hkm : k = n := by omega
        subst hkm
        rw [fil_full] at hblk
        have ho := hblk.mine (B := w.heap.size) (by simp) hs1 (show k ≤ 1000 by omega)
        go_wp2
        go_ret2
        exact ⟨.inr ⟨HY.out, _, rfl, ho⟩, hbel⟩

theorem cBothAdd (a : Option Addr) (n c : Nat) (xs : List Int) (b : Option Addr) (m d : Nat) (ys : List Int) (w : World) (h : Rd w a n c xs) (g : Rd w b m d ys) :
    Calls Tryd.prog 54 #[.func (.func 45) #[] #[], .slice a n c, .slice b m d] w fun e w' => Gts (Wr2 n m) ((List.range n).map fun i => nm (xs.getD i 0 + ys.getD i 0)) n w e w' :=
  cBoth 45 (fun x y => x + y) Tryd.call45 (fun x y w a b c d => fAdd x y w a b c d) a n c xs b m d ys w h g
theorem cBothSub (a : Option Addr) (n c : Nat) (xs : List Int) (b : Option Addr) (m d : Nat) (ys : List Int) (w : World) (h : Rd w a n c xs) (g : Rd w b m d ys) :
    Calls Tryd.prog 54 #[.func (.func 59) #[] #[], .slice a n c, .slice b m d] w fun e w' => Gts (Wr2 n m) ((List.range n).map fun i => nm (xs.getD i 0 - ys.getD i 0)) n w e w' :=
  cBoth 59 (fun x y => x - y) Tryd.call59 (fun x y w a b c d => fSub x y w a b c d) a n c xs b m d ys w h g
theorem cBothMul (a : Option Addr) (n c : Nat) (xs : List Int) (b : Option Addr) (m d : Nat) (ys : List Int) (w : World) (h : Rd w a n c xs) (g : Rd w b m d ys) :
    Calls Tryd.prog 54 #[.func (.func 49) #[] #[], .slice a n c, .slice b m d] w fun e w' => Gts (Wr2 n m) ((List.range n).map fun i => nm (xs.getD i 0 * ys.getD i 0)) n w e w' :=
  cBoth 49 (fun x y => x * y) Tryd.call49 (fun x y w a b c d => fMul x y w a b c d) a n c xs b m d ys w h g
theorem cEachMul (a : Option Addr) (n c : Nat) (xs : List Int) (q : Int) (w : World) (h : Rd w a n c xs) (q0 : 0 ≤ q) (q1 : q ≤ 18446744073709551615) :
    Calls Tryd.prog 105 #[.func (.func 49) #[] #[], .slice a n c, .int .u64 q] w fun e w' => Gts (Wr1 n) ((List.range n).map fun i => nm (xs.getD i 0 * q)) n w e w' :=
  cEach 49 (fun x y => x * y) Tryd.call49 (fun x y w a b c d => fMul x y w a b c d) a n c xs q w h q0 q1
theorem cEachAdd (a : Option Addr) (n c : Nat) (xs : List Int) (q : Int) (w : World) (h : Rd w a n c xs) (q0 : 0 ≤ q) (q1 : q ≤ 18446744073709551615) :
    Calls Tryd.prog 105 #[.func (.func 45) #[] #[], .slice a n c, .int .u64 q] w fun e w' => Gts (Wr1 n) ((List.range n).map fun i => nm (xs.getD i 0 + q)) n w e w' :=
  cEach 45 (fun x y => x + y) Tryd.call45 (fun x y w a b c d => fAdd x y w a b c d) a n c xs q w h q0 q1
theorem cGAdd (a : Option Addr) (n c : Nat) (xs : List Int) (b : Option Addr) (m d : Nat) (ys : List Int) (w : World) (h : Rd w a n c xs) (g : Rd w b m d ys) :
    Calls Tryd.prog 17 #[.slice a n c, .slice b m d] w fun e w' => Gts (Wr2 n m) (mxl xs ys 1 1 0 n) n w e w' := by
  have HE : Hid ((List.range n).map (fun i => nm (xs.getD i 0 + ys.getD i 0)) = mxl xs ys 1 1 0 n) := mxl_ext fun i _ => by rw [Int.one_mul, Int.one_mul, Int.add_zero]
  go_enter Tryd.func17, Tryd.ntmps17
  go_wp2_with fail
  refine (cBothAdd _ _ _ _ _ _ _ _ _ h g).mono ?_
  rintro e w1 ⟨⟨hn, rfl⟩ | ⟨hn, v, rfl, ho⟩, hb⟩
  · have HN : Hid (¬ Wr2 n m) := hn
    clear hn
    go_wp2
    go_ret2
    exact ⟨.inl ⟨HN.out, rfl⟩, hb⟩
  · have HN : Hid (Wr2 n m) := hn
    clear hn
    rw [HE.out] at ho
    go_wp2
    go_ret2
    exact ⟨.inr ⟨HN.out, v, rfl, ho⟩, hb⟩

theorem cGSub (a : Option Addr) (n c : Nat) (xs : List Int) (b : Option Addr) (m d : Nat) (ys : List Int) (w : World) (h : Rd w a n c xs) (g : Rd w b m d ys) :
    Calls Tryd.prog 93 #[.slice a n c, .slice b m d] w fun e w' => Gts (Wr2 n m) (mxl xs ys 1 2147483646 0 n) n w e w' := by
  have HE : Hid ((List.range n).map (fun i => nm (xs.getD i 0 - ys.getD i 0)) = mxl xs ys 1 2147483646 0 n) := mxl_ext fun i _ => by
    unfold nm
    omega
  go_enter Tryd.func93, Tryd.ntmps93
  go_wp2_with fail
  refine (cBothSub _ _ _ _ _ _ _ _ _ h g).mono ?_
  rintro e w1 ⟨⟨hn, rfl⟩ | ⟨hn, v, rfl, ho⟩, hb⟩
  · have HN : Hid (¬ Wr2 n m) := hn
    clear hn
    go_wp2
    go_ret2
    exact ⟨.inl ⟨HN.out, rfl⟩, hb⟩
  · have HN : Hid (Wr2 n m) := hn
    clear hn
    rw [HE.out] at ho
    go_wp2
    go_ret2
    exact ⟨.inr ⟨HN.out, v, rfl, ho⟩, hb⟩

theorem cGScale (a : Option Addr) (n c : Nat) (xs : List Int) (k : Int) (w : World) (h : Rd w a n c xs) (hk0 : 0 ≤ k) (hk1 : k ≤ 18446744073709551615) :
    Calls Tryd.prog 83 #[.slice a n c, .int .u64 k] w fun e w' => Gts (Wr1 n) (mxl xs xs k 0 0 n) n w e w' := by
  have HE : Hid ((List.range n).map (fun i => nm (xs.getD i 0 * k)) = mxl xs xs k 0 0 n) := mxl_ext fun i _ => by rw [Int.zero_mul, Int.add_zero, Int.add_zero, Int.mul_comm]
  go_enter Tryd.func83, Tryd.ntmps83
  go_wp2_with fail
  refine (cEachMul _ _ _ _ _ _ h hk0 hk1).mono ?_
  rintro e w1 ⟨⟨hn, rfl⟩ | ⟨hn, v, rfl, ho⟩, hb⟩
  · have HN : Hid (¬ Wr1 n) := hn
    clear hn
    go_wp2
    go_ret2
    exact ⟨.inl ⟨HN.out, rfl⟩, hb⟩
  · have HN : Hid (Wr1 n) := hn
    clear hn
    rw [HE.out] at ho
    go_wp2
    go_ret2
    exact ⟨.inr ⟨HN.out, v, rfl, ho⟩, hb⟩

theorem cGPlus (a : Option Addr) (n c : Nat) (xs : List Int) (k : Int) (w : World) (h : Rd w a n c xs) (hk0 : 0 ≤ k) (hk1 : k ≤ 18446744073709551615) :
    Calls Tryd.prog 81 #[.slice a n c, .int .u64 k] w fun e w' => Gts (Wr1 n) (mxl xs xs 1 0 k n) n w e w' := by
  have HE : Hid ((List.range n).map (fun i => nm (xs.getD i 0 + k)) = mxl xs xs 1 0 k n) := mxl_ext fun i _ => by rw [Int.zero_mul, Int.add_zero, Int.one_mul]
  go_enter Tryd.func81, Tryd.ntmps81
  go_wp2_with fail
  refine (cEachAdd _ _ _ _ _ _ h hk0 hk1).mono ?_
  rintro e w1 ⟨⟨hn, rfl⟩ | ⟨hn, v, rfl, ho⟩, hb⟩
  · have HN : Hid (¬ Wr1 n) := hn
    clear hn
    go_wp2
    go_ret2
    exact ⟨.inl ⟨HN.out, rfl⟩, hb⟩
  · have HN : Hid (Wr1 n) := hn
    clear hn
    rw [HE.out] at ho
    go_wp2
    go_ret2
    exact ⟨.inr ⟨HN.out, v, rfl, ho⟩, hb⟩
theorem own_set2 {w : World} {B n c g : Nat} {E : TypeId} {xs : List Value} (h : w.ownsRow B E 2 (.slice (some ⟨g, 0, none⟩) n c) n xs) (i : Nat) (u : Value) : (w.setCell ⟨g, i, none⟩ u).ownsRow B E 2 (.slice (some ⟨g, 0, none⟩) n c) n (xs.set i u) := by
  refine ⟨by rw [List.length_set]; exact h.1, .inr ?_⟩
  rcases h.2 with ⟨e, _⟩ | ⟨g', cap, cur, e, hb, hg, h1, h2, hs, ht⟩
  · simp at e
  · simp only [Value.slice.injEq, Option.some.injEq, Addr.mk.injEq, and_true, true_and] at e
    obtain ⟨rfl, rfl⟩ := e
    refine ⟨g, c, _, rfl, hb, heap_setCell_same w g i _ _ _ hg, h1, h2, by simpa using hs, ?_⟩
    rw [← ht]
    simp [List.take_set]
theorem own_frozen2 {w : World} {B n c g : Nat} {E : TypeId} {xs : List Value} (h : w.ownsRow B E 2 (.slice (some ⟨g, 0, none⟩) n c) n xs) (i : Nat) : w.frozen? ⟨g, i, none⟩ = false := by
  rcases h.2 with ⟨e, _⟩ | ⟨g', cap, cur, e, hb, hg, _⟩
  · simp at e
  · simp only [Value.slice.injEq, Option.some.injEq, Addr.mk.injEq, and_true, true_and] at e
    obtain ⟨rfl, rfl⟩ := e
    exact frozen_of_row w g i _ _ hg
/-- Its address, where there is a share. -/
theorem own_at2 {w : World} {base n : Nat} {E : TypeId} {v : Value} {xs : List Value} (h : w.ownsRow base E 2 v n xs) (hn : 0 < n) : ∃ g c, v = .slice (some ⟨g, 0, none⟩) n c ∧ base ≤ g ∧ g < w.heap.size ∧ n ≤ c ∧ c ≤ maxLen := by
  rcases h.2 with ⟨_, rfl⟩ | ⟨g, cap, cur, rfl, hb, hg, h1, h2, _⟩
  · omega
  · exact ⟨g, cap, rfl, hb, (Array.getElem?_eq_some_iff.1 hg).1, h1, h2⟩
theorem sh_cell {w : World} {base n c g : Nat} {E : TypeId} {l : List (Int × Int)} (h : w.ownsRow base E 2 (.slice (some ⟨g, 0, none⟩) n c) n (shc l)) (hl : l.length = n) {k : Nat} (hk : k < n) :
    w.cell? ⟨g, k * 2, none⟩ = some (.int .i64 (l.getD k (0, 0)).1) ∧ w.cell? ⟨g, k * 2 + 1, none⟩ = some (.int .u64 (l.getD k (0, 0)).2) := by
  have h1 := shc_get l k (by omega)
  have a1 := h.cells (g := g) rfl _ _ h1.1
  have a2 := h.cells (g := g) rfl _ _ h1.2
  rw [Addr.add_lit] at a1 a2
  exact ⟨by simpa using a1, by simpa using a2⟩
theorem zeroL (w : World) : (zeroValue 22).run Tryd.prog w = .ok (.slice none 0 0) w := by kernel_rfl
/-- Are there the first k of these keys? -/
def hsl (s : Kt) (hs : List Int) (k : Nat) : Bool := (hs.take k).all fun h => (s.f h).isSome
/-- Block g holds the square's numbers. -/
def BlkQ (w : World) (g : Nat) (C : List Int) : Prop := w.heap[g]? = some (.cells (C.map (Value.int .u64)).toArray 123 (0, 0))
theorem BlkQ.lt {w : World} {g : Nat} {C : List Int} (h : BlkQ w g C) : g < w.heap.size := (Array.getElem?_eq_some_iff.1 h).1
theorem BlkQ.cell {w : World} {g : Nat} {C : List Int} (h : BlkQ w g C) {i : Nat} (hi : i < C.length) : w.cell? ⟨g, i, none⟩ = some (.int .u64 (C.getD i 0)) := by
  rw [cell_of_row w g i _ _ (0, 0) h]
  simp [List.getElem?_eq_getElem hi]
theorem BlkQ.frozen {w : World} {g : Nat} {C : List Int} (h : BlkQ w g C) (i : Nat) : w.frozen? ⟨g, i, none⟩ = false := frozen_of_row w g i _ _ h
theorem BlkQ.set {w : World} {g : Nat} {C : List Int} (h : BlkQ w g C) (i : Nat) (v : Int) : BlkQ (w.setCell ⟨g, i, none⟩ (.int .u64 v)) g (C.set i v) := by
  have := heap_setCell_same w g i _ _ (.int .u64 v) h
  unfold BlkQ
  rw [this]
  simp [List.map_set]
theorem BlkQ.below {w w' : World} {B g : Nat} {C : List Int} (h : BlkQ w g C) (hb : Below B w w') (hg : g < B) : BlkQ w' g C := by
  unfold BlkQ; rw [hb.block g hg]; exact h
theorem BlkQ.other {w : World} {g g' i : Nat} {C : List Int} {v : Value} (h : BlkQ w g C) (hg : g' ≠ g) : BlkQ (w.setCell ⟨g', i, none⟩ v) g C := by
  unfold BlkQ; rw [heap_setCell_other w ⟨g', i, none⟩ g v (fun e => hg e.symm)]; exact h
/-- A part of a row of it. -/
theorem BlkQ.rd {w : World} {g : Nat} {C : List Int} (h : BlkQ w g C) (o n c : Nat) (hc : n ≤ c) (hm : c ≤ maxLen) (hn : o + n ≤ C.length) (hL : ∀ x ∈ C, 0 ≤ x ∧ x ≤ 18446744073709551615) : Rd w (some ⟨g, o, none⟩) n c ((C.drop o).take n) := by
  refine ⟨by simp; omega, hc, hm, fun x hx => hL x (List.mem_of_mem_drop (List.mem_of_mem_take hx)), by simp, fun x hx i hi => ?_⟩
  obtain rfl := Option.some.inj hx
  rw [Addr.add_lit, h.cell (by omega)]
  congr 2
  simp [hi]

/-- What is left of a list when its first number is taken. -/
theorem Rd.tail {w : World} {b o n c : Nat} {xs : List Int} {a : Option Addr} (h : Rd w (some ⟨b, o, none⟩) (n + 1) (c + 1) xs) (ha : (0 < n → a = some ⟨b, o + 1, none⟩) ∧ a ≠ none) : Rd w a n c (xs.drop 1) := by
  have h1 := h.cap
  have h2 := h.max
  refine ⟨by have := h.len; simp; omega, by omega, by omega, fun x hx => h.bd x (List.mem_of_mem_drop hx), fun e => absurd e ha.2, fun x hx i hi => ?_⟩
  rw [ha.1 (by omega)] at hx
  obtain rfl := Option.some.inj hx
  have := h.cell _ rfl (i + 1) (by omega)
  rw [Addr.add_lit] at this ⊢
  rw [show o + 1 + i = o + (i + 1) by omega, this]
  congr 2
  simp
/-- A row of the call's own, all of it. -/
theorem Blk.own {w : World} {g n B : Nat} {L : List Int} (h : Blk w g L) (hl : L.length = n) (hB : B ≤ g) (hn : n ≤ 1000) : w.ownsRow B 34 1 (.slice (some ⟨g, 0, none⟩) n n) n (L.map (Value.int .u64)) :=
  ⟨by simp [hl], .inr ⟨g, n, _, rfl, hB, h, Nat.le_refl _, by unfold maxLen; omega, by simp [hl], by rw [List.take_of_length_le (by simp [hl])]⟩⟩
/-- How many draws the first i parties take. -/
def kat (t : Nat) (sec : Bool) (i : Nat) : Nat := if sec then i * (t + 1) else i * t
theorem kdr_true (t : Nat) (ds : List Int) (i : Nat) : kdr t true ds i = ds.getD (kat t true i) 0 :: (ds.drop (kat t true i + 1)).take t := rfl
theorem kdr_fals (t : Nat) (ds : List Int) (i : Nat) : kdr t false ds i = 0 :: (ds.drop (kat t false i)).take t := rfl
theorem infoU1 : (Tryd.prog.info? 34).map (·.size) = some 1 := by kernel_rfl
end
end Go.Proofs.YtljlioglpaogdagDoor
