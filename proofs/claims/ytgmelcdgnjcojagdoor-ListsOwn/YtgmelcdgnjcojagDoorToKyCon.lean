/- A store of keys in memory: a struct of four cells, its map, the lists in it. · A program's store of keys in memory (keys.Keys), and what its calls leave. · What package keys is asked, call by call. -/
import Derived.Test.YtgmelcdgnjcojagDoorToMapV
import Derived.Test.YtgmelcdgnjcojagDoorToOpenG
namespace Go.Proofs.YtgmelcdgnjcojagDoor
open Go.RowKit Crm

theorem cell_block {w w' : World} {p : Addr} (e : w'.heap[p.block]? = w.heap[p.block]?) : w'.cell? p = w.cell? p := by unfold World.cell?; rw [e]
theorem add_block (x : Addr) (i : Nat) : (x.add i).block = x.block := by unfold Addr.add; split <;> rfl
theorem Rd.block {w w' : World} {a : Option Addr} {n c : Nat} {xs : List Int} (h : Rd w a n c xs) (hk : ∀ x, a = some x → w'.heap[x.block]? = w.heap[x.block]?) : Rd w' a n c xs := by
  refine ⟨h.len, h.cap, h.max, h.bd, h.nil, fun x hx i hi => ?_⟩
  have e : w'.cell? (x.add i) = w.cell? (x.add i) := cell_block (by rw [add_block]; exact hk x hx)
  rw [e]
  exact h.cell x hx i hi
/-- Nothing that was there has turned but in G. -/
structure Tch (w w' : World) (G : Nat → Prop) : Prop where
  os : w'.os = w.os
  tape : w'.tape = w.tape
  output : w'.output = w.output
  size : w.heap.size ≤ w'.heap.size
  block : ∀ i, i < w.heap.size → ¬ G i → w'.heap[i]? = w.heap[i]?
/-- G, and what is new. -/
def Gnx (G : Nat → Prop) (w w' : World) : Nat → Prop := fun i => G i ∨ (w.heap.size ≤ i ∧ i < w'.heap.size)
theorem Tch.refl (w : World) (G : Nat → Prop) : Tch w w G := ⟨rfl, rfl, rfl, Nat.le_refl _, fun _ _ _ => rfl⟩
theorem Tch.of_below {w w' : World} {G : Nat → Prop} (h : Below w.heap.size w w') : Tch w w' G := ⟨h.os, h.tape, h.output, h.size, fun i hi _ => h.block i hi⟩
theorem Tch.trans {w w1 w2 : World} {G : Nat → Prop} (h : Tch w w1 G) (k : Tch w1 w2 (Gnx G w w1)) : Tch w w2 G :=
  ⟨k.os.trans h.os, k.tape.trans h.tape, k.output.trans h.output, Nat.le_trans h.size k.size, fun i hi hn => (k.block i (Nat.lt_of_lt_of_le hi h.size) (fun g => g.elim hn (fun g => by omega))).trans (h.block i hi hn)⟩
theorem Tch.below {B : Nat} {w0 w w' : World} {G : Nat → Prop} (h : Tch w w' G) (hb : Below B w0 w) (hG : ∀ i, G i → B ≤ i) (hB : B ≤ w.heap.size) : Below B w0 w' :=
  ⟨h.os.trans hb.os, h.tape.trans hb.tape, h.output.trans hb.output, Nat.le_trans hb.size h.size, fun i hi => (h.block i (by omega) (fun g => by have := hG i g; omega)).trans (hb.block i hi)⟩
theorem Tch.rd {w w' : World} {G : Nat → Prop} {a : Option Addr} {n c : Nat} {xs : List Int} (h : Tch w w' G) (r : Rd w a n c xs) (hn : 0 < n) (hG : ∀ x, a = some x → ¬ G x.block) : Rd w' a n c xs := by
  refine r.block fun x hx => h.block _ ?_ (hG x hx)
  obtain ⟨b, o, rfl, hb, _⟩ := r.at hn
  obtain rfl := Option.some.inj hx
  exact hb
theorem Gnx.lt {G : Nat → Prop} {w w' : World} (h : ∀ i, G i → i < w.heap.size) (hs : w.heap.size ≤ w'.heap.size) : ∀ i, Gnx G w w' i → i < w'.heap.size := fun i g => g.elim (fun g => Nat.lt_of_lt_of_le (h i g) hs) (fun g => g.2)
theorem Gnx.ge {G : Nat → Prop} {w w' : World} {B : Nat} (h : ∀ i, G i → B ≤ i) (hs : B ≤ w.heap.size) : ∀ i, Gnx G w w' i → B ≤ i := fun i g => g.elim (h i) (fun g => Nat.le_trans hs g.1)
theorem Gnx.sub {G : Nat → Prop} {w w1 w2 : World} (h : w.heap.size ≤ w1.heap.size) (hs : w1.heap.size ≤ w2.heap.size) : ∀ i, Gnx (Gnx G w w1) w1 w2 i → Gnx G w w2 i := fun i g =>
  g.elim (fun g => g.elim .inl (fun g => .inr ⟨g.1, by omega⟩)) (fun g => .inr ⟨by omega, g.2⟩)

/-- The struct at p, its map at b with the elements V: the state s. -/
structure Sto (TY : TypeId) (w : World) (p b : Nat) (V : Int → Option Value) (s : Kt) : Prop where
  row : w.heap[p]? = some (.cells #[.int .i64 s.n, .int .i64 s.t, .int .i64 s.last, .map (some b)] TY (0, 0))
  map : MapI w b s.cnt V
  val : ∀ h, (s.f h = none ∧ V h = none) ∨ ∃ l a c, s.f h = some l ∧ V h = some (.slice a s.n c) ∧ Rd w a s.n c l
  wf : Kwf s
def Ftp (p b : Nat) (V : Int → Option Value) : Nat → Prop := fun i => i = p ∨ i = b ∨ ∃ h a m c, V h = some (.slice (some a) m c) ∧ a.block = i
theorem Sto.keep {TY : TypeId} {w w' : World} {p b : Nat} {V : Int → Option Value} {s : Kt} (h : Sto TY w p b V s) (hk : ∀ i, Ftp p b V i → w'.heap[i]? = w.heap[i]?) : Sto TY w' p b V s := by
  refine ⟨by rw [hk p (.inl rfl)]; exact h.row, h.map.block (hk b (.inr (.inl rfl))), fun i => ?_, h.wf⟩
  rcases h.val i with e | ⟨l, a, c, e1, e2, e3⟩
  · exact .inl e
  · exact .inr ⟨l, a, c, e1, e2, e3.block fun x hx => hk _ (.inr (.inr ⟨i, x, _, _, by rw [← hx]; exact e2, rfl⟩))⟩
/-- There is a store of state s at p, all of it in G. -/
def Stx (TY : TypeId) (w : World) (p : Nat) (G : Nat → Prop) (s : Kt) : Prop := (∃ b V, Sto TY w p b V s ∧ ∀ i, Ftp p b V i → G i) ∧ ∀ i, G i → i < w.heap.size
theorem Stx.keep {TY : TypeId} {w w' : World} {p : Nat} {G : Nat → Prop} {s : Kt} (h : Stx TY w p G s) (hk : ∀ i, G i → w'.heap[i]? = w.heap[i]?) : Stx TY w' p G s := by
  obtain ⟨⟨b, V, h1, h2⟩, h3⟩ := h
  refine ⟨⟨b, V, h1.keep fun i hi => hk i (h2 i hi), h2⟩, fun i hi => ?_⟩
  have e := hk i hi
  rw [Array.getElem?_eq_getElem (h3 i hi)] at e
  exact (Array.getElem?_eq_some_iff.1 e).1
theorem Stx.mono {TY : TypeId} {w : World} {p : Nat} {G G' : Nat → Prop} {s : Kt} (h : Stx TY w p G s) (hG : ∀ i, G i → G' i) (hl : ∀ i, G' i → i < w.heap.size) : Stx TY w p G' s := by
  obtain ⟨⟨b, V, h1, h2⟩, h3⟩ := h
  exact ⟨⟨b, V, h1, fun i hi => hG i (h2 i hi)⟩, hl⟩
theorem Stx.below {TY : TypeId} {w w' : World} {p : Nat} {G : Nat → Prop} {s : Kt} (h : Stx TY w p G s) (hb : Below w.heap.size w w') : Stx TY w' p (Gnx G w w') s :=
  (h.keep fun i hi => hb.block i (h.2 i hi)).mono (fun _ => .inl) (Gnx.lt h.2 hb.size)
theorem Stx.same {TY : TypeId} {w w' : World} {p : Nat} {G : Nat → Prop} {s : Kt} (h : Stx TY w p G s) (hb : Below w.heap.size w w') : Stx TY w' p G s := h.keep fun i hi => hb.block i (h.2 i hi)
theorem Stx.wf {TY : TypeId} {w : World} {p : Nat} {G : Nat → Prop} {s : Kt} (h : Stx TY w p G s) : Kwf s := let ⟨⟨_, _, h1, _⟩, _⟩ := h; h1.wf
/-- It stays while another one turns. -/
theorem Stx.aside {TY : TypeId} {w w' : World} {p : Nat} {G G' : Nat → Prop} {s : Kt} (h : Stx TY w p G s) (ht : Tch w w' G') (hd : ∀ i, G i → ¬ G' i) : Stx TY w' p G s := h.keep fun i hi => ht.block i (h.2 i hi) (hd i hi)
/-- What a call that may make a key leaves. -/
def Kde (TY : TypeId) (p : Nat) (G : Nat → Prop) (r : Int × Int × Kt) (w : World) (e : Ending) (w' : World) : Prop :=
  e = .returned (.tuple #[.int .i64 r.1, .int .i64 r.2.1]) ∧ Stx TY w' p (Gnx G w w') r.2.2 ∧ Tch w w' G
/-- What a call that turns a key, or drops it, leaves. -/
def Kte (TY : TypeId) (p : Nat) (G : Nat → Prop) (r : Int × Kt) (w : World) (e : Ending) (w' : World) : Prop :=
  e = .returned (.int .i64 r.1) ∧ Stx TY w' p (Gnx G w w') r.2 ∧ Tch w w' G
/-- What is behind one step more. -/
theorem Kde.behind {TY : TypeId} {p : Nat} {G : Nat → Prop} {r : Int × Int × Kt} {w w1 w' : World} {e : Ending} (hb : Below w.heap.size w w1) (h : Kde TY p (Gnx G w w1) r w1 e w') (hG : ∀ i, G i → i < w.heap.size) : Kde TY p G r w e w' := by
  obtain ⟨h1, h2, h3⟩ := h
  refine ⟨h1, h2.mono (Gnx.sub hb.size h3.size) (Gnx.lt hG (Nat.le_trans hb.size h3.size)), (Tch.of_below hb).trans h3⟩
theorem Kte.behind {TY : TypeId} {p : Nat} {G : Nat → Prop} {r : Int × Kt} {w w1 w' : World} {e : Ending} (hb : Below w.heap.size w w1) (h : Kte TY p (Gnx G w w1) r w1 e w') (hG : ∀ i, G i → i < w.heap.size) : Kte TY p G r w e w' := by
  obtain ⟨h1, h2, h3⟩ := h
  refine ⟨h1, h2.mono (Gnx.sub hb.size h3.size) (Gnx.lt hG (Nat.le_trans hb.size h3.size)), (Tch.of_below hb).trans h3⟩
theorem Kde.after {TY : TypeId} {p : Nat} {G : Nat → Prop} {r : Int × Int × Kt} {w w1 w' : World} {e : Ending} (hb : Below w.heap.size w w1) (h : Kde TY p G r w1 e w') (hG : ∀ i, G i → i < w.heap.size) : Kde TY p G r w e w' := by
  obtain ⟨h1, h2, h3⟩ := h
  have hs := hb.size
  refine ⟨h1, h2.mono (fun i g => g.elim .inl (fun g => .inr ⟨by omega, g.2⟩)) (Gnx.lt hG (Nat.le_trans hs h3.size)), ⟨h3.os.trans hb.os, h3.tape.trans hb.tape, h3.output.trans hb.output, Nat.le_trans hs h3.size, fun i hi hn => (h3.block i (by omega) hn).trans (hb.block i hi)⟩⟩
theorem Kte.after {TY : TypeId} {p : Nat} {G : Nat → Prop} {r : Int × Kt} {w w1 w' : World} {e : Ending} (hb : Below w.heap.size w w1) (h : Kte TY p G r w1 e w') (hG : ∀ i, G i → i < w.heap.size) : Kte TY p G r w e w' := by
  obtain ⟨h1, h2, h3⟩ := h
  have hs := hb.size
  refine ⟨h1, h2.mono (fun i g => g.elim .inl (fun g => .inr ⟨by omega, g.2⟩)) (Gnx.lt hG (Nat.le_trans hs h3.size)), ⟨h3.os.trans hb.os, h3.tape.trans hb.tape, h3.output.trans hb.output, Nat.le_trans hs h3.size, fun i hi hn => (h3.block i (by omega) hn).trans (hb.block i hi)⟩⟩
/-- A list that is new lies in what is new. -/
theorem gnx_new {G : Nat → Prop} {w w1 : World} {a : Option Addr} {n c : Nat} {xs : List Int} (r : Rd w1 a n c xs) (hn : 0 < n) (hx : ∀ x, a = some x → w.heap.size ≤ x.block) : ∀ x, a = some x → Gnx G w w1 x.block := fun x e => by
  obtain ⟨b, o, e2, hb, _⟩ := r.at hn
  rw [e] at e2
  obtain rfl := Option.some.inj e2
  exact .inr ⟨hx _ e, hb⟩
theorem stx_lt {TY : TypeId} {w : World} {p : Nat} {G : Nat → Prop} {s : Kt} (h : Stx TY w p G s) : ∀ i, G i → i < w.heap.size := h.2
/-- What is asked of has. -/
theorem rdI_of1 (w : World) {x : Int} (h : -9223372036854775808 ≤ x ∧ x ≤ 9223372036854775807) : RdI (w.alloc (.cells #[.int .i64 x] 3)) (some ⟨w.heap.size, 0, none⟩) 1 1 [x] := by
  refine ⟨rfl, Nat.le_refl _, by unfold maxLen; omega, fun y hy => by rw [List.mem_singleton.1 hy]; exact h, by simp, fun y hy i hi => ?_⟩
  obtain rfl := Option.some.inj hy
  obtain rfl : i = 0 := by omega
  rw [Addr.add_lit, cell_of_row _ w.heap.size _ _ _ (0, 0) (heap_alloc_new w _)]
  rfl
theorem rdI_of2 (w : World) {x y : Int} (h : -9223372036854775808 ≤ x ∧ x ≤ 9223372036854775807) (g : -9223372036854775808 ≤ y ∧ y ≤ 9223372036854775807) : RdI (w.alloc (.cells #[.int .i64 x, .int .i64 y] 3)) (some ⟨w.heap.size, 0, none⟩) 2 2 [x, y] := by
  refine ⟨rfl, Nat.le_refl _, by unfold maxLen; omega, fun z hz => by simp at hz; rcases hz with rfl | rfl <;> assumption, by simp, fun z hz i hi => ?_⟩
  obtain rfl := Option.some.inj hz
  have hcase : i = 0 ∨ i = 1 := by omega
  rcases hcase with rfl | rfl
  · rw [Addr.add_lit, cell_of_row _ w.heap.size _ _ _ (0, 0) (heap_alloc_new w _)]
    rfl
  · rw [Addr.add_lit, cell_of_row _ w.heap.size _ _ _ (0, 0) (heap_alloc_new w _)]
    rfl
/-- Its cells. -/
theorem Sto.four {TY : TypeId} {w : World} {p b : Nat} {V : Int → Option Value} {s : Kt} (h : Sto TY w p b V s) : w.cell? ⟨p, 0, none⟩ = some (.int .i64 s.n) ∧ w.cell? ⟨p, 1, none⟩ = some (.int .i64 s.t) ∧ w.cell? ⟨p, 2, none⟩ = some (.int .i64 s.last) ∧ w.cell? ⟨p, 3, none⟩ = some (.map (some b)) := by
  refine ⟨?_, ?_, ?_, ?_⟩ <;> (rw [cell_of_row w p _ _ _ (0, 0) h.row]; rfl)
theorem Sto.lt {TY : TypeId} {w : World} {p b : Nat} {V : Int → Option Value} {s : Kt} (h : Sto TY w p b V s) : p < w.heap.size := (Array.getElem?_eq_some_iff.1 h.row).1
theorem Sto.ne {TY : TypeId} {w : World} {p b : Nat} {V : Int → Option Value} {s : Kt} (h : Sto TY w p b V s) : b ≠ p := fun e => by
  obtain ⟨es, ck, hm⟩ := h.map.map
  rw [e, h.row] at hm
  cases hm
theorem Sto.isKey {TY : TypeId} {w : World} {p b : Nat} {V : Int → Option Value} {s : Kt} (h : Sto TY w p b V s) (x : Int) : (V x).isSome = (s.f x).isSome := by
  rcases h.val x with e | ⟨l, a, c, e1, e2, _⟩
  · rw [e.1, e.2]; rfl
  · rw [e1, e2]; rfl
/-- The struct holds no number of a list. -/
theorem Sto.apart {TY : TypeId} {w : World} {p b : Nat} {V : Int → Option Value} {s : Kt} (h : Sto TY w p b V s) {a : Addr} {n c : Nat} {xs : List Int} (r : Rd w (some a) n c xs) (hn : 0 < n) : a.block ≠ p ∧ a.block ≠ b := by
  obtain ⟨g, o, e, _, hc⟩ := r.at hn
  obtain rfl := Option.some.inj e
  have h0 := hc 0 hn
  constructor
  · intro e
    simp only at e
    subst e
    rw [cell_of_row w g _ _ _ (0, 0) h.row] at h0
    have hcase : o + 0 = 0 ∨ o + 0 = 1 ∨ o + 0 = 2 ∨ o + 0 = 3 ∨ 4 ≤ o + 0 := by omega
    rcases hcase with e | e | e | e | e
    · rw [e] at h0; simp at h0
    · rw [e] at h0; simp at h0
    · rw [e] at h0; simp at h0
    · rw [e] at h0; simp at h0
    · rw [Array.getElem?_eq_none (by simpa using e)] at h0
      cases h0
  · intro e
    simp only at e
    subst e
    obtain ⟨es, ck, hm⟩ := h.map.map
    unfold World.cell? at h0
    simp [hm] at h0
/-- A handle more: the struct's cell and the map have turned. -/
theorem Sto.put {TY : TypeId} {w w' : World} {p b : Nat} {V : Int → Option Value} {s : Kt} {a : Option Addr} {c : Nat} {l : List Int} (h : Sto TY w p b V s) (hc : s.cnt < 8) (hl : ∀ x ∈ l, 0 ≤ x ∧ x ≤ 2147483646) (r : Rd w a s.n c l)
    (hm : MapI w' b (if (V ((s.last : Int) + 1)).isSome then s.cnt else s.cnt + 1) (mset V ((s.last : Int) + 1) (some (.slice a s.n c))))
    (hr : w'.heap[p]? = some (.cells #[.int .i64 s.n, .int .i64 s.t, .int .i64 ((s.last : Int) + 1), .map (some b)] TY (0, 0))) (hk : ∀ i, i < w.heap.size → i ≠ p → i ≠ b → w'.heap[i]? = w.heap[i]?) :
    Sto TY w' p b (mset V ((s.last : Int) + 1) (some (.slice a s.n c))) (kput s l) := by
  have hn : 0 < s.n := by have := h.wf.nt; omega
  have hrd : ∀ {a : Option Addr} {c : Nat} {l : List Int}, Rd w a s.n c l → Rd w' a s.n c l := fun {a c l} r => r.block fun x hx => by
    subst hx
    have h1 := h.apart r hn
    obtain ⟨g, o, e, hg, _⟩ := r.at hn
    obtain rfl := Option.some.inj e
    exact hk _ hg h1.1 h1.2
  have hv : V ((s.last : Int) + 1) = none := by
    rcases h.val ((s.last : Int) + 1) with e | ⟨m, _, _, e, _⟩
    · exact e.2
    · have := (h.wf.key _ m e).1
      omega
  refine ⟨?_, ?_, fun i => ?_, kput_wf h.wf hc r.len hl⟩
  · rw [hr]; unfold kput; simp
  · rw [hv] at hm
    exact hm
  · unfold mset
    show (kset s.f ((s.last : Int) + 1) (some l) i = none ∧ _) ∨ ∃ l_1 a_1 c_1, kset s.f ((s.last : Int) + 1) (some l) i = some l_1 ∧ _ ∧ Rd w' a_1 s.n c_1 l_1
    by_cases e : i = (s.last : Int) + 1
    · subst e
      rw [kset_same, if_pos rfl]
      exact .inr ⟨l, a, c, rfl, rfl, hrd r⟩
    · rw [kset_other _ _ e, if_neg e]
      rcases h.val i with e | ⟨l, a, c, e1, e2, e3⟩
      · exact .inl e
      · exact .inr ⟨l, a, c, e1, e2, hrd e3⟩
/-- A key's numbers are other ones. -/
theorem Sto.turn {TY : TypeId} {w w' : World} {p b : Nat} {V : Int → Option Value} {s : Kt} {a : Option Addr} {c : Nat} {l m : List Int} {k : Int} (h : Sto TY w p b V s) (hm0 : s.f k = some m) (hl : ∀ x ∈ l, 0 ≤ x ∧ x ≤ 2147483646) (r : Rd w a s.n c l)
    (hm : MapI w' b (if (V k).isSome then s.cnt else s.cnt + 1) (mset V k (some (.slice a s.n c)))) (hk : ∀ i, i < w.heap.size → i ≠ b → w'.heap[i]? = w.heap[i]?) :
    Sto TY w' p b (mset V k (some (.slice a s.n c))) (ktrn s k l) := by
  have hn : 0 < s.n := by have := h.wf.nt; omega
  have hrd : ∀ {a : Option Addr} {c : Nat} {l : List Int}, Rd w a s.n c l → Rd w' a s.n c l := fun {a c l} r => r.block fun x hx => by
    subst hx
    have h1 := h.apart r hn
    obtain ⟨g, o, e, hg, _⟩ := r.at hn
    obtain rfl := Option.some.inj e
    exact hk _ hg h1.2
  have hv : (V k).isSome = true := by
    rcases h.val k with e | ⟨m, _, _, _, e, _⟩
    · rw [e.1] at hm0; cases hm0
    · rw [e]; rfl
  refine ⟨by rw [hk p h.lt h.ne.symm]; exact h.row, ?_, fun i => ?_, ktrn_wf h.wf hm0 r.len hl⟩
  · rw [hv] at hm
    exact hm
  · unfold mset
    show (kset s.f k (some l) i = none ∧ _) ∨ ∃ l_1 a_1 c_1, kset s.f k (some l) i = some l_1 ∧ _ ∧ Rd w' a_1 s.n c_1 l_1
    by_cases e : i = k
    · subst e
      rw [kset_same, if_pos rfl]
      exact .inr ⟨l, a, c, rfl, rfl, hrd r⟩
    · rw [kset_other _ _ e, if_neg e]
      rcases h.val i with e | ⟨l, a, c, e1, e2, e3⟩
      · exact .inl e
      · exact .inr ⟨l, a, c, e1, e2, hrd e3⟩
/-- A key is gone. -/
theorem Sto.out {TY : TypeId} {w w' : World} {p b : Nat} {V : Int → Option Value} {s : Kt} {m : List Int} {k : Int} (h : Sto TY w p b V s) (hm0 : s.f k = some m)
    (hm : MapI w' b (if (V k).isSome then s.cnt - 1 else s.cnt) (mset V k none)) (hk : ∀ i, i < w.heap.size → i ≠ b → w'.heap[i]? = w.heap[i]?) : Sto TY w' p b (mset V k none) (kout s k) := by
  have hn : 0 < s.n := by have := h.wf.nt; omega
  have hrd : ∀ {a : Option Addr} {c : Nat} {l : List Int}, Rd w a s.n c l → Rd w' a s.n c l := fun {a c l} r => r.block fun x hx => by
    subst hx
    have h1 := h.apart r hn
    obtain ⟨g, o, e, hg, _⟩ := r.at hn
    obtain rfl := Option.some.inj e
    exact hk _ hg h1.2
  have hv : (V k).isSome = true := by
    rcases h.val k with e | ⟨m, _, _, _, e, _⟩
    · rw [e.1] at hm0; cases hm0
    · rw [e]; rfl
  refine ⟨by rw [hk p h.lt h.ne.symm]; exact h.row, ?_, fun i => ?_, kout_wf h.wf⟩
  · rw [hv] at hm
    exact hm
  · unfold mset
    show (kset s.f k none i = none ∧ _) ∨ ∃ l_1 a_1 c_1, kset s.f k none i = some l_1 ∧ _ ∧ Rd w' a_1 s.n c_1 l_1
    by_cases e : i = k
    · subst e
      rw [kset_same, if_pos rfl]
      exact .inl ⟨rfl, rfl⟩
    · rw [kset_other _ _ e, if_neg e]
      rcases h.val i with e | ⟨l, a, c, e1, e2, e3⟩
      · exact .inl e
      · exact .inr ⟨l, a, c, e1, e2, hrd e3⟩
end Go.Proofs.YtgmelcdgnjcojagDoor

namespace Go.Proofs.YtgmelcdgnjcojagDoor
open Go.RowKit Crm

/-- There is a store of state s at p, all of it in G. -/
def Kst (w : World) (p : Nat) (G : Nat → Prop) (s : Kt) : Prop := Stx 107 w p G s
theorem Kst.lt {w : World} {p : Nat} {G : Nat → Prop} {s : Kt} (h : Kst w p G s) : ∀ i, G i → i < w.heap.size := h.2
theorem Kst.wf {w : World} {p : Nat} {G : Nat → Prop} {s : Kt} (h : Kst w p G s) : Kwf s := Stx.wf h
theorem Kst.same {w w' : World} {p : Nat} {G : Nat → Prop} {s : Kt} (h : Kst w p G s) (hb : Below w.heap.size w w') : Kst w' p G s := Stx.same h hb
theorem Kst.aside {w w' : World} {p : Nat} {G G' : Nat → Prop} {s : Kt} (h : Kst w p G s) (ht : Tch w w' G') (hd : ∀ i, G i → ¬ G' i) : Kst w' p G s := Stx.aside h ht hd
/-- What a call that may make a key leaves. -/
def Kke (p : Nat) (G : Nat → Prop) (r : Int × Int × Kt) (w : World) (e : Ending) (w' : World) : Prop :=
  e = .returned (.tuple #[.int .i64 r.1, .int .i64 r.2.1]) ∧ Kst w' p (Gnx G w w') r.2.2 ∧ Tch w w' G
/-- What a call that turns a key, or drops it, leaves. -/
def Kkt (p : Nat) (G : Nat → Prop) (r : Int × Kt) (w : World) (e : Ending) (w' : World) : Prop :=
  e = .returned (.int .i64 r.1) ∧ Kst w' p (Gnx G w w') r.2 ∧ Tch w w' G
/-- What New answers. -/
def Knw (n t : Int) (w : World) (e : Ending) (w' : World) : Prop :=
  ((¬ ((0 ≤ t ∧ t ≤ 4) ∧ n ≤ 9 ∧ 2 * t + 1 ≤ n) ∧ e = .returned (.tuple #[.pointer none, .int .i64 1])) ∨
    ∃ (n' t' p : Nat) (G : Nat → Prop), n = (n' : Int) ∧ t = (t' : Int) ∧ t' ≤ 4 ∧ n' ≤ 9 ∧ 2 * t' + 1 ≤ n' ∧ e = .returned (.tuple #[.pointer (some ⟨p, 0, none⟩), .int .i64 0]) ∧ Kst w' p G (k0 n' t') ∧ ∀ i, G i → w.heap.size ≤ i) ∧ Below w.heap.size w w'
/-- What Shares answers. -/
def Ksr (s : Kt) (x : Int) (w : World) (e : Ending) (w' : World) : Prop :=
  ((s.f x = none ∧ e = .returned (.tuple #[.slice none 0 0, .int .i64 4])) ∨ ∃ l v, s.f x = some l ∧ e = .returned (.tuple #[v, .int .i64 0]) ∧ w'.ownsRow w.heap.size 34 1 v s.n (l.map (Value.int .u64))) ∧ Below w.heap.size w w'
/-- What Open answers. -/
def Kpn (s : Kt) (x : Int) (w : World) (e : Ending) (w' : World) : Prop := ∃ y r, e = .returned (.tuple #[.int .u64 y, .int .i64 r]) ∧ Kop s x y r ∧ Below w.heap.size w w'
theorem Kop.val {s : Kt} {x y r : Int} (h : Kop s x y r) : 0 ≤ y ∧ y ≤ 2147483646 := by
  rcases h with ⟨_, rfl, _⟩ | ⟨l, _, ⟨_, _, rfl⟩ | ⟨_, ⟨S, _, _, rfl, _⟩ | ⟨_, rfl, _⟩⟩⟩
  · omega
  · omega
  · exact nm_bd _
  · omega
end Go.Proofs.YtgmelcdgnjcojagDoor

namespace Go.Proofs.YtgmelcdgnjcojagDoor
open Go.RowKit Crm

def KcNew : Prop := ∀ (n t : Int) (w : World), i64r n → i64r t → Calls Tryd.prog 21 #[.int .i64 n, .int .i64 t] w (Knw n t w)
def KcGen : Prop := ∀ (p : Nat) (G : Nat → Prop) (s : Kt) (a : Option Addr) (m c : Nat) (ds : List Int) (w : World), Kst w p G s → Rd w a m c ds → s.last ≤ 1000000 → Calls Tryd.prog 22 #[.pointer (some ⟨p, 0, none⟩), .slice a m c] w (Kke p G (kgen s ds) w)
def KcRefresh : Prop := ∀ (p : Nat) (G : Nat → Prop) (s : Kt) (x : Int) (a : Option Addr) (m c : Nat) (ds : List Int) (w : World), Kst w p G s → i64r x → Rd w a m c ds → Calls Tryd.prog 46 #[.pointer (some ⟨p, 0, none⟩), .int .i64 x, .slice a m c] w (Kkt p G (krfr s x ds) w)
def KcTweak : Prop := ∀ (p : Nat) (G : Nat → Prop) (s : Kt) (x u : Int) (w : World), Kst w p G s → i64r x → 0 ≤ u → u ≤ 18446744073709551615 → s.last ≤ 1000000 → Calls Tryd.prog 47 #[.pointer (some ⟨p, 0, none⟩), .int .i64 x, .int .u64 u] w (Kke p G (kmix s x x 1 0 u) w)
def KcCombine : Prop := ∀ (p : Nat) (G : Nat → Prop) (s : Kt) (g x u v : Int) (w : World), Kst w p G s → i64r g → i64r x → 0 ≤ u → u ≤ 18446744073709551615 → 0 ≤ v → v ≤ 18446744073709551615 → s.last ≤ 1000000 → Calls Tryd.prog 48 #[.pointer (some ⟨p, 0, none⟩), .int .i64 g, .int .i64 x, .int .u64 u, .int .u64 v] w (Kke p G (kmix s g x u v 0) w)
def KcMultiply : Prop := ∀ (p : Nat) (G : Nat → Prop) (s : Kt) (g x : Int) (a : Option Addr) (m c : Nat) (ds : List Int) (w : World), Kst w p G s → i64r g → i64r x → Rd w a m c ds → s.last ≤ 1000000 → Calls Tryd.prog 50 #[.pointer (some ⟨p, 0, none⟩), .int .i64 g, .int .i64 x, .slice a m c] w (Kke p G (kmul s g x ds) w)
def KcOpen : Prop := ∀ (p : Nat) (G : Nat → Prop) (s : Kt) (x : Int) (w : World), Kst w p G s → i64r x → Calls Tryd.prog 23 #[.pointer (some ⟨p, 0, none⟩), .int .i64 x] w (Kpn s x w)
def KcShares : Prop := ∀ (p : Nat) (G : Nat → Prop) (s : Kt) (x : Int) (w : World), Kst w p G s → i64r x → Calls Tryd.prog 24 #[.pointer (some ⟨p, 0, none⟩), .int .i64 x] w (Ksr s x w)
def KcDrop : Prop := ∀ (p : Nat) (G : Nat → Prop) (s : Kt) (x : Int) (w : World), Kst w p G s → i64r x → Calls Tryd.prog 51 #[.pointer (some ⟨p, 0, none⟩), .int .i64 x] w (Kkt p G (kdrp s x) w)
end Go.Proofs.YtgmelcdgnjcojagDoor
