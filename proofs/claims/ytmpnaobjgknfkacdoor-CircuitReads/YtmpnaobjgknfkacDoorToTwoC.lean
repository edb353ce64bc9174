/- Reading a circuit's text: plain facts. · Two lists of shares that a call gathers in turn; one behind the other. -/
import Derived.Test.YtmpnaobjgknfkacDoorToShLay
import Derived.Test.YtmpnaobjgknfkacDoorToTextM
import Derived.Test.YtmpnaobjgknfkacDoorToFieldC
import Derived.Test.YtmpnaobjgknfkacDoorToOwnC
import Derived.Laws.AppendOwnNone
namespace Go.Proofs.YtmpnaobjgknfkacDoor
open Crm

/-- The words of a line, and those behind the first. -/
def wds (t : ByteArray) : List ByteArray := pcs t 32 t.size
def ags (t : ByteArray) : List ByteArray := (wds t).drop 1
def agn (t : ByteArray) (i : Nat) : Int := dgn (tx (ags t) i) (tx (ags t) i).size
def outB : ByteArray := ⟨#[111, 117, 116]⟩
/-- How many numbers a gate's line has. -/
def arn (k : Nat) : Nat := [0, 1, 1, 2, 2, 2, 2].getD k 0
/-- A gate of kind k, by its line's numbers. -/
def gof (k : Nat) (t : ByteArray) : Gt :=
  if k = 1 then ⟨1, agn t 0, 0, 0⟩ else if k = 2 then ⟨2, 0, 0, agn t 0⟩ else if k = 6 then ⟨6, agn t 0, 0, agn t 1⟩ else ⟨k, agn t 0, agn t 1, 0⟩
/-- A line is a gate's. -/
def Lng (t : ByteArray) (g : Gt) : Prop := ∃ k, (1 ≤ k ∧ k < 7) ∧ tx (wds t) 0 = vb k ∧ (ags t).length = arn k ∧ okn (ags t) (arn k) ∧ g = gof k t
/-- A line is an out's. -/
def Lno (t : ByteArray) (x : Int) : Prop := tx (wds t) 0 = outB ∧ (ags t).length = 1 ∧ okn (ags t) 1 ∧ x = agn t 0
theorem vb_inj : ∀ i, i < 7 → ∀ j, j < 7 → vb i = vb j → i = j := by decide +kernel
theorem vb_out : ∀ i, i < 7 → vb i ≠ outB := by decide +kernel
theorem Lng.one {t : ByteArray} {g h : Gt} (a : Lng t g) (b : Lng t h) : g = h := by
  obtain ⟨k, hk, e1, _, _, rfl⟩ := a
  obtain ⟨j, hj, e2, _, _, rfl⟩ := b
  obtain rfl := vb_inj k hk.2 j hj.2 (e1.symm.trans e2)
  rfl
theorem Lng.no {t : ByteArray} {g : Gt} {x : Int} (a : Lng t g) (b : Lno t x) : False := by
  obtain ⟨k, hk, e1, _⟩ := a
  exact vb_out k hk.2 (e1.symm.trans b.1)
/-- The first i lines read as the gates G and the outs O. -/
def Rds (l : List ByteArray) : Nat → List Gt → List Int → Prop
  | 0, G, O => G = [] ∧ O = []
  | i + 1, G, O => ∃ G0 O0, Rds l i G0 O0 ∧ ((∃ g, Lng (tx l i) g ∧ O0 = [] ∧ G = G0 ++ [g] ∧ O = []) ∨ (∃ x, Lno (tx l i) x ∧ G = G0 ∧ O = O0 ++ [x]))
theorem Rds.one {l : List ByteArray} : ∀ {i : Nat} {G H : List Gt} {O Q : List Int}, Rds l i G O → Rds l i H Q → G = H ∧ O = Q
  | 0, _, _, _, _, h, k => by obtain ⟨rfl, rfl⟩ := h; obtain ⟨rfl, rfl⟩ := k; exact ⟨rfl, rfl⟩
  | i + 1, _, _, _, _, h, k => by
    obtain ⟨G0, O0, h0, h1⟩ := h
    obtain ⟨H0, Q0, k0, k1⟩ := k
    obtain ⟨rfl, rfl⟩ := h0.one k0
    rcases h1 with ⟨g, a, _, rfl, rfl⟩ | ⟨x, a, rfl, rfl⟩ <;> rcases k1 with ⟨g', b, _, rfl, rfl⟩ | ⟨x', b, rfl, rfl⟩
    · rw [a.one b]; exact ⟨rfl, rfl⟩
    · exact (a.no b).elim
    · exact (b.no a).elim
    · rw [a.2.2.2, b.2.2.2]; exact ⟨rfl, rfl⟩
theorem Rds.down {l : List ByteArray} : ∀ {i j : Nat} {G : List Gt} {O : List Int}, Rds l i G O → j ≤ i → ∃ G0 O0, Rds l j G0 O0
  | 0, j, G, O, h, hj => by obtain rfl : j = 0 := by omega
                            exact ⟨G, O, h⟩
  | i + 1, j, G, O, h, hj => by
    by_cases e : j = i + 1
    · subst e; exact ⟨G, O, h⟩
    · obtain ⟨G0, O0, h0, _⟩ := h
      exact h0.down (by omega)
/-- Line i can't follow the outs O. -/
def Nok (t : ByteArray) (O : List Int) : Prop := ¬ ((∃ g, Lng t g ∧ O = []) ∨ ∃ x, Lno t x)
theorem Nok.stop {l : List ByteArray} {i : Nat} {G H : List Gt} {O Q : List Int} (h : Rds l i G O) (k : Nok (tx l i) O) (r : Rds l (i + 1) H Q) : False := by
  obtain ⟨G0, O0, h0, h1⟩ := r
  obtain ⟨_, rfl⟩ := h.one h0
  rcases h1 with ⟨g, a, e, _⟩ | ⟨x, a, _⟩
  · exact k (.inl ⟨g, a, e⟩)
  · exact k (.inr ⟨x, a⟩)
/-- The lines of a text, the last one, with no byte 10 behind it, apart. -/
def lns (s : ByteArray) : List ByteArray := pcs s 10 s.size
def lnn (s : ByteArray) : Nat := (lns s).length - 1
theorem lns_len (s : ByteArray) : (lns s).length = lnn s + 1 := by
  have := pcs_len s 10 s.size
  unfold lnn lns
  omega
/-- What Parse tells: the circuit, the line, the error. -/
def Par (s : ByteArray) (G : List Gt) (O : List Int) (at_ : Nat) (r : Int) : Prop :=
  (2048 < s.size ∧ G = [] ∧ O = [] ∧ at_ = 0 ∧ r = 2) ∨
  (s.size ≤ 2048 ∧ ((∃ i G0 O0, i < lnn s ∧ Rds (lns s) i G0 O0 ∧ Nok (tx (lns s) i) O0 ∧ G = [] ∧ O = [] ∧ at_ = i + 1 ∧ r = 3) ∨
    (∃ G0 O0, Rds (lns s) (lnn s) G0 O0 ∧ ((tx (lns s) (lnn s) ≠ mt ∧ G = [] ∧ O = [] ∧ at_ = lnn s + 1 ∧ r = 3) ∨
      (tx (lns s) (lnn s) = mt ∧ at_ = 0 ∧ Cke G0 O0 G0.length O0.length r ∧ ((r ≠ 0 ∧ G = [] ∧ O = []) ∨ (r = 0 ∧ G = G0 ∧ O = O0)))))))
theorem Par.one {s : ByteArray} {G H : List Gt} {O Q : List Int} {m n : Nat} {r q : Int} (h : Par s G O m r) (k : Par s H Q n q) : G = H ∧ O = Q ∧ m = n ∧ r = q := by
  rcases h with ⟨h0, rfl, rfl, rfl, rfl⟩ | ⟨h0, h⟩ <;> rcases k with ⟨k0, rfl, rfl, rfl, rfl⟩ | ⟨k0, k⟩
  · exact ⟨rfl, rfl, rfl, rfl⟩
  · exfalso; omega
  · exfalso; omega
  · rcases h with ⟨i, G0, O0, hi, h1, h2, rfl, rfl, rfl, rfl⟩ | ⟨G0, O0, h1, h2⟩ <;> rcases k with ⟨j, H0, Q0, hj, k1, k2, rfl, rfl, rfl, rfl⟩ | ⟨H0, Q0, k1, k2⟩
    · obtain rfl : i = j := by
        rcases Nat.lt_trichotomy i j with e | e | e
        · obtain ⟨_, _, x⟩ := k1.down (show i + 1 ≤ j from e); exact (h2.stop h1 x).elim
        · exact e
        · obtain ⟨_, _, x⟩ := h1.down (show j + 1 ≤ i from e); exact (k2.stop k1 x).elim
      exact ⟨rfl, rfl, rfl, rfl⟩
    · obtain ⟨_, _, x⟩ := k1.down (show i + 1 ≤ lnn s from hi); exact (h2.stop h1 x).elim
    · obtain ⟨_, _, x⟩ := h1.down (show j + 1 ≤ lnn s from hj); exact (k2.stop k1 x).elim
    · obtain ⟨rfl, rfl⟩ := h1.one k1
      rcases h2 with ⟨a, rfl, rfl, rfl, rfl⟩ | ⟨a, rfl, c, d⟩ <;> rcases k2 with ⟨a', rfl, rfl, rfl, rfl⟩ | ⟨a', rfl, c', d'⟩
      · exact ⟨rfl, rfl, rfl, rfl⟩
      · exact absurd a' a
      · exact absurd a a'
      · obtain rfl := c.one c'
        rcases d with ⟨d1, rfl, rfl⟩ | ⟨d1, rfl, rfl⟩ <;> rcases d' with ⟨e1, rfl, rfl⟩ | ⟨e1, rfl, rfl⟩
        · exact ⟨rfl, rfl, rfl, rfl⟩
        · exact absurd e1 d1
        · exact absurd d1 e1
        · exact ⟨rfl, rfl, rfl, rfl⟩
theorem Par.bd {s : ByteArray} {G : List Gt} {O : List Int} {n : Nat} {r : Int} (h : Par s G O n r) : 0 ≤ r ∧ r ≤ 3 := by
  rcases h with ⟨_, _, _, _, rfl⟩ | ⟨_, ⟨_, _, _, _, _, _, _, _, _, rfl⟩ | ⟨_, _, _, ⟨_, _, _, _, rfl⟩ | ⟨_, _, c, _⟩⟩⟩
  · omega
  · omega
  · omega
  · have := c.bd; omega
end Go.Proofs.YtmpnaobjgknfkacDoor

namespace Go.Proofs.YtmpnaobjgknfkacDoor
open Go.RowKit Crm

/-- A slice of shares that the call itself gathers, and one share more, with what it leaves alone. -/
theorem wpList_appS2 {P : Program} {T E : TypeId} (hT : P.underlying T = some (.slice E)) (info : (P.info? E).map (fun i => (i.zero, i.size, i.bytes)) = some (some (.agg #[.int .i64 0, .int .u64 0]), 2, 16))
    (w : World) {ops : Array Oper} {rest : List Oper} {o : Oper} {a : Act} {Q : Exit → Act → World → Prop} (hgd : o.guard = none) (s x : Operand)
    (ho : o.op = .call { callee := .builtin .append, args := #[s, x], argTypes := #[T, T] })
    (base : Nat) (v : Value) (n : Nat) (l : List (Int × Int)) (hs : a.eval s = v) (hown : w.ownsRow base E 2 v n (shc l)) (p q : Int) (hx : a.eval x = .slice (some ⟨w.heap.size, 0, none⟩) 1 1)
    (hn : n ≤ 1000000) (hbase : base ≤ w.heap.size)
    (h : ∀ v' w', w'.ownsRow base E 2 v' (n + 1) (shc (l ++ [(p, q)])) → w.grownBy w' v.ownBlock → (v'.ownBlock = v.ownBlock ∨ ∃ k, v'.ownBlock = some k ∧ w.heap.size ≤ k) → wpList P ops Q rest (a.put o.dst v') w') : wpList P ops Q (o :: rest) a (w.alloc (.cells #[.int .i64 p, .int .u64 q] E)) := by
  obtain ⟨i0, hi, hz0, hz1, hz2⟩ := info_parts info
  refine wpList_append_own_at _ hgd s x T ho base E i0 (.agg #[.int .i64 0, .int .u64 0]) 2 16 hT hi hz0 hz1 hz2 rfl (by decide) v n _ hs (hown.alloc _) ⟨w.heap.size, 0, none⟩ 1 1 [.int .i64 p, .int .u64 q] hx rfl ?_ ?_ (by unfold maxLen; omega) (by omega) (by simp; omega) ?_
  · intro j u hj
    match j, hj with
    | 0, hj => simp at hj; subst hj; rw [Addr.add_lit]; exact cell_alloc0 _ _ _ _
    | 1, hj => simp at hj; subst hj; rw [Addr.add_lit]; exact cell_alloc1 _ _ _ _
  · intro u hu; simp at hu; rcases hu with rfl | rfl <;> rfl
  · intro v' w' hown' hgrow _ hat
    refine h v' w' (by rw [shc_snoc]; exact hown') ⟨hgrow.os, hgrow.tape, hgrow.output, ?_, fun k hk hne => ?_⟩ ?_
    · have := hgrow.size; simp at this; omega
    · rw [hgrow.block k (by simp; omega) hne]; exact Below.heap_alloc _ _ _ hk
    · rcases hat with hat | hat
      · exact .inl hat
      · exact .inr ⟨_, hat, by simp⟩

/-- Two such lists, apart. -/
structure Two (w : World) (B : Nat) (E : TypeId) (v1 v2 : Value) (l1 l2 : List (Int × Int)) : Prop where
  o1 : w.ownsRow B E 2 v1 l1.length (shc l1)
  o2 : w.ownsRow B E 2 v2 l2.length (shc l2)
  ne : ∀ g, v1.ownBlock = some g → v2.ownBlock ≠ some g
theorem Two.start (w : World) (B : Nat) (E : TypeId) : Two w B E (.slice none 0 0) (.slice none 0 0) [] [] := ⟨World.ownsRow_nil _ _ _ _, World.ownsRow_nil _ _ _ _, fun g h => by simp [Value.ownBlock] at h⟩
theorem Two.swap {w : World} {B : Nat} {E : TypeId} {v1 v2 : Value} {l1 l2 : List (Int × Int)} (h : Two w B E v1 v2 l1 l2) : Two w B E v2 v1 l2 l1 := ⟨h.o2, h.o1, fun g h1 h2 => h.ne g h2 h1⟩
theorem Two.add {w w' : World} {B : Nat} {E : TypeId} {v1 v2 v' : Value} {l1 l2 : List (Int × Int)} {p : Int × Int} (h : Two w B E v1 v2 l1 l2) (ho : w'.ownsRow B E 2 v' (l1.length + 1) (shc (l1 ++ [p]))) (hg : w.grownBy w' v1.ownBlock) (hat : v'.ownBlock = v1.ownBlock ∨ ∃ k, v'.ownBlock = some k ∧ w.heap.size ≤ k) : Two w' B E v' v2 (l1 ++ [p]) l2 := by
  refine ⟨by rw [List.length_append, List.length_singleton]; exact ho, h.o2.kept hg ?_, fun g h1 h2 => ?_⟩
  · cases hv : v1.ownBlock with
    | none => cases hv2 : v2.ownBlock <;> simp
    | some g => exact .inr (h.ne g hv)
  · rcases hat with hat | ⟨k, hk, hle⟩
    · exact h.ne g (by rw [← hat]; exact h1) h2
    · have h3 := (h.o2.lt g h2).2
      rw [hk] at h1
      have := Option.some.inj h1
      omega
theorem Two.below {w w' : World} {B : Nat} {E : TypeId} {v1 v2 : Value} {l1 l2 : List (Int × Int)} (h : Two w B E v1 v2 l1 l2) (hb : Below w.heap.size w w') : Two w' B E v1 v2 l1 l2 := ⟨own_below2 h.o1 hb, own_below2 h.o2 hb, h.ne⟩

theorem RdS.news {w : World} {ad : Addr} {n c : Nat} {l : List (Int × Int)} (h : RdS w (some ad) n c l) : ∀ j u, (shc l)[j]? = some u → w.cell? (ad.add j) = some u := fun j u hj => by
  have hl := h.len
  have hjl := (List.getElem?_eq_some_iff.1 hj).1
  rw [shc_len] at hjl
  have hi : j / 2 < l.length := by omega
  have h1 := shc_get l (j / 2) hi
  have h2 := h.cell ad rfl (j / 2) (by omega)
  rcases Nat.mod_two_eq_zero_or_one j with e | e
  · have ej : j = j / 2 * 2 := by omega
    rw [← ej] at h1 h2
    rw [h1.1] at hj
    rw [h2.1]; exact hj
  · have ej : j = j / 2 * 2 + 1 := by omega
    rw [← ej] at h1 h2
    rw [h1.2] at hj
    rw [h2.2]; exact hj

/-- One list behind the other. -/
theorem wpList_appSS {P : Program} {T E : TypeId} (hT : P.underlying T = some (.slice E)) (info : (P.info? E).map (fun i => (i.zero, i.size, i.bytes)) = some (some (.agg #[.int .i64 0, .int .u64 0]), 2, 16))
    {w : World} {ops : Array Oper} {rest : List Oper} {o : Oper} {a : Act} {Q : Exit → Act → World → Prop} (hgd : o.guard = none) (s x : Operand)
    (ho : o.op = .call { callee := .builtin .append, args := #[s, x], argTypes := #[T, T] })
    (base : Nat) (v : Value) (n : Nat) (l : List (Int × Int)) (hs : a.eval s = v) (hown : w.ownsRow base E 2 v n (shc l)) (a2 : Option Addr) (n2 c2 : Nat) (l2 : List (Int × Int)) (hR : RdS w a2 n2 c2 l2) (hx : a.eval x = .slice a2 n2 c2)
    (hn : n + n2 ≤ 1000) (hbase : base ≤ w.heap.size)
    (h : ∀ v' w', w'.ownsRow base E 2 v' (n + n2) (shc (l ++ l2)) → Below base w w' → wpList P ops Q rest (a.put o.dst v') w') : wpList P ops Q (o :: rest) a w := by
  obtain ⟨i0, hi, hz0, hz1, hz2⟩ := info_parts info
  have hl := hR.len
  cases a2 with
  | none =>
    have hc := hR.nil rfl
    have hcap := hR.cap
    obtain rfl : n2 = 0 := by omega
    subst hc
    obtain rfl : l2 = [] := List.eq_nil_of_length_eq_zero hl
    refine wpList_append_own_none hgd s x T ho base E i0 2 hT hi _ n _ hs hown hx ?_
    exact h v w (by rw [List.append_nil]; exact hown) (Below.refl _ _)
  | some ad =>
    refine wpList_append_own _ hgd s x T ho base E i0 (.agg #[.int .i64 0, .int .u64 0]) 2 16 hT hi hz0 hz1 hz2 rfl (by decide) _ n _ hs hown ad n2 c2 (shc l2) hx (by rw [shc_len, hl]) hR.news (shc_one l2) (by unfold maxLen; omega) (by omega) hbase ?_
    intro v' w' hown' hgrow _
    exact h v' w' (by rw [shc_app]; exact hown') ((Below.refl _ _).grown hgrow hbase (fun k hk => (hown.lt k hk).1))

/-- Lists of other elements lie elsewhere. -/
theorem own_apart {w : World} {B1 B2 n1 n2 z1 z2 : Nat} {E1 E2 : TypeId} {v1 v2 : Value} {xs ys : List Value} (h1 : w.ownsRow B1 E1 z1 v1 n1 xs) (h2 : w.ownsRow B2 E2 z2 v2 n2 ys) (hE : E1 ≠ E2) : v2.ownBlock = none ∨ v2.ownBlock ≠ v1.ownBlock := by
  rcases h2.2 with ⟨rfl, _⟩ | ⟨g, cap, cur, rfl, _, hg, _⟩
  · exact .inl rfl
  · right
    rcases h1.2 with ⟨rfl, _⟩ | ⟨g', cap', cur', rfl, _, hg', _⟩
    · simp [Value.ownBlock]
    · intro e
      simp [Value.ownBlock] at e
      subst e
      rw [hg] at hg'
      simp only [Option.some.injEq, Obj.cells.injEq] at hg'
      exact hE hg'.2.1.symm
/-- How long a slice is. -/
def slen : Value → Nat
  | .slice _ n _ => n
  | _ => 0
end Go.Proofs.YtmpnaobjgknfkacDoor
