/- Slices of numbers that are read (Rd), rows of the call's own whose every number is known (Blk), and how both stand when the world goes on. · Plain numbers: 2^31 - 1 is a prime, and FERMAT's law by it. · Lists of numbers as polynomials: noughts at the end, values, products number by number. Plain: nothing of the program. -/
import Derived.WalkKit
import Derived.WalkSpells
import Derived.WalkLawsBesides
import Derived.Deep.Draws
namespace Go.Proofs.YtgmelcdgnjcojagDoor
open Go.RowKit

/-- The slice reads as the numbers xs. -/
structure Rd (w : World) (a : Option Addr) (n c : Nat) (xs : List Int) : Prop where
  len : xs.length = n
  cap : n ≤ c
  max : c ≤ maxLen
  bd : ∀ x ∈ xs, 0 ≤ x ∧ x ≤ 18446744073709551615
  nil : a = none → c = 0
  cell : ∀ x, a = some x → ∀ i, i < n → w.cell? (x.add i) = some (.int .u64 (xs.getD i 0))

theorem getD_bd {xs : List Int} (h : ∀ x ∈ xs, 0 ≤ x ∧ x ≤ 18446744073709551615) (i : Nat) : 0 ≤ xs.getD i 0 ∧ xs.getD i 0 ≤ 18446744073709551615 := by
  by_cases hi : i < xs.length
  · rw [List.getD_eq_getElem?_getD, List.getElem?_eq_getElem hi]; exact h _ (List.getElem_mem hi)
  · rw [List.getD_eq_getElem?_getD, List.getElem?_eq_none (by omega)]; simp

theorem spot_none {w : World} {x : Addr} {v : Value} (h : w.cell? x = some v) : x.spot = none := by
  unfold World.cell? at h
  split at h
  · split at h
    · cases h
    · rename_i hs; cases hx : x.spot <;> simp_all
  · cases h

theorem Rd.at {w : World} {a : Option Addr} {n c : Nat} {xs : List Int} (h : Rd w a n c xs) {k : Nat} (hk : k < n) :
    ∃ b o, a = some ⟨b, o, none⟩ ∧ b < w.heap.size ∧ ∀ i, i < n → w.cell? ⟨b, o + i, none⟩ = some (.int .u64 (xs.getD i 0)) := by
  cases ha : a with
  | none => have := h.nil ha; have := h.cap; omega
  | some x =>
    have h0 := h.cell x ha 0 (by omega)
    have hs : x.spot = none := by
      have := spot_none h0
      unfold Addr.add at this
      split at this <;> simp_all
    obtain ⟨b, o, s⟩ := x
    simp only at hs
    subst hs
    refine ⟨b, o, rfl, ?_, fun i hi => by have := h.cell _ ha i hi; rwa [Addr.add_lit] at this⟩
    have := World.block_lt_of_cell? w _ h0
    rwa [Addr.add_lit] at this

/-- One number of it, by a name of its own. -/
theorem Rd.one {w : World} {a : Option Addr} {n c : Nat} {xs : List Int} (h : Rd w a n c xs) {k : Nat} (hk : k < n) :
    ∃ b o x, a = some ⟨b, o, none⟩ ∧ b < w.heap.size ∧ Hid (xs.getD k 0 = x) ∧ 0 ≤ x ∧ x ≤ 18446744073709551615 ∧ w.cell? ⟨b, o + k, none⟩ = some (.int .u64 x) := by
  obtain ⟨b, o, ha, hb, hc⟩ := h.at hk
  have := getD_bd h.bd k
  exact ⟨b, o, _, ha, hb, rfl, this.1, this.2, hc k hk⟩

theorem Rd.below {w w' : World} {a : Option Addr} {n c : Nat} {xs : List Int} (h : Rd w a n c xs) (hb : Below w.heap.size w w') : Rd w' a n c xs := by
  refine ⟨h.len, h.cap, h.max, h.bd, h.nil, fun x hx i hi => ?_⟩
  have := h.cell x hx i hi
  rw [hb.cell (World.block_lt_of_cell? w _ this)]
  exact this

theorem Rd.drew {w : World} {a : Option Addr} {n c : Nat} {xs : List Int} (h : Rd w a n c xs) : Rd w.drew a n c xs := ⟨h.len, h.cap, h.max, h.bd, h.nil, h.cell⟩
theorem Rd.drewN {w : World} {a : Option Addr} {n c : Nat} {xs : List Int} (h : Rd w a n c xs) (q : Nat) : Rd (w.drewN q) a n c xs := ⟨h.len, h.cap, h.max, h.bd, h.nil, h.cell⟩
theorem Rd.grown {w w' : World} {a : Option Addr} {n c : Nat} {xs : List Int} {r : Option Nat} (h : Rd w a n c xs) (hg : w.grownBy w' r) (hne : ∀ x, a = some x → some x.block ≠ r) : Rd w' a n c xs := by
  refine ⟨h.len, h.cap, h.max, h.bd, h.nil, fun x hx i hi => ?_⟩
  refine hg.cell (h.cell x hx i hi) ?_
  have : (x.add i).block = x.block := by unfold Addr.add; split <;> rfl
  rw [this]
  exact hne x hx

/-- The whole row g holds the numbers L; it may be written. -/
def Blk (w : World) (g : Nat) (L : List Int) : Prop := w.heap[g]? = some (.cells (L.map (Value.int .u64)).toArray 34 (0, 0))

theorem Blk.lt {w : World} {g : Nat} {L : List Int} (h : Blk w g L) : g < w.heap.size := (Array.getElem?_eq_some_iff.1 h).1
theorem Blk.cell {w : World} {g : Nat} {L : List Int} (h : Blk w g L) {i : Nat} (hi : i < L.length) : w.cell? ⟨g, i, none⟩ = some (.int .u64 (L.getD i 0)) := by
  rw [cell_of_row w g i _ _ (0, 0) h]
  simp [List.getElem?_eq_getElem hi]
theorem Blk.frozen {w : World} {g : Nat} {L : List Int} (h : Blk w g L) (i : Nat) : w.frozen? ⟨g, i, none⟩ = false := frozen_of_row w g i _ _ h
theorem Blk.set {w : World} {g : Nat} {L : List Int} (h : Blk w g L) (i : Nat) (v : Int) : Blk (w.setCell ⟨g, i, none⟩ (.int .u64 v)) g (L.set i v) := by
  have := heap_setCell_same w g i _ _ (.int .u64 v) h
  unfold Blk
  rw [this]
  simp [List.map_set]
theorem grown_set (w : World) (g i : Nat) (v : Value) : w.grownBy (w.setCell ⟨g, i, none⟩ v) (some g) :=
  ⟨rfl, rfl, rfl, by simp, fun k _ hk => heap_setCell_other w ⟨g, i, none⟩ k v (fun e => hk (by simp [e]))⟩
theorem grown_trans {a b c : World} {r : Option Nat} (h : a.grownBy b r) (k : b.grownBy c r) : a.grownBy c r :=
  ⟨k.os.trans h.os, k.tape.trans h.tape, k.output.trans h.output, Nat.le_trans h.size k.size, fun i hi hr => (k.block i (Nat.lt_of_lt_of_le hi h.size) hr).trans (h.block i hi hr)⟩
theorem grown_drew {a b : World} {r : Option Nat} (h : a.grownBy b r) : a.grownBy b.drew r := ⟨h.os, h.tape, h.output, h.size, h.block⟩
theorem Blk.below {w w' : World} {B g : Nat} {L : List Int} (h : Blk w g L) (hb : Below B w w') (hg : g < B) : Blk w' g L := by
  unfold Blk; rw [hb.block g hg]; exact h
theorem Blk.grown {w w' : World} {g : Nat} {r : Option Nat} {L : List Int} (h : Blk w g L) (hb : w.grownBy w' r) (hg : some g ≠ r) : Blk w' g L := by
  unfold Blk; rw [hb.block g h.lt hg]; exact h
theorem Blk.rd {w : World} {g : Nat} {L : List Int} (h : Blk w g L) (o n c : Nat) (hc : n ≤ c) (hm : c ≤ maxLen) (hn : o + n ≤ L.length) (hL : ∀ x ∈ L, 0 ≤ x ∧ x ≤ 18446744073709551615) : Rd w (some ⟨g, o, none⟩) n c ((L.drop o).take n) := by
  refine ⟨by simp; omega, hc, hm, fun x hx => hL x (List.mem_of_mem_drop (List.mem_of_mem_take hx)), by simp, fun x hx i hi => ?_⟩
  obtain rfl := Option.some.inj hx
  rw [Addr.add_lit, h.cell (by omega)]
  congr 2
  simp [hi]
theorem Blk.whole {w : World} {g : Nat} {L : List Int} (h : Blk w g L) (n : Nat) (hn : n = L.length) (hm : n ≤ maxLen) (hL : ∀ x ∈ L, 0 ≤ x ∧ x ≤ 18446744073709551615) : Rd w (some ⟨g, 0, none⟩) n n L := by
  have := h.rd 0 n n (Nat.le_refl _) hm (by omega) hL
  rwa [List.drop_zero, List.take_of_length_le (by omega)] at this
theorem Blk.made {w : World} {base g n : Nat} (h : w.ownsRow base 34 1 (.slice (some ⟨g, 0, none⟩) n n) n (madeCells (Value.int .u64 0).cells (n * 1)).toList) : Blk w g (List.replicate n 0) := by
  rcases h.2 with ⟨h', _⟩ | ⟨g', cap', cur, h', _, hg, _, _, hs, htake⟩
  · simp at h'
  · simp only [Value.slice.injEq, Option.some.injEq, Addr.mk.injEq, and_true, true_and] at h'
    obtain ⟨rfl, rfl⟩ := h'
    have e : (Value.int IntKind.u64 0).cells = #[Value.int .u64 0] := rfl
    rw [e, Nat.mul_one, toList_madeCells_one] at htake
    unfold Blk
    rw [hg]
    congr 2
    rw [List.take_of_length_le (by simp at hs; simp [hs])] at htake
    have : cur = (List.replicate n (Value.int .u64 0)).toArray := by rw [← htake]
    rw [this]
    simp

/-- What append has gathered reads as the numbers that it gathered. -/
theorem Rd.own {w : World} {base n : Nat} {v : Value} {xs : List Int} (h : w.ownsRow base 34 1 v n (xs.map (Value.int .u64))) (hx : ∀ x ∈ xs, 0 ≤ x ∧ x ≤ 18446744073709551615) :
    ∃ a c, v = .slice a n c ∧ Rd w a n c xs ∧ ∀ x, a = some x → base ≤ x.block := by
  have hl : xs.length = n := by simpa using h.1
  rcases h.2 with ⟨rfl, rfl⟩ | ⟨g, cap, cur, rfl, hb, hg, h1, h2, hs, ht⟩
  · exact ⟨none, 0, rfl, ⟨hl, Nat.le_refl _, Nat.zero_le _, hx, fun _ => rfl, by simp⟩, by simp⟩
  · refine ⟨_, _, rfl, ⟨hl, h1, h2, hx, by simp, fun x hx i hi => ?_⟩, fun x hx => by obtain rfl := Option.some.inj hx; exact hb⟩
    obtain rfl := Option.some.inj hx
    have := h.cells (g := g) rfl i (.int .u64 (xs.getD i 0)) (by simp [List.getElem?_eq_getElem (show i < xs.length by omega)])
    exact this

/-- A slice that the call itself gathers, and one number more. -/
theorem wpList_app1 {P : Program} {T E : TypeId} (hT : P.underlying T = some (.slice E)) (info : (P.info? E).map (fun i => (i.zero, i.size, i.bytes)) = some (some (.int .u64 0), 1, 8))
    (w : World) {ops : Array Oper} {rest : List Oper} {o : Oper} {a : Act} {Q : Exit → Act → World → Prop} (hgd : o.guard = none) (s x : Operand)
    (ho : o.op = .call { callee := .builtin .append, args := #[s, x], argTypes := #[T, T] })
    (base : Nat) (v : Value) (n : Nat) (xs : List Int) (hs : a.eval s = v) (hown : w.ownsRow base E 1 v n (xs.map (Value.int .u64))) (y : Int) (hx : a.eval x = .slice (some ⟨w.heap.size, 0, none⟩) 1 1)
    (hn : n ≤ 1000000) (hbase : base ≤ w.heap.size)
    (h : ∀ v' w', w'.ownsRow base E 1 v' (n + 1) ((xs ++ [y]).map (Value.int .u64)) → Below base w w' → wpList P ops Q rest (a.put o.dst v') w') : wpList P ops Q (o :: rest) a (w.alloc (.cells #[.int .u64 y] E)) := by
  obtain ⟨i0, hi, hz0, hz1, hz2⟩ := info_parts info
  refine wpList_append_own _ hgd s x T ho base E i0 (.int .u64 0) 1 8 hT hi hz0 hz1 hz2 rfl (by decide) v n _ hs (hown.alloc _) ⟨w.heap.size, 0, none⟩ 1 1 [.int .u64 y] hx rfl ?_ ?_ (by unfold maxLen; omega) (by omega) (by simp; omega) ?_
  · intro j u hj
    match j, hj with
    | 0, hj => simp at hj; subst hj; simp [Addr.add]
  · intro u hu; simp at hu; subst hu; rfl
  · intro v' w' hown' hgrow _
    refine h v' w' (by rw [List.map_append]; exact hown') ?_
    exact ((Below.refl _ _).alloc hbase _).grown hgrow (by simp; omega) (fun k hk => (hown.lt k hk).1)

theorem grown_below {w w' : World} (h : Below w.heap.size w w') (r : Option Nat) : w.grownBy w' r := ⟨h.os, h.tape, h.output, h.size, fun k hk _ => h.block k hk⟩
theorem own_below {w w' : World} {base n : Nat} {E : TypeId} {v : Value} {xs : List Value} (h : w.ownsRow base E 1 v n xs) (hb : Below w.heap.size w w') : w'.ownsRow base E 1 v n xs :=
  h.kept (grown_below hb none) (by cases hv : v.ownBlock <;> simp)

theorem below_grown {w0 w w' : World} {g : Nat} (h : Below w0.heap.size w0 w) (hg : w.grownBy w' (some g)) (hl : w0.heap.size ≤ g) : Below w0.heap.size w0 w' :=
  h.grown hg h.size (fun k hk => by simp at hk; omega)
end Go.Proofs.YtgmelcdgnjcojagDoor

namespace Crm

def P : Nat := 2147483647

/- no number of 2^k from lo on divides P -/
def ck : Nat → Nat → Bool
  | 0, lo => !(2147483647 % lo == 0)
  | k + 1, lo => ck k lo && ck k (lo + 2 ^ k)

theorem ck_all : ∀ (k lo d : Nat), ck k lo = true → lo ≤ d → d < lo + 2 ^ k → ¬ 2147483647 % d = 0 := by
  intro k
  induction k with
  | zero =>
    intro lo d h h1 h2
    have e : d = lo := by simp at h2; omega
    subst e
    simpa [ck] using h
  | succ k ih =>
    intro lo d h h1 h2
    simp only [ck, Bool.and_eq_true] at h
    by_cases hd : d < lo + 2 ^ k
    · exact ih lo d h.1 h1 hd
    · refine ih (lo + 2 ^ k) d h.2 (by omega) ?_
      have : 2 ^ (k + 1) = 2 ^ k + 2 ^ k := by omega
      omega

theorem ck16 : ck 16 2 = true := by decide +kernel

theorem prime_dvd {d : Nat} (h : d ∣ P) : d = 1 ∨ d = P := by
  obtain ⟨e, he⟩ := h
  have hP : d * e = 2147483647 := he.symm
  by_cases h1 : d = 1
  · exact Or.inl h1
  by_cases h2 : e = 1
  · subst h2; right; simp at hP; exact hP
  exfalso
  have hd0 : d ≠ 0 := by intro h; subst h; simp at hP
  have he0 : e ≠ 0 := by intro h; subst h; simp at hP
  have key : ∀ x y : Nat, x * y = 2147483647 → 2 ≤ x → x < 65538 → False := by
    intro x y hxy hx hx2
    refine ck_all 16 2 x ck16 hx (by omega) ?_
    rw [← hxy]; exact Nat.mul_mod_right x y
  by_cases hd : d < 65538
  · exact key d e hP (by omega) hd
  · by_cases hee : e < 65538
    · exact key e d (by rw [Nat.mul_comm]; exact hP) (by omega) hee
    · have : 65538 * 65538 ≤ d * e := Nat.mul_le_mul (by omega) (by omega)
      omega

theorem cop {a : Nat} (h : ¬ a % P = 0) : Nat.Coprime a P := by
  have hd := Nat.gcd_dvd_right a P
  rcases prime_dvd hd with h1 | h1
  · exact h1
  · exfalso; apply h
    have := Nat.gcd_dvd_left a P
    rw [h1] at this
    exact Nat.mod_eq_zero_of_dvd this

theorem dvd_mul {a b : Nat} (h : P ∣ a * b) (ha : ¬ a % P = 0) : P ∣ b :=
  Nat.Coprime.dvd_of_dvd_mul_left (Nat.Coprime.symm (cop ha)) h

/- binomials -/
def ch : Nat → Nat → Nat
  | _, 0 => 1
  | 0, _ + 1 => 0
  | n + 1, k + 1 => ch n k + ch n (k + 1)

theorem ch_zero (n : Nat) : ch n 0 = 1 := by cases n <;> rfl
theorem ch_succ (n k : Nat) : ch (n + 1) (k + 1) = ch n k + ch n (k + 1) := rfl
theorem ch_big : ∀ (n k : Nat), n < k → ch n k = 0 := by
  intro n
  induction n with
  | zero => intro k h; cases k with
    | zero => omega
    | succ k => rfl
  | succ n ih => intro k h; cases k with
    | zero => omega
    | succ k => rw [ch_succ, ih k (by omega), ih (k + 1) (by omega)]
theorem ch_self (n : Nat) : ch n n = 1 := by
  induction n with
  | zero => rfl
  | succ n ih => rw [ch_succ, ih, ch_big n (n + 1) (by omega)]
theorem ch_up : ∀ (n k : Nat), (k + 1) * ch (n + 1) (k + 1) = (n + 1) * ch n k := by
  intro n
  induction n with
  | zero => intro k; cases k with
    | zero => rfl
    | succ k => rw [ch_succ, ch_big 0 (k + 1) (by omega), ch_big 0 (k + 2) (by omega)]; simp
  | succ n ih =>
    intro k
    cases k with
    | zero =>
      have := ih 0
      rw [ch_succ, ch_zero]
      rw [ch_zero] at this
      simp at this ⊢
      rw [this]; omega
    | succ k =>
      have h1 := ih k
      have h2 := ih (k + 1)
      rw [ch_succ (n + 1) (k + 1), Nat.mul_add, h2, Nat.add_mul (k + 1) 1, h1, ch_succ n k]
      rw [Nat.add_mul (n + 1) 1, Nat.mul_add (n + 1)]
      omega

def bs (n a : Nat) : Nat → Nat
  | 0 => 0
  | m + 1 => bs n a m + ch n m * a ^ m

theorem bs_succ (n a m : Nat) : bs (n + 1) a (m + 1) = bs n a (m + 1) + a * bs n a m := by
  induction m with
  | zero => simp [bs, ch_zero]
  | succ m ih =>
    rw [bs, ih]
    conv => rhs; rw [bs]
    rw [show bs n a (m + 1) = bs n a m + ch n m * a ^ m from rfl, ch_succ, Nat.add_mul, Nat.mul_add]
    have : a * (ch n m * a ^ m) = ch n m * a ^ (m + 1) := by
      rw [Nat.pow_succ]; simp [Nat.mul_comm, Nat.mul_left_comm]
    omega

theorem binom (n a : Nat) : (a + 1) ^ n = bs n a (n + 1) := by
  induction n with
  | zero => simp [bs, ch_zero]
  | succ n ih =>
    rw [bs_succ, Nat.pow_succ, ih, Nat.mul_add, Nat.mul_one]
    rw [show bs n a (n + 1 + 1) = bs n a (n + 1) + ch n (n + 1) * a ^ (n + 1) from rfl, ch_big n (n + 1) (by omega)]
    rw [Nat.mul_comm a]; omega

theorem ch_P {k : Nat} (h0 : 0 < k) (h1 : k < P) : P ∣ ch P k := by
  obtain ⟨j, rfl⟩ : ∃ j, k = j + 1 := ⟨k - 1, by omega⟩
  have hu : (j + 1) * ch P (j + 1) = P * ch (P - 1) j := by
    have := ch_up (P - 1) j
    have e : P - 1 + 1 = P := rfl
    rw [e] at this; exact this
  refine dvd_mul (a := j + 1) ⟨_, hu⟩ ?_
  rw [Nat.mod_eq_of_lt h1]; omega

theorem bs_P (a : Nat) : ∀ m, m + 1 ≤ P → bs P a (m + 1) % P = 1 := by
  intro m
  induction m with
  | zero => intro _; simp [bs, ch_zero]; rfl
  | succ m ih =>
    intro h
    rw [bs, Nat.add_mod, ih (by omega)]
    obtain ⟨c, hc⟩ := ch_P (k := m + 1) (by omega) (by omega)
    rw [hc, Nat.mul_assoc, Nat.mul_mod_right]; rfl

theorem fermat (a : Nat) : a ^ P % P = a % P := by
  induction a with
  | zero =>
    have : (0 : Nat) ^ P = 0 := Nat.zero_pow (by unfold P; omega)
    rw [this]
  | succ a ih =>
    rw [binom, bs, ch_self, Nat.one_mul, Nat.add_mod]
    have : bs P a P % P = 1 := bs_P a (P - 1) (Nat.le_refl _)
    rw [this, ih, Nat.add_comm 1, Nat.add_mod a 1]
    rfl

theorem fermat1 {a : Nat} (h : ¬ a % P = 0) : a ^ (P - 1) % P = 1 := by
  have hf := fermat a
  have e : a ^ P = a * a ^ (P - 1) := by
    have : P = (P - 1) + 1 := rfl
    conv => lhs; rw [this]
    rw [Nat.pow_succ, Nat.mul_comm]
  have hpos : 0 < a ^ (P - 1) := Nat.pow_pos (Nat.pos_of_ne_zero (by intro h0; subst h0; exact h (Nat.zero_mod P)))
  rw [e] at hf
  have hd : P ∣ a * (a ^ (P - 1) - 1) := by
    rw [Nat.mul_sub, Nat.mul_one]
    have : a ≤ a * a ^ (P - 1) := Nat.le_mul_of_pos_right a hpos
    exact Nat.dvd_of_mod_eq_zero (Nat.sub_mod_eq_zero_of_mod_eq hf)
  have := dvd_mul hd h
  obtain ⟨c, hc⟩ := this
  have e2 : a ^ (P - 1) = 1 + P * c := by omega
  rw [e2, Nat.add_mul_mod_self_left]; rfl

/-! ### Numbers by P, as integers -/
def nm (a : Int) : Int := a % 2147483647

theorem nm_bd (a : Int) : 0 ≤ nm a ∧ nm a ≤ 2147483646 := by unfold nm; omega
theorem nm_small {a : Int} (h0 : 0 ≤ a) (h1 : a ≤ 2147483646) : nm a = a := by unfold nm; omega
theorem nm_nm (a : Int) : nm (nm a) = nm a := by unfold nm; omega
theorem nm_addl (a b : Int) : nm (nm a + b) = nm (a + b) := by unfold nm; omega
theorem nm_addr (a b : Int) : nm (a + nm b) = nm (a + b) := by unfold nm; omega
theorem nm_subl (a b : Int) : nm (nm a - b) = nm (a - b) := by unfold nm; omega
theorem nm_subr (a b : Int) : nm (a - nm b) = nm (a - b) := by unfold nm; omega
theorem nm_addP (a : Int) : nm (a + 2147483647) = nm a := by unfold nm; omega
theorem nm_mull (a b : Int) : nm (nm a * b) = nm (a * b) := by unfold nm; rw [Int.mul_emod, Int.emod_emod_of_dvd _ (Int.dvd_refl _), ← Int.mul_emod]
theorem nm_mulr (a b : Int) : nm (a * nm b) = nm (a * b) := by rw [Int.mul_comm, nm_mull, Int.mul_comm]
theorem nm_mul_congr {a b c d : Int} (h : nm a = nm c) (g : nm b = nm d) : nm (a * b) = nm (c * d) := by
  rw [← nm_mull a b, ← nm_mulr (nm a) b, h, g, nm_mulr, nm_mull]
theorem nm_add_congr {a b c d : Int} (h : nm a = nm c) (g : nm b = nm d) : nm (a + b) = nm (c + d) := by
  rw [← nm_addl a b, ← nm_addr (nm a) b, h, g, nm_addr, nm_addl]
theorem nm_sub_congr {a b c d : Int} (h : nm a = nm c) (g : nm b = nm d) : nm (a - b) = nm (c - d) := by
  rw [← nm_subl a b, ← nm_subr (nm a) b, h, g, nm_subr, nm_subl]
theorem nm_eq_iff {a b : Int} : nm a = nm b ↔ nm (a - b) = 0 := by unfold nm; omega
theorem nm_pow (a : Int) (n : Nat) : nm (nm a ^ n) = nm (a ^ n) := by
  induction n with
  | zero => rw [Int.pow_zero, Int.pow_zero]
  | succ n ih => rw [Int.pow_succ, Int.pow_succ]; exact nm_mul_congr ih (nm_nm a)

/- a power, behind a name -/
def pw (a : Int) (n : Nat) : Int := nm (a ^ n)
theorem pw_bd (a : Int) (n : Nat) : 0 ≤ pw a n ∧ pw a n ≤ 2147483646 := nm_bd _
theorem pw_zero (a : Int) : pw a 0 = 1 := by unfold pw; rw [Int.pow_zero]; rfl
theorem pw_succ (a : Int) (n : Nat) : pw a (n + 1) = nm (pw a n * a) := by
  unfold pw; rw [Int.pow_succ, nm_mull]
theorem pw_add (a : Int) (m n : Nat) : pw a (m + n) = nm (pw a m * pw a n) := by
  unfold pw; rw [Int.pow_add, nm_mull, nm_mulr]
theorem pw_nm (a : Int) (n : Nat) : pw (nm a) n = pw a n := nm_pow a n
theorem pw_one (a : Int) : pw a 1 = nm a := by unfold pw; rw [Int.pow_succ, Int.pow_zero, Int.one_mul]

theorem nm_nat (a : Nat) : nm (a : Int) = ((a % P : Nat) : Int) := by unfold nm P; omega
theorem pw_nat (a n : Nat) : pw (a : Int) n = ((a ^ n % P : Nat) : Int) := by
  unfold pw; rw [← nm_nat, Int.natCast_pow]

theorem fermat_pw (a : Int) : pw a 2147483647 = nm a := by
  obtain ⟨k, hk⟩ := Int.eq_ofNat_of_zero_le (nm_bd a).1
  have h := fermat k
  have h2 : k % P = k := Nat.mod_eq_of_lt (by have := (nm_bd a).2; unfold P; omega)
  rw [h2, show P = 2147483647 from rfl] at h
  rw [← pw_nm, hk, pw_nat, show P = 2147483647 from rfl, h]
theorem fermat_pw1 {a : Int} (h : nm a ≠ 0) : pw a 2147483646 = 1 := by
  obtain ⟨k, hk⟩ := Int.eq_ofNat_of_zero_le (nm_bd a).1
  have h2 : ¬ k % P = 0 := by
    intro h3
    apply h
    rw [← nm_nm, hk, nm_nat, h3]; rfl
  have h4 := fermat1 h2
  rw [show P - 1 = 2147483646 from rfl] at h4
  rw [← pw_nm, hk, pw_nat, h4]; rfl

/- the inverse -/
def iv (a : Int) : Int := pw a 2147483645
theorem iv_bd (a : Int) : 0 ≤ iv a ∧ iv a ≤ 2147483646 := pw_bd _ _
theorem iv_nm (a : Int) : iv (nm a) = iv a := pw_nm _ _
theorem iv_mul {a : Int} (h : nm a ≠ 0) : nm (iv a * a) = 1 := by
  have := pw_succ a 2147483645
  have e : 2147483645 + 1 = 2147483646 := rfl
  rw [e, fermat_pw1 h] at this
  exact this.symm
theorem mul_iv {a : Int} (h : nm a ≠ 0) : nm (a * iv a) = 1 := by rw [Int.mul_comm]; exact iv_mul h

theorem nm_mul_zero {a b : Int} (h : nm (a * b) = 0) (ha : nm a ≠ 0) : nm b = 0 := by
  have h1 : nm (iv a * (a * b)) = 0 := by rw [← nm_mulr, h]; simp [nm]
  rw [← Int.mul_assoc, ← nm_mull, iv_mul ha, Int.one_mul] at h1
  exact h1
theorem nm_cancel {a b c : Int} (h : nm (a * b) = nm (a * c)) (ha : nm a ≠ 0) : nm b = nm c := by
  rw [nm_eq_iff] at h ⊢
  rw [← Int.mul_sub] at h
  exact nm_mul_zero h ha
theorem iv_unique {a x : Int} (h : nm (x * a) = 1) (h0 : 0 ≤ x) (h1 : x ≤ 2147483646) : x = iv a := by
  have ha : nm a ≠ 0 := by
    intro h2
    rw [← nm_mulr, h2, Int.mul_zero] at h
    simp [nm] at h
  have hb := iv_bd a
  have : nm x = nm (iv a) := by
    refine nm_cancel (a := a) ?_ ha
    rw [Int.mul_comm, h, Int.mul_comm, iv_mul ha]
  rwa [nm_small h0 h1, nm_small hb.1 hb.2] at this

/- products bit by bit -/
theorem half (y : Int) (k : Nat) : y / 2 ^ k = 2 * (y / 2 ^ (k + 1)) + (y / 2 ^ k) % 2 := by
  rw [Int.pow_succ, ← Int.ediv_ediv_of_nonneg (Int.le_of_lt (Int.pow_pos (by omega)))]; omega
theorem mul_bit1 (a y : Int) (k : Nat) (h : (y / 2 ^ k) % 2 = 1) (o : Int) (ho : o = nm (a * (y / 2 ^ (k + 1)))) :
    nm (nm (o + o) + a) = nm (a * (y / 2 ^ k)) := by
  rw [nm_addl, half y k, h, ho, Int.mul_add, Int.mul_one, ← Int.mul_assoc, Int.mul_comm a 2, Int.mul_assoc]
  refine nm_add_congr ?_ rfl
  rw [nm_addl, nm_addr]; congr 1; omega
theorem mul_bit0 (a y : Int) (k : Nat) (h : (y / 2 ^ k) % 2 = 0) (o : Int) (ho : o = nm (a * (y / 2 ^ (k + 1)))) :
    nm (o + o) = nm (a * (y / 2 ^ k)) := by
  rw [half y k, h, ho, Int.add_zero, ← Int.mul_assoc, Int.mul_comm a 2, Int.mul_assoc]
  rw [nm_addl, nm_addr]; congr 1; omega

/- powers bit by bit, from the highest -/
theorem halfN (n k : Nat) : n / 2 ^ k = 2 * (n / 2 ^ (k + 1)) + (n / 2 ^ k) % 2 := by
  rw [Nat.pow_succ, ← Nat.div_div_eq_div_mul]; omega
theorem pow_bit1 (a : Int) (n k : Nat) (h : (n / 2 ^ k) % 2 = 1) (o : Int) (ho : o = pw a (n / 2 ^ (k + 1))) :
    nm (nm (o * o) * a) = pw a (n / 2 ^ k) := by
  rw [halfN n k, h, pw_succ, Nat.two_mul, pw_add, ho]
theorem pow_bit0 (a : Int) (n k : Nat) (h : (n / 2 ^ k) % 2 = 0) (o : Int) (ho : o = pw a (n / 2 ^ (k + 1))) :
    nm (o * o) = pw a (n / 2 ^ k) := by
  rw [halfN n k, h, Nat.add_zero, Nat.two_mul, pw_add, ho]

/- .. and from the lowest: p s^n is what is asked for -/
theorem sq_pw (s : Int) (m : Nat) : pw (nm (s * s)) m = pw s (2 * m) := by
  rw [pw_nm]
  induction m with
  | zero => rw [Nat.mul_zero, pw_zero, pw_zero]
  | succ m ih =>
    rw [pw_succ, ih, Nat.mul_succ, pw_add s (2 * m) 2]
    have : pw s 2 = nm (s * s) := by rw [pw_succ, pw_one, nm_mull]
    rw [this, nm_mulr]
theorem low1 (p s : Int) (n : Nat) (h : n % 2 = 1) : nm (nm (p * s) * pw (nm (s * s)) (n / 2)) = nm (p * pw s n) := by
  rw [sq_pw, nm_mull]
  have e : n = 2 * (n / 2) + 1 := by omega
  conv => rhs; rw [e]
  rw [pw_succ, nm_mulr, Int.mul_assoc, Int.mul_comm s]
theorem low0 (p s : Int) (n : Nat) (h : n % 2 = 0) : nm (p * pw (nm (s * s)) (n / 2)) = nm (p * pw s n) := by
  rw [sq_pw]
  have e : 2 * (n / 2) = n := by omega
  rw [e]

/- EUCLID -/
theorem eu_step {a r n x t q : Int} (h1 : nm (x * a) = nm r) (h2 : nm (t * a) = nm n) :
    nm (nm (x - q * t) * a) = nm (r - q * n) := by
  rw [nm_mull, Int.sub_mul]
  refine nm_sub_congr h1 ?_
  rw [Int.mul_assoc]
  exact nm_mul_congr rfl h2
theorem eu_neg (x y : Int) : nm (x + nm (2147483647 - nm (nm y))) = nm (x - y) := by unfold nm; omega
theorem eu_gcd {r n : Int} (hr : 0 ≤ r) (hn : 0 < n) (h : Nat.gcd r.toNat n.toNat = 1) : Nat.gcd n.toNat (r - r / n * n).toNat = 1 := by
  obtain ⟨R, rfl⟩ := Int.eq_ofNat_of_zero_le hr
  obtain ⟨N, rfl⟩ := Int.eq_ofNat_of_zero_le (Int.le_of_lt hn)
  have e : ((R : Int) - R / N * N).toNat = R % N := by
    have h1 : (R : Int) % N = R - R / N * N := by rw [Int.mul_comm]; exact Int.emod_def ..
    rw [← h1]; exact Int.toNat_natCast (R % N)
  rw [e]
  simp only [Int.toNat_natCast] at h ⊢
  rw [Nat.gcd_comm, ← Nat.gcd_rec, Nat.gcd_comm]; exact h
theorem eu_bd {r n : Int} (hr : 0 ≤ r) (hn : 0 < n) : 0 ≤ r / n ∧ r / n ≤ r ∧ 0 ≤ r / n * n ∧ r / n * n ≤ r ∧ r - r / n * n < n ∧ 0 ≤ r - r / n * n := by
  have h1 := Int.emod_def r n
  have h2 := Int.emod_lt_of_pos r hn
  have h3 := Int.emod_nonneg r (Int.ne_of_gt hn)
  have h4 := Int.ediv_nonneg hr (Int.le_of_lt hn)
  have h5 := Int.ediv_le_self n hr
  have h6 := Int.mul_nonneg h4 (Int.le_of_lt hn)
  rw [Int.mul_comm] at h1
  omega
theorem cop_int {a : Int} (h : nm a ≠ 0) : Nat.gcd (2147483647 : Int).toNat (nm a).toNat = 1 := by
  obtain ⟨k, hk⟩ := Int.eq_ofNat_of_zero_le (nm_bd a).1
  rw [hk, Int.toNat_natCast, Nat.gcd_comm]
  have h3 := (nm_bd a).2
  refine cop (a := k) ?_
  rw [Nat.mod_eq_of_lt (by unfold P; omega)]
  omega
theorem eu_end {a r x : Int} (h : Nat.gcd r.toNat (0 : Int).toNat = 1) (hr : 0 ≤ r) (h1 : nm (x * a) = nm r) (h0 : 0 ≤ x) (h2 : x ≤ 2147483646) : x = iv a := by
  have : r = 1 := by
    rw [show (0 : Int).toNat = 0 from rfl, Nat.gcd_zero_right] at h
    omega
  subst this
  exact iv_unique (by rw [h1]; rfl) h0 h2
end Crm

namespace Crm

def nz (xs : List Int) : List Int := xs.map nm
/-- How many of the first n numbers stay when the noughts at the end go. -/
def tl (xs : List Int) : Nat → Nat
  | 0 => 0
  | n + 1 => if xs.getD n 0 = 0 then tl xs n else n + 1
def trm (xs : List Int) : List Int := xs.take (tl xs xs.length)
def nrm (xs : List Int) : List Int := trm (nz xs)
def ev : List Int → Int → Int
  | [], _ => 0
  | a :: l, x => a + x * ev l x
def tm (as bs : List Int) (k i : Nat) : Int := if i ≤ k then as.getD i 0 * bs.getD (k - i) 0 else 0
/-- The k-th number of the product, of the first n numbers of as. -/
def pc (as bs : List Int) (k : Nat) : Nat → Int
  | 0 => 0
  | n + 1 => pc as bs k n + tm as bs k n
def cvl (as bs : List Int) : List Int := (List.range (as.length + bs.length - 1)).map fun k => nm (pc as bs k as.length)
/-- L, with t times the first k numbers of B added from place o on. -/
def addAt (L : List Int) (o : Nat) (B : List Int) (t : Int) : Nat → List Int
  | 0 => L
  | k + 1 => (addAt L o B t k).set (o + k) (nm (L.getD (o + k) 0 + t * B.getD k 0))

theorem tl_zero (xs : List Int) {n : Nat} (h : xs.getD n 0 = 0) : tl xs (n + 1) = tl xs n := by rw [tl, if_pos h]
theorem tl_last (xs : List Int) {n : Nat} (h : ¬ xs.getD n 0 = 0) : tl xs (n + 1) = n + 1 := by rw [tl, if_neg h]
theorem tl_le (xs : List Int) : ∀ n, tl xs n ≤ n
  | 0 => Nat.le_refl _
  | n + 1 => by rw [tl]; split; have := tl_le xs n; omega; omega
theorem nz_getD (xs : List Int) (i : Nat) : (nz xs).getD i 0 = nm (xs.getD i 0) := by
  unfold nz
  by_cases h : i < xs.length
  · simp [List.getElem?_eq_getElem h]
  · simp [List.getElem?_eq_none (show xs.length ≤ i by omega)]; rfl
theorem nz_len (xs : List Int) : (nz xs).length = xs.length := by simp [nz]
theorem nz_bd (xs : List Int) : ∀ x ∈ nz xs, 0 ≤ x ∧ x ≤ 18446744073709551615 := by
  intro x hx
  obtain ⟨y, _, rfl⟩ := List.mem_map.1 hx
  have := nm_bd y
  omega
theorem nz_bd' (xs : List Int) : ∀ x ∈ nz xs, 0 ≤ x ∧ x ≤ 2147483646 := by
  intro x hx
  obtain ⟨y, _, rfl⟩ := List.mem_map.1 hx
  exact nm_bd y
theorem trm_len (xs : List Int) : (trm xs).length = tl xs xs.length := by
  have := tl_le xs xs.length
  unfold trm
  simp; omega
theorem nrm_len (xs : List Int) : (nrm xs).length = tl (nz xs) xs.length := by unfold nrm; rw [trm_len, nz_len]
theorem nrm_le (xs : List Int) : (nrm xs).length ≤ xs.length := by rw [nrm_len]; exact tl_le _ _
theorem trm_mem {xs : List Int} {x : Int} (h : x ∈ trm xs) : x ∈ xs := List.mem_of_mem_take h
theorem nrm_bd (xs : List Int) : ∀ x ∈ nrm xs, 0 ≤ x ∧ x ≤ 18446744073709551615 := fun x h => nz_bd xs x (trm_mem h)
theorem nrm_bd' (xs : List Int) : ∀ x ∈ nrm xs, 0 ≤ x ∧ x ≤ 2147483646 := fun x h => nz_bd' xs x (trm_mem h)

theorem getD_set (L : List Int) (i j : Nat) (v : Int) : (L.set i v).getD j 0 = if i = j ∧ j < L.length then v else L.getD j 0 := by
  simp only [List.getD_eq_getElem?_getD, List.getElem?_set]
  by_cases h : i = j
  · subst h
    by_cases hl : i < L.length
    · simp [hl]
    · simp [hl]
  · simp [h]
theorem addAt_len (L : List Int) (o : Nat) (B : List Int) (t : Int) : ∀ k, (addAt L o B t k).length = L.length
  | 0 => rfl
  | k + 1 => by rw [addAt, List.length_set, addAt_len L o B t k]
theorem addAt_getD (L : List Int) (o : Nat) (B : List Int) (t : Int) : ∀ (k i : Nat),
    (addAt L o B t k).getD i 0 = if o ≤ i ∧ i < o + k ∧ i < L.length then nm (L.getD i 0 + t * B.getD (i - o) 0) else L.getD i 0
  | 0, i => by rw [addAt, if_neg (by omega)]
  | k + 1, i => by
    rw [addAt, getD_set, addAt_len, addAt_getD L o B t k i]
    by_cases h : o + k = i ∧ i < L.length
    · rw [if_pos h, if_pos (by omega)]
      obtain ⟨rfl, _⟩ := h
      rw [Nat.add_sub_cancel_left]
    · rw [if_neg h]
      by_cases h2 : o ≤ i ∧ i < o + k ∧ i < L.length
      · rw [if_pos h2, if_pos (by omega)]
      · rw [if_neg h2, if_neg (by omega)]
theorem bd_set {L : List Int} (h : ∀ x ∈ L, 0 ≤ x ∧ x ≤ 18446744073709551615) (i : Nat) {v : Int} (hv : 0 ≤ v ∧ v ≤ 18446744073709551615) : ∀ x ∈ L.set i v, 0 ≤ x ∧ x ≤ 18446744073709551615 := by
  intro x hx
  rcases List.mem_or_eq_of_mem_set hx with h1 | h1
  · exact h x h1
  · rw [h1]; exact hv
theorem addAt_bd {L : List Int} (h : ∀ x ∈ L, 0 ≤ x ∧ x ≤ 18446744073709551615) (o : Nat) (B : List Int) (t : Int) : ∀ k, ∀ x ∈ addAt L o B t k, 0 ≤ x ∧ x ≤ 18446744073709551615
  | 0 => h
  | k + 1 => by
    rw [addAt]
    exact bd_set (addAt_bd h o B t k) _ (by have := nm_bd (L.getD (o + k) 0 + t * B.getD k 0); omega)
theorem ev_snoc : ∀ (l : List Int) (a x : Int), ev (l ++ [a]) x = ev l x + a * x ^ l.length
  | [], a, x => by simp [ev]
  | b :: l, a, x => by
    rw [List.cons_append, ev, ev, ev_snoc l a x, List.length_cons, Int.pow_succ, Int.mul_add]
    have : x * (a * x ^ l.length) = a * (x ^ l.length * x) := by rw [Int.mul_comm x, Int.mul_assoc]
    omega
theorem ev_take (xs : List Int) (x : Int) {k : Nat} (h : k < xs.length) : ev (xs.take (k + 1)) x = ev (xs.take k) x + xs.getD k 0 * x ^ k := by
  rw [List.take_succ_eq_append_getElem h, ev_snoc, List.length_take, Nat.min_eq_left (by omega)]
  simp [List.getElem?_eq_getElem h]
theorem ev_drop (xs : List Int) (x : Int) {k : Nat} (h : k < xs.length) : ev (xs.drop k) x = xs.getD k 0 + x * ev (xs.drop (k + 1)) x := by
  rw [List.drop_eq_getElem_cons h, ev]
  simp [List.getElem?_eq_getElem h]
end Crm
