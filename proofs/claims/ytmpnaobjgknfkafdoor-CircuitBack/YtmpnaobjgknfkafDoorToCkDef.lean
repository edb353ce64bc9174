/- Gates that are read, their numbers told by their rests: plain facts; the first line of a text and the rest. · What the calls of package circuit answer. -/
import Derived.Test.YtmpnaobjgknfkafDoorToReadP
import Derived.Test.YtmpnaobjgknfkafDoorToRLineC
import Derived.Test.YtmpnaobjgknfkafDoorToCutM
import Derived.Test.YtmpnaobjgknfkafDoorToGatesR
import Derived.Test.YtmpnaobjgknfkafDoorToOpenG
namespace Go.Proofs.YtmpnaobjgknfkafDoor
open Go.RowKit Crm

theorem gt_map (G : List Gt) (i : Nat) : gt (G.map nmg) i = nmg (gt G i) := by
  unfold gt
  rw [List.getD_eq_getElem?_getD, List.getD_eq_getElem?_getD, List.getElem?_map]
  cases G[i]? with
  | none => rfl
  | some g => rfl
theorem okg_nmz {i : Nat} {g : Gt} (h : g.k = 2 ∨ g.k = 6 ∨ g.n = 0) : okg i (nmg g) ↔ okg i g := by
  have n0 : nm 0 = 0 := rfl
  unfold okg nmg
  simp only
  rcases h with h | h | h
  · rw [h]; omega
  · rw [h]; omega
  · rw [h, n0]
theorem lng_zn {t : ByteArray} {g : Gt} (h : Lng t g) : g.k = 2 ∨ g.k = 6 ∨ g.n = 0 := by
  obtain ⟨k, hk, _, _, _, rfl⟩ := h
  rcases arn_of hk.1 hk.2 with ⟨rfl, _⟩ | ⟨rfl, _⟩ | ⟨rfl, _⟩ | ⟨h3, _⟩
  · exact .inr (.inr rfl)
  · exact .inl rfl
  · exact .inr (.inl rfl)
  · refine .inr (.inr ?_)
    unfold gof
    rw [if_neg (by omega), if_neg (by omega), if_neg (by omega)]
theorem Rds.zn {l : List ByteArray} : ∀ {i : Nat} {G : List Gt} {O : List Int}, Rds l i G O → ∀ g ∈ G, g.k = 2 ∨ g.k = 6 ∨ g.n = 0
  | 0, _, _, h, g, hg => by obtain ⟨rfl, rfl⟩ := h; simp at hg
  | i + 1, _, _, h, g, hg => by
    obtain ⟨G0, O0, h0, h1⟩ := h
    rcases h1 with ⟨g', a, _, rfl, rfl⟩ | ⟨x, _, rfl, rfl⟩
    · rcases List.mem_append.1 hg with hg | hg
      · exact h0.zn g hg
      · obtain rfl := List.mem_singleton.1 hg
        exact lng_zn a
    · exact h0.zn g hg
theorem Rds.len {l : List ByteArray} : ∀ {i : Nat} {G : List Gt} {O : List Int}, Rds l i G O → G.length + O.length = i
  | 0, _, _, h => by obtain ⟨rfl, rfl⟩ := h; rfl
  | i + 1, _, _, h => by
    obtain ⟨G0, O0, h0, h1⟩ := h
    have := h0.len
    rcases h1 with ⟨g', _, rfl, rfl, rfl⟩ | ⟨x, _, rfl, rfl⟩
    · simp at this ⊢; omega
    · simp; omega
theorem okG_nmz {G : List Gt} (h : ∀ g ∈ G, g.k = 2 ∨ g.k = 6 ∨ g.n = 0) (n : Nat) : okG (G.map nmg) n ↔ okG G n := by
  have hg : ∀ i, (gt G i).k = 2 ∨ (gt G i).k = 6 ∨ (gt G i).n = 0 := fun i => by
    by_cases hi : i < G.length
    · exact h _ (gt_mem hi)
    · refine .inr (.inr ?_)
      unfold gt
      rw [List.getD_eq_getElem?_getD, List.getElem?_eq_none (by omega)]
      rfl
  constructor
  · intro e i hi
    have := e i hi
    rw [gt_map] at this
    exact (okg_nmz (hg i)).1 this
  · intro e i hi
    rw [gt_map]
    exact (okg_nmz (hg i)).2 (e i hi)
theorem cke_nm {G : List Gt} {O : List Int} {n m : Nat} {r : Int} (h : ∀ g ∈ G, g.k = 2 ∨ g.k = 6 ∨ g.n = 0) : Cke (G.map nmg) O n m r ↔ Cke G O n m r := by
  unfold Cke
  rw [okG_nmz h]
theorem gbd_nm {G : List Gt} (h : ∀ g ∈ G, gbd g) : ∀ g ∈ G.map nmg, gbd g := fun g hg => by
  obtain ⟨g', hg', rfl⟩ := List.mem_map.1 hg
  have h1 := h g' hg'
  have h2 := nm_bd g'.n
  unfold gbd at h1 ⊢
  unfold nmg
  simp only
  omega
theorem gcs_len4 (G : List Gt) : (G.map nmg).length = G.length := List.length_map ..
/-- The lines behind the first i. -/
def Rst (s : ByteArray) (i : Nat) (r : ByteArray) : Prop := ∃ P, lns s = P ++ lns r ∧ P.length = i
theorem Rst.start (s : ByteArray) : Rst s 0 s := ⟨[], rfl, rfl⟩
theorem Rst.last {s r : ByteArray} {i : Nat} (h : Rst s i r) (hr : lns r = [r]) : lnn s = i ∧ tx (lns s) (lnn s) = r := by
  obtain ⟨P, h1, rfl⟩ := h
  have e : lnn s = P.length := by unfold lnn; rw [h1, hr]; simp
  refine ⟨e, ?_⟩
  rw [e, h1, hr]
  simp [tx]
theorem Rst.next {s r t u : ByteArray} {i : Nat} (h : Rst s i r) (hr : lns r = t :: lns u) : Rst s (i + 1) u ∧ tx (lns s) i = t ∧ i < lnn s := by
  obtain ⟨P, h1, rfl⟩ := h
  refine ⟨⟨P ++ [t], by rw [h1, hr]; simp, by simp⟩, ?_, ?_⟩
  · rw [h1, hr]
    simp [tx]
  · have := lns_len u
    unfold lnn
    rw [h1, hr]
    simp
    omega
theorem lns_mt : lns mt = [mt] := rfl
/-- What Parse answers: gates with their numbers' rests. -/
def Prn (s : ByteArray) (w : World) (e : Ending) (w' : World) : Prop :=
  ∃ (ag : Option Addr) (cg : Nat) (ao : Option Addr) (co at_ : Nat) (r : Int) (G : List Gt) (O : List Int), e = .returned (.tuple #[.agg #[.slice ag G.length cg, .slice ao O.length co], .int .i64 (at_ : Int), .int .i64 r]) ∧ Par s G O at_ r ∧
    w'.ownsRow w.heap.size 43 4 (.slice ag G.length cg) G.length (gcs (G.map nmg)) ∧ w'.ownsRow w.heap.size 3 1 (.slice ao O.length co) O.length (zns O) ∧ Below w.heap.size w w'
theorem Prn.err {s : ByteArray} {w w' : World} {r : Int} {n : Nat} (h : Par s [] [] n r) (hb : Below w.heap.size w w') : Prn s w (.returned (.tuple #[.agg #[.slice none 0 0, .slice none 0 0], .int .i64 (n : Int), .int .i64 r])) w' :=
  ⟨none, 0, none, 0, n, r, [], [], rfl, h, World.ownsRow_nil _ _ _ _, World.ownsRow_nil _ _ _ _, hb⟩
end Go.Proofs.YtmpnaobjgknfkafDoor

namespace Go.Proofs.YtmpnaobjgknfkafDoor
open Go.RowKit Crm

/-- What Inputs answers. -/
def Cin (G : List Gt) (O : List Int) (n m : Nat) (w : World) (e : Ending) (w' : World) : Prop :=
  ((∃ r, r ≠ 0 ∧ Cke G O n m r ∧ e = .returned (.tuple #[.slice none 0 0, .int .i64 r])) ∨
   (Cke G O n m 0 ∧ ∃ v, e = .returned (.tuple #[v, .int .i64 0]) ∧ w'.ownsRow w.heap.size 3 1 v (ci G n) (zns (whl G n)))) ∧ Below w.heap.size w w'
/-- What is wrong with a circuit and its inputs. -/
def Cre (G : List Gt) (O : List Int) (n m q : Nat) (r : Int) : Prop :=
  (r ≠ 0 ∧ Cke G O n m r) ∨ (Cke G O n m 0 ∧ ((q ≠ ci G n ∧ r = 5) ∨ (q = ci G n ∧ r = 0)))
theorem Cre.one {G : List Gt} {O : List Int} {n m q : Nat} {r s : Int} (h : Cre G O n m q r) (k : Cre G O n m q s) : r = s := by
  rcases h with ⟨h1, h2⟩ | ⟨h1, ⟨h2, rfl⟩ | ⟨h2, rfl⟩⟩ <;> rcases k with ⟨k1, k2⟩ | ⟨k1, ⟨k2, rfl⟩ | ⟨k2, rfl⟩⟩
  all_goals first
    | rfl
    | exact h2.one k2
    | exact absurd (h2.one k1) h1
    | exact absurd (k2.one h1) k1
    | exact absurd k2 h2
    | exact absurd h2 k2
theorem Cre.ok {G : List Gt} {O : List Int} {n m q : Nat} (h : Cre G O n m q 0) : Cke G O n m 0 ∧ q = ci G n := by
  rcases h with ⟨h1, _⟩ | ⟨h1, ⟨_, h2⟩ | ⟨h2, _⟩⟩
  · exact absurd rfl h1
  · omega
  · exact ⟨h1, h2⟩
/-- What Run answers. -/
def Crn (G : List Gt) (O ins : List Int) (n m q : Nat) (w : World) (e : Ending) (w' : World) : Prop :=
  ((∃ r, r ≠ 0 ∧ Cre G O n m q r ∧ e = .returned (.tuple #[.slice none 0 0, .int .i64 r])) ∨
   (Cre G O n m q 0 ∧ ∃ v, e = .returned (.tuple #[v, .int .i64 0]) ∧ w'.ownsRow w.heap.size 37 1 v m ((otl G O ins m).map (Value.int .u64)))) ∧ Below w.heap.size w w'
end Go.Proofs.YtmpnaobjgknfkafDoor
