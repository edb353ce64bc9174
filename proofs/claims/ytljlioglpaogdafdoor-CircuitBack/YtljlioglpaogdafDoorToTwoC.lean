/- NEWTON: a polynomial made share by share. Plain but for the list of shares. · Shares of a secret: plain facts. · poly.trim, poly.normal. · shamir.Deal. · Package numeral: read, ReadAll. · What is printed is read as it was: plain facts. · The first piece of a text and the rest: plain facts. · strings.Split at one blank, strings.Cut at a byte 10: strings.Index, strings.Count at one byte and genSplit off the shelf. · Two lists of shares that a call gathers in turn; one behind the other. -/
import Derived.Test.YtljlioglpaogdafDoorToNumbC
import Derived.Test.YtljlioglpaogdafDoorPolyM
import Derived.Test.YtljlioglpaogdafDoorSlice
import Derived.Laws.AppendOwnNone
import Derived.Deep.RegionWith
import Derived.Test.YtljlioglpaogdafDoorParM
import Derived.Lib.Bytealg
import Derived.Lib.IndexLaws
import Derived.Lib.IndexBytes
import Derived.Lib.SplitLaws
import Derived.Lib.Strings
import Derived.Test.YtljlioglpaogdafDoorShLay
import Derived.BigRegion
namespace Go.Proofs.YtljlioglpaogdafDoor
set_option linter.unusedVariables false
set_option maxRecDepth 100000
set_option maxHeartbeats 8000000
section
open Crm
theorem ats_apart {l : List (Int × Int)} {n i j : Nat} (h : okk l n) (hi : i < n) (hj : j < n) (hij : i ≠ j) : nm ((l.getD i (0, 0)).1 - (l.getD j (0, 0)).1) ≠ 0 := by
  have h1 := (h i hi).1
  have h2 := (h j hj).1
  have h3 : (l.getD i (0, 0)).1 ≠ (l.getD j (0, 0)).1 := by
    rcases Nat.lt_or_ge i j with hlt | hge
    · exact (h j hj).2 i hlt
    · exact fun e => (h i hi).2 j (by omega) e.symm
  unfold nm
  omega

/-- The places, one by one. -/
def ats (l : List (Int × Int)) : List Int := l.map Prod.fst
theorem ats_pair {l : List (Int × Int)} {n : Nat} (hl : l.length = n) (h : okk l n) : (ats l).Pairwise (fun a b => nm (a - b) ≠ 0) := by
  unfold ats
  rw [List.pairwise_map, List.pairwise_iff_getElem]
  intro i j hi hj hij
  have := ats_apart h (show i < n by omega) (show j < n by omega) (by omega)
  simpa [List.getElem?_eq_getElem hi, List.getElem?_eq_getElem hj] using this
theorem ats_mem {l : List (Int × Int)} {c : Int} (h : c ∈ ats l) : ∃ j, j < l.length ∧ (l.getD j (0, 0)).1 = c := by
  obtain ⟨p, hp, rfl⟩ := List.mem_map.1 h
  obtain ⟨j, hj, rfl⟩ := List.getElem_of_mem hp
  exact ⟨j, hj, by simp [List.getElem?_eq_getElem hj]⟩
theorem ats_len (l : List (Int × Int)) : (ats l).length = l.length := by simp [ats]
/-- Through the shares goes one polynomial of no more numbers than they are. -/
theorem one_through {l : List (Int × Int)} {n : Nat} {p q : List Int} (hl : l.length = n) (h : okk l n) (hp : p.length ≤ n) (hq : q.length ≤ n)
    (h1 : ∀ j, j < n → nm (ev p (l.getD j (0, 0)).1) = nm (l.getD j (0, 0)).2) (h2 : ∀ j, j < n → nm (ev q (l.getD j (0, 0)).1) = nm (l.getD j (0, 0)).2) : nrm p = nrm q := by
  refine same_poly (ats_pair hl h) (fun c hc => ?_) (by rw [ats_len]; omega) (by rw [ats_len]; omega)
  obtain ⟨j, hj, rfl⟩ := ats_mem hc
  rw [h1 j (by omega), h2 j (by omega)]
/-- The first k numbers are parties, no two of them one. -/
def dis (f : Nat → Int) (k : Nat) : Prop := ∀ i, i < k → (1 ≤ f i ∧ f i ≤ 9) ∧ ∀ j, j < i → f j ≠ f i
/-- No more than there are numbers. -/
theorem pigeon : ∀ (m k : Nat) (f : Nat → Int), (∀ i, i < k → 1 ≤ f i ∧ f i ≤ (m : Int)) → (∀ i, i < k → ∀ j, j < i → f j ≠ f i) → k ≤ m
  | 0, k, f, h, _ => by
    cases k with
    | zero => omega
    | succ k => have := h 0 (by omega); omega
  | m + 1, k, f, h, hd => by
    by_cases hz : ∃ i, i < k ∧ f i = (m : Int) + 1
    · obtain ⟨i, hi, he⟩ := hz
      have := pigeon m (k - 1) (fun j => if j < i then f j else f (j + 1)) (fun j hj => by
        split
        · rename_i hji
          have h1 := h j (by omega)
          have h2 := hd i hi j hji
          omega
        · have h1 := h (j + 1) (by omega)
          have h2 := hd (j + 1) (by omega) i (by omega)
          omega) (fun j hj q hq => by
        by_cases h1 : q < i
        · by_cases h2 : j < i
          · rw [if_pos h1, if_pos h2]; exact hd j (by omega) q hq
          · rw [if_pos h1, if_neg h2]; exact hd (j + 1) (by omega) q (by omega)
        · rw [if_neg h1, if_neg (by omega)]; exact hd (j + 1) (by omega) (q + 1) (by omega))
      omega
    · have := pigeon m k f (fun i hi => by
        have h1 := h i hi
        have h2 : f i ≠ (m : Int) + 1 := fun e => hz ⟨i, hi, e⟩
        omega) hd
      omega
theorem dis_nine {f : Nat → Int} {k : Nat} (h : dis f k) : k ≤ 9 := pigeon 9 k f (fun i hi => (h i hi).1) (fun i hi => (h i hi).2)

/-- At which party a share stands. -/
def fa (l : List (Int × Int)) (i : Nat) : Int := (l.getD i (0, 0)).1
theorem dis_okk {l : List (Int × Int)} {k : Nat} (h : dis (fa l) k) : okk l k := fun i hi => ⟨⟨(h i hi).1.1, by have := (h i hi).1.2; unfold fa at this; omega⟩, (h i hi).2⟩

/-- What is wrong with shares. -/
def She (l : List (Int × Int)) (n : Nat) (t r : Int) : Prop :=
  ((t < 0 ∨ 4 < t) ∧ r = 1) ∨ ((0 ≤ t ∧ t ≤ 4) ∧ ¬ dis (fa l) n ∧ r = 5) ∨ ((0 ≤ t ∧ t ≤ 4) ∧ dis (fa l) n ∧ (n : Int) ≤ t ∧ r = 4) ∨ ((0 ≤ t ∧ t ≤ 4) ∧ dis (fa l) n ∧ t < (n : Int) ∧ r = 0)
theorem She.one {l : List (Int × Int)} {n : Nat} {t r s : Int} (h : She l n t r) (k : She l n t s) : r = s := by
  rcases h with ⟨h1, h2⟩ | ⟨h1, h3, h2⟩ | ⟨h1, h3, h4, h2⟩ | ⟨h1, h3, h4, h2⟩ <;> rcases k with ⟨k1, k2⟩ | ⟨k1, k3, k2⟩ | ⟨k1, k3, k4, k2⟩ | ⟨k1, k3, k4, k2⟩ <;> first | omega | exact absurd k3 h3 | exact absurd h3 k3
theorem She.bd {l : List (Int × Int)} {n : Nat} {t r : Int} (h : She l n t r) : 0 ≤ r ∧ r ≤ 5 := by
  rcases h with ⟨_, h2⟩ | ⟨_, _, h2⟩ | ⟨_, _, _, h2⟩ | ⟨_, _, _, h2⟩ <;> omega
theorem She.ok {l : List (Int × Int)} {n : Nat} {t : Int} (h : She l n t 0) : 0 ≤ t ∧ t ≤ 4 ∧ dis (fa l) n ∧ t < (n : Int) ∧ n ≤ 9 := by
  rcases h with ⟨_, h2⟩ | ⟨_, _, h2⟩ | ⟨_, _, _, h2⟩ | ⟨h1, h3, h4, _⟩
  · omega
  · omega
  · omega
  · exact ⟨h1.1, h1.2, h3, h4, dis_nine h3⟩

/-- S has the first n shares. -/
def Hs (l : List (Int × Int)) (n : Nat) (S : List Int) : Prop := ∀ j, j < n → nm (ev S (l.getD j (0, 0)).1) = nm (l.getD j (0, 0)).2
/-- What Open tells. -/
def Opn (l : List (Int × Int)) (n : Nat) (t x r : Int) : Prop :=
  (She l n t r ∧ r ≠ 0 ∧ x = 0) ∨ (She l n t 0 ∧ ((∃ S : List Int, (S.length : Int) ≤ t + 1 ∧ Hs l n S ∧ x = nm (ev S 0) ∧ r = 0) ∨ ((∀ S : List Int, (S.length : Int) ≤ t + 1 → ¬ Hs l n S) ∧ x = 0 ∧ r = 6)))

/-- One polynomial of no more numbers than there are shares. -/
theorem hs_one {l : List (Int × Int)} {n : Nat} {S R : List Int} (ho : okk l n) (h : Hs l n S) (k : Hs l n R) (h1 : S.length ≤ n) (k1 : R.length ≤ n) : nrm S = nrm R := by
  have hw : ∀ j, j < n → ((List.range n).map fun i => l.getD i (0, 0)).getD j (0, 0) = l.getD j (0, 0) := fun j hj => by simp [hj]
  refine one_through (l := (List.range n).map fun i => l.getD i (0, 0)) (n := n) (by simp) (fun i hi => ?_) h1 k1 (fun j hj => ?_) (fun j hj => ?_)
  · rw [hw i hi]
    refine ⟨(ho i hi).1, fun j hj => ?_⟩
    rw [hw j (by omega)]
    exact (ho i hi).2 j hj
  · rw [hw j hj]; exact h j hj
  · rw [hw j hj]; exact k j hj
theorem ev_one {S R : List Int} (h : nrm S = nrm R) (x : Int) : nm (ev S x) = nm (ev R x) := by rw [← nrm_ev S, h, nrm_ev]

theorem Opn.one {l : List (Int × Int)} {n : Nat} {t x r y s : Int} (h : Opn l n t x r) (k : Opn l n t y s) : x = y ∧ r = s := by
  rcases h with ⟨h1, h2, h3⟩ | ⟨h1, h2⟩ <;> rcases k with ⟨k1, k2, k3⟩ | ⟨k1, k2⟩
  · exact ⟨by omega, h1.one k1⟩
  · exact absurd (h1.one k1) h2
  · exact absurd (k1.one h1) k2
  · obtain ⟨_, _, h4, h5, _⟩ := h1.ok
    rcases h2 with ⟨S, s1, s2, s3, s4⟩ | ⟨s1, s2, s3⟩ <;> rcases k2 with ⟨R, r1, r2, r3, r4⟩ | ⟨r1, r2, r3⟩
    · exact ⟨by rw [s3, r3]; exact ev_one (hs_one (dis_okk h4) s2 r2 (by omega) (by omega)) 0, by omega⟩
    · exact absurd s2 (r1 S s1)
    · exact absurd r2 (s1 R r1)
    · exact ⟨by omega, by omega⟩

/-- By what the number of party i is multiplied. -/
def Wgt (ts : List Int) (n i : Nat) (x : Int) : Prop := ∃ Q : List Int, Q.length ≤ n ∧ (∀ j, j < n → nm (ev Q (ts.getD j 0)) = if j = i then 1 else 0) ∧ x = nm (ev Q 0)
def fi (ts : List Int) (i : Nat) : Int := ts.getD i 0
theorem Wgt.one {ts : List Int} {n i : Nat} {x y : Int} (hd : dis (fi ts) n) (h : Wgt ts n i x) (k : Wgt ts n i y) : x = y := by
  obtain ⟨Q, q1, q2, rfl⟩ := h
  obtain ⟨R, r1, r2, rfl⟩ := k
  have hw : ∀ j, j < n → ((List.range n).map fun k => (ts.getD k 0, if k = i then (1 : Int) else 0)).getD j (0, 0) = (ts.getD j 0, if j = i then (1 : Int) else 0) := fun j hj => by simp [hj]
  refine ev_one (hs_one (l := (List.range n).map fun k => (ts.getD k 0, if k = i then (1 : Int) else 0)) (n := n) (fun j hj => ?_) (fun j hj => ?_) (fun j hj => ?_) q1 r1) 0
  · rw [hw j hj]
    refine ⟨⟨(hd j hj).1.1, by have := (hd j hj).1.2; unfold fi at this; simp only; omega⟩, fun q hq => ?_⟩
    rw [hw q (by omega)]
    exact (hd j hj).2 q hq
  · rw [hw j hj]
    simp only
    rw [q2 j hj]; split <;> decide
  · rw [hw j hj]
    simp only
    rw [r2 j hj]; split <;> decide
end
section
open Crm Go.RowKit
/-- The first k numbers of L are those of nz xs, the rest 0. -/
theorem info37 : (Tryd.prog.info? 37).map (fun i => (i.zero, i.size, i.bytes)) = some (some (.int .u64 0), 1, 8) := by kernel_rfl
/-- A list that is filled from its beginning on. -/
def fil (f : Nat → Int) (n k : Nat) : List Int := (List.range n).map fun i => if i < k then f i else 0
theorem fil_len (f : Nat → Int) (n k : Nat) : (fil f n k).length = n := by simp [fil]
theorem fil_zero (f : Nat → Int) (n : Nat) : List.replicate n 0 = fil f n 0 := by
  refine list_ext (by simp [fil]) fun t ht => ?_
  have : t < n := by simpa using ht
  simp [fil, this]
theorem fil_set {f : Nat → Int} {n k : Nat} {v : Int} (hv : v = f k) : (fil f n k).set k v = fil f n (k + 1) := by
  refine list_ext (by simp [fil]) fun t ht => ?_
  have htn : t < n := by simpa [fil] using ht
  rw [getD_set, fil_len]
  by_cases e : k = t
  · subst e
    rw [if_pos ⟨rfl, htn⟩, hv]
    simp [fil, htn]
  · rw [if_neg (fun h => e h.1)]
    have : (t < k + 1) = (t < k) := by apply propext; omega
    simp [fil, htn, this]
theorem fil_full (f : Nat → Int) (n : Nat) : fil f n n = (List.range n).map f := by
  refine list_ext (by simp [fil]) fun t ht => ?_
  have htn : t < n := by simpa [fil] using ht
  simp [fil, htn]
/-- What is dealt. -/
def dlf (C : List Int) (i : Nat) : Int := nm (ev C ((i : Int) + 1))
def dl (C : List Int) (n : Nat) : List Int := (List.range n).map (dlf C)
/-- What readNumber answers. -/
def Rnb (s : ByteArray) (w : World) (e : Ending) (w' : World) : Prop := ((okd s ∧ e = .returned (.tuple #[.int .u64 (dgn s s.size), .bool true])) ∨ (¬ okd s ∧ e = .returned (.tuple #[.int .u64 0, .bool false]))) ∧ w' = w

theorem cNumber (s : ByteArray) (w : World) (hs : s.size ≤ 9223372036854775807) :
    Calls Tryd.prog 61 #[.string s] w fun e w' => Rnb s w e w' := by
  go_enter Tryd.func61, Tryd.ntmps61
  by_cases h1 : s.size < 1
  · have HN : Hid (¬ okd s) := fun o => by have := o.1; omega
    go_wp2
    go_ret2
    exact ⟨.inr ⟨HN.out, rfl⟩, rfl⟩
  by_cases h10 : 10 < s.size
  · have HN : Hid (¬ okd s) := fun o => by have := o.1; omega
    go_wp2
    go_ret2
    exact ⟨.inr ⟨HN.out, rfl⟩, rfl⟩
  by_cases hz : 1 < s.size ∧ bt s 0 = 48
  · have HN : Hid (¬ okd s) := fun o => o.2.2 hz
    have hix := fun w => bt_run (P := Tryd.prog) Tryd.underlying9 s (i := 0) (by omega) w
    rw [hz.2] at hix
    simp only [Int.natCast_zero] at hix
    have hz1 := hz.1
    clear hz
    go_wp2
    go_ret2
    exact ⟨.inr ⟨HN.out, rfl⟩, rfl⟩
  have HZ : Hid (¬ (1 < s.size ∧ bt s 0 = 48)) := hz
  obtain ⟨x, HX⟩ : ∃ x, Hid (bt s 0 = x) := ⟨_, rfl⟩
  have hx := bt_bd s 0
  have hix := fun w => bt_run (P := Tryd.prog) Tryd.underlying9 s (i := 0) (by omega) w
  rw [HX.out] at hx hix hz
  simp only [Int.natCast_zero] at hix
  have hlp : (1 < s.size ∧ (x == 48) = false) ∨ s.size = 1 := by
    by_cases e : 1 < s.size
    · exact .inl ⟨e, by rw [beq_eq_false_iff_ne]; exact fun e' => hz ⟨e, e'⟩⟩
    · exact .inr (by omega)
  clear hz
  rcases hlp with ⟨hp1, hp2⟩ | hp1
  all_goals
    go_wp2
    clear hix
    try clear hp2
    go_loopw [4, 26] (fun v i wr => ∃ k : Nat, k ≤ s.size ∧ i = .int .i64 k ∧ v = .int .u64 (dgn s k) ∧ Hid (dgs s k) ∧ wr = w) (fun _ i _ => 11 - (intOf i).toNat)
    case atStart => exact ⟨0, Nat.zero_le _, rfl, rfl, dgs_zero s, rfl⟩
    case round =>
      obtain ⟨k, hk, rfl, rfl, HD, rfl⟩ := hrel
      by_cases hlt : k < s.size
      · obtain ⟨x, HX⟩ : ∃ x, Hid (bt s k = x) := ⟨_, rfl⟩
        have hx := bt_bd s k
        have hix := fun w => bt_run (P := Tryd.prog) Tryd.underlying9 s hlt w
        rw [HX.out] at hx hix
        have hd := dgn_bd HD.out
        have ht := ten_le (k := k) (by omega)
        obtain ⟨d, Hd⟩ : ∃ d, Hid (dgn s k = d) := ⟨_, rfl⟩
        rw [Hd.out] at hd ⊢
        have hd2 : d ≤ 9999999999 := by omega
        have hd0 := hd.1
        clear hd ht
        have HN : Hid (x < 48 ∨ 57 < x → ¬ okd s) := fun e o => dgs_not hlt (by rw [HX.out]; exact e) o.2.1
        by_cases hlo : x < 48
        · go_wp2
          go_ret2
          exact ⟨.inr ⟨HN.out (.inl hlo), rfl⟩, rfl⟩
        · by_cases hhi : 57 < x
          · go_wp2
            go_ret2
            exact ⟨.inr ⟨HN.out (.inr hhi), rfl⟩, rfl⟩
          · have HD2 : Hid (dgs s (k + 1)) := dgs_succ HD.out (by rw [HX.out]; omega) (by rw [HX.out]; omega)
            have HV : Hid (dgn s (k + 1) = d * 10 + (x - 48)) := by unfold Hid; rw [dgn, Hd.out, HX.out]; omega
            go_wp2
            go_roundw
            case rel => exact ⟨k + 1, by omega, by go_num, by rw [HV.out], HD2, trivial⟩
            case measure => simp [intOf]; omega
      · have hks : k = s.size := by omega
        have hn1 : ¬ ((k : Int) < (s.size : Int)) := by omega
        have HY : Hid (okd s) := ⟨⟨by omega, by omega⟩, by rw [← hks]; exact HD.out, HZ.out⟩
        have HV : Hid (dgn s k = dgn s s.size) := by unfold Hid; rw [hks]
        go_wp2
        go_ret2
        exact ⟨.inl ⟨HY.out, by first | (rw [← HV.out]; rfl) | (rw [hp1]; rfl)⟩, rfl⟩
theorem cNumberY (s : ByteArray) (w : World) (hs : s.size ≤ 9223372036854775807) (h : okd s) :
    Calls Tryd.prog 61 #[.string s] w fun e w' => e = .returned (.tuple #[.int .u64 (dgn s s.size), .bool true]) ∧ w' = w := by
  refine (cNumber s w hs).mono ?_
  rintro e w' ⟨⟨_, he⟩ | ⟨h', _⟩, hw⟩
  · exact ⟨he, hw⟩
  · exact absurd h h'
theorem cNumberN (s : ByteArray) (w : World) (hs : s.size ≤ 9223372036854775807) (h : ¬ okd s) :
    Calls Tryd.prog 61 #[.string s] w fun e w' => e = .returned (.tuple #[.int .u64 0, .bool false]) ∧ w' = w := by
  refine (cNumber s w hs).mono ?_
  rintro e w' ⟨⟨h', _⟩ | ⟨_, he⟩, hw⟩
  · exact absurd h' h
  · exact ⟨he, hw⟩
/-- What readNumbers answers. -/
def Nmc (L : List ByteArray) (n : Nat) (w : World) (e : Ending) (w' : World) : Prop :=
  ((¬ okn L n ∧ e = .returned (.tuple #[.slice none 0 0, .bool false])) ∨ (okn L n ∧ ∃ g, e = .returned (.tuple #[.slice (some ⟨g, 0, none⟩) n n, .bool true]) ∧ w.heap.size ≤ g ∧ Blk w' g (nbl L n))) ∧ Below w.heap.size w w'

theorem cNumbers (a : Option Addr) (n c : Nat) (L : List ByteArray) (w : World) (h : RdT w a n c L) (hn : n ≤ 100000) :
    Calls Tryd.prog 44 #[.slice a n c] w fun e w' => Nmc L n w e w' := by
  obtain ⟨i0, hi0, hz0, hz1, hz2⟩ := info_parts info37
  have hcap := h.cap
  go_enter Tryd.func44, Tryd.ntmps44
  go_wp2_with (at_make; refine wpList_make_full _ rfl _ _ 34 rfl w.heap.size 37 i0 (.int .u64 0) 1 Tryd.underlying34 hi0 hz0 hz1 .i64 .i64 _ _ n rfl rfl (by omega) (by omega) (by rw [hz2]; omega) (by unfold maxLen; omega) (Nat.le_refl _) ?_; intro w2 hown hgrow)
  have hB2 : Blk w2 w.heap.size (fil (fun i => dgn (tx L i) (tx L i).size) n 0) := by rw [← fil_zero]; exact Blk.made hown
  have hb2 : Below w.heap.size w w2 := (Below.refl _ _).grown hgrow (Nat.le_refl _) (by simp)
  clear hown hgrow
  go_loopw [14] (fun i wr => ∃ k : Nat, k ≤ n ∧ i = .int .i64 k ∧ Hid (okn L k) ∧ Blk wr w.heap.size (fil (fun i => dgn (tx L i) (tx L i).size) n k) ∧ Below w.heap.size w wr) (fun i _ => n - (intOf i).toNat)
  case atStart => exact ⟨0, Nat.zero_le _, rfl, fun i hi => by omega, hB2, hb2⟩
  case round =>
    clear hB2 hb2
    obtain ⟨k, hk, rfl, HO, hB, hbel⟩ := hrel
    by_cases hlt : k < n
    · obtain ⟨b, o, x, rfl, hbb, HX, hxs, hc⟩ := (h.below hbel).one hlt
      by_cases hok : okd x
      · have hcell := hB.cell (i := k) (by rw [fil_len]; exact hlt)
        have hfz := hB.frozen k
        have hlt3 := hB.lt
        have hk0 : (0 : Int) ≤ (k : Int) := by omega
        have hkn : (k : Int) < (n : Int) := by omega
        obtain ⟨d, Hd⟩ : ∃ d, Hid (dgn x x.size = d) := ⟨_, rfl⟩
        have hset := hB.set k d
        rw [fil_set (by show d = dgn (tx L k) (tx L k).size; rw [HX.out, Hd.out])] at hset
        have Hbl : Hid (Blk _ _ _) := hset
        have HO2 : Hid (okn L (k + 1)) := okn_succ HO.out (by rw [HX.out]; exact hok)
        have Hb5 : Hid (Below w.heap.size w (wr.setCell ⟨w.heap.size, k, none⟩ (.int .u64 d))) := hbel.setCell (Nat.le_refl _) _
        have HOK : Hid (okd x) := hok
        clear hB hset hbel hok
        go_wp2_with (go_at_call 61; refine (cNumberY _ _ hxs HOK.out).mono ?_; rintro e w' ⟨rfl, hw⟩; have hw := hw.symm; subst hw; rw [Hd.out])
        go_roundw
        case rel => exact ⟨k + 1, by omega, by go_num, HO2, Hbl.out, Hb5.out⟩
        case measure => simp [intOf]; omega
      · have HN : Hid (¬ okn L n) := fun e => hok (by rw [← HX.out]; exact e k hlt)
        have HOK : Hid (¬ okd x) := hok
        clear hok
        go_wp2_with (go_at_call 61; refine (cNumberN _ _ hxs HOK.out).mono ?_; rintro e w' ⟨rfl, hw⟩; have hw := hw.symm; subst hw)
        go_ret2
        exact ⟨.inl ⟨HN.out, rfl⟩, hbel⟩
    · have hkn : k = n := by omega
      subst hkn
      rw [fil_full] at hB
      go_wp2
      go_ret2
      exact ⟨.inr ⟨HO.out, _, rfl, Nat.le_refl _, hB⟩, hbel⟩
end
section
open Crm
/-- Bytes as a text. -/
def toB (l : List UInt8) : ByteArray := ⟨l.toArray⟩
theorem toB_size (l : List UInt8) : (toB l).size = l.length := by simp [toB, ByteArray.size]
theorem toB_app (l m : List UInt8) : toB l ++ toB m = toB (l ++ m) := by
  apply ByteArray.ext
  rw [ByteArray.data_append]
  simp [toB]
theorem toB_list (s : ByteArray) : toB s.data.toList = s := by simp [toB]
theorem bt_toB (l : List UInt8) {i : Nat} (h : i < l.length) : bt (toB l) i = ((l[i]'h).toNat : Int) := by
  have h' : i < (toB l).size := by rw [toB_size]; exact h
  rw [← bt_get _ h']
  rfl
theorem toB_ext (l : List UInt8) {i : Nat} (h : i < l.length) : (toB l).extract i (i + 1) = toB [l[i]'h] := by
  apply ByteArray.ext
  rw [ByteArray.data_extract]
  apply Array.ext'
  rw [Array.toList_extract]
  show (l.drop i).take (i + 1 - i) = [l[i]]
  rw [Nat.add_sub_cancel_left, List.drop_eq_getElem_cons h]
  rfl
/-- Pieces, byte by byte. -/
def pst (b : Int) (P : List (List UInt8)) (c : UInt8) : List (List UInt8) := if (c.toNat : Int) = b then P ++ [[]] else P.set (P.length - 1) (P.getD (P.length - 1) [] ++ [c])
def pll (b : Int) (l : List UInt8) : List (List UInt8) := l.foldl (pst b) [[]]
theorem pst_no {b : Int} {c : UInt8} (A : List (List UInt8)) (h : List UInt8) (hc : (c.toNat : Int) ≠ b) : pst b (A ++ [h]) c = A ++ [h ++ [c]] := by
  unfold pst
  rw [if_neg hc]
  simp
theorem pst_yes {b : Int} {c : UInt8} (P : List (List UInt8)) (hc : (c.toNat : Int) = b) : pst b P c = P ++ [[]] := by unfold pst; rw [if_pos hc]
theorem pll_run {b : Int} : ∀ (xs : List UInt8) (A : List (List UInt8)) (h : List UInt8), (∀ c ∈ xs, (c.toNat : Int) ≠ b) → xs.foldl (pst b) (A ++ [h]) = A ++ [h ++ xs]
  | [], A, h, _ => by simp
  | c :: xs, A, h, hx => by
    rw [List.foldl_cons, pst_no A h (hx c (by simp)), pll_run xs A (h ++ [c]) (fun d hd => hx d (by simp [hd]))]
    simp
theorem pll_cut {b : Int} {c : UInt8} (xs : List UInt8) (A : List (List UInt8)) (hx : ∀ d ∈ xs, (d.toNat : Int) ≠ b) (hc : (c.toNat : Int) = b) : (xs ++ [c]).foldl (pst b) (A ++ [[]]) = A ++ [xs] ++ [[]] := by
  rw [List.foldl_append, pll_run xs A [] hx, List.nil_append, List.foldl_cons, List.foldl_nil, pst_yes _ hc]
theorem pcs_toB (b : Int) (l : List UInt8) : ∀ k, k ≤ l.length → pcs (toB l) b k = (pll b (l.take k)).map toB
  | 0, _ => rfl
  | k + 1, hk => by
    have ih := pcs_toB b l k (by omega)
    have e : pll b (l.take (k + 1)) = pst b (pll b (l.take k)) (l[k]'hk) := by
      unfold pll
      rw [List.take_succ_eq_append_getElem hk, List.foldl_append]
      rfl
    rw [pcs, e, bt_toB l hk, ih]
    unfold pst
    split
    · simp [toB, mt]
    · rw [List.map_set, toB_ext l hk]
      congr 1
      · simp
      · rw [← toB_app]
        congr 1
        simp [List.getD_eq_getElem?_getD, List.getElem?_map]
        cases (pll b (l.take k))[(pll b (l.take k)).length - 1]? <;> rfl
theorem pcs_all (b : Int) (l : List UInt8) : pcs (toB l) b (toB l).size = (pll b l).map toB := by
  rw [toB_size, pcs_toB b l l.length (Nat.le_refl _), List.take_length]
/-- A text of lines. -/
def txt (L : List (List UInt8)) : List UInt8 := L.flatMap fun x => x ++ [10]
theorem pll_txt : ∀ (L : List (List UInt8)) (A : List (List UInt8)), (∀ x ∈ L, ∀ d ∈ x, (d.toNat : Int) ≠ 10) → (txt L).foldl (pst 10) (A ++ [[]]) = A ++ L ++ [[]]
  | [], A, _ => by simp [txt]
  | x :: L, A, h => by
    have e : txt (x :: L) = (x ++ [10]) ++ txt L := by simp [txt]
    rw [e, List.foldl_append, pll_cut x A (h x (by simp)) (by decide), pll_txt L (A ++ [x]) (fun y hy => h y (by simp [hy]))]
    simp
theorem lns_txt {L : List (List UInt8)} (h : ∀ x ∈ L, ∀ d ∈ x, (d.toNat : Int) ≠ 10) : lns (toB (txt L)) = L.map toB ++ [mt] := by
  unfold lns
  rw [pcs_all]
  have := pll_txt L [] h
  unfold pll
  rw [List.nil_append] at this
  rw [this]
  simp [toB, mt]
theorem lnn_txt {L : List (List UInt8)} (h : ∀ x ∈ L, ∀ d ∈ x, (d.toNat : Int) ≠ 10) : lnn (toB (txt L)) = L.length := by
  unfold lnn
  rw [lns_txt h]
  simp
theorem tx_txt {L : List (List UInt8)} (h : ∀ x ∈ L, ∀ d ∈ x, (d.toNat : Int) ≠ 10) {i : Nat} (hi : i < L.length) : tx (lns (toB (txt L))) i = toB (L.getD i []) := by
  rw [lns_txt h]
  unfold tx
  rw [List.getD_eq_getElem?_getD, List.getElem?_append_left (by simpa using hi), List.getElem?_map, List.getElem?_eq_getElem hi, List.getD_eq_getElem?_getD, List.getElem?_eq_getElem hi]
  rfl
theorem tx_last {L : List (List UInt8)} (h : ∀ x ∈ L, ∀ d ∈ x, (d.toNat : Int) ≠ 10) : tx (lns (toB (txt L))) L.length = mt := by
  rw [lns_txt h]
  simp [tx]
/-- A line of words. -/
theorem wds_two {a b : List UInt8} (ha : ∀ d ∈ a, (d.toNat : Int) ≠ 32) (hb : ∀ d ∈ b, (d.toNat : Int) ≠ 32) : wds (toB (a ++ [32] ++ b)) = [toB a, toB b] := by
  unfold wds
  rw [pcs_all]
  unfold pll
  have := pll_cut (b := 32) (c := 32) a [] ha (by decide)
  rw [List.nil_append] at this
  rw [List.foldl_append, this, pll_run b _ _ hb]
  simp
theorem wds_three {a b c : List UInt8} (ha : ∀ d ∈ a, (d.toNat : Int) ≠ 32) (hb : ∀ d ∈ b, (d.toNat : Int) ≠ 32) (hc : ∀ d ∈ c, (d.toNat : Int) ≠ 32) : wds (toB (a ++ [32] ++ b ++ [32] ++ c)) = [toB a, toB b, toB c] := by
  unfold wds
  rw [pcs_all]
  unfold pll
  have h1 := pll_cut (b := 32) (c := 32) a [] ha (by decide)
  rw [List.nil_append] at h1
  have h2 := pll_cut (b := 32) (c := 32) b [a] hb (by decide)
  have e : a ++ [32] ++ b ++ [32] ++ c = (a ++ [32]) ++ ((b ++ [32]) ++ c) := by simp
  rw [e, List.foldl_append, h1, List.foldl_append]
  have h2' : (b ++ [32]).foldl (pst 32) ([] ++ [a] ++ [[]]) = [a] ++ [b] ++ [[]] := h2
  rw [h2', pll_run c _ _ hc]
  simp

/-- Digits of a number. -/
def dd (u : Nat) : List UInt8 := Lib.decDigits u
theorem dd_lo {u : Nat} (h : u < 10) : dd u = [UInt8.ofNat (48 + u)] := Lib.decDigits_one h
theorem dd_hi {u : Nat} (h : ¬ u < 10) : dd u = dd (u / 10) ++ [UInt8.ofNat (48 + u % 10)] := by
  unfold dd
  rw [Lib.decDigits, dif_neg h]
theorem byte_of {k : Nat} (h : k < 10) : ((UInt8.ofNat (48 + k)).toNat : Int) = 48 + (k : Int) := by
  have : (UInt8.ofNat (48 + k)).toNat = 48 + k := by
    rw [UInt8.toNat_ofNat']
    omega
  omega
theorem dd_digit (u : Nat) : ∀ c ∈ dd u, 48 ≤ (c.toNat : Int) ∧ (c.toNat : Int) ≤ 57 := by
  induction u using Nat.strongRecOn with
  | _ u ih =>
    intro c hc
    by_cases h : u < 10
    · rw [dd_lo h] at hc
      obtain rfl := List.mem_singleton.1 hc
      rw [byte_of h]; omega
    · rw [dd_hi h] at hc
      rcases List.mem_append.1 hc with hc | hc
      · exact ih (u / 10) (by omega) c hc
      · obtain rfl := List.mem_singleton.1 hc
        rw [byte_of (by omega)]; omega
theorem dd_pos (u : Nat) : 1 ≤ (dd u).length := by
  by_cases h : u < 10
  · rw [dd_lo h]; exact Nat.le_refl 1
  · rw [dd_hi h]; simp
theorem dd_len : ∀ (k u : Nat), u < 10 ^ (k + 1) → (dd u).length ≤ k + 1
  | 0, u, h => by rw [dd_lo (by simpa using h)]; exact Nat.le_refl 1
  | k + 1, u, h => by
    by_cases h1 : u < 10
    · rw [dd_lo h1]; simp
    · rw [dd_hi h1]
      have := dd_len k (u / 10) (by rw [Nat.pow_succ] at h ⊢; omega)
      simp
      omega
theorem dgn_app (l m : List UInt8) : ∀ k, k ≤ l.length → dgn (toB (l ++ m)) k = dgn (toB l) k
  | 0, _ => rfl
  | k + 1, hk => by
    rw [dgn, dgn, dgn_app l m k (by omega), bt_toB l hk, bt_toB (l ++ m) (by simp; omega), List.getElem_append_left hk]
theorem dd_val (u : Nat) : dgn (toB (dd u)) (dd u).length = (u : Int) := by
  induction u using Nat.strongRecOn with
  | _ u ih =>
    by_cases h : u < 10
    · rw [dd_lo h]
      show dgn (toB [UInt8.ofNat (48 + u)]) (0 + 1) = _
      rw [dgn, dgn, bt_toB _ (by simp)]
      simp only [List.getElem_cons_zero]
      rw [byte_of h]
      omega
    · have h1 := ih (u / 10) (by omega)
      rw [dd_hi h, List.length_append, List.length_singleton, dgn, dgn_app _ _ _ (Nat.le_refl _), h1, bt_toB _ (by simp)]
      rw [List.getElem_append_right (Nat.le_refl _)]
      simp only [Nat.sub_self, List.getElem_cons_zero]
      rw [byte_of (by omega)]
      omega
theorem dd_first {u : Nat} (h : 1 ≤ u) : bt (toB (dd u)) 0 ≠ 48 := by
  induction u using Nat.strongRecOn with
  | _ u ih =>
    by_cases h1 : u < 10
    · rw [dd_lo h1, bt_toB _ (by simp)]
      simp only [List.getElem_cons_zero]
      rw [byte_of h1]
      omega
    · have h2 := ih (u / 10) (by omega) (by omega)
      have hp := dd_pos (u / 10)
      rw [dd_hi h1, bt_toB _ (by simp), List.getElem_append_left (by omega)]
      rw [bt_toB _ (by omega)] at h2
      exact h2
theorem dd_okd {u : Nat} (h : u < 10000000000) : okd (toB (dd u)) := by
  have hs := toB_size (dd u)
  refine ⟨⟨by rw [hs]; exact dd_pos u, by rw [hs]; exact dd_len 9 u (by simpa using h)⟩, fun i hi => ?_, fun e => ?_⟩
  · rw [hs] at hi
    rw [bt_toB _ hi]
    exact dd_digit u _ (List.getElem_mem _)
  · refine dd_first (u := u) ?_ e.2
    have h1 := e.1
    rw [hs] at h1
    rcases Nat.lt_or_ge u 10 with h2 | h2
    · rw [dd_lo h2] at h1; simp at h1
    · omega
theorem dd_dgn (u : Nat) : dgn (toB (dd u)) (toB (dd u)).size = (u : Int) := by rw [toB_size, dd_val]
theorem itb_dd (u : Nat) : itb (u : Int) = toB (dd u) := by
  unfold itb
  rw [Lib.itoa_nonneg]
  rfl
theorem dd_no32 (u : Nat) : ∀ d ∈ dd u, (d.toNat : Int) ≠ 32 := fun d hd => by have := dd_digit u d hd; omega
theorem dd_no10 (u : Nat) : ∀ d ∈ dd u, (d.toNat : Int) ≠ 10 := fun d hd => by have := dd_digit u d hd; omega
theorem pst_pre {b : Int} {c : UInt8} (A P : List (List UInt8)) (hP : P ≠ []) : pst b (A ++ P) c = A ++ pst b P c := by
  rcases List.eq_nil_or_concat P with e | ⟨Q, h, rfl⟩
  · exact absurd e hP
  · by_cases hc : (c.toNat : Int) = b
    · rw [pst_yes _ hc, pst_yes _ hc, List.append_assoc]
    · rw [List.concat_eq_append, ← List.append_assoc, pst_no _ _ hc, pst_no _ _ hc, List.append_assoc]
theorem pst_ne {b : Int} {c : UInt8} (P : List (List UInt8)) (hP : P ≠ []) : pst b P c ≠ [] := by
  unfold pst
  split
  · simp
  · intro e
    have := congrArg List.length e
    simp at this
    exact hP this
theorem pll_pre {b : Int} : ∀ (l : List UInt8) (A P : List (List UInt8)), P ≠ [] → l.foldl (pst b) (A ++ P) = A ++ l.foldl (pst b) P
  | [], _, _, _ => rfl
  | c :: l, A, P, hP => by
    rw [List.foldl_cons, List.foldl_cons, pst_pre A P hP]
    exact pll_pre l A _ (pst_ne P hP)
/-- Where a byte first is. -/
theorem ixb (c : UInt8) : ∀ l : List UInt8, (Lib.indexByte l c = -1 ∧ ∀ d ∈ l, (d.toNat : Int) ≠ (c.toNat : Int)) ∨ ∃ xs ys, l = xs ++ c :: ys ∧ (∀ d ∈ xs, (d.toNat : Int) ≠ (c.toNat : Int)) ∧ Lib.indexByte l c = (xs.length : Int)
  | [] => .inl ⟨rfl, fun d hd => by simp at hd⟩
  | d :: l => by
    by_cases e : d = c
    · subst e
      exact .inr ⟨[], l, rfl, fun d hd => by simp at hd, by simp [Lib.indexByte]⟩
    · have hne : (d.toNat : Int) ≠ (c.toNat : Int) := fun e' => e (UInt8.toNat_inj.1 (by omega))
      have hb : (d == c) = false := by rw [beq_eq_false_iff_ne]; exact e
      rcases ixb c l with ⟨h1, h2⟩ | ⟨xs, ys, h1, h2, h3⟩
      · refine .inl ⟨by simp [Lib.indexByte, hb, h1], fun x hx => ?_⟩
        rcases List.mem_cons.1 hx with rfl | hx
        · exact hne
        · exact h2 x hx
      · refine .inr ⟨d :: xs, ys, by rw [h1]; rfl, fun x hx => ?_, ?_⟩
        · rcases List.mem_cons.1 hx with rfl | hx
          · exact hne
          · exact h2 x hx
        · simp [Lib.indexByte, hb, h3]
theorem ext_list (s : ByteArray) (a b : Nat) : s.extract a b = toB ((s.data.toList.drop a).take (b - a)) := Lib.extract_eq s a b
/-- A text has the byte or hasn't. -/
theorem cut_cases (s : ByteArray) (c : UInt8) : (Lib.indexByte s.data.toList c = -1 ∧ pcs s (c.toNat : Int) s.size = [s]) ∨
    ∃ j, Lib.indexByte s.data.toList c = ((j : Nat) : Int) ∧ j < s.size ∧ pcs s (c.toNat : Int) s.size = s.extract 0 j :: pcs (s.extract (j + 1) s.size) (c.toNat : Int) (s.extract (j + 1) s.size).size := by
  obtain ⟨l, rfl⟩ : ∃ l, s = toB l := ⟨_, (toB_list s).symm⟩
  have hl : (toB l).data.toList = l := by simp [toB]
  rw [hl, pcs_all]
  rcases ixb c l with ⟨h1, h2⟩ | ⟨xs, ys, rfl, h2, h3⟩
  · refine .inl ⟨h1, ?_⟩
    have := pll_run l [] [] h2
    simp only [List.nil_append] at this
    unfold pll
    rw [this]
    rfl
  · refine .inr ⟨xs.length, h3, by rw [toB_size]; simp, ?_⟩
    have e1 : (toB (xs ++ c :: ys)).extract 0 xs.length = toB xs := by rw [ext_list, hl]; simp
    have e2 : (toB (xs ++ c :: ys)).extract (xs.length + 1) (toB (xs ++ c :: ys)).size = toB ys := by
      rw [ext_list, hl, toB_size]
      have : (xs ++ c :: ys).drop (xs.length + 1) = ys := by
        rw [List.drop_append]
        simp
      rw [this, List.take_of_length_le (by simp; omega)]
    rw [e1, e2, pcs_all]
    have e3 : pll (c.toNat : Int) (xs ++ c :: ys) = xs :: pll (c.toNat : Int) ys := by
      unfold pll
      have hc := pll_cut (b := (c.toNat : Int)) (c := c) xs [] h2 rfl
      simp only [List.nil_append] at hc
      rw [show xs ++ c :: ys = (xs ++ [c]) ++ ys by simp, List.foldl_append, hc, pll_pre ys [xs] [[]] (by simp)]
      rfl
    rw [e3]
    rfl
/-- strings.Split tells the pieces. -/
theorem split_pcs (c : UInt8) : ∀ (k : Nat) (s : ByteArray), s.data.toList.count c = k → Lib.splitB ⟨#[c]⟩ 0 k s = pcs s (c.toNat : Int) s.size
  | k, s, hk => by
    have hix : Lib.indexB s ⟨#[c]⟩ = Lib.indexByte s.data.toList c := Lib.index_one _ _
    rcases cut_cases s c with ⟨h1, h2⟩ | ⟨j, h1, hj, h2⟩
    · rw [h2, Lib.splitB_miss _ _ _ _ (by rw [hix]; exact h1)]
    · have hrest : (s.extract (j + 1) s.size).data.toList = s.data.toList.drop (j + 1) := by
        rw [Lib.extract_data, List.take_of_length_le]
        rw [List.length_drop, Array.length_toList]
        exact Nat.le_refl _
      obtain ⟨hat, hbe⟩ := Lib.indexByte_some h1
      have hcount : s.data.toList.count c = (s.data.toList.drop (j + 1)).count c + 1 := by
        have e := List.take_append_drop (j + 1) s.data.toList
        have hjl : j < s.data.toList.length := (List.getElem?_eq_some_iff.1 hat).1
        have e2 : (s.data.toList.take (j + 1)).count c = 1 := by
          rw [List.take_add_one, hat, List.count_append]
          have : (s.data.toList.take j).count c = 0 := by
            rw [List.count_eq_zero]
            intro hm
            obtain ⟨i, hi, he⟩ := List.getElem_of_mem hm
            have hij : i < j := by simp at hi; omega
            refine hbe i hij ?_
            rw [List.getElem?_eq_getElem (by simp at hi; omega)]
            simpa using he
          rw [this]
          simp
        have := congrArg (List.count c) e
        rw [List.count_append, e2] at this
        omega
      obtain ⟨k', rfl⟩ : ∃ k', k = k' + 1 := ⟨k - 1, by omega⟩
      have ih := split_pcs c k' (s.extract (j + 1) s.size) (by rw [hrest]; omega)
      have hh := Lib.splitB_hit ⟨#[c]⟩ 0 k' s j (by rw [hix]; exact h1)
      have hsz : (⟨#[c]⟩ : ByteArray).size = 1 := rfl
      rw [h2, hh, hsz, ih]
      rfl
end
section
open Crm Go.RowKit Go.Shelf
theorem infoS9 : (Tryd.prog.info? 9).map (fun i => (i.zero, i.size, i.bytes)) = some (some (.string ByteArray.empty), 1, 16) := by kernel_rfl
theorem count_pcs (c : UInt8) (s : ByteArray) : (pcs s (c.toNat : Int) s.size).length = s.data.toList.count c + 1 := by
  rw [← split_pcs c _ s rfl]
  refine Lib.splitB_all ⟨#[c]⟩ (Nat.le_refl 1) 0 _ s ?_
  exact Lib.count_one c _
theorem wds_len (s : ByteArray) : (wds s).length = s.data.toList.count 32 + 1 := count_pcs 32 s

theorem sSplit (s : ByteArray) (w : World) (hs : s.size ≤ 100000) :
    Calls Tryd.prog 43 #[.string s, .string ⟨#[32]⟩] w fun e w' => e = .returned (.slice (some ⟨w.heap.size, 0, none⟩) (wds s).length (wds s).length) ∧ w' = w.alloc (.cells ((wds s).map Value.string).toArray 9) := by
  have hl := wds_len s
  have hcb : Lib.countB s ⟨#[32]⟩ = s.data.toList.count 32 := Lib.count_one 32 _
  have hcl : s.data.toList.count 32 ≤ s.size := by
    have := List.count_le_length (a := (32 : UInt8)) (l := s.data.toList)
    rwa [Array.length_toList] at this
  have hC : Calls Tryd.prog 82 #[.string s, .string ⟨#[32]⟩] w fun e w' => e = .returned (.int .i64 (Lib.countB s ⟨#[32]⟩)) ∧ w' = w := by
    rw [hcb]
    exact Any.strings_Count_one Tryd.lays138 s 32 w
  have hI : ∀ (x : ByteArray) (c : Array Value), x.size ≤ s.size → Calls Tryd.prog 83 #[.string x, .string ⟨#[32]⟩] (w.alloc (.cells c 9)) fun e w' => e = .returned (.int .i64 (Lib.indexB x ⟨#[32]⟩)) ∧ w' = w.alloc (.cells c 9) := fun x c _ => by
    have e : Lib.indexB x ⟨#[32]⟩ = Lib.indexByte x.data.toList 32 := Lib.index_one _ _
    rw [e]
    exact Any.strings_Index_one Tryd.lays143 x 32 _
  have hG := Any.strings_genSplit_core Tryd.lays221 infoS9 s ⟨#[32]⟩ 0 (-1) (s.data.toList.count 32 + 1) w (by omega) (by decide) (Nat.zero_le _) hI hC (by decide) (by decide) (by rw [if_pos (by decide), hcb]; omega)
  rw [Nat.add_sub_cancel, split_pcs 32 _ s rfl] at hG
  have e2 : Lib.cellsOf (pcs s (((32 : UInt8).toNat : Nat) : Int) s.size) (s.data.toList.count 32 + 1) = ((wds s).map Value.string).toArray := by
    rw [← hl]
    exact Lib.cellsOf_full _
  rw [e2] at hG
  have hG' : Calls Tryd.prog 60 #[.string s, .string ⟨#[32]⟩, .int .i64 0, .int .i64 (-1)] w fun e w' => e = .returned (.slice (some ⟨w.heap.size, 0, none⟩) (wds s).length (wds s).length) ∧ w' = w.alloc (.cells ((wds s).map Value.string).toArray 9) := by
    refine hG.mono ?_
    rintro e w' ⟨rfl, rfl⟩
    exact ⟨by rw [hl]; show Ending.returned (Value.slice _ (wds s).length _) = _; rw [hl], rfl⟩
  clear hG hI hC e2 hcb hcl hl
  go_enter Tryd.func43, Tryd.ntmps43
  go_wp2_with (go_at_call 60; refine hG'.mono ?_; rintro e w' ⟨rfl, hw⟩; rw [hw])
  go_ret
  exact ⟨rfl, rfl⟩
/-- The pieces are read. -/
theorem rdT_alloc (w : World) (L : List ByteArray) (hl : L.length ≤ 200000) (hb : ∀ x ∈ L, x.size ≤ 9223372036854775807) : RdT (w.alloc (.cells (L.map Value.string).toArray 9)) (some ⟨w.heap.size, 0, none⟩) L.length L.length L := by
  refine ⟨rfl, Nat.le_refl _, by unfold maxLen; omega, by simp, fun i hi => ?_, fun x hx i hi => ?_⟩
  · unfold tx
    rw [List.getD_eq_getElem?_getD, List.getElem?_eq_getElem hi]
    exact hb _ (List.getElem_mem _)
  · obtain rfl := Option.some.inj hx
    rw [Addr.add_lit, Nat.zero_add, World.cell?_alloc_at _ _ _ _ rfl, List.getElem?_toArray, List.getElem?_map, List.getElem?_eq_getElem hi]
    unfold tx
    rw [List.getD_eq_getElem?_getD, List.getElem?_eq_getElem hi]
    rfl

theorem sCutN (s : ByteArray) (w : World) (h : Lib.indexByte s.data.toList 10 = -1) :
    Calls Tryd.prog 25 #[.string s, .string ⟨#[10]⟩] w fun e w' => e = .returned (.tuple #[.string s, .string ⟨#[]⟩, .bool false]) ∧ Below w.heap.size w w' := by
  have hI : ∀ W, Calls Tryd.prog 59 #[.string s, .string ⟨#[10]⟩] W fun e w' => e = .returned (.int .i64 (-1)) ∧ w' = W := fun W => by
    rw [← h]
    exact Any.stringslite_Index_one Tryd.lays219 s 10 W
  have hC : Calls Tryd.prog 42 #[.string s, .string ⟨#[10]⟩] w fun e w' => e = .returned (.tuple #[.string s, .string ⟨#[]⟩, .bool false]) ∧ Below w.heap.size w w' := by
    go_enter Tryd.func42, Tryd.ntmps42
    go_wp2_with (go_at_call 59; refine (hI _).mono ?_; rintro e w' ⟨rfl, hw⟩; have hw := hw.symm; subst hw)
    go_ret3
    exact ⟨rfl, Below.refl _ _⟩
  go_enter Tryd.func25, Tryd.ntmps25
  go_wp2_with (go_at_call 42; refine hC.mono ?_; rintro e w' ⟨rfl, hb⟩)
  go_ret3
  exact ⟨rfl, hb⟩
theorem sCutY (s : ByteArray) (j : Nat) (w : World) (h : Lib.indexByte s.data.toList 10 = (j : Int)) (hj : j < s.size) (hs : s.size ≤ 100000) :
    Calls Tryd.prog 25 #[.string s, .string ⟨#[10]⟩] w fun e w' => e = .returned (.tuple #[.string (s.extract 0 j), .string (s.extract (j + 1) s.size), .bool true]) ∧ Below w.heap.size w w' := by
  have hI : ∀ W, Calls Tryd.prog 59 #[.string s, .string ⟨#[10]⟩] W fun e w' => e = .returned (.int .i64 (j : Int)) ∧ w' = W := fun W => by
    rw [← h]
    exact Any.stringslite_Index_one Tryd.lays219 s 10 W
  have hC : Calls Tryd.prog 42 #[.string s, .string ⟨#[10]⟩] w fun e w' => e = .returned (.tuple #[.string (s.extract 0 j), .string (s.extract (j + 1) s.size), .bool true]) ∧ Below w.heap.size w w' := by
    have c1 : (0 : Int) ≤ ↑j := by omega
    have c2 : (↑j : Int) ≤ ↑s.size := by omega
    have c4 : (↑j + 1 : Int) ≤ ↑s.size := by omega
    have c5 : (0 : Int) ≤ ↑j + 1 := by omega
    go_enter Tryd.func42, Tryd.ntmps42
    go_wp2_with (go_at_call 59; refine (hI _).mono ?_; rintro e w' ⟨rfl, hw⟩; have hw := hw.symm; subst hw)
    go_region
    go_wp2
    go_ret3
    exact ⟨rfl, (Below.refl _ _).drew⟩
  go_enter Tryd.func25, Tryd.ntmps25
  go_wp2_with (go_at_call 42; refine hC.mono ?_; rintro e w' ⟨rfl, hb⟩)
  go_ret3
  exact ⟨rfl, hb⟩
end
section
open Crm Go.RowKit
/-- Two such lists, apart. -/
structure Two (w : World) (B : Nat) (E : TypeId) (v1 v2 : Value) (l1 l2 : List (Int × Int)) : Prop where
  o1 : w.ownsRow B E 2 v1 l1.length (shc l1)
  o2 : w.ownsRow B E 2 v2 l2.length (shc l2)
  ne : ∀ g, v1.ownBlock = some g → v2.ownBlock ≠ some g
theorem Two.start (w : World) (B : Nat) (E : TypeId) : Two w B E (.slice none 0 0) (.slice none 0 0) [] [] := ⟨World.ownsRow_nil _ _ _ _, World.ownsRow_nil _ _ _ _, fun g h => by simp [Value.ownBlock] at h⟩
theorem Two.add {w w' : World} {B : Nat} {E : TypeId} {v1 v2 v' : Value} {l1 l2 : List (Int × Int)} {p : Int × Int} (h : Two w B E v1 v2 l1 l2) (ho : w'.ownsRow B E 2 v' (l1.length + 1) (shc (l1 ++ [p]))) (hg : w.grownBy w' v1.ownBlock) (hat : v'.ownBlock = v1.ownBlock ∨ ∃ k, v'.ownBlock = some k ∧ w.heap.size ≤ k) : Two w' B E v' v2 (l1 ++ [p]) l2 := by
  refine ⟨by rw [List.length_append, List.length_singleton]; exact ho, h.o2.kept hg ?_, fun g h1 h2 => ?_⟩
  · cases hv : v1.ownBlock with
    | none => cases hv2 : v2.ownBlock <;> simp
    | some g => exact .inr (h.ne g hv)
  · rcases hat with hat | ⟨k, hk, hle⟩
    · exact h.ne g (by rw [← hat]; exact h1) h2
    · have h3 := (h.o2.lt g h2).2
      rw [hk] at h1
      have := Option.some.inj h1
      omega
theorem Two.below {w w' : World} {B : Nat} {E : TypeId} {v1 v2 : Value} {l1 l2 : List (Int × Int)} (h : Two w B E v1 v2 l1 l2) (hb : Below w.heap.size w w') : Two w' B E v1 v2 l1 l2 := ⟨own_below2 h.o1 hb, own_below2 h.o2 hb, h.ne⟩

/-- Lists of other elements lie elsewhere. -/
theorem own_apart {w : World} {B1 B2 n1 n2 z1 z2 : Nat} {E1 E2 : TypeId} {v1 v2 : Value} {xs ys : List Value} (h1 : w.ownsRow B1 E1 z1 v1 n1 xs) (h2 : w.ownsRow B2 E2 z2 v2 n2 ys) (hE : E1 ≠ E2) : v2.ownBlock = none ∨ v2.ownBlock ≠ v1.ownBlock := by
  rcases h2.2 with ⟨rfl, _⟩ | ⟨g, cap, cur, rfl, _, hg, _⟩
  · exact .inl rfl
  · right
    rcases h1.2 with ⟨rfl, _⟩ | ⟨g', cap', cur', rfl, _, hg', _⟩
    · simp [Value.ownBlock]
    · intro e
      simp [Value.ownBlock] at e
      subst e
      rw [hg] at hg'
      simp only [Option.some.injEq, Obj.cells.injEq] at hg'
      exact hE hg'.2.1.symm
end
end Go.Proofs.YtljlioglpaogdafDoor
