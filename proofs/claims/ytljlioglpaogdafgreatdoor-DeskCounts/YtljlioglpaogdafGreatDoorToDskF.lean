/- croftref.ReadCircuit: the switch over a line, taken out of the translation; what it leaves. · (*croftref.bench).circuit: what it answers. (Print of wip/tpl/gen/mkdc.py.) · (*croftref.bench).line: a bench, and what a line leaves of it. (Print of wip/tpl/gen/mkdl.py.) · (*croftref.bench).line: vWork. (Print of wip/tpl/gen/mkdl.py.) · append of a list that is read to one that the call gathers. · (*croftref.bench).line: a verb that is none. (Print of wip/tpl/gen/mkdl.py.) · A desk's line: how great its answer is, and what it leaves: plain. · croftref.Desk. · The texts that croftkeep.DeskHead and DeskCounts begin with. -/
import Derived.Test.YtljlioglpaogdafGreatDoorToParN
import Derived.Test.YtljlioglpaogdafGreatDoorToGRightC
import Derived.BigQuiet
import Derived.Deep.RegionWith
import Derived.Deep.DeepCutAuto
import Derived.Deep.CutRange
import Derived.Deep.LoopGhost
import Derived.Deep.CutBlock
import Derived.Test.YtljlioglpaogdafGreatDoorToDskN
import Derived.Test.YtljlioglpaogdafGreatDoorToRNumC
import Derived.Test.YtljlioglpaogdafGreatDoorToEnN
import Derived.Deep.RegionHeld3
import Derived.Test.YtljlioglpaogdafGreatDoorToShpM
import Derived.Test.YtljlioglpaogdafGreatDoorToOpenC
import Derived.Test.YtljlioglpaogdafGreatDoorToDecC
import Derived.Test.YtljlioglpaogdafGreatDoorToChkC
import Derived.Deep.RegionLaw
import Derived.Test.YtljlioglpaogdafGreatDoorToTwByM
namespace Go.Proofs.YtljlioglpaogdafGreatDoor
set_option linter.unusedVariables false
set_option maxRecDepth 100000
set_option maxHeartbeats 8000000
section
open Crm Go.RowKit
theorem Crd.start (w : World) (B : Nat) : Crd (w.alloc (.cells #[.slice none 0 0, .slice none 0 0] 73)) B w.heap.size none 0 0 none 0 0 [] [] :=
  ⟨CBox.new w none 0 0 none 0 0, rfl, rfl, World.ownsRow_nil _ _ _ _, World.ownsRow_nil _ _ _ _⟩
theorem CBox.other {w : World} {g g' i : Nat} {u : Value} {ag : Option Addr} {n cg : Nat} {ao : Option Addr} {m co : Nat} (h : CBox w g ag n cg ao m co) (hg : g' ≠ g) : CBox (w.setCell ⟨g', i, none⟩ u) g ag n cg ao m co :=
  h.grown (grown_set _ _ _ _) (by simpa using fun e => hg e.symm)
def Cic (v : ByteArray) (N : List Int) (d : Nat) (G : List Gt) (O : List Int) (out : ByteArray) : Prop :=
  if v = vShow then out = otx (gtx G G.length) O O.length ++ okB
  else if v = vRun then ∃ r, Cre G O G.length O.length N.length r ∧ out = sad (otl G O N O.length) r
  else ∃ r, Ere G O G.length O.length (N.getD 0 0) (N.getD 1 0) (N.length - 2) d r ∧ out = sad (otl G O (N.drop 2) O.length) r
def Cir (v : ByteArray) (N : List Int) (d : Nat) (T out : ByteArray) : Prop := ∃ G O at_ r, Par T G O at_ r ∧ ((r ≠ 0 ∧ out = erB r ++ (spB ++ itb (at_ : Int))) ∨ (r = 0 ∧ Cic v N d G O out))
theorem par_ck {s : ByteArray} {G : List Gt} {O : List Int} {n : Nat} (h : Par s G O n 0) : Cke G O G.length O.length 0 := by
  rcases h with ⟨_, _, _, _, h⟩ | ⟨_, ⟨_, _, _, _, _, _, _, _, _, h⟩ | ⟨G0, O0, _, ⟨_, _, _, _, h⟩ | ⟨_, _, h, ⟨h1, _⟩ | ⟨_, rfl, rfl⟩⟩⟩⟩
  · omega
  · omega
  · omega
  · exact absurd rfl h1
  · exact h
theorem par_at {s : ByteArray} {G : List Gt} {O : List Int} {n : Nat} {r : Int} (h : Par s G O n r) : n ≤ s.size + 1 := by
  have hl := pcs_len s 10 s.size
  have hn : lnn s = (lns s).length - 1 := rfl
  unfold lns at hn
  rcases h with ⟨_, _, _, h, _⟩ | ⟨_, ⟨_, _, _, _, _, _, _, _, h, _⟩ | ⟨_, _, _, ⟨_, _, _, h, _⟩ | ⟨_, h, _⟩⟩⟩ <;> omega
theorem Nde.bd {G : List Gt} {O : List Int} {N m : Nat} {n t r : Int} (h : Nde G O N m n t r) : 0 ≤ r ∧ r ≤ 2 := by
  rcases h with ⟨_, h⟩ | ⟨_, ⟨_, h⟩ | ⟨_, h⟩⟩
  · exact h.bd
  · omega
  · omega
theorem txt_size {G : List Gt} {O : List Int} {n m : Nat} (hG : okG G n) (hO : okO O n m) (hn : n ≤ 30) (hm : m ≤ 30) : (otx (gtx G n) O m).size ≤ 100000 := by
  have h1 := gtx_size hG hn n (Nat.le_refl _)
  have h2 := otx_size (t := gtx G n) hO hn m (Nat.le_refl _)
  omega
theorem erj_size {r : Int} {n : Nat} (h0 : -9223372036854775808 ≤ r) (h1 : r ≤ 9223372036854775807) (hn : n ≤ 9000000000000000000) : (erB r ++ ⟨#[32]⟩).size ≤ 28 ∧ (itb (n : Int)).size ≤ 21 := by
  have := erB_size r h0 h1
  have := sp_size
  rw [ByteArray.size_append]
  exact ⟨by omega, itb_size _ (by omega) (by omega)⟩
theorem Tch.wide {w w' : World} {G H : Nat → Prop} (h : Tch w w' G) (hG : ∀ i, G i → H i) : Tch w w' H := ⟨h.os, h.tape, h.output, h.size, fun i hi hn => h.block i hi (fun g => hn (hG i g))⟩
theorem nba_bd {l : List ByteArray} (h : okn l l.length) : ∀ x ∈ nba l, 0 ≤ x ∧ x ≤ 9999999999 := fun x hx => by
  unfold nba nbl at hx
  obtain ⟨i, hi, rfl⟩ := List.mem_map.1 hx
  have ho := h i (List.mem_range.1 hi)
  have h1 := dgn_bd ho.2.1
  have h2 := ten_le ho.1.2
  omega
theorem syn_vDeal (l : List ByteArray) : Syn vDeal l ↔ okn l l.length ∧ 2 ≤ l.length := by
  unfold Syn
  rw [if_neg (by decide), if_pos (by decide)]
theorem syn_vMult (l : List ByteArray) : Syn vMult l ↔ okn l l.length ∧ 2 ≤ l.length := by
  unfold Syn
  rw [if_neg (by decide), if_pos (by decide)]
theorem syn_vOpen (l : List ByteArray) : Syn vOpen l ↔ okn l l.length ∧ l.length % 2 = 1 := by
  unfold Syn
  rw [if_neg (by decide), if_neg (by decide), if_neg (by decide), if_pos (by decide)]
theorem syn_vRefr (l : List ByteArray) : Syn vRefr l ↔ okn l l.length ∧ 1 ≤ l.length := by
  unfold Syn
  rw [if_neg (by decide), if_neg (by decide), if_neg (by decide), if_neg (by decide), if_pos (by decide)]
theorem syn_vClear (l : List ByteArray) : Syn vClear l ↔ okn l l.length ∧ l.length = 0 := by
  unfold Syn
  rw [if_neg (by decide), if_neg (by decide), if_neg (by decide), if_neg (by decide), if_neg (by decide), if_pos (by decide)]
theorem syn_vShow (l : List ByteArray) : Syn vShow l ↔ okn l l.length ∧ l.length = 0 := by
  unfold Syn
  rw [if_neg (by decide), if_neg (by decide), if_neg (by decide), if_neg (by decide), if_neg (by decide), if_pos (by decide)]
theorem syn_vKeys (l : List ByteArray) : Syn vKeys l ↔ okn l l.length ∧ l.length = 2 := by
  unfold Syn
  rw [if_neg (by decide), if_neg (by decide), if_neg (by decide), if_neg (by decide), if_neg (by decide), if_neg (by decide), if_pos (by decide)]
theorem syn_vTwk (l : List ByteArray) : Syn vTwk l ↔ okn l l.length ∧ l.length = 2 := by
  unfold Syn
  rw [if_neg (by decide), if_neg (by decide), if_neg (by decide), if_neg (by decide), if_neg (by decide), if_neg (by decide), if_pos (by decide)]
theorem syn_vComb (l : List ByteArray) : Syn vComb l ↔ okn l l.length ∧ l.length = 4 := by
  unfold Syn
  rw [if_neg (by decide), if_neg (by decide), if_neg (by decide), if_neg (by decide), if_neg (by decide), if_neg (by decide), if_neg (by decide), if_pos (by decide)]
theorem syn_vKey (l : List ByteArray) : Syn vKey l ↔ okn l l.length ∧ l.length = 1 := by
  unfold Syn
  rw [if_neg (by decide), if_neg (by decide), if_neg (by decide), if_neg (by decide), if_neg (by decide), if_neg (by decide), if_neg (by decide), if_neg (by decide), if_pos (by decide)]
theorem syn_vDrop (l : List ByteArray) : Syn vDrop l ↔ okn l l.length ∧ l.length = 1 := by
  unfold Syn
  rw [if_neg (by decide), if_neg (by decide), if_neg (by decide), if_neg (by decide), if_neg (by decide), if_neg (by decide), if_neg (by decide), if_neg (by decide), if_pos (by decide)]
theorem syn_vRun (l : List ByteArray) : Syn vRun l ↔ okn l l.length ∧ True := by
  unfold Syn
  rw [if_neg (by decide), if_neg (by decide), if_neg (by decide), if_neg (by decide), if_neg (by decide), if_neg (by decide), if_neg (by decide), if_neg (by decide), if_neg (by decide), if_pos (by decide)]
  simp
theorem syn_vGen (l : List ByteArray) : Syn vGen l ↔ okn l l.length ∧ True := by
  unfold Syn
  rw [if_neg (by decide), if_neg (by decide), if_neg (by decide), if_neg (by decide), if_neg (by decide), if_neg (by decide), if_neg (by decide), if_neg (by decide), if_neg (by decide), if_pos (by decide)]
  simp
theorem nil_rd0 (w : World) : Rd w none 0 0 [] := ⟨rfl, Nat.le_refl _, Nat.zero_le _, by simp, fun _ => rfl, by simp⟩
theorem jnw_size {l : List ByteArray} {n : Nat} (h : ∀ i, i < n → (tx l i).size ≤ 70000) : ∀ k, k ≤ n → (jnw l k).size ≤ 70001 * k
  | 0, _ => Nat.le_refl 0
  | k + 1, hk => by
    have ih := jnw_size h k (by omega)
    have hx := h k (by omega)
    rw [jnw, ByteArray.size_append]
    split
    · have : mt.size = 0 := rfl
      omega
    · rw [ByteArray.size_append]
      have : spB.size = 1 := rfl
      omega
theorem cir_dac {v : ByteArray} {l : List ByteArray} {N : List Int} {d : Nat} {T out : ByteArray} {S : Option Kt} (h : Cir v N d T out) (hd : ∀ G O out, Cic v N d G O out → Dci v l G O out) : T = T ∧ S = S ∧ ∃ G O at_ r, Par T G O at_ r ∧ ((r ≠ 0 ∧ out = erB r ++ (spB ++ itb (at_ : Int))) ∨ (r = 0 ∧ Dci v l G O out)) := by
  obtain ⟨G, O, n, r, h1, h2⟩ := h
  exact ⟨rfl, rfl, G, O, n, r, h1, or_to h2 fun ⟨e, k⟩ => ⟨e, hd G O out k⟩⟩
theorem dci_show (l : List ByteArray) (N : List Int) (d : Nat) : ∀ G O out, Cic vShow N d G O out → Dci vShow l G O out := fun G O out h => by
  unfold Cic at h
  unfold Dci
  rw [if_pos rfl] at h ⊢
  exact h
theorem dci_run (l : List ByteArray) (d : Nat) : ∀ G O out, Cic vRun (nba l) d G O out → Dci vRun l G O out := fun G O out h => by
  unfold Cic at h
  unfold Dci
  rw [if_neg (by decide), if_pos rfl] at h ⊢
  rw [nba_len] at h
  exact h
theorem dci_work (l : List ByteArray) {j : Nat} (hj : slash l j) : ∀ G O out, Cic vWork (nbl l j) (l.length - (j + 1)) G O out → Dci vWork l G O out := fun G O out h => by
  unfold Cic at h
  unfold Dci
  rw [if_neg (by decide), if_neg (by decide)] at h ⊢
  obtain ⟨r, h1, h2⟩ := h
  have e : (nbl l j).length = j := by simp [nbl]
  rw [e] at h1
  exact ⟨j, r, hj, h1, h2⟩
def Ixf (L : List ByteArray) (n : Nat) (x : ByteArray) (r : Int) : Prop := (∃ k : Nat, k < n ∧ tx L k = x ∧ r = (k : Int) ∧ ∀ j, j < k → tx L j ≠ x) ∨ ((∀ j, j < n → tx L j ≠ x) ∧ r = -1)
theorem sIndexF (a : Option Addr) (n c : Nat) (L : List ByteArray) (x : ByteArray) (w : World) (h : RdT w a n c L) :
    Calls Tryz.prog 38 #[.slice a n c, .string x] w fun e w' => ∃ r, e = .returned (.int .i64 r) ∧ Ixf L n x r ∧ w' = w := by
  have hcap := h.cap
  have hmax := h.max
  unfold maxLen at hmax
  go_enter Tryz.func38, Tryz.ntmps38
  go_wp2
  go_loop [8] (fun q => ∃ i : Nat, i ≤ n ∧ q = .int .i64 i ∧ Hid (∀ j, j < i → tx L j ≠ x)) (fun q => n - (intOf q).toNat)
  case atStart => exact ⟨0, Nat.zero_le _, rfl, fun j hj => by omega⟩
  case round =>
    obtain ⟨i, hi, rfl, HN⟩ := hrel
    by_cases hlt : i < n
    · obtain ⟨b, o, y, rfl, hb, HY, hys, hc⟩ := h.one hlt
      by_cases e : x = y
      · have HE : Hid (Ixf L n x i) := .inl ⟨i, hlt, by rw [HY.out, e], rfl, HN.out⟩
        have he := tl_yes e
        clear e HN
        go_wp2
        go_ret
        exact ⟨_, rfl, HE.out, rfl⟩
      · have he := tl_no e
        have HN2 : Hid (∀ j, j < i + 1 → tx L j ≠ x) := fun j hj => by
          by_cases ej : j = i
          · rw [ej, HY.out]; exact fun e' => e e'.symm
          · exact HN.out j (by omega)
        clear e HN
        go_wp2
        go_round
        case rel => exact ⟨i + 1, by omega, by go_num, HN2⟩
        case measure => simp [intOf]; omega
    · have hin : i = n := by omega
      subst hin
      have HE : Hid (Ixf L i x (-1)) := .inr ⟨HN.out, rfl⟩
      clear HN
      go_wp2
      go_ret
      exact ⟨_, rfl, HE.out, rfl⟩
theorem RdT.sub {w : World} {a : Option Addr} {n c : Nat} {L : List ByteArray} (h : RdT w a n c L) {lo : Nat} (hk : lo ≤ n) : RdT w (subA a c lo) (n - lo) (c - lo) (L.drop lo) := by
  have hl := h.len
  have hc := h.cap
  have hm := h.max
  have ht : ∀ i, tx (L.drop lo) i = tx L (lo + i) := fun i => by unfold tx; simp
  refine ⟨by simp; omega, by omega, by omega, fun e => ?_, fun i hi => by rw [ht]; exact h.bd _ (by omega), fun x hx i hi => ?_⟩
  · unfold subA at e
    split at e
    · omega
    · cases a with
      | none => have := h.nil rfl; omega
      | some y => simp at e
  · obtain ⟨b, o, y, rfl, _, HY, _, hcell⟩ := h.one (k := lo + i) (by omega)
    unfold subA at hx
    rw [if_neg (by omega), Option.map_some] at hx
    obtain rfl := Option.some.inj hx
    rw [Addr.add_lit, Addr.add_lit, Nat.add_assoc, hcell, ht, HY.out]
theorem syn_vWork (l : List ByteArray) : Syn vWork l ↔ ∃ j, slash l j ∧ okn l j ∧ okn (l.drop (j + 1)) (l.length - (j + 1)) ∧ 2 ≤ j := by
  unfold Syn
  rw [if_neg (by decide), if_neg (by decide), if_pos rfl]
theorem okn_take {l : List ByteArray} {j : Nat} : okn (l.take j) j ↔ okn l j := by
  have e : ∀ i, i < j → tx (l.take j) i = tx l i := fun i hi => by unfold tx; simp [hi]
  exact ⟨fun h i hi => by rw [← e i hi]; exact h i hi, fun h i hi => by rw [e i hi]; exact h i hi⟩
theorem nbl_take (l : List ByteArray) (j : Nat) : nbl (l.take j) j = nbl l j := by
  unfold nbl
  refine List.map_congr_left fun i hi => ?_
  have e : tx (l.take j) i = tx l i := by unfold tx; simp [List.mem_range.1 hi]
  rw [e]
theorem nbl_bd2 {l : List ByteArray} {j : Nat} (h : okn l j) : ∀ x ∈ nbl l j, 0 ≤ x ∧ x ≤ 9999999999 := fun x hx => by
  unfold nbl at hx
  obtain ⟨i, hi, rfl⟩ := List.mem_map.1 hx
  have ho := h i (List.mem_range.1 hi)
  have h1 := dgn_bd ho.2.1
  have h2 := ten_le ho.1.2
  omega
def prk (N : List Int) (k : Nat) : List (Int × Int) := (List.range k).map fun i => (N.getD (2 * i + 1) 0, N.getD (2 * i + 2) 0)
theorem prk_all (N : List Int) : prk N ((N.length - 1) / 2) = prs N := rfl
theorem Dcd.rb {l : List (Int × Int)} {n : Nat} {t e : Int} {P B : List Int} {r : Int} (h : Dcd l n t e P B r) : -9223372036854775808 ≤ r ∧ r ≤ 9223372036854775807 := by
  rcases h with ⟨⟨h1, _, _⟩, _⟩ | ⟨_, _, _, _, h1⟩ | ⟨_, _, _, _, _, h1⟩ | ⟨_, _, _, _, h1⟩ | ⟨_, _, _, _, _, _, h1⟩
  · have := h1.bd; omega
  all_goals omega
theorem Rob.rb {l : List (Int × Int)} {n : Nat} {t x : Int} {B : List Int} {r : Int} (h : Rob l n t x B r) : -9223372036854775808 ≤ r ∧ r ≤ 9223372036854775807 := by
  rcases h with ⟨h1, _, _, _⟩ | ⟨_, P, C, s, h1, ⟨_, _, _, rfl⟩ | ⟨_, _, _, rfl⟩⟩
  · have := h1.bd; omega
  · exact h1.rb
  · omega
theorem Rob.small {l : List (Int × Int)} {n : Nat} {t x : Int} {B : List Int} {r : Int} (h : Rob l n t x B r) : (0 ≤ x ∧ x ≤ 2147483646) ∧ (∀ y ∈ B, 0 ≤ y ∧ y ≤ 9999999999) ∧ B.length ≤ 9 := by
  rcases h with ⟨_, _, rfl, rfl⟩ | ⟨hS, P, C, s, h1, ⟨_, rfl, rfl, _⟩ | ⟨rfl, rfl, rfl, _⟩⟩
  · exact ⟨by omega, by simp, by simp⟩
  · exact ⟨by omega, by simp, by simp⟩
  · obtain ⟨_, _, hd, _, hn9⟩ := hS.ok
    obtain ⟨h2, h3⟩ := dcd_head h1
    refine ⟨h3 _ (by rw [List.getD_eq_getElem?_getD, List.getElem?_eq_getElem h2]; exact List.getElem_mem _), ?_⟩
    rcases h1 with ⟨⟨_, h, _⟩, _⟩ | ⟨_, _, _, _, h⟩ | ⟨_, _, _, _, _, h⟩ | ⟨_, _, _, ⟨p, _, _, hO⟩, _⟩ | ⟨_, _, _, _, _, _, h⟩
    · exact absurd rfl h
    · omega
    · omega
    · refine ⟨fun y hy => ?_, ?_⟩
      · obtain ⟨i, hi, e⟩ := bdl_mem (hO.perm.mem_iff.1 hy)
        have := (hd i hi).1
        unfold fa at this
        rw [e] at this
        omega
      · rw [hO.perm.length_eq]
        exact Nat.le_trans (bdl_le _ _ _) hn9
    · omega
theorem lit_no {v y : ByteArray} {l : List UInt8} (h : v ≠ y) (e : y.toList = l) : (v.toList == l) = false := by rw [← e]; exact tl_no h
theorem Cre.rb {G : List Gt} {O : List Int} {n m q : Nat} {r : Int} (h : Cre G O n m q r) : -9223372036854775808 ≤ r ∧ r ≤ 9223372036854775807 := by
  rcases h with ⟨_, h⟩ | ⟨_, ⟨_, rfl⟩ | ⟨_, rfl⟩⟩
  · have := h.bd; omega
  all_goals omega
theorem Ere.rb {G : List Gt} {O : List Int} {N m : Nat} {n t : Int} {q d : Nat} {r : Int} (h : Ere G O N m n t q d r) : -9223372036854775808 ≤ r ∧ r ≤ 9223372036854775807 := by
  rcases h with ⟨_, ⟨_, h⟩ | ⟨_, ⟨_, rfl⟩ | ⟨_, rfl⟩⟩⟩ | ⟨_, ⟨_, rfl⟩ | ⟨_, ⟨_, rfl⟩ | ⟨_, rfl⟩⟩⟩
  · have := h.bd; omega
  all_goals omega
theorem sad_size {l : List Int} {r : Int} (hl : ∀ x ∈ l, 0 ≤ x ∧ x ≤ 18446744073709551615) (hr : -9223372036854775808 ≤ r ∧ r ≤ 9223372036854775807) : (sad l r).size ≤ 22 * l.length + 27 := by
  unfold sad
  split
  · have := sdn_size hl l.length; omega
  · have := erB_size r hr.1 hr.2; omega
theorem fne_size {r : Int} (hr : -9223372036854775808 ≤ r ∧ r ≤ 9223372036854775807) : (fne r).size ≤ 27 := by
  unfold fne
  split
  · have : okB.size = 2 := rfl; omega
  · exact erB_size r hr.1 hr.2
theorem Dky.small {v : ByteArray} {N : List Int} {s s' : Kt} {out : ByteArray} (h : Dky v N s out s') (hl : s.last ≤ 1000000) : out.size ≤ 100 ∧ s'.last ≤ s.last + 1 := by
  have H : ∀ r : Int × Int × Kt, (0 ≤ r.1 ∧ r.1 ≤ 9223372036854775807 ∧ -9223372036854775808 ≤ r.2.1 ∧ r.2.1 ≤ 9223372036854775807) → r.2.2.last ≤ s.last + 1 → Dkh r out s' → out.size ≤ 100 ∧ s'.last ≤ s.last + 1 := by
    intro r h1 h2 ⟨e1, e2⟩
    subst e1 e2
    have := sad_size (l := [r.1]) (r := r.2.1) (fun x hx => by obtain rfl := List.mem_singleton.1 hx; omega) ⟨h1.2.2.1, h1.2.2.2⟩
    simp only [List.length_singleton] at this
    exact ⟨by omega, h2⟩
  have K : ∀ l : List Int, (kadd s l).2.2.last ≤ s.last + 1 := fun l => by
    rcases kadd_cases s l with ⟨_, e⟩ | ⟨_, e⟩
    · rw [e]; exact Nat.le_succ _
    · rw [e]; exact Nat.le_refl _
  unfold Dky at h
  by_cases e1 : v = vGen
  · rw [if_pos e1] at h
    refine H _ (kgen_rb N hl) ?_ h
    unfold kgen; split
    · exact K _
    · exact Nat.le_succ _
  rw [if_neg e1] at h
  by_cases e2 : v = vRefr
  · rw [if_pos e2] at h
    obtain ⟨e, e'⟩ := h
    subst e e'
    unfold krfr
    split
    · split
      · exact ⟨by have := fne_size (r := 0) (by omega); show (fne 0).size ≤ 100; omega, Nat.le_succ _⟩
      · exact ⟨by have := fne_size (r := 1) (by omega); show (fne 1).size ≤ 100; omega, Nat.le_succ _⟩
    · exact ⟨by have := fne_size (r := 4) (by omega); show (fne 4).size ≤ 100; omega, Nat.le_succ _⟩
  rw [if_neg e2] at h
  have KM : ∀ g i a b c : Int, (kmix s g i a b c).2.2.last ≤ s.last + 1 := fun g i a b c => by
    unfold kmix; split
    · exact K _
    · exact Nat.le_succ _
  by_cases e3 : v = vTwk
  · rw [if_pos e3] at h
    exact H _ (kmix_rb _ _ _ _ _ hl) (KM _ _ _ _ _) h
  rw [if_neg e3] at h
  by_cases e4 : v = vComb
  · rw [if_pos e4] at h
    exact H _ (kmix_rb _ _ _ _ _ hl) (KM _ _ _ _ _) h
  rw [if_neg e4] at h
  by_cases e5 : v = vMult
  · rw [if_pos e5] at h
    refine H _ (kmul_rb _ _ _ hl) ?_ h
    unfold kmul; split
    · split
      · exact K _
      · exact Nat.le_succ _
    · exact Nat.le_succ _
  rw [if_neg e5] at h
  by_cases e6 : v = vKey
  · rw [if_pos e6] at h
    obtain ⟨rfl, x, r, h1, rfl⟩ := h
    have hv := h1.val2
    have := sad_size (l := [x]) (r := r) (fun y hy => by obtain rfl := List.mem_singleton.1 hy; omega) h1.rb
    simp only [List.length_singleton] at this
    exact ⟨by omega, Nat.le_succ _⟩
  rw [if_neg e6] at h
  obtain ⟨e, e'⟩ := h
  subst e e'
  unfold kdrp
  split
  · exact ⟨by have := fne_size (r := 0) (by omega); show (fne 0).size ≤ 100; omega, Nat.le_succ _⟩
  · exact ⟨by have := fne_size (r := 4) (by omega); show (fne 4).size ≤ 100; omega, Nat.le_succ _⟩
theorem otl_small (G : List Gt) (O I : List Int) (m : Nat) : ∀ x ∈ otl G O I m, 0 ≤ x ∧ x ≤ 18446744073709551615 := fun x hx => by have := otl_bd G O I m x hx; omega
theorem Dci.small {v : ByteArray} {l : List ByteArray} {T : ByteArray} {G : List Gt} {O : List Int} {n : Nat} {out : ByteArray} (h : Dci v l G O out) (hP : Par T G O n 0) : out.size ≤ 200000 := by
  obtain ⟨h1, h2, h3, h4⟩ := (par_ck hP).ok
  unfold Dci at h
  by_cases e1 : v = vShow
  · rw [if_pos e1] at h
    have := txt_size h3 h4 h1.2 h2.2
    rw [h, ByteArray.size_append]
    have : okB.size = 2 := rfl
    omega
  rw [if_neg e1] at h
  by_cases e2 : v = vRun
  · rw [if_pos e2] at h
    obtain ⟨r, k1, rfl⟩ := h
    have := sad_size (otl_small G O (nba l) O.length) k1.rb
    rw [otl_len] at this
    omega
  rw [if_neg e2] at h
  obtain ⟨j, r, _, k1, rfl⟩ := h
  have := sad_size (otl_small G O ((nbl l j).drop 2) O.length) k1.rb
  rw [otl_len] at this
  omega
theorem Dln.small {T : ByteArray} {S : Option Kt} {v : ByteArray} {l : List ByteArray} {out T' : ByteArray} {S' : Option Kt} (h : Dln T S v l out T' S') (hT : T.size ≤ 2048) {k : Nat} (hk : k ≤ 1000000) (hl : ∀ s, S = some s → s.last ≤ k) : out.size ≤ 200000 ∧ T'.size ≤ 2048 ∧ ∀ s, S' = some s → s.last ≤ k + 1 := by
  have HE : ∀ r : Int, -9223372036854775808 ≤ r → r ≤ 9223372036854775807 → (erB r).size ≤ 200000 := fun r h0 h1 => by have := erB_size r h0 h1; omega
  have HO : okB.size ≤ 200000 := by have : okB.size = 2 := rfl; omega
  have HS : ∀ s, S = some s → s.last ≤ k + 1 := fun s e => Nat.le_succ_of_le (hl s e)
  rcases h with ⟨_, rfl, rfl, rfl⟩ | ⟨_, h⟩
  · exact ⟨HE 3 (by omega) (by omega), hT, HS⟩
  unfold Dac at h
  by_cases e1 : v = vCirc
  · rw [if_pos e1] at h
    obtain ⟨rfl, ⟨_, rfl, rfl⟩ | ⟨h1, rfl, rfl⟩⟩ := h
    · exact ⟨HE 2 (by omega) (by omega), hT, HS⟩
    · refine ⟨HO, ?_, HS⟩
      rw [ByteArray.size_append, ByteArray.size_append]
      have : nlB.size = 1 := rfl
      omega
  rw [if_neg e1] at h
  by_cases e2 : v = vDeal
  · rw [if_pos e2] at h
    obtain ⟨rfl, rfl, rfl⟩ := h
    refine ⟨?_, hT, HS⟩
    unfold dla
    split
    · rename_i hd
      have := sad_size (l := dl ((nba l).getD 1 0 :: (nba l).drop 2) ((nba l).getD 0 0).toNat) (r := 0) (fun x hx => by have := dl_bd _ _ x hx; omega) (by omega)
      rw [dl_len] at this
      omega
    · exact HE 1 (by omega) (by omega)
  rw [if_neg e2] at h
  by_cases e3 : v = vOpen
  · rw [if_pos e3] at h
    obtain ⟨rfl, rfl, x, B, r, h1, rfl⟩ := h
    refine ⟨?_, hT, HS⟩
    obtain ⟨k1, k2, k3⟩ := h1.small
    have := sad_size (l := x :: B) (r := r) (fun y hy => by
      rcases List.mem_cons.1 hy with rfl | hy
      · omega
      · have := k2 y hy; omega) h1.rb
    simp only [List.length_cons] at this
    omega
  rw [if_neg e3] at h
  by_cases e4 : v = vClear
  · rw [if_pos e4] at h
    obtain ⟨rfl, rfl, rfl⟩ := h
    exact ⟨HO, Nat.zero_le _, HS⟩
  rw [if_neg e4] at h
  by_cases e5 : v = vShow ∨ v = vRun ∨ v = vWork
  · rw [if_pos e5] at h
    obtain ⟨rfl, rfl, G, O, n, r, h1, ⟨_, rfl⟩ | ⟨rfl, h2⟩⟩ := h
    · refine ⟨?_, hT, HS⟩
      have b := h1.bd
      have c := par_at h1
      have := erj_size (r := r) (n := n) (by omega) (by omega) (by omega)
      rw [ByteArray.size_append, ByteArray.size_append]
      have e : spB.size = 1 := rfl
      have := erB_size r (by omega) (by omega)
      omega
    · exact ⟨h2.small h1, hT, HS⟩
  rw [if_neg e5] at h
  by_cases e6 : v = vKeys
  · rw [if_pos e6] at h
    obtain ⟨rfl, ⟨_, rfl, rfl⟩ | ⟨_, rfl, rfl⟩⟩ := h
    · exact ⟨HO, hT, fun s e => by obtain rfl := Option.some.inj e; exact Nat.zero_le _⟩
    · exact ⟨HE 1 (by omega) (by omega), hT, HS⟩
  rw [if_neg e6] at h
  obtain ⟨rfl, ⟨_, rfl, rfl⟩ | ⟨s, s', rfl, rfl, h⟩⟩ := h
  · exact ⟨HE 4 (by omega) (by omega), hT, fun s e => by cases e⟩
  · have hs := hl s rfl
    obtain ⟨k1, k2⟩ := h.small (by omega)
    exact ⟨by omega, hT, fun q e => by obtain rfl := Option.some.inj e; omega⟩
theorem tln_size (s : ByteArray) : ∀ x ∈ tln s, x.size ≤ s.size := fun x hx => by
  unfold tln at hx
  split at hx
  · exact lns_last s x (List.mem_of_mem_take hx)
  · exact lns_last s x hx
theorem tx_mem {L : List ByteArray} {i : Nat} (h : i < L.length) : tx L i ∈ L := by
  unfold tx
  rw [List.getD_eq_getElem?_getD, List.getElem?_eq_getElem h]
  exact List.getElem_mem _
def Dkl (s : ByteArray) (w : World) (e : Ending) (w' : World) : Prop := ∃ out, e = .returned (.string out) ∧ Dsk s out ∧ Below w.heap.size w w'
end
section
open Crm
theorem dks_step {L : List ByteArray} {i : Nat} {o0 T0 T x out v : ByteArray} {S0 S : Option Kt} {ws : List ByteArray} (hw : wrd (tx L i) = v :: ws) (hv : bt v 0 ≠ 35) (h0 : Dks L i o0 T0 S0) (hl : Dln T0 S0 v ws x T S) (ho : out = o0 ++ (x ++ nlB)) : Dks L (i + 1) out T S :=
  ⟨o0, T0, S0, h0, .inr ⟨by unfold asked; rw [hw]; exact ⟨by simp, hv⟩, x, by rw [hw]; exact hl, ho⟩⟩
theorem dks_skip {L : List ByteArray} {i : Nat} {o0 T0 : ByteArray} {S0 : Option Kt} (hw : wrd (tx L i) = [] ∨ ∃ v ws, wrd (tx L i) = v :: ws ∧ bt v 0 = 35) (h0 : Dks L i o0 T0 S0) : Dks L (i + 1) o0 T0 S0 :=
  ⟨o0, T0, S0, h0, .inl ⟨fun h => by
    rcases hw with e | ⟨v, ws, e, h1⟩
    · have := h.1; rw [e] at this; simp at this
    · exact h.2 (by rw [e]; exact h1), rfl, rfl, rfl⟩⟩

def fxt : ByteArray := ⟨#[100, 101, 97, 108, 32, 51, 32, 53, 32, 50, 10, 111, 112, 101, 110, 32, 49, 32, 49, 32, 55, 32, 50, 32, 57, 32, 51, 32, 48, 10, 107, 101, 121, 115, 32, 49, 32, 48, 10, 103, 101, 110, 32, 57, 10, 116, 119, 101, 97, 107, 32, 49, 32, 50, 10, 107, 101, 121, 32, 50, 10]⟩
def fxo : ByteArray := ⟨#[55, 32, 57, 32, 49, 49, 10, 101, 114, 114, 111, 114, 32, 54, 10, 111, 107, 10, 49, 10, 50, 10, 49, 49, 10]⟩
def fxl : List ByteArray := [⟨#[100, 101, 97, 108, 32, 51, 32, 53, 32, 50]⟩, ⟨#[111, 112, 101, 110, 32, 49, 32, 49, 32, 55, 32, 50, 32, 57, 32, 51, 32, 48]⟩, ⟨#[107, 101, 121, 115, 32, 49, 32, 48]⟩, ⟨#[103, 101, 110, 32, 57]⟩, ⟨#[116, 119, 101, 97, 107, 32, 49, 32, 50]⟩, ⟨#[107, 101, 121, 32, 50]⟩]
theorem fxt_tln : tln fxt = fxl := by decide +kernel
def fx0 : List ByteArray := [⟨#[51]⟩, ⟨#[53]⟩, ⟨#[50]⟩]
theorem fx0_w : wrd (tx fxl 0) = vDeal :: fx0 := by decide +kernel
theorem fx0_n : nba fx0 = [3, 5, 2] := by decide +kernel
theorem fx0_o : okn fx0 fx0.length := by unfold okn okd dgs; decide +kernel
def fx1 : List ByteArray := [⟨#[49]⟩, ⟨#[49]⟩, ⟨#[55]⟩, ⟨#[50]⟩, ⟨#[57]⟩, ⟨#[51]⟩, ⟨#[48]⟩]
theorem fx1_w : wrd (tx fxl 1) = vOpen :: fx1 := by decide +kernel
theorem fx1_n : nba fx1 = [1, 1, 7, 2, 9, 3, 0] := by decide +kernel
theorem fx1_o : okn fx1 fx1.length := by unfold okn okd dgs; decide +kernel
def fx2 : List ByteArray := [⟨#[49]⟩, ⟨#[48]⟩]
theorem fx2_w : wrd (tx fxl 2) = vKeys :: fx2 := by decide +kernel
theorem fx2_n : nba fx2 = [1, 0] := by decide +kernel
theorem fx2_o : okn fx2 fx2.length := by unfold okn okd dgs; decide +kernel
def fx3 : List ByteArray := [⟨#[57]⟩]
theorem fx3_w : wrd (tx fxl 3) = vGen :: fx3 := by decide +kernel
theorem fx3_n : nba fx3 = [9] := by decide +kernel
theorem fx3_o : okn fx3 fx3.length := by unfold okn okd dgs; decide +kernel
def fx4 : List ByteArray := [⟨#[49]⟩, ⟨#[50]⟩]
theorem fx4_w : wrd (tx fxl 4) = vTwk :: fx4 := by decide +kernel
theorem fx4_n : nba fx4 = [1, 2] := by decide +kernel
theorem fx4_o : okn fx4 fx4.length := by unfold okn okd dgs; decide +kernel
def fx5 : List ByteArray := [⟨#[50]⟩]
theorem fx5_w : wrd (tx fxl 5) = vKey :: fx5 := by decide +kernel
theorem fx5_n : nba fx5 = [2] := by decide +kernel
theorem fx5_o : okn fx5 fx5.length := by unfold okn okd dgs; decide +kernel
def fo1 : ByteArray := ⟨#[55, 32, 57, 32, 49, 49, 10]⟩
def fo2 : ByteArray := ⟨#[55, 32, 57, 32, 49, 49, 10, 101, 114, 114, 111, 114, 32, 54, 10]⟩
def fo3 : ByteArray := ⟨#[55, 32, 57, 32, 49, 49, 10, 101, 114, 114, 111, 114, 32, 54, 10, 111, 107, 10]⟩
def fo4 : ByteArray := ⟨#[55, 32, 57, 32, 49, 49, 10, 101, 114, 114, 111, 114, 32, 54, 10, 111, 107, 10, 49, 10]⟩
def fo5 : ByteArray := ⟨#[55, 32, 57, 32, 49, 49, 10, 101, 114, 114, 111, 114, 32, 54, 10, 111, 107, 10, 49, 10, 50, 10]⟩
def fo6 : ByteArray := ⟨#[55, 32, 57, 32, 49, 49, 10, 101, 114, 114, 111, 114, 32, 54, 10, 111, 107, 10, 49, 10, 50, 10, 49, 49, 10]⟩
theorem fx_open : Rob [(1, 7), (2, 9), (3, 0)] 3 1 0 [] 6 := by
  have hd : dis (fa [(1, 7), (2, 9), (3, 0)]) 3 := by unfold dis fa; decide +kernel
  refine .inr ⟨.inr (.inr (.inr ⟨by omega, hd, by omega, rfl⟩)), [], [], 6, .inr (.inr (.inr (.inr ⟨⟨by omega, hd⟩, by unfold mayb; omega, by unfold mayb; omega, fun p ⟨h1, h2⟩ => ?_, rfl, rfl, rfl⟩))), .inl ⟨by omega, rfl, rfl, rfl⟩⟩
  have h3 : (bdl [(1, 7), (2, 9), (3, 0)] p 3).length = 0 := by unfold mayb at h2; omega
  have h4 := (bdl_nil _ p 3).1 h3
  have e0 := h4 0 (by omega)
  have e1 := h4 1 (by omega)
  have e2 := h4 2 (by omega)
  match p, h1 with
  | [], _ => simp [ev, nm] at e0
  | [a], _ => simp [ev, nm] at e0 e1; omega
  | [a, b], _ => simp [ev, nm] at e0 e1 e2; omega
  | a :: b :: c :: q, h => simp at h; omega
theorem fx_gen : kgen (k0 1 0) [9] = (1, 0, kput (k0 1 0) [9]) := by
  have e : ksm 1 0 true [9] 1 = [9] := by decide +kernel
  unfold kgen
  rw [if_pos (by decide)]
  show kadd (k0 1 0) (ksm 1 0 true [9] 1) = _
  rw [e]
  rfl
def fs1 : Kt := kput (k0 1 0) [9]
def fs2 : Kt := kput fs1 [11]
theorem fx_twk : kmix fs1 1 1 1 0 2 = (2, 0, fs2) := by
  have f1 : fs1.f 1 = some [9] := rfl
  have e : mxl [9] [9] 1 0 2 1 = [11] := by decide +kernel
  unfold kmix
  simp only [f1]
  show kadd fs1 (mxl [9] [9] 1 0 2 1) = _
  rw [e]
  rfl
theorem fx_key : Kop fs2 2 11 0 := by
  refine .inr ⟨[11], rfl, .inr ⟨.inr (.inr (.inr ⟨by decide, by unfold dis fa; decide +kernel, by decide, rfl⟩)), .inl ⟨[11], by decide, ?_, by decide +kernel, rfl⟩⟩⟩
  unfold Hs
  decide +kernel
theorem fx_dks : Dks fxl 6 fo6 mt (some fs2) := by
  have d0 : Dks fxl 0 mt mt none := ⟨rfl, rfl, rfl⟩
  have d1 : Dks fxl 1 fo1 mt none := dks_step fx0_w (by decide +kernel) d0 (.inr ⟨(syn_vDeal _).2 ⟨fx0_o, by decide⟩, by unfold Dac; rw [if_neg (by decide +kernel), if_pos rfl, fx0_n]; exact ⟨rfl, rfl, rfl⟩⟩) (by decide +kernel)
  have d2 : Dks fxl 2 fo2 mt none := dks_step fx1_w (by decide +kernel) d1 (.inr ⟨(syn_vOpen _).2 ⟨fx1_o, by decide⟩, by unfold Dac; rw [if_neg (by decide +kernel), if_neg (by decide +kernel), if_pos rfl, fx1_n]; exact ⟨rfl, rfl, 0, [], 6, fx_open, rfl⟩⟩) (by decide +kernel)
  have d3 : Dks fxl 3 fo3 mt (some (k0 1 0)) := dks_step fx2_w (by decide +kernel) d2 (.inr ⟨(syn_vKeys _).2 ⟨fx2_o, by decide⟩, by unfold Dac; rw [if_neg (by decide +kernel), if_neg (by decide +kernel), if_neg (by decide +kernel), if_neg (by decide +kernel), if_neg (by decide +kernel), if_pos rfl, fx2_n]; exact ⟨rfl, .inl ⟨by decide, rfl, rfl⟩⟩⟩) (by decide +kernel)
  have d4 : Dks fxl 4 fo4 mt (some fs1) := dks_step fx3_w (by decide +kernel) d3 (.inr ⟨(syn_vGen _).2 ⟨fx3_o, trivial⟩, by unfold Dac; rw [if_neg (by decide +kernel), if_neg (by decide +kernel), if_neg (by decide +kernel), if_neg (by decide +kernel), if_neg (by decide +kernel), if_neg (by decide +kernel), fx3_n]; exact ⟨rfl, .inr ⟨_, _, rfl, rfl, by unfold Dky; rw [if_pos rfl, fx_gen]; exact ⟨rfl, rfl⟩⟩⟩⟩) (by decide +kernel)
  have d5 : Dks fxl 5 fo5 mt (some fs2) := dks_step fx4_w (by decide +kernel) d4 (.inr ⟨(syn_vTwk _).2 ⟨fx4_o, by decide⟩, by unfold Dac; rw [if_neg (by decide +kernel), if_neg (by decide +kernel), if_neg (by decide +kernel), if_neg (by decide +kernel), if_neg (by decide +kernel), if_neg (by decide +kernel), fx4_n]; exact ⟨rfl, .inr ⟨_, _, rfl, rfl, by unfold Dky; rw [if_neg (by decide +kernel), if_neg (by decide +kernel), if_pos rfl]; show Dkh (kmix fs1 1 1 1 0 2) _ _; rw [fx_twk]; exact ⟨rfl, rfl⟩⟩⟩⟩) (by decide +kernel)
  exact dks_step fx5_w (by decide +kernel) d5 (.inr ⟨(syn_vKey _).2 ⟨fx5_o, by decide⟩, by unfold Dac; rw [if_neg (by decide +kernel), if_neg (by decide +kernel), if_neg (by decide +kernel), if_neg (by decide +kernel), if_neg (by decide +kernel), if_neg (by decide +kernel), fx5_n]; exact ⟨rfl, .inr ⟨_, _, rfl, rfl, by unfold Dky; rw [if_neg (by decide +kernel), if_neg (by decide +kernel), if_neg (by decide +kernel), if_neg (by decide +kernel), if_neg (by decide +kernel), if_pos rfl]; exact ⟨rfl, 11, 0, fx_key, rfl⟩⟩⟩⟩) (by decide +kernel)
theorem fx_dsk : Dsk fxt fxo := .inr ⟨by rw [fxt_tln]; decide +kernel, mt, some fs2, by rw [fxt_tln]; exact fx_dks⟩

def gxt : ByteArray := ⟨#[35, 10, 10, 107, 101, 121, 32, 49]⟩
def gxo : ByteArray := ⟨#[101, 114, 114, 111, 114, 32, 52, 10]⟩
def gxl : List ByteArray := [⟨#[35]⟩, ⟨#[]⟩, ⟨#[107, 101, 121, 32, 49]⟩]
theorem gxt_tln : tln gxt = gxl := by decide +kernel
theorem gx_dsk : Dsk gxt gxo := by
  have d0 : Dks gxl 0 mt mt none := ⟨rfl, rfl, rfl⟩
  have d1 : Dks gxl 1 mt mt none := dks_skip (.inr ⟨⟨#[35]⟩, [], by decide +kernel, by decide +kernel⟩) d0
  have d2 : Dks gxl 2 mt mt none := dks_skip (.inl (by decide +kernel)) d1
  have d3 : Dks gxl 3 gxo mt none := dks_step (v := vKey) (ws := [⟨#[49]⟩]) (by decide +kernel) (by decide +kernel) d2 (.inr ⟨(syn_vKey _).2 ⟨by unfold okn okd dgs; decide +kernel, by decide⟩, by unfold Dac; rw [if_neg (by decide +kernel), if_neg (by decide +kernel), if_neg (by decide +kernel), if_neg (by decide +kernel), if_neg (by decide +kernel), if_neg (by decide +kernel)]; exact ⟨rfl, .inl ⟨rfl, rfl, rfl⟩⟩⟩) (by decide +kernel)
  exact .inr ⟨by rw [gxt_tln]; decide +kernel, mt, none, by rw [gxt_tln]; exact d3⟩
end
end Go.Proofs.YtljlioglpaogdafGreatDoor
