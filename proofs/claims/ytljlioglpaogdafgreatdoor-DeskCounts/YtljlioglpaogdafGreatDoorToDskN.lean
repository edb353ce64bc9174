/- A desk: its lines, and what each of them is answered: plain. · croftref: wrong, fine, said, wide, LineWords, TextLines. · croftref: LineWords, TextLines. · (*croftref.bench): its block and its store; key$1. (Print of wip/tpl/gen/mkdk.py.) · Package desk: failure, tellDone. · desk.shapes: a variable that start-up lays. · Package desk: shapeOf, (shape).read. · strings.Builder: writing, with what it leaves alone: nothing has turned but the builder itself and its bytes. · A desk: what follows is not seen in what was answered: plain. -/
import Derived.Test.YtljlioglpaogdafGreatDoorToParN
import Derived.Test.YtljlioglpaogdafGreatDoorToShpM
import Derived.Test.YtljlioglpaogdafGreatDoorToTwByM
import Derived.Test.YtljlioglpaogdafGreatDoorCkDef
import Derived.Test.YtljlioglpaogdafGreatDoorToRNumC
import Derived.Test.YtljlioglpaogdafGreatDoorToBldC
import Derived.Test.YtljlioglpaogdafGreatDoorToTwM
import Derived.Test.YtljlioglpaogdafGreatDoorToSolveC
import Derived.Test.YtljlioglpaogdafGreatDoorProg
import Derived.Test.YtljlioglpaogdafGreatDoorEnR
import Derived.Deep.RegionHeld3
import Derived.Laws.Rows
import Derived.Laws.Tables
import Derived.Laws.CopyOwn
namespace Go.Proofs.YtljlioglpaogdafGreatDoor
set_option linter.unusedVariables false
set_option maxRecDepth 100000
set_option maxHeartbeats 8000000
section
open Crm
def wrd (l : ByteArray) : List ByteArray := (pcs l 32 l.size).filter fun x => x.size != 0
def tln (s : ByteArray) : List ByteArray := if tx (lns s) (lnn s) = mt then (lns s).take (lnn s) else lns s
def spB : ByteArray := ⟨#[32]⟩
def nlB : ByteArray := ⟨#[10]⟩
def okB : ByteArray := ⟨#[111, 107]⟩
def slB : ByteArray := ⟨#[47]⟩
def erB (r : Int) : ByteArray := ⟨#[101, 114, 114, 111, 114, 32]⟩ ++ itb r
def sdn (l : List Int) : Nat → ByteArray
  | 0 => mt
  | k + 1 => (if k = 0 then mt else sdn l k ++ spB) ++ itb (l.getD k 0)
def sad (l : List Int) (r : Int) : ByteArray := if r = 0 then sdn l l.length else erB r
def fne (r : Int) : ByteArray := if r = 0 then okB else erB r
def jnw (l : List ByteArray) : Nat → ByteArray
  | 0 => mt
  | k + 1 => (if k = 0 then mt else jnw l k ++ spB) ++ tx l k
def vCirc : ByteArray := ⟨#[99, 105, 114, 99, 117, 105, 116]⟩
def vDeal : ByteArray := ⟨#[100, 101, 97, 108]⟩
def vOpen : ByteArray := ⟨#[111, 112, 101, 110]⟩
def vClear : ByteArray := ⟨#[99, 108, 101, 97, 114]⟩
def vShow : ByteArray := ⟨#[115, 104, 111, 119]⟩
def vRun : ByteArray := ⟨#[114, 117, 110]⟩
def vWork : ByteArray := ⟨#[119, 111, 114, 107]⟩
def vKeys : ByteArray := ⟨#[107, 101, 121, 115]⟩
def vGen : ByteArray := ⟨#[103, 101, 110]⟩
def vRefr : ByteArray := ⟨#[114, 101, 102, 114, 101, 115, 104]⟩
def vTwk : ByteArray := ⟨#[116, 119, 101, 97, 107]⟩
def vComb : ByteArray := ⟨#[99, 111, 109, 98, 105, 110, 101]⟩
def vMult : ByteArray := ⟨#[109, 117, 108, 116, 105, 112, 108, 121]⟩
def vKey : ByteArray := ⟨#[107, 101, 121]⟩
def vDrop : ByteArray := ⟨#[100, 114, 111, 112]⟩
def nba (l : List ByteArray) : List Int := nbl l l.length
def slash (l : List ByteArray) (j : Nat) : Prop := j < l.length ∧ tx l j = slB ∧ ∀ i, i < j → tx l i ≠ slB
theorem slash.one {l : List ByteArray} {i j : Nat} (h : slash l i) (k : slash l j) : i = j := by
  rcases Nat.lt_trichotomy i j with e | e | e
  · exact absurd h.2.1 (k.2.2 i e)
  · exact e
  · exact absurd k.2.1 (h.2.2 j e)
def Syn (v : ByteArray) (l : List ByteArray) : Prop :=
  if v = vCirc then 1 ≤ l.length
  else if v = vDeal ∨ v = vMult then okn l l.length ∧ 2 ≤ l.length
  else if v = vWork then ∃ j, slash l j ∧ okn l j ∧ okn (l.drop (j + 1)) (l.length - (j + 1)) ∧ 2 ≤ j
  else if v = vOpen then okn l l.length ∧ l.length % 2 = 1
  else if v = vRefr then okn l l.length ∧ 1 ≤ l.length
  else if v = vClear ∨ v = vShow then okn l l.length ∧ l.length = 0
  else if v = vKeys ∨ v = vTwk then okn l l.length ∧ l.length = 2
  else if v = vComb then okn l l.length ∧ l.length = 4
  else if v = vKey ∨ v = vDrop then okn l l.length ∧ l.length = 1
  else if v = vRun ∨ v = vGen then okn l l.length
  else False
def prs (N : List Int) : List (Int × Int) := (List.range ((N.length - 1) / 2)).map fun i => (N.getD (2 * i + 1) 0, N.getD (2 * i + 2) 0)
def dla (N : List Int) : ByteArray := if N.length - 2 ≤ 4 ∧ ((N.length - 2 : Nat) : Int) < N.getD 0 0 ∧ N.getD 0 0 ≤ 9 then sad (dl (N.getD 1 0 :: N.drop 2) (N.getD 0 0).toNat) 0 else erB 1
def Dci (v : ByteArray) (l : List ByteArray) (G : List Gt) (O : List Int) (out : ByteArray) : Prop :=
  if v = vShow then out = otx (gtx G G.length) O O.length ++ okB
  else if v = vRun then ∃ r, Cre G O G.length O.length l.length r ∧ out = sad (otl G O (nba l) O.length) r
  else ∃ j r, slash l j ∧ Ere G O G.length O.length ((nbl l j).getD 0 0) ((nbl l j).getD 1 0) (j - 2) (l.length - (j + 1)) r ∧ out = sad (otl G O ((nbl l j).drop 2) O.length) r
def Dkh (r : Int × Int × Kt) (out : ByteArray) (s' : Kt) : Prop := out = sad [r.1] r.2.1 ∧ s' = r.2.2
def Dkt (r : Int × Kt) (out : ByteArray) (s' : Kt) : Prop := out = fne r.1 ∧ s' = r.2
def Dky (v : ByteArray) (N : List Int) (s : Kt) (out : ByteArray) (s' : Kt) : Prop :=
  if v = vGen then Dkh (kgen s N) out s'
  else if v = vRefr then Dkt (krfr s (N.getD 0 0) (N.drop 1)) out s'
  else if v = vTwk then Dkh (kmix s (N.getD 0 0) (N.getD 0 0) 1 0 (N.getD 1 0)) out s'
  else if v = vComb then Dkh (kmix s (N.getD 0 0) (N.getD 1 0) (N.getD 2 0) (N.getD 3 0) 0) out s'
  else if v = vMult then Dkh (kmul s (N.getD 0 0) (N.getD 1 0) (N.drop 2)) out s'
  else if v = vKey then s' = s ∧ ∃ x r, Kop s (N.getD 0 0) x r ∧ out = sad [x] r
  else Dkt (kdrp s (N.getD 0 0)) out s'
def Dac (T : ByteArray) (S : Option Kt) (v : ByteArray) (l : List ByteArray) (out T' : ByteArray) (S' : Option Kt) : Prop :=
  if v = vCirc then S' = S ∧ ((2048 < T.size + (jnw l l.length).size + 1 ∧ out = erB 2 ∧ T' = T) ∨ (T.size + (jnw l l.length).size + 1 ≤ 2048 ∧ out = okB ∧ T' = T ++ (jnw l l.length ++ nlB)))
  else if v = vDeal then T' = T ∧ S' = S ∧ out = dla (nba l)
  else if v = vOpen then T' = T ∧ S' = S ∧ ∃ x B r, Rob (prs (nba l)) ((l.length - 1) / 2) ((nba l).getD 0 0) x B r ∧ out = sad (x :: B) r
  else if v = vClear then T' = mt ∧ S' = S ∧ out = okB
  else if v = vShow ∨ v = vRun ∨ v = vWork then T' = T ∧ S' = S ∧ ∃ G O at_ r, Par T G O at_ r ∧ ((r ≠ 0 ∧ out = erB r ++ (spB ++ itb (at_ : Int))) ∨ (r = 0 ∧ Dci v l G O out))
  else if v = vKeys then T' = T ∧ ((((0 ≤ (nba l).getD 1 0 ∧ (nba l).getD 1 0 ≤ 4) ∧ (nba l).getD 0 0 ≤ 9 ∧ 2 * (nba l).getD 1 0 + 1 ≤ (nba l).getD 0 0) ∧ out = okB ∧ S' = some (k0 ((nba l).getD 0 0).toNat ((nba l).getD 1 0).toNat)) ∨
      (¬ ((0 ≤ (nba l).getD 1 0 ∧ (nba l).getD 1 0 ≤ 4) ∧ (nba l).getD 0 0 ≤ 9 ∧ 2 * (nba l).getD 1 0 + 1 ≤ (nba l).getD 0 0) ∧ out = erB 1 ∧ S' = S))
  else T' = T ∧ ((S = none ∧ out = erB 4 ∧ S' = none) ∨ ∃ s s', S = some s ∧ S' = some s' ∧ Dky v (nba l) s out s')
def Dln (T : ByteArray) (S : Option Kt) (v : ByteArray) (l : List ByteArray) (out T' : ByteArray) (S' : Option Kt) : Prop :=
  (¬ Syn v l ∧ out = erB 3 ∧ T' = T ∧ S' = S) ∨ (Syn v l ∧ Dac T S v l out T' S')
def asked (l : ByteArray) : Prop := 1 ≤ (wrd l).length ∧ bt (tx (wrd l) 0) 0 ≠ 35
def Dks (L : List ByteArray) : Nat → ByteArray → ByteArray → Option Kt → Prop
  | 0, out, T, S => out = mt ∧ T = mt ∧ S = none
  | i + 1, out, T, S => ∃ o0 T0 S0, Dks L i o0 T0 S0 ∧ ((¬ asked (tx L i) ∧ out = o0 ∧ T = T0 ∧ S = S0) ∨ (asked (tx L i) ∧ ∃ x, Dln T0 S0 (tx (wrd (tx L i)) 0) ((wrd (tx L i)).drop 1) x T S ∧ out = o0 ++ (x ++ nlB)))
def Dsk (s out : ByteArray) : Prop := ((65536 < s.size ∨ 200 < (tln s).length) ∧ out = erB 2 ++ nlB) ∨ (¬ (65536 < s.size ∨ 200 < (tln s).length) ∧ ∃ T S, Dks (tln s) (tln s).length out T S)

theorem nba_len (l : List ByteArray) : (nba l).length = l.length := by simp [nba, nbl]
theorem prs_len (N : List Int) : (prs N).length = (N.length - 1) / 2 := by simp [prs]
theorem Dky.one {v : ByteArray} {N : List Int} {s s1 s2 : Kt} {o p : ByteArray} (h : Dky v N s o s1) (k : Dky v N s p s2) : o = p ∧ s1 = s2 := by
  unfold Dky Dkh Dkt at h k
  by_cases e1 : v = vGen
  · rw [if_pos e1] at h k; exact ⟨h.1.trans k.1.symm, h.2.trans k.2.symm⟩
  rw [if_neg e1] at h k
  by_cases e2 : v = vRefr
  · rw [if_pos e2] at h k; exact ⟨h.1.trans k.1.symm, h.2.trans k.2.symm⟩
  rw [if_neg e2] at h k
  by_cases e3 : v = vTwk
  · rw [if_pos e3] at h k; exact ⟨h.1.trans k.1.symm, h.2.trans k.2.symm⟩
  rw [if_neg e3] at h k
  by_cases e4 : v = vComb
  · rw [if_pos e4] at h k; exact ⟨h.1.trans k.1.symm, h.2.trans k.2.symm⟩
  rw [if_neg e4] at h k
  by_cases e5 : v = vMult
  · rw [if_pos e5] at h k; exact ⟨h.1.trans k.1.symm, h.2.trans k.2.symm⟩
  rw [if_neg e5] at h k
  by_cases e6 : v = vKey
  · rw [if_pos e6] at h k
    obtain ⟨rfl, x, r, h1, rfl⟩ := h
    obtain ⟨rfl, y, q, k1, rfl⟩ := k
    obtain ⟨rfl, rfl⟩ := h1.one k1
    exact ⟨rfl, rfl⟩
  · rw [if_neg e6] at h k; exact ⟨h.1.trans k.1.symm, h.2.trans k.2.symm⟩
theorem Dci.one {v : ByteArray} {l : List ByteArray} {G : List Gt} {O : List Int} {o p : ByteArray} (h : Dci v l G O o) (k : Dci v l G O p) : o = p := by
  unfold Dci at h k
  by_cases e1 : v = vShow
  · rw [if_pos e1] at h k; exact h.trans k.symm
  rw [if_neg e1] at h k
  by_cases e2 : v = vRun
  · rw [if_pos e2] at h k
    obtain ⟨r, h1, rfl⟩ := h
    obtain ⟨q, k1, rfl⟩ := k
    rw [h1.one k1]
  rw [if_neg e2] at h k
  obtain ⟨i, r, h0, h1, rfl⟩ := h
  obtain ⟨j, q, k0, k1, rfl⟩ := k
  obtain rfl := h0.one k0
  rw [h1.one k1]
theorem Dac.one {T : ByteArray} {S : Option Kt} {v : ByteArray} {l : List ByteArray} {o p T1 T2 : ByteArray} {S1 S2 : Option Kt} (h : Dac T S v l o T1 S1) (k : Dac T S v l p T2 S2) : o = p ∧ T1 = T2 ∧ S1 = S2 := by
  unfold Dac at h k
  by_cases e1 : v = vCirc
  · rw [if_pos e1] at h k
    obtain ⟨rfl, ⟨h1, rfl, rfl⟩ | ⟨h1, rfl, rfl⟩⟩ := h <;> obtain ⟨rfl, ⟨k1, rfl, rfl⟩ | ⟨k1, rfl, rfl⟩⟩ := k
    · exact ⟨rfl, rfl, rfl⟩
    · omega
    · omega
    · exact ⟨rfl, rfl, rfl⟩
  rw [if_neg e1] at h k
  by_cases e2 : v = vDeal
  · rw [if_pos e2] at h k
    obtain ⟨rfl, rfl, rfl⟩ := h
    obtain ⟨rfl, rfl, rfl⟩ := k
    exact ⟨rfl, rfl, rfl⟩
  rw [if_neg e2] at h k
  by_cases e3 : v = vOpen
  · rw [if_pos e3] at h k
    obtain ⟨rfl, rfl, x, B, r, h1, rfl⟩ := h
    obtain ⟨rfl, rfl, y, C, q, k1, rfl⟩ := k
    obtain ⟨rfl, rfl, rfl⟩ := h1.one (by rw [prs_len, nba_len]) k1
    exact ⟨rfl, rfl, rfl⟩
  rw [if_neg e3] at h k
  by_cases e4 : v = vClear
  · rw [if_pos e4] at h k
    obtain ⟨rfl, rfl, rfl⟩ := h
    obtain ⟨rfl, rfl, rfl⟩ := k
    exact ⟨rfl, rfl, rfl⟩
  rw [if_neg e4] at h k
  by_cases e5 : v = vShow ∨ v = vRun ∨ v = vWork
  · rw [if_pos e5] at h k
    obtain ⟨rfl, rfl, G, O, n, r, h1, h2⟩ := h
    obtain ⟨rfl, rfl, H, Q, m, q, k1, k2⟩ := k
    obtain ⟨rfl, rfl, rfl, rfl⟩ := h1.one k1
    rcases h2 with ⟨h2, rfl⟩ | ⟨h2, h3⟩ <;> rcases k2 with ⟨k2, rfl⟩ | ⟨k2, k3⟩
    · exact ⟨rfl, rfl, rfl⟩
    · exact absurd k2 h2
    · exact absurd h2 k2
    · exact ⟨h3.one k3, rfl, rfl⟩
  rw [if_neg e5] at h k
  by_cases e6 : v = vKeys
  · rw [if_pos e6] at h k
    obtain ⟨rfl, ⟨h1, rfl, rfl⟩ | ⟨h1, rfl, rfl⟩⟩ := h <;> obtain ⟨rfl, ⟨k1, rfl, rfl⟩ | ⟨k1, rfl, rfl⟩⟩ := k
    · exact ⟨rfl, rfl, rfl⟩
    · exact absurd h1 k1
    · exact absurd k1 h1
    · exact ⟨rfl, rfl, rfl⟩
  rw [if_neg e6] at h k
  obtain ⟨rfl, ⟨h1, rfl, rfl⟩ | ⟨s, s1, h1, rfl, h2⟩⟩ := h <;> obtain ⟨rfl, ⟨k1, rfl, rfl⟩ | ⟨s2, s3, k1, rfl, k2⟩⟩ := k
  · exact ⟨rfl, rfl, rfl⟩
  · rw [h1] at k1; cases k1
  · rw [h1] at k1; cases k1
  · rw [h1] at k1
    obtain rfl := Option.some.inj k1
    obtain ⟨rfl, rfl⟩ := h2.one k2
    exact ⟨rfl, rfl, rfl⟩
theorem Dln.one {T : ByteArray} {S : Option Kt} {v : ByteArray} {l : List ByteArray} {o p T1 T2 : ByteArray} {S1 S2 : Option Kt} (h : Dln T S v l o T1 S1) (k : Dln T S v l p T2 S2) : o = p ∧ T1 = T2 ∧ S1 = S2 := by
  rcases h with ⟨h1, rfl, rfl, rfl⟩ | ⟨h1, h2⟩ <;> rcases k with ⟨k1, rfl, rfl, rfl⟩ | ⟨k1, k2⟩
  · exact ⟨rfl, rfl, rfl⟩
  · exact absurd k1 h1
  · exact absurd h1 k1
  · exact h2.one k2
theorem Dks.one {L : List ByteArray} : ∀ {i : Nat} {o p T1 T2 : ByteArray} {S1 S2 : Option Kt}, Dks L i o T1 S1 → Dks L i p T2 S2 → o = p ∧ T1 = T2 ∧ S1 = S2
  | 0, _, _, _, _, _, _, h, k => by obtain ⟨rfl, rfl, rfl⟩ := h; obtain ⟨rfl, rfl, rfl⟩ := k; exact ⟨rfl, rfl, rfl⟩
  | i + 1, _, _, _, _, _, _, h, k => by
    obtain ⟨o0, T0, S0, h0, h1⟩ := h
    obtain ⟨p0, U0, R0, k0, k1⟩ := k
    obtain ⟨rfl, rfl, rfl⟩ := h0.one k0
    rcases h1 with ⟨h1, rfl, rfl, rfl⟩ | ⟨h1, x, h2, rfl⟩ <;> rcases k1 with ⟨k1, rfl, rfl, rfl⟩ | ⟨k1, y, k2, rfl⟩
    · exact ⟨rfl, rfl, rfl⟩
    · exact absurd k1 h1
    · exact absurd h1 k1
    · obtain ⟨rfl, rfl, rfl⟩ := h2.one k2
      exact ⟨rfl, rfl, rfl⟩
theorem Dsk.one {s o p : ByteArray} (h : Dsk s o) (k : Dsk s p) : o = p := by
  rcases h with ⟨h1, rfl⟩ | ⟨h1, T, S, h2⟩ <;> rcases k with ⟨k1, rfl⟩ | ⟨k1, U, R, k2⟩
  · rfl
  · exact absurd h1 k1
  · exact absurd k1 h1
  · exact (h2.one k2).1
theorem or_to {a b c : Prop} (h : a ∨ b) (f : b → c) : a ∨ c := h.elim .inl (fun x => .inr (f x))
end
section
open Crm Go.RowKit
theorem add_big {P : Program} (x y : ByteArray) (h : x.size + y.size ≤ 9223372036854775807) (w : World) : (Op.stringOp .add x y).run P w = .ok (.string (x ++ y)) w := by
  rw [run_string_add_if, if_neg (by omega)]
theorem erB_size (r : Int) (h0 : -9223372036854775808 ≤ r) (h1 : r ≤ 9223372036854775807) : (erB r).size ≤ 27 := by
  have := itb_size r h0 h1
  unfold erB
  rw [ByteArray.size_append]
  have : (⟨#[101, 114, 114, 111, 114, 32]⟩ : ByteArray).size = 6 := rfl
  omega
theorem itb_u64 {n : Int} (h0 : 0 ≤ n) (h1 : n ≤ 18446744073709551615) : (itb n).size ≤ 21 := by
  obtain ⟨k, rfl⟩ : ∃ k : Nat, n = k := ⟨n.toNat, by omega⟩
  have e : (itb (k : Int)).size = (Lib.decDigits k).length := by unfold itb; rw [Lib.itoa_nonneg]; simp [ByteArray.size]
  rw [e, Lib.decDigits_length]
  have := Lib.nDigits_le20 k (by omega)
  omega
theorem sdn_size {l : List Int} (h : ∀ x ∈ l, 0 ≤ x ∧ x ≤ 18446744073709551615) : ∀ k, (sdn l k).size ≤ 22 * k
  | 0 => Nat.le_refl 0
  | k + 1 => by
    have ih := sdn_size h k
    have hd := getD_bd h k
    have hi := itb_u64 hd.1 hd.2
    rw [sdn, ByteArray.size_append]
    split
    · have : mt.size = 0 := rfl
      omega
    · rw [ByteArray.size_append]
      have : spB.size = 1 := rfl
      omega
theorem infoStr : (Tryz.prog.info? 9).map (fun i => (i.zero, i.size, i.bytes)) = some (some (.string ⟨#[]⟩), 1, 16) := by kernel_rfl
theorem infoStr1 : (Tryz.prog.info? 9).map (·.size) = some 1 := by kernel_rfl
theorem RdT.own0 {w : World} {base n : Nat} {E : TypeId} {v : Value} {L : List ByteArray} (h : w.ownsRow base E 1 v n (strs L)) (hb : ∀ x ∈ L, x.size ≤ 9223372036854775807) : ∃ a c, v = .slice a n c ∧ RdT w a n c L := by
  by_cases hn : 0 < n
  · obtain ⟨g, c, rfl, _, hr⟩ := RdT.own h hn hb
    exact ⟨_, _, rfl, hr⟩
  · obtain rfl : n = 0 := by omega
    have hl : L.length = 0 := by have := h.1; rw [strs_len] at this; omega
    obtain rfl : L = [] := List.eq_nil_of_length_eq_zero hl
    rcases h.2 with ⟨rfl, _⟩ | ⟨g, cap, cur, rfl, _, _, h1, h2, _⟩
    · exact ⟨none, 0, rfl, rfl, Nat.le_refl _, Nat.zero_le _, fun _ => rfl, fun i hi => by omega, by simp⟩
    · exact ⟨_, _, rfl, rfl, Nat.zero_le _, h2, by simp, fun i hi => by omega, fun x hx i hi => by omega⟩
def wdk (l : ByteArray) (k : Nat) : List ByteArray := ((pcs l 32 l.size).take k).filter fun x => x.size != 0
theorem wdk_all (l : ByteArray) : wdk l (pcs l 32 l.size).length = wrd l := by unfold wdk wrd; rw [List.take_length]
theorem wdk_step (l : ByteArray) {k : Nat} (h : k < (pcs l 32 l.size).length) : wdk l (k + 1) = if (tx (pcs l 32 l.size) k).size = 0 then wdk l k else wdk l k ++ [tx (pcs l 32 l.size) k] := by
  unfold wdk tx
  rw [List.take_add_one, List.getElem?_eq_getElem h, List.filter_append, List.getD_eq_getElem?_getD, List.getElem?_eq_getElem h, Option.getD_some]
  by_cases e : ((pcs l 32 l.size)[k]).size = 0
  · rw [if_pos e]; simp [e]
  · rw [if_neg e]; simp [e]
theorem wdk_len (l : ByteArray) (k : Nat) : (wdk l k).length ≤ k := by
  unfold wdk
  refine Nat.le_trans (List.length_filter_le _ _) ?_
  rw [List.length_take]
  omega
theorem wrd_len (l : ByteArray) : (wrd l).length ≤ l.size + 1 := by
  rw [← wdk_all]
  have := wdk_len l (pcs l 32 l.size).length
  have := (pcs_len l 32 l.size).2
  omega
theorem wrd_size (l : ByteArray) : ∀ x ∈ wrd l, 1 ≤ x.size ∧ x.size ≤ l.size := fun x hx => by
  unfold wrd at hx
  obtain ⟨h1, h2⟩ := List.mem_filter.1 hx
  have h3 := pcs_size l 32 l.size x h1
  have h4 := bne_iff_ne.1 h2
  omega
theorem isE_no {r : ByteArray} (h : r.size ≠ 0) : r.toList.isEmpty = false := by
  rw [ByteArray.toList_eq]
  cases hd : r.data.toList with
  | nil =>
    exfalso
    apply h
    have e := congrArg List.length hd
    rw [Array.length_toList] at e
    exact e
  | cons a l => rfl
theorem size_zero {x : ByteArray} (h : x.size = 0) : x = ⟨#[]⟩ := by
  obtain ⟨d⟩ := x
  congr
  exact Array.eq_empty_of_size_eq_zero h

theorem rLineWords (s : ByteArray) (w : World) (hs : s.size ≤ 100000) :
    Calls Tryz.prog 8 #[.string s] w fun e w' => ∃ a c, e = .returned (.slice a (wrd s).length c) ∧ RdT w' a (wrd s).length c (wrd s) ∧ Below w.heap.size w w' := by
  go_enter Tryz.func8, Tryz.ntmps8
  go_wp2_with fail
  refine (rPieces s 32 _ hs (by omega) (by omega)).mono ?_
  rintro e w1 ⟨v, rfl, ho, hb1⟩
  have hpl := pcs_len s 32 s.size
  obtain ⟨g, c, rfl, _, hr⟩ := RdT.own ho (by omega) (fun x hx => by have := pcs_size s 32 s.size x hx; omega)
  obtain ⟨L, HL⟩ : ∃ L, Hid (pcs s 32 s.size = L) := ⟨_, rfl⟩
  have HST : Hid (∀ k, k < L.length → wdk s (k + 1) = if (tx L k).size = 0 then wdk s k else wdk s k ++ [tx L k]) := fun k hk => by rw [← HL.out] at hk ⊢; exact wdk_step s hk
  have HAL : Hid (wdk s L.length = wrd s) := by unfold Hid; rw [← HL.out]; exact wdk_all s
  have HWB : Hid (∀ x ∈ wrd s, x.size ≤ 9223372036854775807) := fun x hx => by have := wrd_size s x hx; omega
  rw [HL.out] at hr hpl ⊢
  obtain ⟨n, HN⟩ : ∃ n, Hid (L.length = n) := ⟨_, rfl⟩
  rw [HN.out] at hr hpl ⊢
  have hcap := hr.cap
  have hmax := hr.max
  unfold maxLen at hmax
  have hs1 := hb1.size
  clear ho
  go_wp2
  go_loopw [3, 5] (fun v q wr => ∃ i : Nat, i ≤ n ∧ q = .int .i64 i ∧ wr.ownsRow w1.heap.size 9 1 v (wdk s i).length (strs (wdk s i)) ∧ Below w1.heap.size w1 wr) (fun _ q _ => n - (intOf q).toNat)
  case atStart => exact ⟨0, Nat.zero_le _, rfl, by unfold wdk; rw [List.take_zero]; exact World.ownsRow_nil _ _ _ _, Below.refl _ _⟩
  case round =>
    obtain ⟨i, hin, rfl, hown, hbel⟩ := hrel
    have hs2 := hbel.size
    by_cases hlt : i < n
    · obtain ⟨b, o, x, eb, hbb, HX, hxs, hcx⟩ := (hr.below hbel).one hlt
      simp only [Option.some.injEq, Addr.mk.injEq, and_true] at eb
      obtain ⟨rfl, rfl⟩ := eb
      have hlti : (i : Int) < (n : Int) := by omega
      rw [Nat.zero_add] at hcx
      have HS := HST.out i (by rw [HN.out]; exact hlt)
      rw [HX.out] at HS
      by_cases hx0 : x.size = 0
      · rw [if_pos hx0] at HS
        have HS2 : Hid (wdk s (i + 1) = wdk s i) := HS
        obtain rfl := size_zero hx0
        clear HS hx0
        go_wp2
        go_roundw
        case rel => exact ⟨i + 1, by omega, by go_num, by rw [HS2.out]; exact hown, hbel⟩
        case measure => simp [intOf]; omega
      · rw [if_neg hx0] at HS
        have hlw := wdk_len s i
        obtain ⟨P, HP⟩ : ∃ P, Hid (wdk s i = P) := ⟨_, rfl⟩
        rw [HP.out] at hown hlw HS
        obtain ⟨p, HPL⟩ : ∃ p, Hid (P.length = p) := ⟨_, rfl⟩
        rw [HPL.out] at hown hlw
        have HS2 : Hid (wdk s (i + 1) = P ++ [x]) := HS
        have HS3 : Hid (strs P ++ [.string x] = strs (P ++ [x])) := by unfold Hid; simp [strs]
        have HS4 : Hid ((P ++ [x]).length = p + 1) := by unfold Hid; rw [List.length_append, HPL.out]; rfl
        have hxe := isE_no hx0
        clear HS hx0
        go_wp2_with (at_builtin; refine wpList_appV Tryz.underlying23 infoStr rfl (by omega) _ rfl _ _ rfl w1.heap.size _ _ _ rfl hown (.string x) rfl rfl (by omega) hs2 ?_; intro v2 w2 hown2 hgr2 _; rw [HS3.out] at hown2; have hb2 := hbel.grown hgr2 hs2 (fun p hp => (hown.lt p hp).1); clear hgr2 hown hbel)
        go_roundw
        case rel => exact ⟨i + 1, by omega, by go_num, by rw [HS2.out, HS4.out]; exact hown2, hb2⟩
        case measure => simp [intOf]; omega
    · obtain rfl : i = n := by omega
      have hnn : ¬ ((i : Int) < (i : Int)) := by omega
      have e : wdk s i = wrd s := by rw [← HN.out]; exact HAL.out
      rw [e] at hown
      obtain ⟨a', c', rfl, hr'⟩ := RdT.own0 hown HWB.out
      have hbw := hb1.trans (hbel.mono hs1)
      clear e hown
      go_wp2
      go_ret
      exact ⟨a', c', rfl, hr', hbw⟩

theorem lns_last (s : ByteArray) : ∀ x ∈ lns s, x.size ≤ s.size := fun x hx => pcs_size s 10 s.size x hx
theorem RdT.tke {w : World} {a : Option Addr} {n c : Nat} {L : List ByteArray} (h : RdT w a n c L) {k : Nat} (hk : k ≤ n) : RdT w a k c (L.take k) := by
  have hl := h.len
  have hc := h.cap
  refine ⟨by simp; omega, by omega, h.max, h.nil, fun i hi => ?_, fun x hx i hi => ?_⟩
  · have e : tx (L.take k) i = tx L i := by unfold tx; simp [hi]
    rw [e]; exact h.bd i (by omega)
  · have e : tx (L.take k) i = tx L i := by unfold tx; simp [hi]
    rw [e]; exact h.cell x hx i (by omega)

theorem rTextLines (s : ByteArray) (w : World) (hs : s.size ≤ 2000000) :
    Calls Tryz.prog 6 #[.string s] w fun e w' => ∃ a c, e = .returned (.slice a (tln s).length c) ∧ RdT w' a (tln s).length c (tln s) ∧ Below w.heap.size w w' := by
  go_enter Tryz.func6, Tryz.ntmps6
  go_wp2_with fail
  refine (rPiecesB s 10 _ hs (by omega) (by omega)).mono ?_
  rintro e w1 ⟨v, rfl, ho, hb1⟩
  have hpl := pcs_len s 10 s.size
  obtain ⟨g, c, rfl, _, hr⟩ := RdT.own ho (by omega) (fun x hx => by have := pcs_size s 10 s.size x hx; omega)
  have hll := lns_len s
  change RdT w1 _ (lns s).length c (lns s) at hr
  rw [hll] at hr
  obtain ⟨m, HM⟩ : ∃ m, Hid (lnn s = m) := ⟨_, rfl⟩
  have hr2 := hr
  rw [HM.out] at hr
  have hcap := hr.cap
  have hmax := hr.max
  unfold maxLen at hmax
  obtain ⟨b, o, x, eb, hbb, HX, hxs, hcx⟩ := hr.one (show m < m + 1 by omega)
  simp only [Option.some.injEq, Addr.mk.injEq, and_true] at eb
  obtain ⟨rfl, rfl⟩ := eb
  rw [Nat.zero_add] at hcx
  have HL : Hid ((pcs s 10 s.size).length = m + 1) := by unfold Hid; rw [← HM.out]; exact hll
  rw [HL.out]
  have hm0 : (0 : Int) ≤ (m : Int) := by omega
  by_cases hx0 : x = mt
  · have HT : Hid (tln s = (lns s).take m) := by unfold Hid tln; rw [HM.out, HX.out, if_pos hx0]
    have hr3 := hr.tke (show m ≤ m + 1 by omega)
    have HTL : Hid ((tln s).length = m) := by unfold Hid; rw [HT.out, List.length_take, hll, HM.out]; omega
    have hsl : ∀ W, (Instr.sliceAt 23 (.slice (some ⟨g, 0, none⟩) (m + 1) c) none (some (.int .i64 (m : Int))) none).run Tryz.prog W = .ok (.slice (some ⟨g, 0, none⟩) m c) W := fun W => run_subh Tryz.underlying23 infoStr1 (some ⟨g, 0, none⟩) (m + 1) c m (fun e => by simp at e) (by omega) W
    subst hx0
    unfold mt at hcx
    clear hr2 ho hpl hll
    go_wp2
    go_ret
    rw [HTL.out, HT.out]
    exact ⟨_, c, rfl, hr3, hb1⟩
  · have HT : Hid (tln s = lns s) := by unfold Hid tln; rw [HM.out, HX.out, if_neg hx0]
    have HTL : Hid ((tln s).length = m + 1) := by unfold Hid; rw [HT.out, hll, HM.out]
    have hxe := isE_no (r := x) (fun e => hx0 (size_zero e))
    clear hr2 ho hpl hll hx0
    go_wp2
    go_ret
    rw [HTL.out, HT.out]
    exact ⟨_, c, rfl, hr, hb1⟩
theorem Tch.same {w w1 w2 : World} {G : Nat → Prop} (h : Tch w w1 G) (k : Tch w1 w2 G) : Tch w w2 G :=
  ⟨k.os.trans h.os, k.tape.trans h.tape, k.output.trans h.output, Nat.le_trans h.size k.size, fun i hi hn => (k.block i (Nat.lt_of_lt_of_le hi h.size) hn).trans (h.block i hi hn)⟩
theorem RdI.block {w w' : World} {a : Option Addr} {n c : Nat} {xs : List Int} (h : RdI w a n c xs) (hk : ∀ x, a = some x → w'.heap[x.block]? = w.heap[x.block]?) : RdI w' a n c xs := by
  refine ⟨h.len, h.cap, h.max, h.bd, h.nil, fun x hx i hi => ?_⟩
  have e : w'.cell? (x.add i) = w.cell? (x.add i) := cell_block (by rw [add_block]; exact hk x hx)
  rw [e]
  exact h.cell x hx i hi
theorem RdI.tch {w w' : World} {G : Nat → Prop} {a : Option Addr} {n c : Nat} {xs : List Int} (h : RdI w a n c xs) (ht : Tch w w' G) (hn : 0 < n) (hG : ∀ x, a = some x → ¬ G x.block) : RdI w' a n c xs := by
  refine h.block fun x hx => ht.block _ ?_ (hG x hx)
  obtain ⟨b, o, y, e, hb, _⟩ := h.one hn
  rw [hx] at e
  obtain rfl := Option.some.inj e
  exact hb
theorem RdI.tch0 {w w' : World} {G : Nat → Prop} {a : Option Addr} {n c : Nat} {xs : List Int} (h : RdI w a n c xs) (ht : Tch w w' G) (hG : ∀ x, a = some x → ¬ G x.block) : RdI w' a n c xs := by
  by_cases hn : 0 < n
  · exact h.tch ht hn hG
  · exact ⟨h.len, h.cap, h.max, h.bd, h.nil, fun x hx i hi => by omega⟩
theorem RdI.sub {w : World} {a : Option Addr} {n c : Nat} {xs : List Int} (h : RdI w a n c xs) {lo : Nat} (hk : lo ≤ n) : RdI w (subA a c lo) (n - lo) (c - lo) (xs.drop lo) := by
  have hl := h.len
  have hc := h.cap
  have hm := h.max
  refine ⟨by simp; omega, by omega, by omega, fun x hx => h.bd x (List.mem_of_mem_drop hx), fun e => ?_, fun x hx i hi => ?_⟩
  · unfold subA at e
    split at e
    · omega
    · cases a with
      | none => have := h.nil rfl; omega
      | some y => simp at e
  · obtain ⟨b, o, y, rfl, _, HY, _, _, hcell⟩ := h.one (k := lo + i) (by omega)
    unfold subA at hx
    rw [if_neg (by omega), Option.map_some] at hx
    obtain rfl := Option.some.inj hx
    rw [Addr.add_lit, Addr.add_lit, Nat.add_assoc, hcell]
    congr 2
    rw [← HY.out]
    simp
theorem Opn.rb {l : List (Int × Int)} {n : Nat} {t x r : Int} (h : Opn l n t x r) : -9223372036854775808 ≤ r ∧ r ≤ 9223372036854775807 := by
  rcases h with ⟨h1, _, _⟩ | ⟨_, ⟨_, _, _, _, rfl⟩ | ⟨_, _, rfl⟩⟩
  · have := h1.bd; omega
  · omega
  · omega
theorem Kop.rb {s : Kt} {i x r : Int} (h : Kop s i x r) : -9223372036854775808 ≤ r ∧ r ≤ 9223372036854775807 := by
  rcases h with ⟨_, _, rfl⟩ | ⟨l, _, h⟩
  · omega
  · exact h.rb
theorem Kop.val2 {s : Kt} {x y r : Int} (h : Kop s x y r) : 0 ≤ y ∧ y ≤ 2147483646 := by
  rcases h with ⟨_, rfl, _⟩ | ⟨l, _, ⟨_, _, rfl⟩ | ⟨_, ⟨S, _, _, rfl, _⟩ | ⟨_, rfl, _⟩⟩⟩
  · omega
  · omega
  · exact nm_bd _
  · omega
theorem kadd_rb (s : Kt) (l : List Int) (h : s.last ≤ 1000000) : 0 ≤ (kadd s l).1 ∧ (kadd s l).1 ≤ 9223372036854775807 ∧ -9223372036854775808 ≤ (kadd s l).2.1 ∧ (kadd s l).2.1 ≤ 9223372036854775807 := by
  rcases kadd_cases s l with ⟨_, e⟩ | ⟨_, e⟩ <;> (rw [e]; simp only; omega)
theorem kgen_rb {s : Kt} (N : List Int) (h : s.last ≤ 1000000) : 0 ≤ (kgen s N).1 ∧ (kgen s N).1 ≤ 9223372036854775807 ∧ -9223372036854775808 ≤ (kgen s N).2.1 ∧ (kgen s N).2.1 ≤ 9223372036854775807 := by
  unfold kgen
  split
  · exact kadd_rb _ _ h
  · simp only; omega
theorem kmix_rb {s : Kt} (g i a b c : Int) (h : s.last ≤ 1000000) : 0 ≤ (kmix s g i a b c).1 ∧ (kmix s g i a b c).1 ≤ 9223372036854775807 ∧ -9223372036854775808 ≤ (kmix s g i a b c).2.1 ∧ (kmix s g i a b c).2.1 ≤ 9223372036854775807 := by
  unfold kmix
  split
  · exact kadd_rb _ _ h
  · simp only; omega
theorem kmul_rb {s : Kt} (g i : Int) (ds : List Int) (h : s.last ≤ 1000000) : 0 ≤ (kmul s g i ds).1 ∧ (kmul s g i ds).1 ≤ 9223372036854775807 ∧ -9223372036854775808 ≤ (kmul s g i ds).2.1 ∧ (kmul s g i ds).2.1 ≤ 9223372036854775807 := by
  unfold kmul
  split
  · split
    · exact kadd_rb _ _ h
    · simp only; omega
  · simp only; omega
theorem krfr_rb (s : Kt) (i : Int) (ds : List Int) : -9223372036854775808 ≤ (krfr s i ds).1 ∧ (krfr s i ds).1 ≤ 9223372036854775807 := by
  unfold krfr
  split
  · split <;> (simp only; omega)
  · simp only; omega
theorem kdrp_rb (s : Kt) (i : Int) : -9223372036854775808 ≤ (kdrp s i).1 ∧ (kdrp s i).1 ≤ 9223372036854775807 := by
  unfold kdrp
  split <;> (simp only; omega)
theorem dFail (r : Int) (w : World) (h0 : -9223372036854775808 ≤ r) (h1 : r ≤ 9223372036854775807) (hT : Tabs w) :
    Calls Tryz.prog 11 #[.int .i64 r] w fun e w' => e = .returned (.string (erB r)) ∧ Below w.heap.size w w' := by
  have hz := itb_size r h0 h1
  have HE : Hid (⟨#[101, 114, 114, 111, 114, 32]⟩ ++ itb r = erB r) := rfl
  obtain ⟨u, HU⟩ : ∃ u, Hid (itb r = u) := ⟨_, rfl⟩
  rw [HU.out] at hz HE
  have a1 := add_big (P := Tryz.prog) ⟨#[101, 114, 114, 111, 114, 32]⟩ u (by have : (⟨#[101, 114, 114, 111, 114, 32]⟩ : ByteArray).size = 6 := rfl; omega)
  rw [HE.out] at a1
  go_enter Tryz.func11, Tryz.ntmps11
  go_wp2_with fail
  refine (sItoa r _ h0 h1 hT).mono ?_
  rintro e w1 ⟨rfl, hb⟩
  rw [HU.out]
  go_wp2
  go_ret
  exact ⟨rfl, hb⟩

theorem dDone (r : Int) (w : World) (h0 : -9223372036854775808 ≤ r) (h1 : r ≤ 9223372036854775807) (hT : Tabs w) :
    Calls Tryz.prog 48 #[.int .i64 r] w fun e w' => e = .returned (.string (fne r)) ∧ Below w.heap.size w w' := by
  by_cases hr : r = 0
  · subst hr
    have HE : Hid (fne 0 = ⟨#[111, 107]⟩) := rfl
    go_enter Tryz.func48, Tryz.ntmps48
    go_wp2
    go_ret
    rw [HE.out]
    exact ⟨rfl, Below.refl _ _⟩
  · have HE : Hid (fne r = erB r) := if_neg hr
    have hrb : (r != 0) = true := by rw [bne_iff_ne]; exact hr
    clear hr
    go_enter Tryz.func48, Tryz.ntmps48
    go_wp2_with fail
    refine (dFail r _ h0 h1 hT).mono ?_
    rintro e w1 ⟨rfl, hb⟩
    go_wp2
    go_ret
    rw [HE.out]
    exact ⟨rfl, hb⟩
def dsw (i : Nat) : ByteArray := ([vDeal, vOpen, vClear, vShow, vRun, vKeys, vGen, vRefr, vTwk, vComb, vMult, vKey, vDrop] : List ByteArray).getD i ⟨#[]⟩
def dsl (i : Nat) : Nat := [2, 1, 0, 0, 0, 2, 0, 1, 2, 4, 2, 1, 1].getD i 0
def dsm (i : Nat) : Bool := [true, true, false, false, true, false, true, true, false, false, true, false, false].getD i false
def dsc : List Value := (List.range 13).flatMap fun i => [.string (dsw i), .int .i64 (dsl i : Int), .bool (dsm i)]
theorem dsc_len : dsc.length = 39 := rfl
def Dsp (w : World) : Prop := ∃ t fr, w.heap[1]? = some (.cells dsc.toArray t fr)
theorem Dsp.below {w w' : World} (h : Dsp w) (hb : Below w.heap.size w w') : Dsp w' := by
  obtain ⟨t, fr, h⟩ := h
  exact ⟨t, fr, by rw [hb.block _ (Array.getElem?_eq_some_iff.1 h).1]; exact h⟩
theorem dsc_at {i : Nat} (hi : i < 13) : dsc[i * 3]? = some (.string (dsw i)) ∧ dsc[i * 3 + 1]? = some (.int .i64 (dsl i : Int)) ∧ dsc[i * 3 + 2]? = some (.bool (dsm i)) := by
  have hc : i = 0 ∨ i = 1 ∨ i = 2 ∨ i = 3 ∨ i = 4 ∨ i = 5 ∨ i = 6 ∨ i = 7 ∨ i = 8 ∨ i = 9 ∨ i = 10 ∨ i = 11 ∨ i = 12 := by omega
  rcases hc with rfl | rfl | rfl | rfl | rfl | rfl | rfl | rfl | rfl | rfl | rfl | rfl | rfl <;> exact ⟨rfl, rfl, rfl⟩
def Shq (v : ByteArray) (le : Nat) (mo : Bool) : Prop := (∃ i, i < 13 ∧ dsw i = v ∧ le = dsl i ∧ mo = dsm i) ∨ ((∀ i, i < 13 → dsw i ≠ v) ∧ le = 0 ∧ mo = false)
theorem Shq.of {v : ByteArray} {le : Nat} {mo : Bool} (h : Shq v le mo) {j : Nat} (hj : j < 13) (hv : dsw j = v) (hd : ∀ i, i < 13 → dsw i = v → i = j) : le = dsl j ∧ mo = dsm j := by
  rcases h with ⟨i, hi, e, rfl, rfl⟩ | ⟨hn, _, _⟩
  · obtain rfl := hd i hi e
    exact ⟨rfl, rfl⟩
  · exact absurd hv (hn j hj)
theorem dsw_inj : ∀ j, j < 13 → ∀ i, i < 13 → dsw i = dsw j → i = j := by decide +kernel
theorem Shq.at {le : Nat} {mo : Bool} {j : Nat} (h : Shq (dsw j) le mo) (hj : j < 13) : le = dsl j ∧ mo = dsm j := h.of hj rfl (dsw_inj j hj)
theorem Shq.no {v : ByteArray} {le : Nat} {mo : Bool} (h : Shq v le mo) (hn : ∀ i, i < 13 → dsw i ≠ v) : le = 0 ∧ mo = false := by
  rcases h with ⟨i, hi, e, _⟩ | ⟨_, h⟩
  · exact absurd e (hn i hi)
  · exact h
theorem infoShs : (Tryz.prog.info? 80).map (·.size) = some dsc.toArray.size := by kernel_rfl
theorem run_shape {i : Nat} (hi : i < 13) (W : World) : (Instr.index 80 (.agg dsc.toArray) (.int .i64 (i : Int))).run Tryz.prog W = .ok (.agg #[.string (dsw i), .int .i64 (dsl i : Int), .bool (dsm i)]) W := by
  have h0 : 0 ≤ (i : Int) ∧ (i : Int) < 13 := by omega
  have e : dsc.toArray.extract (i * 3) (i * 3 + 3) = #[.string (dsw i), .int .i64 (dsl i : Int), .bool (dsm i)] := by
    have hc : i = 0 ∨ i = 1 ∨ i = 2 ∨ i = 3 ∨ i = 4 ∨ i = 5 ∨ i = 6 ∨ i = 7 ∨ i = 8 ∨ i = 9 ∨ i = 10 ∨ i = 11 ∨ i = 12 := by omega
    rcases hc with rfl | rfl | rfl | rfl | rfl | rfl | rfl | rfl | rfl | rfl | rfl | rfl | rfl <;> rfl
  simp [Instr.index, run_underlying Tryz.underlying80, asIntOf, h0, part, Tryz.isAgg56, Tryz.sizeOf56, e, -List.extract_toArray]
  omega
def shz3 : Array Value := #[.string ⟨#[]⟩, .int .i64 0, .bool false]
theorem tl_no2 {x y : ByteArray} (h : x ≠ y) : (x.toList == y.toList) = false := by
  rw [beq_eq_false_iff_ne]
  intro e
  apply h
  rw [ByteArray.toList_eq, ByteArray.toList_eq] at e
  apply ByteArray.ext
  exact Array.ext' e

theorem box3 {w : World} {g : Nat} (h : w.heap[g]? = some (.cells shz3 56 (0, 0))) : w.cell? ⟨g, 0, none⟩ = some (.string ⟨#[]⟩) ∧ w.cell? ⟨g, 1, none⟩ = some (.int .i64 0) ∧ w.cell? ⟨g, 2, none⟩ = some (.bool false) ∧ ∀ i, w.frozen? ⟨g, i, none⟩ = false :=
  ⟨by rw [cell_of_row w g _ _ _ (0, 0) h]; rfl, by rw [cell_of_row w g _ _ _ (0, 0) h]; rfl, by rw [cell_of_row w g _ _ _ (0, 0) h]; rfl, fun i => frozen_of_row w g i _ _ h⟩
theorem three_put {w : World} {g : Nat} {a b c x y z : Value} (h0 : w.cell? ⟨g, 0, none⟩ = some a) (h1 : w.cell? ⟨g, 1, none⟩ = some b) (h2 : w.cell? ⟨g, 2, none⟩ = some c) :
    (((w.setCell ⟨g, 0, none⟩ x).setCell ⟨g, 1, none⟩ y).setCell ⟨g, 2, none⟩ z).cell? ⟨g, 0, none⟩ = some x ∧ (((w.setCell ⟨g, 0, none⟩ x).setCell ⟨g, 1, none⟩ y).setCell ⟨g, 2, none⟩ z).cell? ⟨g, 1, none⟩ = some y ∧ (((w.setCell ⟨g, 0, none⟩ x).setCell ⟨g, 1, none⟩ y).setCell ⟨g, 2, none⟩ z).cell? ⟨g, 2, none⟩ = some z := by
  have k0 : (w.setCell ⟨g, 0, none⟩ x).cell? ⟨g, 0, none⟩ = some x := World.cell?_setCell_same w _ x h0
  have k1 : (w.setCell ⟨g, 0, none⟩ x).cell? ⟨g, 1, none⟩ = some b := by rw [World.cell?_setCell_other _ _ _ _ (by simp)]; exact h1
  have k2 : (w.setCell ⟨g, 0, none⟩ x).cell? ⟨g, 2, none⟩ = some c := by rw [World.cell?_setCell_other _ _ _ _ (by simp)]; exact h2
  have m0 : ((w.setCell ⟨g, 0, none⟩ x).setCell ⟨g, 1, none⟩ y).cell? ⟨g, 0, none⟩ = some x := by rw [World.cell?_setCell_other _ _ _ _ (by simp)]; exact k0
  have m1 : ((w.setCell ⟨g, 0, none⟩ x).setCell ⟨g, 1, none⟩ y).cell? ⟨g, 1, none⟩ = some y := World.cell?_setCell_same _ _ y k1
  have m2 : ((w.setCell ⟨g, 0, none⟩ x).setCell ⟨g, 1, none⟩ y).cell? ⟨g, 2, none⟩ = some c := by rw [World.cell?_setCell_other _ _ _ _ (by simp)]; exact k2
  exact ⟨by rw [World.cell?_setCell_other _ _ _ _ (by simp)]; exact m0, by rw [World.cell?_setCell_other _ _ _ _ (by simp)]; exact m1, World.cell?_setCell_same _ _ z m2⟩

theorem dShape (v : ByteArray) (w : World) (hD : Dsp w) :
    Calls Tryz.prog 28 #[.string v] w fun e w' => ∃ (wd : ByteArray) (le : Nat) (mo : Bool), e = .returned (.agg #[.string wd, .int .i64 (le : Int), .bool mo]) ∧ Shq v le mo ∧ Below w.heap.size w w' := by
  have hD1 := hD.below ((Below.refl w.heap.size w).alloc (Nat.le_refl _) (.cells #[.string ⟨#[]⟩, .int .i64 0, .bool false] 56))
  have hb1 : Below w.heap.size w (w.alloc (.cells #[.string ⟨#[]⟩, .int .i64 0, .bool false] 56)) := (Below.refl _ _).alloc (Nat.le_refl _) _
  have hR1 : (w.alloc (.cells #[.string ⟨#[]⟩, .int .i64 0, .bool false] 56)).heap[w.heap.size]? = some (.cells shz3 56 (0, 0)) := heap_alloc_new w _
  obtain ⟨t98, fr, hrow⟩ := hD1
  clear hD
  go_enter Tryz.func28, Tryz.ntmps28
  go_upto_region 1 with fail
  generalize w.alloc (.cells #[.string ⟨#[]⟩, .int .i64 0, .bool false] 56) = w1 at *
  obtain ⟨R, HR⟩ : ∃ R, Hid (w.heap.size = R) := ⟨_, rfl⟩
  rw [HR.out] at hR1 ⊢
  obtain ⟨A, HA⟩ : ∃ A, Hid (dsc.toArray = A) := ⟨_, rfl⟩
  have Hin : Hid ((Tryz.prog.info? 80).map (·.size) = some A.size) := by unfold Hid; rw [← HA.out]; exact infoShs
  have HIX : Hid (∀ i : Nat, i < 13 → ∀ W, (Instr.index 80 (.agg A) (.int .i64 (i : Int))).run Tryz.prog W = .ok (.agg #[.string (dsw i), .int .i64 (dsl i : Int), .bool (dsm i)]) W) := fun i hi W => by rw [← HA.out]; exact run_shape hi W
  rw [HA.out] at hrow
  go_wp2_with (refine wpList_load_row rfl 80 _ rfl 1 rfl t98 A fr _ hrow Tryz.underlying80 rfl Hin.out ?_)
  go_loopw [6] (fun q wr => ∃ i : Nat, i ≤ 13 ∧ q = .int .i64 i ∧ Hid (∀ j, j < i → dsw j ≠ v) ∧ wr.heap[R]? = some (.cells shz3 56 (0, 0)) ∧ Below w.heap.size w wr) (fun q _ => 13 - (intOf q).toNat)
  case atStart => exact ⟨0, Nat.zero_le _, rfl, fun j hj => by omega, hR1, hb1⟩
  case round =>
    clear hR1 hb1 hrow
    obtain ⟨i, hi, rfl, HN, hR, hbel⟩ := hrel
    have hs1 := hbel.size
    have hRl : R < wr.heap.size := (Array.getElem?_eq_some_iff.1 hR).1
    by_cases hlt : i < 13
    · have hx := HIX.out i hlt
      obtain ⟨s, HS⟩ : ∃ s, Hid (dsw i = s) := ⟨_, rfl⟩
      obtain ⟨le, HLE⟩ : ∃ le, Hid (dsl i = le) := ⟨_, rfl⟩
      obtain ⟨mo, HMO⟩ : ∃ mo, Hid (dsm i = mo) := ⟨_, rfl⟩
      rw [HS.out, HLE.out, HMO.out] at hx
      have hlti : (i : Int) < 13 := by omega
      go_upto_region 4 with fail
      have hb3 := hbel.alloc hs1 (.cells #[.string s, .int .i64 le, .bool mo] 56)
      have hrow3 := heap_alloc_new wr (.cells #[.string s, .int .i64 le, .bool mo] 56)
      have hR3 : (wr.alloc (.cells #[.string s, .int .i64 le, .bool mo] 56)).heap[R]? = some (.cells shz3 56 (0, 0)) := by
        rw [← hR]
        exact ((Below.refl wr.heap.size wr).alloc (Nat.le_refl _) _).block R hRl
      generalize wr.alloc (.cells #[.string s, .int .i64 le, .bool mo] 56) = w3 at *
      have c0 : w3.cell? ⟨wr.heap.size, 0, none⟩ = some (.string s) := by rw [cell_of_row w3 _ _ _ _ (0, 0) hrow3]; rfl
      have c1 : w3.cell? ⟨wr.heap.size, 1, none⟩ = some (.int .i64 le) := by rw [cell_of_row w3 _ _ _ _ (0, 0) hrow3]; rfl
      have c2 : w3.cell? ⟨wr.heap.size, 2, none⟩ = some (.bool mo) := by rw [cell_of_row w3 _ _ _ _ (0, 0) hrow3]; rfl
      have hgl : wr.heap.size < w3.heap.size := (Array.getElem?_eq_some_iff.1 hrow3).1
      obtain ⟨g, HG⟩ : ∃ g, Hid (wr.heap.size = g) := ⟨_, rfl⟩
      rw [HG.out] at hrow3 c0 c1 c2 hgl ⊢
      clear hbel hR hx
      by_cases hsv : s = v
      · have hq : (s.toList == v.toList) = true := by rw [hsv]; simp
        have HSQ : Hid (Shq v le mo) := .inl ⟨i, hlt, by rw [HS.out]; exact hsv, HLE.out.symm, HMO.out.symm⟩
        clear hsv
        obtain ⟨r0, r1, r2, rf⟩ := box3 hR3
        obtain ⟨y0, y1, y2⟩ := three_put (x := .string s) (y := .int .i64 le) (z := .bool mo) r0 r1 r2
        have HBE : Hid (Below w.heap.size w (((w3.setCell ⟨R, 0, none⟩ (.string s)).setCell ⟨R, 1, none⟩ (.int .i64 le)).setCell ⟨R, 2, none⟩ (.bool mo))) := ((hb3.setCell (p := ⟨R, 0, none⟩) (Nat.le_of_eq HR.out) _).setCell (p := ⟨R, 1, none⟩) (Nat.le_of_eq HR.out) _).setCell (p := ⟨R, 2, none⟩) (Nat.le_of_eq HR.out) _
        have hRl3 : R < w3.heap.size := (Array.getElem?_eq_some_iff.1 hR3).1
        clear hb3 hrow3 hR3
        go_wp2
        exact bodyPost_ret (v := .agg #[.string s, .int .i64 le, .bool mo]) (by simp [results, Tryz.results28, go_sem, y0, y1, y2]) rfl ⟨s, le, mo, rfl, HSQ.out, HBE.out⟩
      · have hq : (s.toList == v.toList) = false := tl_no2 hsv
        have HN2 : Hid (∀ j, j < i + 1 → dsw j ≠ v) := fun j hj => by
          by_cases e : j = i
          · rw [e, HS.out]; exact hsv
          · exact HN.out j (by omega)
        clear hsv
        go_wp2
        go_roundw
        case rel => exact ⟨i + 1, by omega, by go_num, HN2, hR3, hb3⟩
        case measure => simp [intOf]; omega
    · obtain rfl : i = 13 := by omega
      have HSQ : Hid (Shq v 0 false) := .inr ⟨HN.out, rfl, rfl⟩
      obtain ⟨r0, r1, r2, rf⟩ := box3 hR
      obtain ⟨y0, y1, y2⟩ := three_put (x := .string ⟨#[]⟩) (y := .int .i64 0) (z := .bool false) r0 r1 r2
      have HBE : Hid (Below w.heap.size w (((wr.setCell ⟨R, 0, none⟩ (.string ⟨#[]⟩)).setCell ⟨R, 1, none⟩ (.int .i64 0)).setCell ⟨R, 2, none⟩ (.bool false))) := ((hbel.setCell (p := ⟨R, 0, none⟩) (Nat.le_of_eq HR.out) _).setCell (p := ⟨R, 1, none⟩) (Nat.le_of_eq HR.out) _).setCell (p := ⟨R, 2, none⟩) (Nat.le_of_eq HR.out) _
      clear hbel hR
      go_wp2
      exact bodyPost_ret (v := .agg #[.string ⟨#[]⟩, .int .i64 ((0 : Nat) : Int), .bool false]) (by simp [results, Tryz.results28, go_sem, y0, y1, y2]) rfl ⟨⟨#[]⟩, 0, false, rfl, HSQ.out, HBE.out⟩

def Fit3 (l : List ByteArray) (n le : Nat) (mo : Bool) : Prop := okn l n ∧ le ≤ n ∧ (n ≤ le ∨ mo = true)
def Rdn (l : List ByteArray) (n le : Nat) (mo : Bool) (w : World) (e : Ending) (w' : World) : Prop :=
  ((¬ Fit3 l n le mo ∧ ∃ v, e = .returned (.tuple #[v, .bool false])) ∨
   (Fit3 l n le mo ∧ ∃ g, e = .returned (.tuple #[.slice (some ⟨g, 0, none⟩) n n, .bool true]) ∧ w.heap.size ≤ g ∧ Blk w' g (nbl l n))) ∧ Below w.heap.size w w'

theorem dRead (wd : ByteArray) (le : Nat) (mo : Bool) (a : Option Addr) (n c : Nat) (l : List ByteArray) (w : World) (h : RdT w a n c l) (hn : n ≤ 100000) :
    Calls Tryz.prog 29 #[.agg #[.string wd, .int .i64 (le : Int), .bool mo], .slice a n c] w (Rdn l n le mo w) := by
  have hcap := h.cap
  have hmax := h.max
  unfold maxLen at hmax
  have hb1 : Below w.heap.size w (w.alloc (.cells #[.string wd, .int .i64 (le : Int), .bool mo] 56)) := (Below.refl _ _).alloc (Nat.le_refl _) _
  have hrow := heap_alloc_new w (.cells #[.string wd, .int .i64 (le : Int), .bool mo] 56)
  have h1 := h.below hb1
  clear h
  go_enter Tryz.func29, Tryz.ntmps29
  go_upto_region 1 with fail
  generalize w.alloc (.cells #[.string wd, .int .i64 (le : Int), .bool mo] 56) = w1 at *
  have c1 : w1.cell? ⟨w.heap.size, 1, none⟩ = some (.int .i64 le) := by rw [cell_of_row w1 _ _ _ _ (0, 0) hrow]; rfl
  have c2 : w1.cell? ⟨w.heap.size, 2, none⟩ = some (.bool mo) := by rw [cell_of_row w1 _ _ _ _ (0, 0) hrow]; rfl
  have hgl : w.heap.size < w1.heap.size := (Array.getElem?_eq_some_iff.1 hrow).1
  clear hrow
  by_cases hlt : n < le
  · have hli : (n : Int) < (le : Int) := by omega
    have HNO : Hid (¬ (Fit3 l n le mo)) := fun e => by have := e.2.1; omega
    clear h1
    go_wp2
    go_ret2
    exact ⟨.inl ⟨HNO.out, _, rfl⟩, hb1⟩
  have hli : ¬ (n : Int) < (le : Int) := by omega
  by_cases hgt : le < n
  · have hgi : (le : Int) < (n : Int) := by omega
    cases mo with
    | false =>
      have HNO : Hid (¬ (Fit3 l n le false)) := fun e => by
        rcases e.2.2 with e | e
        · omega
        · cases e
      clear h1
      go_wp2
      go_ret2
      exact ⟨.inl ⟨HNO.out, _, rfl⟩, hb1⟩
    | true =>
      go_wp2_with fail
      refine (cNumbers _ _ _ l _ h1 (by omega)).mono ?_
      rintro e w2 ⟨⟨hno, rfl⟩ | ⟨hok, g, rfl, hg, hB⟩, hb2⟩
      · have HNO : Hid (¬ (Fit3 l n le true)) := fun e => hno e.1
        have hb12 := hb1.trans (hb2.mono hb1.size)
        clear hno h1 hb2
        go_wp2
        go_ret2
        exact ⟨.inl ⟨HNO.out, _, rfl⟩, hb12⟩
      · have HY : Hid (Fit3 l n le true) := ⟨hok, by omega, .inr rfl⟩
        have hb12 := hb1.trans (hb2.mono hb1.size)
        have hs1 := hb1.size
        have HB : Hid (Blk w2 g (nbl l n)) := hB
        clear hok h1 hb2 hB
        go_wp2
        go_ret2
        exact ⟨.inr ⟨HY.out, g, rfl, by omega, HB.out⟩, hb12⟩
  · have hgi : ¬ (le : Int) < (n : Int) := by omega
    have HNL : Hid (n ≤ le) := by unfold Hid; omega
    go_wp2_with fail
    refine (cNumbers _ _ _ l _ h1 (by omega)).mono ?_
    rintro e w2 ⟨⟨hno, rfl⟩ | ⟨hok, g, rfl, hg, hB⟩, hb2⟩
    · have HNO : Hid (¬ (Fit3 l n le mo)) := fun e => hno e.1
      have hb12 := hb1.trans (hb2.mono hb1.size)
      clear hno h1 hb2
      go_wp2
      go_ret2
      exact ⟨.inl ⟨HNO.out, _, rfl⟩, hb12⟩
    · have HY : Hid (Fit3 l n le mo) := ⟨hok, by omega, .inl HNL.out⟩
      have hb12 := hb1.trans (hb2.mono hb1.size)
      have hs1 := hb1.size
      have HB : Hid (Blk w2 g (nbl l n)) := hB
      clear hok h1 hb2 hB
      go_wp2
      go_ret2
      exact ⟨.inr ⟨HY.out, g, rfl, by omega, HB.out⟩, hb12⟩
end
section
open Crm Go.RowKit Go.Shelf
theorem app_lies {P : Program} (w : World) (base : Nat) (t u ty e : TypeId) (i : TypeInfo) (ht : P.underlying t = some (.slice e)) (hu : P.underlying u = some .string) (hi : P.info? e = some i) (hz : i.zero = some (.int .u8 0)) (hsize : i.size = 1) (hby : i.bytes = 1)
    (v : Value) (n : Nat) (xs : List Value) (hown : w.ownsRow base e 1 v n xs) (s : ByteArray) (hb : n + s.size ≤ 140737488355328) {v' : Value} {w' : World} (hr : (Builtin.append_ #[t, u] ty #[v, .string s]).run P w = .ok v' w') : v'.ownBlock = v.ownBlock ∨ ∀ k, v'.ownBlock = some k → w.heap.size ≤ k := by
  have hxl : xs.length = n := by simpa using hown.1
  rcases hown.2 with ⟨rfl, rfl⟩ | ⟨g, cap, cur, rfl, _, hg, _, _, hcs, _⟩
  · by_cases hm : s.size = 0
    · left
      have hf := Lib.run_firstCells_string (P := P) w 1 s
      rw [hm] at hf
      have hr2 : (Builtin.append_ #[t, u] ty #[.slice none 0 0, .string s]).run P w = .ok (.slice none 0 0) w := by simp [Builtin.append_, run_underlying ht, run_underlying hu, sizeOf, typeInfo, hi, hsize, Builtin.lenOf, hm, hf]
      rw [hr] at hr2
      injection hr2 with e1 _
      rw [e1]
    · right
      have hr2 := run_append_nil_string (P := P) w t u ty e i (.int .u8 0) ht hu hi hz s (by omega) (by omega) (by rw [hby]; omega)
      rw [hr] at hr2
      injection hr2 with e1 _
      intro k hk
      rw [e1] at hk
      simp [Value.ownBlock] at hk
      omega
  · by_cases hroom : n + s.size ≤ cap
    · left
      have hcs' : cur.size = cap := by simpa using hcs
      have hr2 := Lib.run_append_room_string (P := P) w t u ty e i ht hu hi hsize g n cap cur hg s hroom (by omega)
      rw [hr] at hr2
      injection hr2 with e1 _
      rw [e1]
      rfl
    · right
      have holds : ∀ j u, xs[j]? = some u → w.cell? ((⟨g, 0, none⟩ : Addr).add j) = some u := hown.cells (g := g) rfl
      have hr2 := Lib.run_append_grow_string (P := P) w t u ty e i (.int .u8 0) ht hu hi hz ⟨g, 0, none⟩ n cap xs (by rw [hsize]; simpa using hxl) holds s (by omega) (by omega) (by rw [hby]; exact growslice_fits (by omega) (by omega))
      rw [hr] at hr2
      injection hr2 with e1 _
      intro k hk
      rw [e1] at hk
      simp [Value.ownBlock] at hk
      omega
theorem wpList_appB {P : Program} (w : World) {ops : Array Oper} {rest : List Oper} {o : Oper} {a : Act} {Q : Exit → Act → World → Prop} (hgd : o.guard = none) (sl x : Operand) (t u : TypeId)
    (ho : o.op = .call { callee := .builtin .append, args := #[sl, x], argTypes := #[t, u] })
    (base : Nat) (e : TypeId) (i : TypeInfo) (ht : P.underlying t = some (.slice e)) (hu : P.underlying u = some .string) (hi : P.info? e = some i) (hz : i.zero = some (.int .u8 0)) (hsize : i.size = 1) (hby : i.bytes = 1)
    (v : Value) (n : Nat) (xs : List Value) (hs : a.eval sl = v) (hown : w.ownsRow base e 1 v n xs) (s : ByteArray) (hx : a.eval x = .string s) (hb : n + s.size ≤ 1000000000) (hbase : base ≤ w.heap.size)
    (h : ∀ v' w', w'.ownsRow base e 1 v' (n + s.size) (xs ++ Lib.strCells s) → w.grownBy w' v.ownBlock → (v'.ownBlock = v.ownBlock ∨ ∀ k, v'.ownBlock = some k → w.heap.size ≤ k) → wpList P ops Q rest (a.put o.dst v') w') : wpList P ops Q (o :: rest) a w := by
  refine wpList_plain hgd fun K hK => ?_
  obtain ⟨v', w', hr, h2, h3, _⟩ := Lib.run_append_own_string (P := P) w base t u o.type e i ht hu hi hz hsize hby v n xs hown s (by unfold maxLen; omega) (by omega) hbase
  have h4 := app_lies w base t u o.type e i ht hu hi hz hsize hby v n xs hown s (by omega) hr
  unfold Oper.wp execOp
  simp only [ho, resolve, invoke, builtin, Sem.run_bind, Sem.run_pure, Result.andThen_ok, List.map_toArray, List.map_cons, List.map_nil, hs, hx, hr]
  exact hK _ _ (h v' w' h2 h3 h4)
def Bdf (w : World) (q : Nat) (t : ByteArray) (F : Nat → Prop) : Prop :=
  ∃ x v, (x = .pointer none ∨ x = .pointer (some ⟨q, 0, none⟩)) ∧ w.heap[q]? = some (.cells #[x, v] 38 (0, 0)) ∧ w.ownsRow 0 5 1 v (Lib.strCells t).length (Lib.strCells t) ∧ v.ownBlock ≠ some q ∧ F q ∧ ∀ g, v.ownBlock = some g → F g
theorem Bdf.lt {w : World} {q : Nat} {t : ByteArray} {F : Nat → Prop} (h : Bdf w q t F) : q < w.heap.size := by
  obtain ⟨x, v, _, h1, _⟩ := h
  exact (Array.getElem?_eq_some_iff.1 h1).1
theorem Bdf.keep {w w' : World} {q : Nat} {t : ByteArray} {F : Nat → Prop} (h : Bdf w q t F) (hk : ∀ i, F i → w'.heap[i]? = w.heap[i]?) : Bdf w' q t F := by
  obtain ⟨x, v, h0, h1, h2, h3, h4, h5⟩ := h
  refine ⟨x, v, h0, by rw [hk q h4]; exact h1, ⟨h2.1, ?_⟩, h3, h4, h5⟩
  rcases h2.2 with e | ⟨g, cap, cur, rfl, a1, a2, a3⟩
  · exact .inl e
  · exact .inr ⟨g, cap, cur, rfl, a1, by rw [hk g (h5 g rfl)]; exact a2, a3⟩
theorem Bdf.is {w : World} {q B : Nat} {t : ByteArray} {F : Nat → Prop} (h : Bdf w q t F) (hF : ∀ i, F i → B ≤ i) : Bld B q t w := by
  obtain ⟨x, v, h0, h1, h2, h3, h4, h5⟩ := h
  have ho : w.ownsRow B 5 1 v (Lib.strCells t).length (Lib.strCells t) := by
    refine ⟨h2.1, ?_⟩
    rcases h2.2 with e | ⟨g, cap, cur, rfl, a1, a3⟩
    · exact .inl e
    · exact .inr ⟨g, cap, cur, rfl, hF g (h5 g rfl), a3⟩
  rcases h0 with rfl | rfl
  · exact .inl ⟨hF q h4, v, h1, ho, h3⟩
  · exact .inr ⟨hF q h4, v, h1, ho, h3⟩
theorem Bdf.new (w : World) : Bdf (w.alloc (.cells #[.pointer none, .slice none 0 0] 38)) w.heap.size ⟨#[]⟩ (fun i => i = w.heap.size) :=
  ⟨.pointer none, .slice none 0 0, .inl rfl, heap_alloc_new w _, World.ownsRow_nil _ _ _ _, by simp [Value.ownBlock], rfl, fun g hg => by simp [Value.ownBlock] at hg⟩

theorem sWriteF (q : Nat) (t s : ByteArray) (F : Nat → Prop) (w : World) (h : Bdf w q t F) (hlen : t.size + s.size ≤ 1000000000) :
    Calls Tryz.prog 13 #[.pointer (some ⟨q, 0, none⟩), .string s] w fun e w' => e = .returned (.tuple #[.int .i64 s.size, .nilIface]) ∧ Bdf w' q (t ++ s) (Gnx F w w') ∧ Tch w w' F := by
  obtain ⟨i0, hi, hz0, hz1, hz2⟩ := info_parts infoByteB
  have hcl := Lib.strCells_length t
  have hcp : Calls Tryz.prog 25 #[.pointer (some ⟨q, 0, none⟩)] w fun e w' => e = .returned (.tuple #[]) ∧ (∃ v, w'.heap[q]? = some (.cells #[.pointer (some ⟨q, 0, none⟩), v] 38 (0, 0)) ∧ w'.ownsRow 0 5 1 v (Lib.strCells t).length (Lib.strCells t) ∧ v.ownBlock ≠ some q ∧ F q ∧ ∀ g, v.ownBlock = some g → F g) ∧ Tch w w' F ∧ w'.heap.size = w.heap.size := by
    obtain ⟨x, v, h0, h1, h2, h3, h4, h5⟩ := h
    rcases h0 with rfl | rfl
    · have hB : Lib.BuilderAt 38 5 0 q (.pointer none) (Lib.strCells t) w := ⟨Nat.zero_le _, v, h1, h2, h3⟩
      refine (sCopyFresh q w hB.cell0 hB.shape hB.frozen0).mono ?_
      rintro e w' ⟨rfl, rfl⟩
      have hk : w.grownBy (w.setCell ⟨q, 0, none⟩ (.pointer (some ⟨q, 0, none⟩))) (some q) := grown_set w q 0 _
      refine ⟨rfl, ⟨v, by simp [World.setCell, Array.getElem?_modify, h1], h2.kept hk (.inr h3), h3, h4, h5⟩, ⟨rfl, rfl, rfl, by simp, fun i hi hn => hk.block i hi (fun e => hn (by obtain rfl := Option.some.inj e; exact h4))⟩, by simp⟩
    · have hB : Lib.BuilderAt 38 5 0 q (.pointer (some ⟨q, 0, none⟩)) (Lib.strCells t) w := ⟨Nat.zero_le _, v, h1, h2, h3⟩
      refine (sCopyUsed q w hB.cell0).mono ?_
      rintro e w' ⟨rfl, rfl⟩
      exact ⟨rfl, ⟨v, h1, h2, h3, h4, h5⟩, Tch.refl _ _, rfl⟩
  clear h
  go_enter Tryz.func13, Tryz.ntmps13
  go_wp2_with (go_at_call 25; refine hcp.mono ?_)
  rintro e w1 ⟨rfl, ⟨v, hbk, hown, hne, hFq, hFv⟩, hT1, hz⟩
  have c0 : w1.cell? ⟨q, 0, none⟩ = some (.pointer (some ⟨q, 0, none⟩)) := by rw [Lib.cell_of_heap hbk]; rfl
  have c1 : w1.cell? ⟨q, 1, none⟩ = some v := by rw [Lib.cell_of_heap hbk]; rfl
  have hlt : q < w1.heap.size := (Array.getElem?_eq_some_iff.1 hbk).1
  have HZ : Hid (w1.heap.size = w.heap.size) := hz
  clear hz hcp
  go_wp2_with (at_builtin; refine wpList_appB w1 rfl _ _ 36 9 rfl 0 5 i0 Tryz.underlying36 Tryz.underlying9 hi hz0 hz1 hz2 _ _ _ rfl hown s rfl (by omega) (Nat.zero_le _) ?_)
  intro v' w2 hown' hgrow hlies
  have hb2 : w2.heap[q]? = some (.cells #[.pointer (some ⟨q, 0, none⟩), v] 38 (0, 0)) := by
    rw [hgrow.block q hlt (fun e => hne e.symm)]
    exact hbk
  have d0 : w2.cell? ⟨q, 0, none⟩ = some (.pointer (some ⟨q, 0, none⟩)) := by rw [Lib.cell_of_heap hb2]; rfl
  have d1 : w2.cell? ⟨q, 1, none⟩ = some v := by rw [Lib.cell_of_heap hb2]; rfl
  have f1 : w2.frozen? ⟨q, 1, none⟩ = false := Lib.frozen_of_heap hb2 1
  obtain ⟨ao, n', cap, rfl⟩ : ∃ ao n' cap, v' = .slice ao n' cap := by
    rcases hown'.2 with ⟨hv, _⟩ | ⟨g, cap, cur, hv, _⟩ <;> exact ⟨_, _, _, hv⟩
  have hP : Lib.BuilderAt 38 5 0 q (.pointer (some ⟨q, 0, none⟩)) (Lib.strCells (t ++ s)) (w2.setCell ⟨q, 1, none⟩ (.slice ao n' cap)) := Lib.BuilderAt.put (Nat.zero_le _) hb2 (bs' := Lib.strCells (t ++ s)) (by rw [← strCells_app]; simpa [Lib.strCells_length] using hown') neBld
  have HE : Hid (Bdf (w2.setCell ⟨q, 1, none⟩ (.slice ao n' cap)) q (t ++ s) (Gnx F w (w2.setCell ⟨q, 1, none⟩ (.slice ao n' cap))) ∧ Tch w (w2.setCell ⟨q, 1, none⟩ (.slice ao n' cap)) F) := by
    have hsz : (w2.setCell ⟨q, 1, none⟩ (.slice ao n' cap)).heap.size = w2.heap.size := by simp
    have hg := hgrow.size
    obtain ⟨_, vv, e1, e2, e3⟩ := hP
    have evv : vv = .slice ao n' cap := by
      have : (w2.setCell ⟨q, 1, none⟩ (.slice ao n' cap)).heap[q]? = some (.cells #[.pointer (some ⟨q, 0, none⟩), .slice ao n' cap] 38 (0, 0)) := by simp [World.setCell, Array.getElem?_modify, hb2]
      rw [e1] at this
      simp at this
      exact this
    subst evv
    refine ⟨⟨_, _, .inr rfl, e1, e2, e3, .inl hFq, fun g hgk => ?_⟩, ?_⟩
    · rcases hlies with e | e
      · exact .inl (hFv g (by rw [← e]; exact hgk))
      · have := e g hgk
        have h9 := (e2.lt g hgk).2
        exact .inr ⟨by rw [← HZ.out]; exact this, h9⟩
    · refine ⟨hgrow.os.trans hT1.os, hgrow.tape.trans hT1.tape, hgrow.output.trans hT1.output, by rw [hsz]; exact Nat.le_trans hT1.size hg, fun i hi hn => ?_⟩
      have h6 : i ≠ q := fun e => hn (e ▸ hFq)
      rw [heap_setCell_other w2 ⟨q, 1, none⟩ i _ h6, hgrow.block i (by rw [HZ.out]; exact hi) (fun e => hn (hFv i e.symm)), hT1.block i hi hn]
  clear hP hlies hT1
  go_wp2
  go_ret2
  exact ⟨rfl, HE.out⟩
end
section
open Crm
theorem pst_front (b : Int) (A P : List (List UInt8)) (c : UInt8) (h : P ≠ []) : pst b (A ++ P) c = A ++ pst b P c ∧ pst b P c ≠ [] := by
  obtain ⟨Q, x, rfl⟩ : ∃ Q x, P = Q ++ [x] := ⟨_, _, (List.dropLast_concat_getLast h).symm⟩
  by_cases hc : (c.toNat : Int) = b
  · rw [pst_yes _ hc, pst_yes _ hc]
    exact ⟨by simp, by simp⟩
  · rw [← List.append_assoc, pst_no _ _ hc, pst_no _ _ hc]
    exact ⟨by simp, by simp⟩
theorem pll_front (b : Int) (A : List (List UInt8)) : ∀ (m : List UInt8) (P : List (List UInt8)), P ≠ [] → m.foldl (pst b) (A ++ P) = A ++ m.foldl (pst b) P
  | [], _, _ => rfl
  | c :: m, P, h => by
    obtain ⟨h1, h2⟩ := pst_front b A P c h
    rw [List.foldl_cons, List.foldl_cons, h1]
    exact pll_front b A m _ h2
theorem lns_app (s t : ByteArray) : lns ((s ++ nlB) ++ t) = lns s ++ lns t := by
  have e : (s ++ nlB) ++ t = toB ((s.data.toList ++ [10]) ++ t.data.toList) := by
    rw [← toB_app, ← toB_app, toB_list, toB_list]
    rfl
  have hs : lns s = (pll 10 s.data.toList).map toB := by
    have := pcs_all 10 s.data.toList
    rw [toB_list] at this
    exact this
  have ht : lns t = (pll 10 t.data.toList).map toB := by
    have := pcs_all 10 t.data.toList
    rw [toB_list] at this
    exact this
  have ha : lns ((s ++ nlB) ++ t) = (pll 10 ((s.data.toList ++ [10]) ++ t.data.toList)).map toB := by
    rw [e]
    exact pcs_all 10 _
  rw [ha, hs, ht, ← List.map_append]
  congr 1
  unfold pll
  rw [List.foldl_append, List.foldl_append, List.foldl_cons, List.foldl_nil, pst_yes _ (by decide)]
  exact pll_front 10 _ _ _ (by simp)
theorem tln_pre (s t : ByteArray) : tln s <+: tln ((s ++ nlB) ++ t) := by
  have h1 : tln s <+: lns s := by
    unfold tln
    split
    · exact List.take_prefix _ _
    · exact List.prefix_refl _
  refine h1.trans ?_
  have hl := lns_len t
  have ha := lns_app s t
  unfold tln
  split
  · have e : lnn ((s ++ nlB) ++ t) = (lns s).length + lnn t := by
      have := lns_len ((s ++ nlB) ++ t)
      rw [ha, List.length_append] at this
      omega
    rw [e, ha, List.take_length_add_append]
    exact List.prefix_append _ _
  · rw [ha]
    exact List.prefix_append _ _
theorem tx_pre {L M : List ByteArray} (h : L <+: M) {i : Nat} (hi : i < L.length) : tx M i = tx L i := by
  obtain ⟨R, rfl⟩ := h
  unfold tx
  rw [List.getD_eq_getElem?_getD, List.getD_eq_getElem?_getD, List.getElem?_append_left hi]
theorem Dks.pre {L M : List ByteArray} (h : L <+: M) : ∀ {i : Nat} {out T : ByteArray} {S : Option Kt}, i ≤ L.length → Dks M i out T S → Dks L i out T S
  | 0, _, _, _, _, k => k
  | i + 1, _, _, _, hi, k => by
    obtain ⟨o0, T0, S0, k0, k1⟩ := k
    rw [tx_pre h hi] at k1
    exact ⟨o0, T0, S0, k0.pre h (by omega), k1⟩
theorem Dks.head {L : List ByteArray} {i : Nat} : ∀ {k : Nat} {out T : ByteArray} {S : Option Kt}, Dks L (i + k) out T S → ∃ o0 T0 S0 r, Dks L i o0 T0 S0 ∧ out = o0 ++ r
  | 0, out, T, S, h => ⟨out, T, S, mt, h, by apply ByteArray.ext; rw [ByteArray.data_append]; simp [mt]⟩
  | k + 1, out, T, S, h => by
    obtain ⟨o0, T0, S0, h0, h1⟩ := h
    obtain ⟨o, U, R, r, h2, rfl⟩ := h0.head
    rcases h1 with ⟨_, rfl, _, _⟩ | ⟨_, x, _, rfl⟩
    · exact ⟨o, U, R, r, h2, rfl⟩
    · exact ⟨o, U, R, r ++ (x ++ nlB), h2, by rw [ByteArray.append_assoc]⟩
theorem Dsk.head {s t o p : ByteArray} (h : Dsk s o) (k : Dsk ((s ++ nlB) ++ t) p) (hz : ¬ (65536 < ((s ++ nlB) ++ t).size ∨ 200 < (tln ((s ++ nlB) ++ t)).length)) : ∃ r, p = o ++ r := by
  have hp := tln_pre s t
  have hl := hp.length_le
  have hsz : s.size ≤ ((s ++ nlB) ++ t).size := by rw [ByteArray.size_append, ByteArray.size_append]; omega
  rcases k with ⟨k, _⟩ | ⟨_, T, S, k⟩
  · exact absurd k hz
  rcases h with ⟨h, _⟩ | ⟨_, U, R, h⟩
  · exact absurd (h.elim (fun h => .inl (by omega)) (fun h => .inr (by omega))) hz
  obtain ⟨d, hd⟩ : ∃ d, (tln ((s ++ nlB) ++ t)).length = (tln s).length + d := ⟨(tln ((s ++ nlB) ++ t)).length - (tln s).length, by omega⟩
  rw [hd] at k
  obtain ⟨o0, T0, S0, r, k0, rfl⟩ := k.head
  obtain ⟨rfl, _, _⟩ := h.one (k0.pre hp (Nat.le_refl _))
  exact ⟨r, rfl⟩
def ask (L : List ByteArray) : Nat → Nat
  | 0 => 0
  | i + 1 => ask L i + (if 1 ≤ (wrd (tx L i)).length ∧ bt (tx (wrd (tx L i)) 0) 0 ≠ 35 then 1 else 0)
theorem count_nl (x : ByteArray) : (x ++ nlB).data.toList.count 10 = x.data.toList.count 10 + 1 := by
  rw [ByteArray.data_append, Array.toList_append, List.count_append]
  rfl
theorem Dks.count {L : List ByteArray} : ∀ {i : Nat} {out T : ByteArray} {S : Option Kt}, Dks L i out T S → ask L i ≤ out.data.toList.count 10 ∧ (out = mt ∨ ∃ x, out = x ++ nlB)
  | 0, _, _, _, h => by
    obtain ⟨rfl, _, _⟩ := h
    exact ⟨Nat.zero_le _, .inl rfl⟩
  | i + 1, _, _, _, h => by
    obtain ⟨o0, T0, S0, h0, h1⟩ := h
    obtain ⟨c0, c1⟩ := h0.count
    rcases h1 with ⟨h1, rfl, _, _⟩ | ⟨h1, x, _, rfl⟩
    · refine ⟨?_, c1⟩
      rw [ask, if_neg (show ¬ (1 ≤ (wrd (tx L i)).length ∧ bt (tx (wrd (tx L i)) 0) 0 ≠ 35) from h1)]
      exact c0
    · refine ⟨?_, .inr ⟨o0 ++ x, by rw [ByteArray.append_assoc]⟩⟩
      rw [ask, if_pos (show 1 ≤ (wrd (tx L i)).length ∧ bt (tx (wrd (tx L i)) 0) 0 ≠ 35 from h1), ← ByteArray.append_assoc, count_nl, ByteArray.data_append, Array.toList_append, List.count_append]
      omega
end
end Go.Proofs.YtljlioglpaogdafGreatDoor
