/- What is printed is read as it was: the text of a circuit. · Package circuit: readLine. · Gates that are read, their numbers told by their rests: plain facts; the first line of a text and the rest. · What the calls of package circuit answer. · Package circuit: Check. -/
import Derived.Test.YtljlioglpaogdahDoorToReadP
import Derived.Test.YtljlioglpaogdahDoorRGateC
import Derived.Test.YtljlioglpaogdahDoorToRNumC
import Derived.Deep.RegionLaw
import Derived.Test.YtljlioglpaogdahDoorToGatesR
import Derived.Test.YtljlioglpaogdahDoorToWhoseC
import Derived.Test.YtljlioglpaogdahDoorToGRightC
namespace Go.Proofs.YtljlioglpaogdahDoor
set_option linter.unusedVariables false
set_option maxRecDepth 100000
set_option maxHeartbeats 8000000
section
open Crm
/-- A number that is told, by its rest. -/
def nmg (g : Gt) : Gt := ⟨g.k, g.a, g.b, nm g.n⟩
def vbl (k : Nat) : List UInt8 := (vb k).data.toList
theorem vbl_no : ∀ k, k < 7 → ∀ d ∈ vbl k, (d.toNat : Int) ≠ 32 ∧ (d.toNat : Int) ≠ 10 := by decide +kernel
theorem vbl_len : ∀ k, k < 7 → (vbl k).length ≤ 5 := by decide +kernel
/-- A gate's line. -/
def gll (g : Gt) : List UInt8 :=
  vbl g.k.toNat ++ [32] ++ (if g.k = 1 then dd g.a.toNat else if g.k = 2 then dd (nm g.n).toNat else if g.k = 6 then dd g.a.toNat ++ [32] ++ dd (nm g.n).toNat else dd g.a.toNat ++ [32] ++ dd g.b.toNat)
/-- An out's line. -/
def oll (x : Int) : List UInt8 := [111, 117, 116] ++ [32] ++ dd x.toNat
theorem itb_of {x : Int} (h : 0 ≤ x) : itb x = toB (dd x.toNat) := by
  obtain ⟨u, rfl⟩ : ∃ u : Nat, x = u := ⟨x.toNat, by omega⟩
  rw [itb_dd, Int.toNat_natCast]
theorem sp_toB : (⟨#[32]⟩ : ByteArray) = toB [32] := rfl
theorem nl_toB : (⟨#[10]⟩ : ByteArray) = toB [10] := rfl
theorem out_toB : (⟨#[111, 117, 116, 32]⟩ : ByteArray) = toB [111, 117, 116, 32] := rfl
theorem vb_toB (k : Nat) : vb k = toB (vbl k) := (toB_list _).symm
theorem txt_snoc (L : List (List UInt8)) (x : List UInt8) : txt (L ++ [x]) = txt L ++ (x ++ [10]) := by simp [txt]
theorem txt_app (L M : List (List UInt8)) : txt (L ++ M) = txt L ++ txt M := by simp [txt]
theorem gln_toB {i : Nat} {g : Gt} (h : okg i g) (L : List (List UInt8)) : gln (toB (txt L)) g = toB (txt (L ++ [gll g])) := by
  have hn := nm_bd g.n
  unfold gln arg gll
  rw [txt_snoc]
  rcases h with ⟨h1, h3, _, _⟩ | ⟨h1, _, _⟩ | ⟨h1, h3, _⟩ | ⟨h1, h3, h4, _⟩
  · rw [if_pos h1, if_pos h1, itb_of (by omega), sp_toB, nl_toB, vb_toB]
    simp only [toB_app]
    congr 1
    simp
  · rw [if_neg (by omega), if_pos h1, if_neg (by omega), if_pos h1, itb_of (by omega), sp_toB, nl_toB, vb_toB]
    simp only [toB_app]
    congr 1
    simp
  · rw [if_neg (by omega), if_neg (by omega), if_pos h1, if_neg (by omega), if_neg (by omega), if_pos h1, itb_of (by omega), itb_of (x := nm g.n) (by omega), sp_toB, nl_toB, vb_toB]
    simp only [toB_app]
    congr 1
    simp
  · rw [if_neg (by omega), if_neg (by omega), if_neg (by omega), if_neg (by omega), if_neg (by omega), if_neg (by omega), itb_of (by omega), itb_of (x := g.b) (by omega), sp_toB, nl_toB, vb_toB]
    simp only [toB_app]
    congr 1
    simp
def gls (G : List Gt) (k : Nat) : List (List UInt8) := (List.range k).map fun i => gll (gt G i)
def ols (O : List Int) (k : Nat) : List (List UInt8) := (List.range k).map fun i => oll (O.getD i 0)
theorem gls_len (G : List Gt) (k : Nat) : (gls G k).length = k := by simp [gls]
theorem ols_len (O : List Int) (k : Nat) : (ols O k).length = k := by simp [ols]
theorem gls_succ (G : List Gt) (k : Nat) : gls G (k + 1) = gls G k ++ [gll (gt G k)] := by simp [gls, List.range_succ]
theorem ols_succ (O : List Int) (k : Nat) : ols O (k + 1) = ols O k ++ [oll (O.getD k 0)] := by simp [ols, List.range_succ]
theorem gtx_toB {G : List Gt} {n : Nat} (h : okG G n) : ∀ k, k ≤ n → gtx G k = toB (txt (gls G k))
  | 0, _ => rfl
  | k + 1, hk => by rw [gtx, gtx_toB h k (by omega), gln_toB (h k (by omega)), gls_succ]
theorem otx_toB {O : List Int} {n m : Nat} (h : okO O n m) (L : List (List UInt8)) : ∀ k, k ≤ m → otx (toB (txt L)) O k = toB (txt (L ++ ols O k))
  | 0, _ => by simp [otx, ols]
  | k + 1, hk => by
    have ho := h k (by omega)
    rw [otx, otx_toB h L k (by omega), ols_succ, ← List.append_assoc, txt_snoc, itb_of ho.1, nl_toB, out_toB]
    simp only [toB_app]
    simp [oll]
/-- The text of a right circuit. -/
theorem text_toB {G : List Gt} {O : List Int} {n m : Nat} (hG : okG G n) (hO : okO O n m) : otx (gtx G n) O m = toB (txt (gls G n ++ ols O m)) := by
  rw [gtx_toB hG n (Nat.le_refl _), otx_toB hO _ m (Nat.le_refl _)]
theorem kind_lt {i : Nat} {g : Gt} (h : okg i g) : 1 ≤ g.k.toNat ∧ g.k.toNat < 7 ∧ ((g.k.toNat : Nat) : Int) = g.k := by
  unfold okg at h
  omega
theorem gll_no10 {i : Nat} {g : Gt} (h : okg i g) : ∀ d ∈ gll g, (d.toNat : Int) ≠ 10 := by
  intro d hd
  unfold gll at hd
  have hk := kind_lt h
  rcases List.mem_append.1 hd with hd | hd
  · rcases List.mem_append.1 hd with hd | hd
    · exact (vbl_no _ hk.2.1 d hd).2
    · obtain rfl := List.mem_singleton.1 hd; decide
  · have two : ∀ a b : Nat, d ∈ dd a ++ [32] ++ dd b → (d.toNat : Int) ≠ 10 := fun a b hd => by
      rcases List.mem_append.1 hd with hd | hd
      · rcases List.mem_append.1 hd with hd | hd
        · exact dd_no10 _ d hd
        · obtain rfl := List.mem_singleton.1 hd; decide
      · exact dd_no10 _ d hd
    split at hd
    · exact dd_no10 _ d hd
    · split at hd
      · exact dd_no10 _ d hd
      · split at hd
        · exact two _ _ hd
        · exact two _ _ hd
theorem oll_no10 (x : Int) : ∀ d ∈ oll x, (d.toNat : Int) ≠ 10 := by
  intro d hd
  unfold oll at hd
  rcases List.mem_append.1 hd with hd | hd
  · simp at hd
    rcases hd with rfl | rfl | rfl | rfl <;> decide
  · exact dd_no10 _ d hd
theorem lines_no10 {G : List Gt} {O : List Int} {n m : Nat} (hG : okG G n) : ∀ x ∈ gls G n ++ ols O m, ∀ d ∈ x, (d.toNat : Int) ≠ 10 := by
  intro x hx
  rcases List.mem_append.1 hx with hx | hx
  · obtain ⟨i, hi, rfl⟩ := List.mem_map.1 hx
    exact gll_no10 (hG i (List.mem_range.1 hi))
  · obtain ⟨i, hi, rfl⟩ := List.mem_map.1 hx
    exact oll_no10 _
theorem ags_two {t : ByteArray} {a b : List UInt8} (h : wds t = [toB a, toB b]) : ags t = [toB b] := by unfold ags; rw [h]; rfl
theorem ags_three {t : ByteArray} {a b c : List UInt8} (h : wds t = [toB a, toB b, toB c]) : ags t = [toB b, toB c] := by unfold ags; rw [h]; rfl
theorem agn_dd0 {t : ByteArray} {u : Nat} {r : List ByteArray} (h : ags t = toB (dd u) :: r) : agn t 0 = (u : Int) := by
  unfold agn; rw [h]; exact dd_dgn u
theorem agn_dd1 {t : ByteArray} {u : Nat} {x : ByteArray} {r : List ByteArray} (h : ags t = x :: toB (dd u) :: r) : agn t 1 = (u : Int) := by
  unfold agn; rw [h]; exact dd_dgn u
theorem okn_one {t : ByteArray} {u : Nat} (hu : u < 10000000000) (h : ags t = [toB (dd u)]) : okn (ags t) 1 := fun i hi => by
  obtain rfl : i = 0 := by omega
  rw [h]
  exact dd_okd hu
theorem okn_two {t : ByteArray} {u v : Nat} (hu : u < 10000000000) (hv : v < 10000000000) (h : ags t = [toB (dd u), toB (dd v)]) : okn (ags t) 2 := fun i hi => by
  rw [h]
  match i, hi with
  | 0, _ => exact dd_okd hu
  | 1, _ => exact dd_okd hv
/-- A gate's line reads as the gate. -/
theorem lng_gll {i : Nat} {g : Gt} (hi : i ≤ 30) (h : okg i g) : Lng (toB (gll g)) (nmg g) := by
  have hn := nm_bd g.n
  have hk := kind_lt h
  have hv := fun d hd => (vbl_no _ hk.2.1 d hd).1
  refine ⟨g.k.toNat, ⟨hk.1, hk.2.1⟩, ?_⟩
  have hnm : g.n = 0 → nm g.n = 0 := fun e => by rw [e]; rfl
  rcases h with ⟨h1, h3, h5, h6⟩ | ⟨h1, h4, h5⟩ | ⟨h1, h3, h5⟩ | ⟨h1, h3, h4, h6⟩
  · have hw : wds (toB (gll g)) = [toB (vbl g.k.toNat), toB (dd g.a.toNat)] := by
      unfold gll; rw [if_pos h1]; exact wds_two hv (dd_no32 _)
    have ha := ags_two hw
    rw [h1] at hw ⊢
    refine ⟨by rw [hw]; exact (vb_toB _).symm, by rw [ha]; rfl, okn_one (u := g.a.toNat) (by omega) ha, ?_⟩
    unfold nmg gof
    rw [if_pos (by decide), agn_dd0 ha, h1, h5, hnm h6]
    congr 1
    omega
  · have hw : wds (toB (gll g)) = [toB (vbl g.k.toNat), toB (dd (nm g.n).toNat)] := by
      unfold gll; rw [if_neg (by omega), if_pos h1]; exact wds_two hv (dd_no32 _)
    have ha := ags_two hw
    rw [h1] at hw ⊢
    refine ⟨by rw [hw]; exact (vb_toB _).symm, by rw [ha]; rfl, okn_one (u := (nm g.n).toNat) (by omega) ha, ?_⟩
    unfold nmg gof
    rw [if_neg (by decide), if_pos (by decide), agn_dd0 ha, h1, h4, h5]
    congr 1
    omega
  · have hw : wds (toB (gll g)) = [toB (vbl g.k.toNat), toB (dd g.a.toNat), toB (dd (nm g.n).toNat)] := by
      unfold gll; rw [if_neg (by omega), if_neg (by omega), if_pos h1, ← List.append_assoc, ← List.append_assoc]; exact wds_three hv (dd_no32 _) (dd_no32 _)
    have ha := ags_three hw
    rw [h1] at hw ⊢
    refine ⟨by rw [hw]; exact (vb_toB _).symm, by rw [ha]; rfl, okn_two (u := g.a.toNat) (v := (nm g.n).toNat) (by omega) (by omega) ha, ?_⟩
    unfold nmg gof
    rw [if_neg (by decide), if_neg (by decide), if_pos (by decide), agn_dd0 ha, agn_dd1 ha, h1, h5]
    congr 1
    · omega
    · omega
  · have hw : wds (toB (gll g)) = [toB (vbl g.k.toNat), toB (dd g.a.toNat), toB (dd g.b.toNat)] := by
      unfold gll; rw [if_neg (by omega), if_neg (by omega), if_neg (by omega), ← List.append_assoc, ← List.append_assoc]; exact wds_three hv (dd_no32 _) (dd_no32 _)
    have ha := ags_three hw
    have har : arn g.k.toNat = 2 := by rcases h1 with h1 | h1 | h1 <;> rw [h1] <;> rfl
    refine ⟨by rw [hw]; exact (vb_toB _).symm, by rw [ha, har]; rfl, by rw [har]; exact okn_two (u := g.a.toNat) (v := g.b.toNat) (by omega) (by omega) ha, ?_⟩
    unfold nmg gof
    rw [if_neg (by omega), if_neg (by omega), if_neg (by omega), agn_dd0 ha, agn_dd1 ha, hnm h6]
    congr 1 <;> omega
theorem lno_oll {x : Int} (h0 : 0 ≤ x) (h1 : x < 10000000000) : Lno (toB (oll x)) x := by
  have hw : wds (toB (oll x)) = [toB [111, 117, 116], toB (dd x.toNat)] := wds_two (by decide) (dd_no32 _)
  have ha := ags_two hw
  refine ⟨by rw [hw]; rfl, by rw [ha]; rfl, okn_one (u := x.toNat) (by omega) ha, ?_⟩
  rw [agn_dd0 ha]
  omega
def nmG (G : List Gt) (k : Nat) : List Gt := (List.range k).map fun i => nmg (gt G i)
theorem nmG_len (G : List Gt) (k : Nat) : (nmG G k).length = k := by simp [nmG]
theorem nmG_gt (G : List Gt) {k i : Nat} (h : i < k) : gt (nmG G k) i = nmg (gt G i) := by
  unfold gt nmG
  simp [h]
  rfl
theorem nmG_succ (G : List Gt) (k : Nat) : nmG G (k + 1) = nmG G k ++ [nmg (gt G k)] := by simp [nmG, List.range_succ]
def oO (O : List Int) (k : Nat) : List Int := (List.range k).map fun i => O.getD i 0
theorem oO_succ (O : List Int) (k : Nat) : oO O (k + 1) = oO O k ++ [O.getD k 0] := by simp [oO, List.range_succ]
theorem oO_all {O : List Int} {m : Nat} (h : O.length = m) : oO O m = O := by
  apply List.ext_getElem?
  intro i
  by_cases hi : i < m
  · simp [oO, hi, h]
  · rw [List.getElem?_eq_none (by simp [oO]; omega), List.getElem?_eq_none (by omega)]
theorem rds_gates {G : List Gt} {O : List Int} {n m : Nat} (hG : okG G n) (hn : n ≤ 30) : ∀ k, k ≤ n → Rds (lns (toB (txt (gls G n ++ ols O m)))) k (nmG G k) []
  | 0, _ => ⟨rfl, rfl⟩
  | k + 1, hk => by
    refine ⟨nmG G k, [], rds_gates hG hn k (by omega), .inl ⟨nmg (gt G k), ?_, rfl, nmG_succ G k, rfl⟩⟩
    rw [tx_txt (lines_no10 hG) (by rw [List.length_append, gls_len]; omega)]
    have e : (gls G n ++ ols O m).getD k [] = gll (gt G k) := by
      rw [List.getD_eq_getElem?_getD, List.getElem?_append_left (by rw [gls_len]; omega)]
      simp [gls, show k < n by omega]
    rw [e]
    exact lng_gll (by omega) (hG k (by omega))
theorem rds_outs {G : List Gt} {O : List Int} {n m : Nat} (hG : okG G n) (hO : okO O n m) (hn : n ≤ 30) : ∀ j, j ≤ m → Rds (lns (toB (txt (gls G n ++ ols O m)))) (n + j) (nmG G n) (oO O j)
  | 0, _ => rds_gates hG hn n (Nat.le_refl _)
  | j + 1, hj => by
    refine ⟨nmG G n, oO O j, rds_outs hG hO hn j (by omega), .inr ⟨O.getD j 0, ?_, rfl, oO_succ O j⟩⟩
    show Lno (tx _ (n + j)) _
    rw [tx_txt (lines_no10 hG) (by rw [List.length_append, gls_len, ols_len]; omega)]
    have e : (gls G n ++ ols O m).getD (n + j) [] = oll (O.getD j 0) := by
      rw [List.getD_eq_getElem?_getD, List.getElem?_append_right (by rw [gls_len]; omega), gls_len, Nat.add_sub_cancel_left]
      simp [ols, show j < m by omega]
    rw [e]
    have := hO j (by omega)
    exact lno_oll this.1 (by omega)
theorem gll_len {i : Nat} {g : Gt} (hi : i ≤ 30) (h : okg i g) : (gll g).length ≤ 19 := by
  have hn := nm_bd g.n
  have hk := kind_lt h
  have hv := vbl_len _ hk.2.1
  have l2 := fun u (hu : u < 100) => dd_len 1 u (by simpa using hu)
  have l10 := dd_len 9 (nm g.n).toNat (by simp; omega)
  unfold gll
  rcases h with ⟨h1, h3, _, _⟩ | ⟨h1, _, _⟩ | ⟨h1, h3, _⟩ | ⟨h1, h3, h4, _⟩
  · rw [if_pos h1]; have := l2 g.a.toNat (by omega); simp; omega
  · rw [if_neg (by omega), if_pos h1]; simp; omega
  · rw [if_neg (by omega), if_neg (by omega), if_pos h1]; have := l2 g.a.toNat (by omega); simp; omega
  · rw [if_neg (by omega), if_neg (by omega), if_neg (by omega)]; have := l2 g.a.toNat (by omega); have := l2 g.b.toNat (by omega); simp; omega
theorem txt_len {L : List (List UInt8)} {b : Nat} (h : ∀ x ∈ L, x.length ≤ b) : (txt L).length ≤ (b + 1) * L.length := by
  induction L with
  | nil => simp [txt]
  | cons x L ih =>
    have e : txt (x :: L) = (x ++ [10]) ++ txt L := by simp [txt]
    have h1 := h x (by simp)
    have h2 := ih (fun y hy => h y (by simp [hy]))
    have e2 : (x :: L).length = L.length + 1 := rfl
    rw [e, List.length_append, List.length_append, e2, Nat.mul_add]
    simp
    omega
theorem text_size {G : List Gt} {O : List Int} {n m : Nat} (hG : okG G n) (hO : okO O n m) (hn : n ≤ 30) (hm : m ≤ 30) : (txt (gls G n ++ ols O m)).length ≤ 2048 := by
  rw [txt_app, List.length_append]
  have h1 := txt_len (L := gls G n) (b := 19) (fun x hx => by
    obtain ⟨i, hi, rfl⟩ := List.mem_map.1 hx
    have := List.mem_range.1 hi
    exact gll_len (by omega) (hG i this))
  have h2 := txt_len (L := ols O m) (b := 6) (fun x hx => by
    obtain ⟨i, hi, rfl⟩ := List.mem_map.1 hx
    have h3 := hO i (List.mem_range.1 hi)
    generalize O.getD i 0 = x at h3
    have := dd_len 1 x.toNat (by have : (10 : Nat) ^ (1 + 1) = 100 := rfl; omega)
    unfold oll
    simp
    omega)
  rw [gls_len] at h1
  rw [ols_len] at h2
  omega
theorem okg_nm {i : Nat} {g : Gt} (h : okg i g) : okg i (nmg g) := by
  unfold nmg
  rcases h with ⟨h1, h2, h3, h4⟩ | ⟨h1, h2, h3⟩ | ⟨h1, h2, h3⟩ | ⟨h1, h2, h3, h4⟩
  · exact .inl ⟨h1, h2, h3, by simp only; rw [h4]; rfl⟩
  · exact .inr (.inl ⟨h1, h2, h3⟩)
  · exact .inr (.inr (.inl ⟨h1, h2, h3⟩))
  · exact .inr (.inr (.inr ⟨h1, h2, h3, by simp only; rw [h4]; rfl⟩))
/-- What is printed of a right circuit is read as the circuit, numbers by P. -/
theorem par_text {G : List Gt} {O : List Int} {n m : Nat} (h : Cke G O n m 0) (hl : O.length = m) : Par (otx (gtx G n) O m) (nmG G n) O 0 0 := by
  obtain ⟨hn, hm, hG, hO⟩ := h.ok
  have hx := lines_no10 (O := O) (m := m) hG
  have hs := text_size hG hO hn.2 hm.2
  have hlen : (gls G n ++ ols O m).length = n + m := by rw [List.length_append, gls_len, ols_len]
  rw [text_toB hG hO]
  refine .inr ⟨by rw [toB_size]; exact hs, .inr ⟨nmG G n, O, ?_, .inr ⟨?_, rfl, ?_, .inr ⟨rfl, rfl, rfl⟩⟩⟩⟩
  · rw [lnn_txt hx, hlen]
    have := rds_outs hG hO hn.2 m (Nat.le_refl _)
    rwa [oO_all hl] at this
  · rw [lnn_txt hx]; exact tx_last hx
  · rw [nmG_len, hl]
    refine .inr ⟨⟨by omega, by omega⟩, .inr ⟨⟨hn.2, hm.2⟩, .inr ⟨⟨fun i hi => ?_, hO⟩, rfl⟩⟩⟩
    rw [nmG_gt G hi]
    exact okg_nm (hG i hi)
end
section
open Crm Go.RowKit
theorem infoS1r : (Tryd.prog.info? 9).map (·.size) = some 1 := by kernel_rfl
theorem outB_listR : outB.toList = [111, 117, 116] := by decide +kernel
/-- What readLine does: a gate more, an out more, or the line can't stand there. -/
def Rln (t : ByteArray) (B gc n m : Nat) (ag : Option Addr) (cg : Nat) (ao : Option Addr) (co : Nat) (G : List Gt) (O : List Int) (w : World) (e : Ending) (w' : World) : Prop :=
  ((∃ g a' c', Lng t g ∧ O = [] ∧ e = .returned (.bool true) ∧ Crd w' B gc a' (n + 1) c' ao m co (G ++ [nmg g]) O) ∨
   (∃ x a' c', Lno t x ∧ e = .returned (.bool true) ∧ Crd w' B gc ag n cg a' (m + 1) c' G (O ++ [x])) ∨
   (Nok t O ∧ e = .returned (.bool false))) ∧ Below B w w'
theorem nbl_at {L : List ByteArray} {k i : Nat} (h : i < k) : (nbl L k).getD i 0 = dgn (tx L i) (tx L i).size := by simp [nbl, h]
theorem nbl_bd {L : List ByteArray} {k : Nat} (h : okn L k) : ∀ v ∈ nbl L k, 0 ≤ v ∧ v ≤ 9999999999 := fun v hv => by
  obtain ⟨i, hi, rfl⟩ := List.mem_map.1 hv
  exact okd_bd (h i (List.mem_range.1 hi))
theorem gol_gof {k : Nat} {t : ByteArray} (h1 : 1 ≤ k) (h7 : k < 7) : gol k (nbl (ags t) (arn k)) = nmg (gof k t) := by
  have n0 : nm 0 = 0 := rfl
  rcases arn_of h1 h7 with ⟨rfl, e⟩ | ⟨rfl, e⟩ | ⟨rfl, e⟩ | ⟨h3, e⟩
  · rw [e]
    unfold gol gof nmg
    rw [if_pos rfl, if_pos rfl, nbl_at (by omega)]
    simp only [n0]
    rfl
  · rw [e]
    unfold gol gof nmg
    rw [if_neg (by omega), if_pos rfl, if_neg (by omega), if_pos rfl, nbl_at (by omega)]
    rfl
  · rw [e]
    unfold gol gof nmg
    rw [if_neg (by omega), if_neg (by omega), if_pos rfl, if_neg (by omega), if_neg (by omega), if_pos rfl, nbl_at (by omega), nbl_at (by omega)]
    rfl
  · rw [e]
    unfold gol gof nmg
    rw [if_neg (by omega), if_neg (by omega), if_neg (by omega), if_neg (by omega), if_neg (by omega), if_neg (by omega), nbl_at (by omega), nbl_at (by omega)]
    simp only [n0]
    rfl
/-- A line whose word is a kind's. -/
theorem lng_of {t : ByteArray} {k : Nat} (h1 : 1 ≤ k) (h7 : k < 7) (hx : shw k = tx (wds t) 0) (hl : (ags t).length = arn k) (ho : okn (ags t) (arn k)) : Lng t (gof k t) := ⟨k, ⟨h1, h7⟩, hx.symm, hl, ho, rfl⟩
/-- A line whose word is no out and no kind of as many numbers. -/
theorem nok_gate {t : ByteArray} {O : List Int} {k : Nat} (ho : tx (wds t) 0 ≠ outB) (hl : (ags t).length = k) (h : ∀ j, 1 ≤ j → j < 7 → shw j = tx (wds t) 0 → k ≠ arn j) : Nok t O := by
  rintro (⟨g, ⟨j, hj, e, e2, _⟩, _⟩ | ⟨x, e, _⟩)
  · exact h j hj.1 hj.2 e.symm (by rw [← hl, e2])
  · exact ho e

theorem cReadLine (B gc : Nat) (t : ByteArray) (ag : Option Addr) (n cg : Nat) (ao : Option Addr) (m co : Nat) (G : List Gt) (O : List Int) (w : World) (hC : Crd w B gc ag n cg ao m co G O) (hBg : B ≤ gc) (hS : Shp w) (ht : t.size ≤ 2048) (hn : n ≤ 3000) (hm : m ≤ 3000) (hob : ∀ x ∈ O, 0 ≤ x ∧ x ≤ 9999999999) :
    Calls Tryd.prog 21 #[.pointer (some ⟨gc, 0, none⟩), .string t] w fun e w' => Rln t B gc n m ag cg ao co G O w e w' := by
  have hwl := (pcs_len t 32 t.size)
  obtain ⟨k, hk⟩ : ∃ k, (wds t).length = k + 1 := ⟨(wds t).length - 1, by unfold wds; omega⟩
  have hkb : k ≤ 2048 := by have := hwl.2; unfold wds at hk; omega
  have HAL : Hid ((ags t).length = k) := by unfold Hid ags; rw [List.length_drop, hk]; rfl
  have HW : Hid ((wds t).length = k + 1) := hk
  have hgcl := hC.box.lt
  have hBw : B ≤ w.heap.size := by omega
  have hRT := rdT_alloc w (wds t) (by omega) (fun x hx => by have := pcs_size t 32 t.size x hx; omega)
  have hb1 : Below w.heap.size w (w.alloc (.cells ((wds t).map Value.string).toArray 9)) := (Below.refl _ _).alloc (Nat.le_refl _) _
  have HOB : Hid (∀ x ∈ O, 0 ≤ x ∧ x ≤ 9999999999) := hob
  rw [hk] at hRT
  clear hob hwl
  go_enter Tryd.func21, Tryd.ntmps21
  go_wp2_with fail
  refine (sSplit t w (by omega)).mono ?_
  rintro e w1 ⟨rfl, hw1⟩
  rw [hk]
  rw [← hw1] at hRT hb1
  clear hw1 hk
  have hC1 := hC.below hb1
  have hS1 := hS.below hb1
  have hRT1 := hRT.sub1
  obtain ⟨b0, o0, hd, hab, hbb, HHd, hds, hc0⟩ := hRT.one (k := 0) (by omega)
  simp only [Option.some.injEq, Addr.mk.injEq, and_true] at hab
  obtain ⟨rfl, rfl⟩ := hab
  simp only [Nat.add_zero] at hc0
  obtain ⟨X, HX⟩ : ∃ X, Hid (subA (some ⟨w.heap.size, 0, none⟩) (k + 1) 1 = X) := ⟨_, rfl⟩
  rw [HX.out, Nat.add_sub_cancel] at hRT1
  have hsl : ∀ W, (Instr.sliceAt 77 (.slice (some ⟨w.heap.size, 0, none⟩) (k + 1) (k + 1)) (some (.int .i64 1)) none none).run Tryd.prog W = .ok (.slice X k k) W := fun W => by
    rw [← HX.out]
    exact run_subl Tryd.underlying77 infoS1r (some ⟨w.heap.size, 0, none⟩) (k + 1) (k + 1) 1 rfl (by omega) W
  have hb1B := hb1.mono hBw
  clear hb1 hC hS
  go_wp2_with fail
  refine (cNumbers X k k (ags t) w1 hRT1 (by omega)).mono ?_
  rintro e w2 ⟨hNm, hb2⟩
  have hC2 := hC1.below hb2
  have hS2 := hS1.below hb2
  have hc02 : w2.cell? ⟨w.heap.size, 0, none⟩ = some (.string hd) := by rw [hb2.cell (World.block_lt_of_cell? w1 _ hc0)]; exact hc0
  have hl02 := World.block_lt_of_cell? w2 _ hc02
  have hb2B := hb1B.trans (hb2.mono (Nat.le_trans hBw hb1B.size))
  have hBw2 : B ≤ w2.heap.size := by have := hb2B.size; omega
  clear hC1 hS1 hb2 hc0 hb1B hRT1 hRT hsl hbb
  rcases hNm with ⟨hno, rfl⟩ | ⟨hok, gn, rfl, hgn, hbl⟩
  · have HN : Hid (Nok t O) := nok_num HAL.out hno
    clear hno
    go_wp2
    go_ret
    exact ⟨.inr (.inr ⟨HN.out, rfl⟩), hb2B⟩
  · have HON : Hid (okn (ags t) k) := hok
    have HBl : Hid (Blk w2 gn (nbl (ags t) k)) := hbl
    have hgl := hbl.lt
    clear hok
    by_cases hout : hd = outB
    · have he : (hd.toList == [111, 117, 116]) = true := by rw [← outB_listR]; exact tl_yes hout
      have HHo : Hid (tx (wds t) 0 = outB) := by unfold Hid; rw [HHd.out]; exact hout
      clear hout
      by_cases hk1 : k = 1
      · subst hk1
        obtain ⟨x0, HX0⟩ : ∃ x, Hid (agn t 0 = x) := ⟨_, rfl⟩
        have hcn := hbl.cell (i := 0) (by rw [nbl_len]; omega)
        rw [nbl_at (by omega), show dgn (tx (ags t) 0) (tx (ags t) 0).size = x0 from HX0.out] at hcn
        have hx0 : 0 ≤ x0 ∧ x0 ≤ 9999999999 := by rw [← HX0.out]; exact ag_bd HON.out (by omega)
        have hwr : IntKind.i64.wrap x0 = x0 := by rw [IntKind.wrap_i64]; omega
        have HL : Hid (Lno t x0) := ⟨HHo.out, HAL.out, HON.out, HX0.out.symm⟩
        have hownD : w2.drew.ownsRow B 3 1 (.slice ao m co) m (zns O) := hC2.ins
        have HGf : Hid (zns O ++ [.int .i64 x0] = zns (O ++ [x0])) := zns_snoc O x0
        have HUP : Hid (∀ g7 c7 w7, w7.ownsRow B 3 1 (.slice (some ⟨g7, 0, none⟩) (m + 1) c7) (m + 1) (zns (O ++ [x0])) → w2.drew.grownBy w7 (Value.slice ao m co).ownBlock →
            ((∃ x, w7.cell? ⟨gc, 1, none⟩ = some x) ∧ w7.frozen? ⟨gc, 1, none⟩ = false) ∧ Crd (w7.setCell ⟨gc, 1, none⟩ (.slice (some ⟨g7, 0, none⟩) (m + 1) c7)) B gc ag n cg (some ⟨g7, 0, none⟩) (m + 1) c7 G (O ++ [x0]) ∧ Below B w (w7.setCell ⟨gc, 1, none⟩ (.slice (some ⟨g7, 0, none⟩) (m + 1) c7))) := fun g7 c7 w7 ho hg => by
          have hCd : Crd w2.drew B gc ag n cg ao m co G O := ⟨hC2.box, hC2.ln, hC2.lo, hC2.own, hC2.ins⟩
          have hb7 := hCd.box.grown hg (box_apart hCd.box hCd.ins eIC)
          exact ⟨⟨⟨_, hb7.cells.2⟩, hb7.frozen 1⟩, hCd.out ho hg, ((hb2B.drew).grown hg (by exact hBw2) (fun q hq => (hCd.ins.lt q hq).1)).setCell (p := ⟨gc, 1, none⟩) hBg _⟩
        obtain ⟨d0, d1⟩ := hC2.box.cells
        have hgc2 := hC2.box.lt
        clear hC2 hS2 hb2B hbl HBl
        go_wp2
        go_region_law (refine step_appZ Tryd.underlying23 infoIt rfl (by decide) (by decide) w2.drew rfl _ _ rfl B _ _ _ rfl hownD [.int .i64 x0] rfl (by intro u hu; simp at hu; subst hu; rfl) rfl rfl (by omega) (by exact hBw2) ?_; intro g7 c7 w7 ho7 hgr7 _; rw [HGf.out] at ho7; obtain ⟨⟨⟨xx, dd⟩, ff⟩, hE⟩ := HUP.out g7 c7 w7 ho7 hgr7; have hl7 := World.block_lt_of_cell? w7 _ dd; have HE : Hid (_ ∧ _) := hE; clear ho7 hgr7 hE)
        all_goals
          clear HUP hownD
          go_wp2
          go_ret
          exact ⟨.inr (.inl ⟨x0, _, _, HL.out, rfl, HE.out.1⟩), HE.out.2⟩
      · have HN : Hid (Nok t O) := nok_out HHo.out (by rw [HAL.out]; exact hk1)
        have hkb1 : ((k : Int) != 1) = true := by rw [bne_iff_ne]; omega
        clear hk1 hC2 hS2 hbl HBl
        go_wp2
        go_ret
        exact ⟨.inr (.inr ⟨HN.out, rfl⟩), hb2B⟩
    · have he : (hd.toList == [111, 117, 116]) = false := by rw [← outB_listR]; exact tl_no hout
      have HHo : Hid (tx (wds t) 0 ≠ outB) := by unfold Hid; rw [HHd.out]; exact hout
      clear hout
      go_wp2_with fail
      refine (cReadGate hd gn k (nbl (ags t) k) w2 hbl (nbl_len _ _) (by omega) (nbl_bd HON.out) hS2).mono ?_
      rintro e w3 ⟨hor, hb3⟩
      have hC3 := hC2.below hb3
      have hb3B := hb2B.trans (hb3.mono hBw2)
      have hBw3 : B ≤ w3.heap.size := by have := hb3.size; omega
      clear hC2 hS2 hb3 hbl HBl hb2B hc02 hl02 he
      rcases hor with ⟨q, hq1, hq7, hqx, hqn, rfl⟩ | ⟨hno, rfl⟩
      · obtain ⟨GG, HGG⟩ : ∃ g, Hid (gol q (nbl (ags t) k) = g) := ⟨_, rfl⟩
        have HLg : Hid (Lng t (gof q t)) := by
          refine lng_of hq1 hq7 (hqx.trans HHd.out.symm) (by rw [HAL.out]; exact hqn) ?_
          rw [← hqn]
          exact HON.out
        have HGE : Hid (GG = nmg (gof q t)) := by unfold Hid; rw [← HGG.out, hqn]; exact gol_gof hq1 hq7
        rw [HGG.out]
        obtain ⟨gk, ga, gb, gn'⟩ := GG
        unfold gcell
        simp only
        have hbA : Below w3.heap.size w3 (w3.alloc (.cells #[.int .i64 gk, .int .i64 ga, .int .i64 gb, .int .u64 gn'] 52)) := (Below.refl _ _).alloc (Nat.le_refl _) _
        have hP := Gbx.new w3 gk ga gb gn'
        have hC4 := hC3.below hbA
        have hb4B := hb3B.trans (hbA.mono hBw3)
        clear hqx hqn hq1 hq7 hC3 hb3B
        go_upto_region 11 with fail
        generalize w3.alloc (.cells #[.int .i64 gk, .int .i64 ga, .int .i64 gb, .int .u64 gn'] 52) = w4 at *
        have hBw4 : B ≤ w4.heap.size := by have := hbA.size; omega
        obtain ⟨d0, d1⟩ := hC4.box.cells
        obtain ⟨p0, p1, p2, p3⟩ := hP.cells
        have pl := hP.lt
        have hgc4 := hC4.box.lt
        clear hbA
        by_cases hm0 : m = 0
        · subst hm0
          have HO : Hid (O = []) := List.length_eq_zero_iff.1 hC4.lo
          have hownD : w4.drew.ownsRow B 52 4 (.slice ag n cg) n (gcs G) := hC4.own
          have HGf : Hid (gcs G ++ [.int .i64 gk, .int .i64 ga, .int .i64 gb, .int .u64 gn'] = gcs (G ++ [⟨gk, ga, gb, gn'⟩])) := gcs_snoc G ⟨gk, ga, gb, gn'⟩
          have HUP : Hid (∀ g7 c7 w7, w7.ownsRow B 52 4 (.slice (some ⟨g7, 0, none⟩) (n + 1) c7) (n + 1) (gcs (G ++ [⟨gk, ga, gb, gn'⟩])) → w4.drew.grownBy w7 (Value.slice ag n cg).ownBlock →
              ((∃ x, w7.cell? ⟨gc, 0, none⟩ = some x) ∧ w7.frozen? ⟨gc, 0, none⟩ = false) ∧ Crd (w7.setCell ⟨gc, 0, none⟩ (.slice (some ⟨g7, 0, none⟩) (n + 1) c7)) B gc (some ⟨g7, 0, none⟩) (n + 1) c7 ao 0 co (G ++ [⟨gk, ga, gb, gn'⟩]) O ∧ Below B w (w7.setCell ⟨gc, 0, none⟩ (.slice (some ⟨g7, 0, none⟩) (n + 1) c7))) := fun g7 c7 w7 ho hg => by
            have hCd : Crd w4.drew B gc ag n cg ao 0 co G O := ⟨hC4.box, hC4.ln, hC4.lo, hC4.own, hC4.ins⟩
            have hb7 := hCd.box.grown hg (box_apart hCd.box hCd.own eGC)
            exact ⟨⟨⟨_, hb7.cells.1⟩, hb7.frozen 0⟩, hCd.gate ho hg, ((hb4B.drew).grown hg (by exact hBw4) (fun q hq => (hCd.own.lt q hq).1)).setCell (p := ⟨gc, 0, none⟩) hBg _⟩
          clear hC4 hb4B hP
          go_wp2
          go_region_law (refine step_appZ Tryd.underlying22 infoGt rfl (by decide) (by decide) w4.drew rfl _ _ rfl B _ _ _ rfl hownD [.int .i64 gk, .int .i64 ga, .int .i64 gb, .int .u64 gn'] rfl (by intro u hu; simp at hu; rcases hu with rfl | rfl | rfl | rfl <;> rfl) rfl rfl (by omega) (by exact hBw4) ?_; intro g7 c7 w7 ho7 hgr7 _; rw [HGf.out] at ho7; obtain ⟨⟨⟨xx, dd⟩, ff⟩, hE⟩ := HUP.out g7 c7 w7 ho7 hgr7; have hl7 := World.block_lt_of_cell? w7 _ dd; have HE : Hid (_ ∧ _) := hE; clear ho7 hgr7 hE)
          all_goals
            clear HUP hownD
            go_wp2
            go_ret
            exact ⟨.inl ⟨gof q t, _, _, HLg.out, HO.out, rfl, by rw [← HGE.out]; exact HE.out.1⟩, HE.out.2⟩
        · have HN : Hid (Nok t O) := nok_outs HHo.out (fun e => hm0 (by rw [← hC4.lo, e]; rfl))
          have hmp : (0 : Int) < (m : Int) := by omega
          clear hm0
          go_wp2
          go_ret
          exact ⟨.inr (.inr ⟨HN.out, rfl⟩), hb4B⟩
      · have HN : Hid (Nok t O) := nok_gate HHo.out HAL.out (fun j h1 h7 e => hno j h1 h7 (e.trans HHd.out))
        have hbA : Below w3.heap.size w3 (w3.alloc (.cells #[.int .i64 0, .int .i64 0, .int .i64 0, .int .u64 0] 52)) := (Below.refl _ _).alloc (Nat.le_refl _) _
        have hb4B := hb3B.trans (hbA.mono hBw3)
        unfold gcell
        simp only
        clear hno hC3 hb3B
        go_wp2
        go_ret
        exact ⟨.inr (.inr ⟨HN.out, rfl⟩), hb4B⟩
theorem gt_map (G : List Gt) (i : Nat) : gt (G.map nmg) i = nmg (gt G i) := by
  unfold gt
  rw [List.getD_eq_getElem?_getD, List.getD_eq_getElem?_getD, List.getElem?_map]
  cases G[i]? with
  | none => rfl
  | some g => rfl
theorem okg_nmz {i : Nat} {g : Gt} (h : g.k = 2 ∨ g.k = 6 ∨ g.n = 0) : okg i (nmg g) ↔ okg i g := by
  have n0 : nm 0 = 0 := rfl
  unfold okg nmg
  simp only
  rcases h with h | h | h
  · rw [h]; omega
  · rw [h]; omega
  · rw [h, n0]
theorem lng_zn {t : ByteArray} {g : Gt} (h : Lng t g) : g.k = 2 ∨ g.k = 6 ∨ g.n = 0 := by
  obtain ⟨k, hk, _, _, _, rfl⟩ := h
  rcases arn_of hk.1 hk.2 with ⟨rfl, _⟩ | ⟨rfl, _⟩ | ⟨rfl, _⟩ | ⟨h3, _⟩
  · exact .inr (.inr rfl)
  · exact .inl rfl
  · exact .inr (.inl rfl)
  · refine .inr (.inr ?_)
    unfold gof
    rw [if_neg (by omega), if_neg (by omega), if_neg (by omega)]
theorem Rds.zn {l : List ByteArray} : ∀ {i : Nat} {G : List Gt} {O : List Int}, Rds l i G O → ∀ g ∈ G, g.k = 2 ∨ g.k = 6 ∨ g.n = 0
  | 0, _, _, h, g, hg => by obtain ⟨rfl, rfl⟩ := h; simp at hg
  | i + 1, _, _, h, g, hg => by
    obtain ⟨G0, O0, h0, h1⟩ := h
    rcases h1 with ⟨g', a, _, rfl, rfl⟩ | ⟨x, _, rfl, rfl⟩
    · rcases List.mem_append.1 hg with hg | hg
      · exact h0.zn g hg
      · obtain rfl := List.mem_singleton.1 hg
        exact lng_zn a
    · exact h0.zn g hg
theorem Rds.len {l : List ByteArray} : ∀ {i : Nat} {G : List Gt} {O : List Int}, Rds l i G O → G.length + O.length = i
  | 0, _, _, h => by obtain ⟨rfl, rfl⟩ := h; rfl
  | i + 1, _, _, h => by
    obtain ⟨G0, O0, h0, h1⟩ := h
    have := h0.len
    rcases h1 with ⟨g', _, rfl, rfl, rfl⟩ | ⟨x, _, rfl, rfl⟩
    · simp at this ⊢; omega
    · simp; omega
theorem okG_nmz {G : List Gt} (h : ∀ g ∈ G, g.k = 2 ∨ g.k = 6 ∨ g.n = 0) (n : Nat) : okG (G.map nmg) n ↔ okG G n := by
  have hg : ∀ i, (gt G i).k = 2 ∨ (gt G i).k = 6 ∨ (gt G i).n = 0 := fun i => by
    by_cases hi : i < G.length
    · exact h _ (gt_mem hi)
    · refine .inr (.inr ?_)
      unfold gt
      rw [List.getD_eq_getElem?_getD, List.getElem?_eq_none (by omega)]
      rfl
  constructor
  · intro e i hi
    have := e i hi
    rw [gt_map] at this
    exact (okg_nmz (hg i)).1 this
  · intro e i hi
    rw [gt_map]
    exact (okg_nmz (hg i)).2 (e i hi)
theorem cke_nm {G : List Gt} {O : List Int} {n m : Nat} {r : Int} (h : ∀ g ∈ G, g.k = 2 ∨ g.k = 6 ∨ g.n = 0) : Cke (G.map nmg) O n m r ↔ Cke G O n m r := by
  unfold Cke
  rw [okG_nmz h]
theorem gbd_nm {G : List Gt} (h : ∀ g ∈ G, gbd g) : ∀ g ∈ G.map nmg, gbd g := fun g hg => by
  obtain ⟨g', hg', rfl⟩ := List.mem_map.1 hg
  have h1 := h g' hg'
  have h2 := nm_bd g'.n
  unfold gbd at h1 ⊢
  unfold nmg
  simp only
  omega
theorem gcs_len4 (G : List Gt) : (G.map nmg).length = G.length := List.length_map ..
/-- The lines behind the first i. -/
def Rst (s : ByteArray) (i : Nat) (r : ByteArray) : Prop := ∃ P, lns s = P ++ lns r ∧ P.length = i
theorem Rst.start (s : ByteArray) : Rst s 0 s := ⟨[], rfl, rfl⟩
theorem Rst.last {s r : ByteArray} {i : Nat} (h : Rst s i r) (hr : lns r = [r]) : lnn s = i ∧ tx (lns s) (lnn s) = r := by
  obtain ⟨P, h1, rfl⟩ := h
  have e : lnn s = P.length := by unfold lnn; rw [h1, hr]; simp
  refine ⟨e, ?_⟩
  rw [e, h1, hr]
  simp [tx]
theorem Rst.next {s r t u : ByteArray} {i : Nat} (h : Rst s i r) (hr : lns r = t :: lns u) : Rst s (i + 1) u ∧ tx (lns s) i = t ∧ i < lnn s := by
  obtain ⟨P, h1, rfl⟩ := h
  refine ⟨⟨P ++ [t], by rw [h1, hr]; simp, by simp⟩, ?_, ?_⟩
  · rw [h1, hr]
    simp [tx]
  · have := lns_len u
    unfold lnn
    rw [h1, hr]
    simp
    omega
theorem lns_mt : lns mt = [mt] := rfl
/-- What Parse answers: gates with their numbers' rests. -/
def Prn (s : ByteArray) (w : World) (e : Ending) (w' : World) : Prop :=
  ∃ (ag : Option Addr) (cg : Nat) (ao : Option Addr) (co at_ : Nat) (r : Int) (G : List Gt) (O : List Int), e = .returned (.tuple #[.agg #[.slice ag G.length cg, .slice ao O.length co], .int .i64 (at_ : Int), .int .i64 r]) ∧ Par s G O at_ r ∧
    w'.ownsRow w.heap.size 52 4 (.slice ag G.length cg) G.length (gcs (G.map nmg)) ∧ w'.ownsRow w.heap.size 3 1 (.slice ao O.length co) O.length (zns O) ∧ Below w.heap.size w w'
theorem Prn.err {s : ByteArray} {w w' : World} {r : Int} {n : Nat} (h : Par s [] [] n r) (hb : Below w.heap.size w w') : Prn s w (.returned (.tuple #[.agg #[.slice none 0 0, .slice none 0 0], .int .i64 (n : Int), .int .i64 r])) w' :=
  ⟨none, 0, none, 0, n, r, [], [], rfl, h, World.ownsRow_nil _ _ _ _, World.ownsRow_nil _ _ _ _, hb⟩
/-- What Inputs answers. -/
def Cin (G : List Gt) (O : List Int) (n m : Nat) (w : World) (e : Ending) (w' : World) : Prop :=
  ((∃ r, r ≠ 0 ∧ Cke G O n m r ∧ e = .returned (.tuple #[.slice none 0 0, .int .i64 r])) ∨
   (Cke G O n m 0 ∧ ∃ v, e = .returned (.tuple #[v, .int .i64 0]) ∧ w'.ownsRow w.heap.size 3 1 v (ci G n) (zns (whl G n)))) ∧ Below w.heap.size w w'
/-- What is wrong with a circuit and its inputs. -/
def Cre (G : List Gt) (O : List Int) (n m q : Nat) (r : Int) : Prop :=
  (r ≠ 0 ∧ Cke G O n m r) ∨ (Cke G O n m 0 ∧ ((q ≠ ci G n ∧ r = 5) ∨ (q = ci G n ∧ r = 0)))
theorem Cre.one {G : List Gt} {O : List Int} {n m q : Nat} {r s : Int} (h : Cre G O n m q r) (k : Cre G O n m q s) : r = s := by
  rcases h with ⟨h1, h2⟩ | ⟨h1, ⟨h2, rfl⟩ | ⟨h2, rfl⟩⟩ <;> rcases k with ⟨k1, k2⟩ | ⟨k1, ⟨k2, rfl⟩ | ⟨k2, rfl⟩⟩
  all_goals first
    | rfl
    | exact h2.one k2
    | exact absurd (h2.one k1) h1
    | exact absurd (k2.one h1) k1
    | exact absurd k2 h2
    | exact absurd h2 k2
theorem Cre.ok {G : List Gt} {O : List Int} {n m q : Nat} (h : Cre G O n m q 0) : Cke G O n m 0 ∧ q = ci G n := by
  rcases h with ⟨h1, _⟩ | ⟨h1, ⟨_, h2⟩ | ⟨h2, _⟩⟩
  · exact absurd rfl h1
  · omega
  · exact ⟨h1, h2⟩
theorem cGateRightY (k x y z : Int) (i : Nat) (w : World) (h : okg i ⟨k, x, y, z⟩) (hk : -9223372036854775808 ≤ k ∧ k ≤ 9223372036854775807) (hx : -9223372036854775808 ≤ x ∧ x ≤ 9223372036854775807) (hy : -9223372036854775808 ≤ y ∧ y ≤ 9223372036854775807) (hz : 0 ≤ z ∧ z ≤ 18446744073709551615) (hS : Shp w) :
    Calls Tryd.prog 25 #[.agg #[.int .i64 k, .int .i64 x, .int .i64 y, .int .u64 z], .int .i64 i] w fun e w' => e = .returned (.bool true) ∧ Below w.heap.size w w' := by
  refine (cGateRight k x y z i w hk hx hy hz hS).mono ?_
  rintro e w' ⟨⟨_, rfl⟩ | ⟨h', _⟩, hb⟩
  · exact ⟨rfl, hb⟩
  · exact absurd h h'
theorem cGateRightN (k x y z : Int) (i : Nat) (w : World) (h : ¬ okg i ⟨k, x, y, z⟩) (hk : -9223372036854775808 ≤ k ∧ k ≤ 9223372036854775807) (hx : -9223372036854775808 ≤ x ∧ x ≤ 9223372036854775807) (hy : -9223372036854775808 ≤ y ∧ y ≤ 9223372036854775807) (hz : 0 ≤ z ∧ z ≤ 18446744073709551615) (hS : Shp w) :
    Calls Tryd.prog 25 #[.agg #[.int .i64 k, .int .i64 x, .int .i64 y, .int .u64 z], .int .i64 i] w fun e w' => e = .returned (.bool false) ∧ Below w.heap.size w w' := by
  refine (cGateRight k x y z i w hk hx hy hz hS).mono ?_
  rintro e w' ⟨⟨h', _⟩ | ⟨_, rfl⟩, hb⟩
  · exact absurd h' h
  · exact ⟨rfl, hb⟩

theorem cCheckC (ag : Option Addr) (n cg : Nat) (G : List Gt) (ao : Option Addr) (m co : Nat) (O : List Int) (w : World) (h : RdG w ag n cg G) (g : RdI w ao m co O) (hS : Shp w) :
    Calls Tryd.prog 15 #[.agg #[.slice ag n cg, .slice ao m co]] w fun e w' => ∃ r, e = .returned (.int .i64 r) ∧ Cke G O n m r ∧ Below w.heap.size w w' := by
  have hcap := h.cap
  have hmax := h.max
  have gcap := g.cap
  have gmax := g.max
  unfold maxLen at hmax gmax
  have hC0 := CBox.new w ag n cg ao m co
  have hb0 : Below w.heap.size w (w.alloc (.cells #[.slice ag n cg, .slice ao m co] 25)) := (Below.refl _ _).alloc (Nat.le_refl _) _
  obtain ⟨d0, d1⟩ := hC0.cells
  go_enter Tryd.func15, Tryd.ntmps15
  go_upto_region 1 with fail
  generalize w.alloc (.cells #[.slice ag n cg, .slice ao m co] 25) = w0 at *
  have hl0 := hC0.lt
  by_cases hn0 : n = 0
  · have HE : Hid (Cke G O n m 1) := .inl ⟨.inl hn0, rfl⟩
    have hnb : ((n : Int) == 0) = true := by rw [beq_iff_eq]; omega
    clear hn0
    go_wp2
    go_ret
    exact ⟨1, rfl, HE.out, hb0⟩
  · have hnb : ((n : Int) == 0) = false := by rw [beq_eq_false_iff_ne]; omega
    by_cases hm0 : m = 0
    · have HE : Hid (Cke G O n m 1) := .inl ⟨.inr hm0, rfl⟩
      have hmb : ((m : Int) == 0) = true := by rw [beq_iff_eq]; omega
      clear hm0 hn0
      go_wp2
      go_ret
      exact ⟨1, rfl, HE.out, hb0⟩
    · have hmb : ((m : Int) == 0) = false := by rw [beq_eq_false_iff_ne]; omega
      by_cases hn30 : 30 < n
      · have HE : Hid (Cke G O n m 2) := .inr ⟨⟨hn0, hm0⟩, .inl ⟨.inl hn30, rfl⟩⟩
        clear hm0 hn0
        go_wp2
        go_ret
        exact ⟨2, rfl, HE.out, hb0⟩
      · by_cases hm30 : 30 < m
        · have HE : Hid (Cke G O n m 2) := .inr ⟨⟨hn0, hm0⟩, .inl ⟨.inr hm30, rfl⟩⟩
          clear hm0 hn0
          go_wp2
          go_ret
          exact ⟨2, rfl, HE.out, hb0⟩
        · have HB1 : Hid (¬ (okG G n ∧ okO O n m) → Cke G O n m 1) := fun e => .inr ⟨⟨hn0, hm0⟩, .inr ⟨⟨by omega, by omega⟩, .inl ⟨e, rfl⟩⟩⟩
          have HB0 : Hid ((okG G n ∧ okO O n m) → Cke G O n m 0) := fun e => .inr ⟨⟨hn0, hm0⟩, .inr ⟨⟨by omega, by omega⟩, .inr ⟨e, rfl⟩⟩⟩
          clear hm0 hn0
          go_wp2
          go_loopw [30] (fun v wr => ∃ i : Nat, i ≤ n ∧ v = .int .i64 i ∧ Hid (okG G i) ∧ CBox wr w.heap.size ag n cg ao m co ∧ Below w.heap.size w wr) (fun v _ => n - (intOf v).toNat)
          case atStart => exact ⟨0, Nat.zero_le _, rfl, okG_zero G, hC0, hb0⟩
          case round =>
            clear hC0 hb0 d0 d1 hl0
            obtain ⟨i, hi, rfl, HK, hC, hbel⟩ := hrel
            obtain ⟨d0, d1⟩ := hC.cells
            have hl0 := hC.lt
            have hs1 := hbel.size
            by_cases hlt : i < n
            · obtain ⟨b, o, k, x, y, z, rfl, hbb, HG, hk, hx, hy, hz, c1, c2, c3, c4⟩ := (h.below hbel).one hlt
              have hbA0 : Below wr.heap.size wr (wr.alloc (.cells #[.int .i64 k, .int .i64 x, .int .i64 y, .int .u64 z] 52)) := (Below.refl _ _).alloc (Nat.le_refl _) _
              have hbA := hbel.trans (hbA0.mono hs1)
              have hCA := hC.below hbA0 hC.lt
              obtain ⟨q1, q2, q3, q4⟩ := gate_box wr k x y z 52
              have hltA : wr.heap.size < (wr.alloc (.cells #[.int .i64 k, .int .i64 x, .int .i64 y, .int .u64 z] 52)).heap.size := by simp
              go_upto_region 8 with fail
              generalize wr.alloc (.cells #[.int .i64 k, .int .i64 x, .int .i64 y, .int .u64 z] 52) = W at *
              clear c1 c2 c3 c4 hbA0 hC hbel d0 d1
              have hSA := hS.below hbA
              by_cases hok : okg i ⟨k, x, y, z⟩
              · have HN : Hid (okG G (i + 1)) := okG_succ HK.out (by rw [HG.out]; exact hok)
                have HOK : Hid (okg i ⟨k, x, y, z⟩) := hok
                clear hok HG
                go_wp2_with (first | (go_at_call 25; refine (cGateRightY _ _ _ _ i _ HOK.out hk hx hy hz hSA).mono ?_; rintro e w2 ⟨rfl, hb2⟩; have hCB := hCA.below hb2 hCA.lt; have hbB := hbA.trans (hb2.mono hbA.size); clear hCA hbA hSA hb2 q1 q2 q3 q4))
                go_roundw
                case rel => exact ⟨i + 1, by omega, by go_num, HN, hCB, hbB⟩
                case measure => simp [intOf]; omega
              · have HN : Hid (Cke G O n m 1) := HB1.out fun e' => okG_not hlt (by rw [HG.out]; exact hok) e'.1
                have HOK : Hid (¬ okg i ⟨k, x, y, z⟩) := hok
                clear hok HG
                go_wp2_with (first | (go_at_call 25; refine (cGateRightN _ _ _ _ i _ HOK.out hk hx hy hz hSA).mono ?_; rintro e w2 ⟨rfl, hb2⟩; have hbB := hbA.trans (hb2.mono hbA.size); clear hCA hbA hSA hb2 q1 q2 q3 q4))
                go_ret
                exact ⟨1, rfl, HN.out, hbB⟩
            · have hin : i = n := by omega
              subst hin
              go_wp2
              obtain ⟨wo, hwo⟩ : ∃ x, x = wr := ⟨_, rfl⟩
              subst hwo
              go_loopw [43] (fun v wr => ∃ j : Nat, j ≤ m ∧ v = .int .i64 j ∧ Hid (okO O i j) ∧ wr = wo) (fun v _ => m - (intOf v).toNat)
              case atStart => exact ⟨0, Nat.zero_le _, rfl, okO_zero O i, rfl⟩
              case round =>
                obtain ⟨j, hj, rfl, HJ, hw⟩ := hrel
                subst hw
                by_cases hltj : j < m
                · obtain ⟨b2, o2, x, rfl, hbb2, HX, hx0, hx1, c5⟩ := (g.below hbel).one hltj
                  by_cases hxr : x < 0 ∨ (i : Int) ≤ x
                  · have HxN : Hid (x < 0 ∨ (i : Int) ≤ x) := hxr
                    have HN : Hid (Cke G O i m 1) := HB1.out fun e' => okO_not hltj HX.out hxr e'.2
                    go_wp2_with (first | (go_at_call 26; refine (cAheadN _ _ _ HxN.out).mono ?_; rintro e w' ⟨rfl, hw⟩; have hw := hw.symm; subst hw))
                    go_ret
                    exact ⟨1, rfl, HN.out, hbel⟩
                  · have HxY : Hid (0 ≤ x ∧ x < (i : Int)) := ⟨by omega, by omega⟩
                    have HN : Hid (okO O i (j + 1)) := okO_succ HJ.out HX.out (by omega) (by omega)
                    go_wp2_with (first | (go_at_call 26; refine (cAheadY _ _ _ HxY.out.1 HxY.out.2).mono ?_; rintro e w' ⟨rfl, hw⟩; have hw := hw.symm; subst hw))
                    go_roundw
                    case rel => exact ⟨j + 1, by omega, by go_num, HN, by trivial⟩
                    case measure => simp [intOf]; omega
                · have hjm : j = m := by omega
                  subst hjm
                  have HN : Hid (Cke G O i j 0) := HB0.out ⟨HK.out, HJ.out⟩
                  go_wp2
                  go_ret
                  exact ⟨0, rfl, HN.out, hbel⟩
end
end Go.Proofs.YtljlioglpaogdahDoor
