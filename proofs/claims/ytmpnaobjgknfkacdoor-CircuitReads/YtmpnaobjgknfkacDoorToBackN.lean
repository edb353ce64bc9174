/- strings.Split at one blank, strings.Cut at a byte 10: strings.Index, strings.Count at one byte and genSplit off the shelf. · What is printed is read as it was: the text of a circuit. -/
import Derived.Test.YtmpnaobjgknfkacDoorToCutM
import Derived.Test.YtmpnaobjgknfkacDoorToShLay
import Derived.Deep.RegionWith
import Derived.BigRegion
import Derived.Test.YtmpnaobjgknfkacDoorToReadP
namespace Go.Proofs.YtmpnaobjgknfkacDoor
open Go.RowKit Go.Shelf Crm

theorem infoS9 : (Tryd.prog.info? 9).map (fun i => (i.zero, i.size, i.bytes)) = some (some (.string ByteArray.empty), 1, 16) := by kernel_rfl
theorem count_pcs (c : UInt8) (s : ByteArray) : (pcs s (c.toNat : Int) s.size).length = s.data.toList.count c + 1 := by
  rw [← split_pcs c _ s rfl]
  refine Lib.splitB_all ⟨#[c]⟩ (Nat.le_refl 1) 0 _ s ?_
  exact Lib.count_one c _
theorem wds_len (s : ByteArray) : (wds s).length = s.data.toList.count 32 + 1 := count_pcs 32 s

set_option maxRecDepth 100000 in
set_option maxHeartbeats 1000000 in
theorem sSplit (s : ByteArray) (w : World) (hs : s.size ≤ 100000) :
    Calls Tryd.prog 19 #[.string s, .string ⟨#[32]⟩] w fun e w' => e = .returned (.slice (some ⟨w.heap.size, 0, none⟩) (wds s).length (wds s).length) ∧ w' = w.alloc (.cells ((wds s).map Value.string).toArray 9) := by
  have hl := wds_len s
  have hcb : Lib.countB s ⟨#[32]⟩ = s.data.toList.count 32 := Lib.count_one 32 _
  have hcl : s.data.toList.count 32 ≤ s.size := by
    have := List.count_le_length (a := (32 : UInt8)) (l := s.data.toList)
    rwa [Array.length_toList] at this
  have hC : Calls Tryd.prog 37 #[.string s, .string ⟨#[32]⟩] w fun e w' => e = .returned (.int .i64 (Lib.countB s ⟨#[32]⟩)) ∧ w' = w := by
    rw [hcb]
    exact Any.strings_Count_one Tryd.lays138 s 32 w
  have hI : ∀ (x : ByteArray) (c : Array Value), x.size ≤ s.size → Calls Tryd.prog 38 #[.string x, .string ⟨#[32]⟩] (w.alloc (.cells c 9)) fun e w' => e = .returned (.int .i64 (Lib.indexB x ⟨#[32]⟩)) ∧ w' = w.alloc (.cells c 9) := fun x c _ => by
    have e : Lib.indexB x ⟨#[32]⟩ = Lib.indexByte x.data.toList 32 := Lib.index_one _ _
    rw [e]
    exact Any.strings_Index_one Tryd.lays143 x 32 _
  have hG := Any.strings_genSplit_core Tryd.lays221 infoS9 s ⟨#[32]⟩ 0 (-1) (s.data.toList.count 32 + 1) w (by omega) (by decide) (Nat.zero_le _) hI hC (by decide) (by decide) (by rw [if_pos (by decide), hcb]; omega)
  rw [Nat.add_sub_cancel, split_pcs 32 _ s rfl] at hG
  have e2 : Lib.cellsOf (pcs s (((32 : UInt8).toNat : Nat) : Int) s.size) (s.data.toList.count 32 + 1) = ((wds s).map Value.string).toArray := by
    rw [← hl]
    exact Lib.cellsOf_full _
  rw [e2] at hG
  have hG' : Calls Tryd.prog 27 #[.string s, .string ⟨#[32]⟩, .int .i64 0, .int .i64 (-1)] w fun e w' => e = .returned (.slice (some ⟨w.heap.size, 0, none⟩) (wds s).length (wds s).length) ∧ w' = w.alloc (.cells ((wds s).map Value.string).toArray 9) := by
    refine hG.mono ?_
    rintro e w' ⟨rfl, rfl⟩
    exact ⟨by rw [hl]; show Ending.returned (Value.slice _ (wds s).length _) = _; rw [hl], rfl⟩
  clear hG hI hC e2 hcb hcl hl
  go_enter Tryd.func19, Tryd.ntmps19
  go_wp2_with (go_at_call 27; refine hG'.mono ?_; rintro e w' ⟨rfl, hw⟩; rw [hw])
  go_ret
  exact ⟨rfl, rfl⟩
/-- The pieces are read. -/
theorem rdT_alloc (w : World) (L : List ByteArray) (hl : L.length ≤ 200000) (hb : ∀ x ∈ L, x.size ≤ 9223372036854775807) : RdT (w.alloc (.cells (L.map Value.string).toArray 9)) (some ⟨w.heap.size, 0, none⟩) L.length L.length L := by
  refine ⟨rfl, Nat.le_refl _, by unfold maxLen; omega, by simp, fun i hi => ?_, fun x hx i hi => ?_⟩
  · unfold tx
    rw [List.getD_eq_getElem?_getD, List.getElem?_eq_getElem hi]
    exact hb _ (List.getElem_mem _)
  · obtain rfl := Option.some.inj hx
    rw [Addr.add_lit, Nat.zero_add, World.cell?_alloc_at _ _ _ _ rfl, List.getElem?_toArray, List.getElem?_map, List.getElem?_eq_getElem hi]
    unfold tx
    rw [List.getD_eq_getElem?_getD, List.getElem?_eq_getElem hi]
    rfl

set_option maxRecDepth 100000 in
set_option maxHeartbeats 1000000 in
theorem sCutN (s : ByteArray) (w : World) (h : Lib.indexByte s.data.toList 10 = -1) :
    Calls Tryd.prog 7 #[.string s, .string ⟨#[10]⟩] w fun e w' => e = .returned (.tuple #[.string s, .string ⟨#[]⟩, .bool false]) ∧ Below w.heap.size w w' := by
  have hI : ∀ W, Calls Tryd.prog 26 #[.string s, .string ⟨#[10]⟩] W fun e w' => e = .returned (.int .i64 (-1)) ∧ w' = W := fun W => by
    rw [← h]
    exact Any.stringslite_Index_one Tryd.lays219 s 10 W
  have hC : Calls Tryd.prog 18 #[.string s, .string ⟨#[10]⟩] w fun e w' => e = .returned (.tuple #[.string s, .string ⟨#[]⟩, .bool false]) ∧ Below w.heap.size w w' := by
    go_enter Tryd.func18, Tryd.ntmps18
    go_wp2_with (go_at_call 26; refine (hI _).mono ?_; rintro e w' ⟨rfl, hw⟩; have hw := hw.symm; subst hw)
    go_ret3
    exact ⟨rfl, Below.refl _ _⟩
  go_enter Tryd.func7, Tryd.ntmps7
  go_wp2_with (go_at_call 18; refine hC.mono ?_; rintro e w' ⟨rfl, hb⟩)
  go_ret3
  exact ⟨rfl, hb⟩
set_option maxRecDepth 100000 in
set_option maxHeartbeats 1000000 in
theorem sCutY (s : ByteArray) (j : Nat) (w : World) (h : Lib.indexByte s.data.toList 10 = (j : Int)) (hj : j < s.size) (hs : s.size ≤ 100000) :
    Calls Tryd.prog 7 #[.string s, .string ⟨#[10]⟩] w fun e w' => e = .returned (.tuple #[.string (s.extract 0 j), .string (s.extract (j + 1) s.size), .bool true]) ∧ Below w.heap.size w w' := by
  have hI : ∀ W, Calls Tryd.prog 26 #[.string s, .string ⟨#[10]⟩] W fun e w' => e = .returned (.int .i64 (j : Int)) ∧ w' = W := fun W => by
    rw [← h]
    exact Any.stringslite_Index_one Tryd.lays219 s 10 W
  have hC : Calls Tryd.prog 18 #[.string s, .string ⟨#[10]⟩] w fun e w' => e = .returned (.tuple #[.string (s.extract 0 j), .string (s.extract (j + 1) s.size), .bool true]) ∧ Below w.heap.size w w' := by
    have c1 : (0 : Int) ≤ ↑j := by omega
    have c2 : (↑j : Int) ≤ ↑s.size := by omega
    have c4 : (↑j + 1 : Int) ≤ ↑s.size := by omega
    have c5 : (0 : Int) ≤ ↑j + 1 := by omega
    go_enter Tryd.func18, Tryd.ntmps18
    go_wp2_with (go_at_call 26; refine (hI _).mono ?_; rintro e w' ⟨rfl, hw⟩; have hw := hw.symm; subst hw)
    go_region
    go_wp2
    go_ret3
    exact ⟨rfl, (Below.refl _ _).drew⟩
  go_enter Tryd.func7, Tryd.ntmps7
  go_wp2_with (go_at_call 18; refine hC.mono ?_; rintro e w' ⟨rfl, hb⟩)
  go_ret3
  exact ⟨rfl, hb⟩
end Go.Proofs.YtmpnaobjgknfkacDoor

namespace Go.Proofs.YtmpnaobjgknfkacDoor
open Crm

/-- A number that is told, by its rest. -/
def nmg (g : Gt) : Gt := ⟨g.k, g.a, g.b, nm g.n⟩
def vbl (k : Nat) : List UInt8 := (vb k).data.toList
theorem vbl_no : ∀ k, k < 7 → ∀ d ∈ vbl k, (d.toNat : Int) ≠ 32 ∧ (d.toNat : Int) ≠ 10 := by decide +kernel
theorem vbl_len : ∀ k, k < 7 → (vbl k).length ≤ 5 := by decide +kernel
/-- A gate's line. -/
def gll (g : Gt) : List UInt8 :=
  vbl g.k.toNat ++ [32] ++ (if g.k = 1 then dd g.a.toNat else if g.k = 2 then dd (nm g.n).toNat else if g.k = 6 then dd g.a.toNat ++ [32] ++ dd (nm g.n).toNat else dd g.a.toNat ++ [32] ++ dd g.b.toNat)
/-- An out's line. -/
def oll (x : Int) : List UInt8 := [111, 117, 116] ++ [32] ++ dd x.toNat
theorem itb_of {x : Int} (h : 0 ≤ x) : itb x = toB (dd x.toNat) := by
  obtain ⟨u, rfl⟩ : ∃ u : Nat, x = u := ⟨x.toNat, by omega⟩
  rw [itb_dd, Int.toNat_natCast]
theorem sp_toB : (⟨#[32]⟩ : ByteArray) = toB [32] := rfl
theorem nl_toB : (⟨#[10]⟩ : ByteArray) = toB [10] := rfl
theorem out_toB : (⟨#[111, 117, 116, 32]⟩ : ByteArray) = toB [111, 117, 116, 32] := rfl
theorem vb_toB (k : Nat) : vb k = toB (vbl k) := (toB_list _).symm
theorem txt_snoc (L : List (List UInt8)) (x : List UInt8) : txt (L ++ [x]) = txt L ++ (x ++ [10]) := by simp [txt]
theorem txt_app (L M : List (List UInt8)) : txt (L ++ M) = txt L ++ txt M := by simp [txt]
theorem gln_toB {i : Nat} {g : Gt} (h : okg i g) (L : List (List UInt8)) : gln (toB (txt L)) g = toB (txt (L ++ [gll g])) := by
  have hn := nm_bd g.n
  unfold gln arg gll
  rw [txt_snoc]
  rcases h with ⟨h1, h3, _, _⟩ | ⟨h1, _, _⟩ | ⟨h1, h3, _⟩ | ⟨h1, h3, h4, _⟩
  · rw [if_pos h1, if_pos h1, itb_of (by omega), sp_toB, nl_toB, vb_toB]
    simp only [toB_app]
    congr 1
    simp
  · rw [if_neg (by omega), if_pos h1, if_neg (by omega), if_pos h1, itb_of (by omega), sp_toB, nl_toB, vb_toB]
    simp only [toB_app]
    congr 1
    simp
  · rw [if_neg (by omega), if_neg (by omega), if_pos h1, if_neg (by omega), if_neg (by omega), if_pos h1, itb_of (by omega), itb_of (x := nm g.n) (by omega), sp_toB, nl_toB, vb_toB]
    simp only [toB_app]
    congr 1
    simp
  · rw [if_neg (by omega), if_neg (by omega), if_neg (by omega), if_neg (by omega), if_neg (by omega), if_neg (by omega), itb_of (by omega), itb_of (x := g.b) (by omega), sp_toB, nl_toB, vb_toB]
    simp only [toB_app]
    congr 1
    simp
def gls (G : List Gt) (k : Nat) : List (List UInt8) := (List.range k).map fun i => gll (gt G i)
def ols (O : List Int) (k : Nat) : List (List UInt8) := (List.range k).map fun i => oll (O.getD i 0)
theorem gls_len (G : List Gt) (k : Nat) : (gls G k).length = k := by simp [gls]
theorem ols_len (O : List Int) (k : Nat) : (ols O k).length = k := by simp [ols]
theorem gls_succ (G : List Gt) (k : Nat) : gls G (k + 1) = gls G k ++ [gll (gt G k)] := by simp [gls, List.range_succ]
theorem ols_succ (O : List Int) (k : Nat) : ols O (k + 1) = ols O k ++ [oll (O.getD k 0)] := by simp [ols, List.range_succ]
theorem gtx_toB {G : List Gt} {n : Nat} (h : okG G n) : ∀ k, k ≤ n → gtx G k = toB (txt (gls G k))
  | 0, _ => rfl
  | k + 1, hk => by rw [gtx, gtx_toB h k (by omega), gln_toB (h k (by omega)), gls_succ]
theorem otx_toB {O : List Int} {n m : Nat} (h : okO O n m) (L : List (List UInt8)) : ∀ k, k ≤ m → otx (toB (txt L)) O k = toB (txt (L ++ ols O k))
  | 0, _ => by simp [otx, ols]
  | k + 1, hk => by
    have ho := h k (by omega)
    rw [otx, otx_toB h L k (by omega), ols_succ, ← List.append_assoc, txt_snoc, itb_of ho.1, nl_toB, out_toB]
    simp only [toB_app]
    simp [oll]
/-- The text of a right circuit. -/
theorem text_toB {G : List Gt} {O : List Int} {n m : Nat} (hG : okG G n) (hO : okO O n m) : otx (gtx G n) O m = toB (txt (gls G n ++ ols O m)) := by
  rw [gtx_toB hG n (Nat.le_refl _), otx_toB hO _ m (Nat.le_refl _)]
theorem kind_lt {i : Nat} {g : Gt} (h : okg i g) : 1 ≤ g.k.toNat ∧ g.k.toNat < 7 ∧ ((g.k.toNat : Nat) : Int) = g.k := by
  unfold okg at h
  omega
theorem gll_no10 {i : Nat} {g : Gt} (h : okg i g) : ∀ d ∈ gll g, (d.toNat : Int) ≠ 10 := by
  intro d hd
  unfold gll at hd
  have hk := kind_lt h
  rcases List.mem_append.1 hd with hd | hd
  · rcases List.mem_append.1 hd with hd | hd
    · exact (vbl_no _ hk.2.1 d hd).2
    · obtain rfl := List.mem_singleton.1 hd; decide
  · have two : ∀ a b : Nat, d ∈ dd a ++ [32] ++ dd b → (d.toNat : Int) ≠ 10 := fun a b hd => by
      rcases List.mem_append.1 hd with hd | hd
      · rcases List.mem_append.1 hd with hd | hd
        · exact dd_no10 _ d hd
        · obtain rfl := List.mem_singleton.1 hd; decide
      · exact dd_no10 _ d hd
    split at hd
    · exact dd_no10 _ d hd
    · split at hd
      · exact dd_no10 _ d hd
      · split at hd
        · exact two _ _ hd
        · exact two _ _ hd
theorem oll_no10 (x : Int) : ∀ d ∈ oll x, (d.toNat : Int) ≠ 10 := by
  intro d hd
  unfold oll at hd
  rcases List.mem_append.1 hd with hd | hd
  · simp at hd
    rcases hd with rfl | rfl | rfl | rfl <;> decide
  · exact dd_no10 _ d hd
theorem lines_no10 {G : List Gt} {O : List Int} {n m : Nat} (hG : okG G n) : ∀ x ∈ gls G n ++ ols O m, ∀ d ∈ x, (d.toNat : Int) ≠ 10 := by
  intro x hx
  rcases List.mem_append.1 hx with hx | hx
  · obtain ⟨i, hi, rfl⟩ := List.mem_map.1 hx
    exact gll_no10 (hG i (List.mem_range.1 hi))
  · obtain ⟨i, hi, rfl⟩ := List.mem_map.1 hx
    exact oll_no10 _
theorem ags_two {t : ByteArray} {a b : List UInt8} (h : wds t = [toB a, toB b]) : ags t = [toB b] := by unfold ags; rw [h]; rfl
theorem ags_three {t : ByteArray} {a b c : List UInt8} (h : wds t = [toB a, toB b, toB c]) : ags t = [toB b, toB c] := by unfold ags; rw [h]; rfl
theorem agn_dd0 {t : ByteArray} {u : Nat} {r : List ByteArray} (h : ags t = toB (dd u) :: r) : agn t 0 = (u : Int) := by
  unfold agn; rw [h]; exact dd_dgn u
theorem agn_dd1 {t : ByteArray} {u : Nat} {x : ByteArray} {r : List ByteArray} (h : ags t = x :: toB (dd u) :: r) : agn t 1 = (u : Int) := by
  unfold agn; rw [h]; exact dd_dgn u
theorem okn_one {t : ByteArray} {u : Nat} (hu : u < 10000000000) (h : ags t = [toB (dd u)]) : okn (ags t) 1 := fun i hi => by
  obtain rfl : i = 0 := by omega
  rw [h]
  exact dd_okd hu
theorem okn_two {t : ByteArray} {u v : Nat} (hu : u < 10000000000) (hv : v < 10000000000) (h : ags t = [toB (dd u), toB (dd v)]) : okn (ags t) 2 := fun i hi => by
  rw [h]
  match i, hi with
  | 0, _ => exact dd_okd hu
  | 1, _ => exact dd_okd hv
/-- A gate's line reads as the gate. -/
theorem lng_gll {i : Nat} {g : Gt} (hi : i ≤ 30) (h : okg i g) : Lng (toB (gll g)) (nmg g) := by
  have hn := nm_bd g.n
  have hk := kind_lt h
  have hv := fun d hd => (vbl_no _ hk.2.1 d hd).1
  refine ⟨g.k.toNat, ⟨hk.1, hk.2.1⟩, ?_⟩
  have hnm : g.n = 0 → nm g.n = 0 := fun e => by rw [e]; rfl
  rcases h with ⟨h1, h3, h5, h6⟩ | ⟨h1, h4, h5⟩ | ⟨h1, h3, h5⟩ | ⟨h1, h3, h4, h6⟩
  · have hw : wds (toB (gll g)) = [toB (vbl g.k.toNat), toB (dd g.a.toNat)] := by
      unfold gll; rw [if_pos h1]; exact wds_two hv (dd_no32 _)
    have ha := ags_two hw
    rw [h1] at hw ⊢
    refine ⟨by rw [hw]; exact (vb_toB _).symm, by rw [ha]; rfl, okn_one (u := g.a.toNat) (by omega) ha, ?_⟩
    unfold nmg gof
    rw [if_pos (by decide), agn_dd0 ha, h1, h5, hnm h6]
    congr 1
    omega
  · have hw : wds (toB (gll g)) = [toB (vbl g.k.toNat), toB (dd (nm g.n).toNat)] := by
      unfold gll; rw [if_neg (by omega), if_pos h1]; exact wds_two hv (dd_no32 _)
    have ha := ags_two hw
    rw [h1] at hw ⊢
    refine ⟨by rw [hw]; exact (vb_toB _).symm, by rw [ha]; rfl, okn_one (u := (nm g.n).toNat) (by omega) ha, ?_⟩
    unfold nmg gof
    rw [if_neg (by decide), if_pos (by decide), agn_dd0 ha, h1, h4, h5]
    congr 1
    omega
  · have hw : wds (toB (gll g)) = [toB (vbl g.k.toNat), toB (dd g.a.toNat), toB (dd (nm g.n).toNat)] := by
      unfold gll; rw [if_neg (by omega), if_neg (by omega), if_pos h1, ← List.append_assoc, ← List.append_assoc]; exact wds_three hv (dd_no32 _) (dd_no32 _)
    have ha := ags_three hw
    rw [h1] at hw ⊢
    refine ⟨by rw [hw]; exact (vb_toB _).symm, by rw [ha]; rfl, okn_two (u := g.a.toNat) (v := (nm g.n).toNat) (by omega) (by omega) ha, ?_⟩
    unfold nmg gof
    rw [if_neg (by decide), if_neg (by decide), if_pos (by decide), agn_dd0 ha, agn_dd1 ha, h1, h5]
    congr 1
    · omega
    · omega
  · have hw : wds (toB (gll g)) = [toB (vbl g.k.toNat), toB (dd g.a.toNat), toB (dd g.b.toNat)] := by
      unfold gll; rw [if_neg (by omega), if_neg (by omega), if_neg (by omega), ← List.append_assoc, ← List.append_assoc]; exact wds_three hv (dd_no32 _) (dd_no32 _)
    have ha := ags_three hw
    have har : arn g.k.toNat = 2 := by rcases h1 with h1 | h1 | h1 <;> rw [h1] <;> rfl
    refine ⟨by rw [hw]; exact (vb_toB _).symm, by rw [ha, har]; rfl, by rw [har]; exact okn_two (u := g.a.toNat) (v := g.b.toNat) (by omega) (by omega) ha, ?_⟩
    unfold nmg gof
    rw [if_neg (by omega), if_neg (by omega), if_neg (by omega), agn_dd0 ha, agn_dd1 ha, hnm h6]
    congr 1 <;> omega
theorem lno_oll {x : Int} (h0 : 0 ≤ x) (h1 : x < 10000000000) : Lno (toB (oll x)) x := by
  have hw : wds (toB (oll x)) = [toB [111, 117, 116], toB (dd x.toNat)] := wds_two (by decide) (dd_no32 _)
  have ha := ags_two hw
  refine ⟨by rw [hw]; rfl, by rw [ha]; rfl, okn_one (u := x.toNat) (by omega) ha, ?_⟩
  rw [agn_dd0 ha]
  omega
def nmG (G : List Gt) (k : Nat) : List Gt := (List.range k).map fun i => nmg (gt G i)
theorem nmG_len (G : List Gt) (k : Nat) : (nmG G k).length = k := by simp [nmG]
theorem nmG_gt (G : List Gt) {k i : Nat} (h : i < k) : gt (nmG G k) i = nmg (gt G i) := by
  unfold gt nmG
  simp [h]
  rfl
theorem nmG_succ (G : List Gt) (k : Nat) : nmG G (k + 1) = nmG G k ++ [nmg (gt G k)] := by simp [nmG, List.range_succ]
def oO (O : List Int) (k : Nat) : List Int := (List.range k).map fun i => O.getD i 0
theorem oO_succ (O : List Int) (k : Nat) : oO O (k + 1) = oO O k ++ [O.getD k 0] := by simp [oO, List.range_succ]
theorem oO_all {O : List Int} {m : Nat} (h : O.length = m) : oO O m = O := by
  apply List.ext_getElem?
  intro i
  by_cases hi : i < m
  · simp [oO, hi, h]
  · rw [List.getElem?_eq_none (by simp [oO]; omega), List.getElem?_eq_none (by omega)]
theorem rds_gates {G : List Gt} {O : List Int} {n m : Nat} (hG : okG G n) (hn : n ≤ 30) : ∀ k, k ≤ n → Rds (lns (toB (txt (gls G n ++ ols O m)))) k (nmG G k) []
  | 0, _ => ⟨rfl, rfl⟩
  | k + 1, hk => by
    refine ⟨nmG G k, [], rds_gates hG hn k (by omega), .inl ⟨nmg (gt G k), ?_, rfl, nmG_succ G k, rfl⟩⟩
    rw [tx_txt (lines_no10 hG) (by rw [List.length_append, gls_len]; omega)]
    have e : (gls G n ++ ols O m).getD k [] = gll (gt G k) := by
      rw [List.getD_eq_getElem?_getD, List.getElem?_append_left (by rw [gls_len]; omega)]
      simp [gls, show k < n by omega]
    rw [e]
    exact lng_gll (by omega) (hG k (by omega))
theorem rds_outs {G : List Gt} {O : List Int} {n m : Nat} (hG : okG G n) (hO : okO O n m) (hn : n ≤ 30) : ∀ j, j ≤ m → Rds (lns (toB (txt (gls G n ++ ols O m)))) (n + j) (nmG G n) (oO O j)
  | 0, _ => rds_gates hG hn n (Nat.le_refl _)
  | j + 1, hj => by
    refine ⟨nmG G n, oO O j, rds_outs hG hO hn j (by omega), .inr ⟨O.getD j 0, ?_, rfl, oO_succ O j⟩⟩
    show Lno (tx _ (n + j)) _
    rw [tx_txt (lines_no10 hG) (by rw [List.length_append, gls_len, ols_len]; omega)]
    have e : (gls G n ++ ols O m).getD (n + j) [] = oll (O.getD j 0) := by
      rw [List.getD_eq_getElem?_getD, List.getElem?_append_right (by rw [gls_len]; omega), gls_len, Nat.add_sub_cancel_left]
      simp [ols, show j < m by omega]
    rw [e]
    have := hO j (by omega)
    exact lno_oll this.1 (by omega)
theorem gll_len {i : Nat} {g : Gt} (hi : i ≤ 30) (h : okg i g) : (gll g).length ≤ 19 := by
  have hn := nm_bd g.n
  have hk := kind_lt h
  have hv := vbl_len _ hk.2.1
  have l2 := fun u (hu : u < 100) => dd_len 1 u (by simpa using hu)
  have l10 := dd_len 9 (nm g.n).toNat (by simp; omega)
  unfold gll
  rcases h with ⟨h1, h3, _, _⟩ | ⟨h1, _, _⟩ | ⟨h1, h3, _⟩ | ⟨h1, h3, h4, _⟩
  · rw [if_pos h1]; have := l2 g.a.toNat (by omega); simp; omega
  · rw [if_neg (by omega), if_pos h1]; simp; omega
  · rw [if_neg (by omega), if_neg (by omega), if_pos h1]; have := l2 g.a.toNat (by omega); simp; omega
  · rw [if_neg (by omega), if_neg (by omega), if_neg (by omega)]; have := l2 g.a.toNat (by omega); have := l2 g.b.toNat (by omega); simp; omega
theorem txt_len {L : List (List UInt8)} {b : Nat} (h : ∀ x ∈ L, x.length ≤ b) : (txt L).length ≤ (b + 1) * L.length := by
  induction L with
  | nil => simp [txt]
  | cons x L ih =>
    have e : txt (x :: L) = (x ++ [10]) ++ txt L := by simp [txt]
    have h1 := h x (by simp)
    have h2 := ih (fun y hy => h y (by simp [hy]))
    have e2 : (x :: L).length = L.length + 1 := rfl
    rw [e, List.length_append, List.length_append, e2, Nat.mul_add]
    simp
    omega
theorem text_size {G : List Gt} {O : List Int} {n m : Nat} (hG : okG G n) (hO : okO O n m) (hn : n ≤ 30) (hm : m ≤ 30) : (txt (gls G n ++ ols O m)).length ≤ 2048 := by
  rw [txt_app, List.length_append]
  have h1 := txt_len (L := gls G n) (b := 19) (fun x hx => by
    obtain ⟨i, hi, rfl⟩ := List.mem_map.1 hx
    have := List.mem_range.1 hi
    exact gll_len (by omega) (hG i this))
  have h2 := txt_len (L := ols O m) (b := 6) (fun x hx => by
    obtain ⟨i, hi, rfl⟩ := List.mem_map.1 hx
    have h3 := hO i (List.mem_range.1 hi)
    generalize O.getD i 0 = x at h3
    have := dd_len 1 x.toNat (by have : (10 : Nat) ^ (1 + 1) = 100 := rfl; omega)
    unfold oll
    simp
    omega)
  rw [gls_len] at h1
  rw [ols_len] at h2
  omega
theorem okg_nm {i : Nat} {g : Gt} (h : okg i g) : okg i (nmg g) := by
  unfold nmg
  rcases h with ⟨h1, h2, h3, h4⟩ | ⟨h1, h2, h3⟩ | ⟨h1, h2, h3⟩ | ⟨h1, h2, h3, h4⟩
  · exact .inl ⟨h1, h2, h3, by simp only; rw [h4]; rfl⟩
  · exact .inr (.inl ⟨h1, h2, h3⟩)
  · exact .inr (.inr (.inl ⟨h1, h2, h3⟩))
  · exact .inr (.inr (.inr ⟨h1, h2, h3, by simp only; rw [h4]; rfl⟩))
/-- What is printed of a right circuit is read as the circuit, numbers by P. -/
theorem par_text {G : List Gt} {O : List Int} {n m : Nat} (h : Cke G O n m 0) (hl : O.length = m) : Par (otx (gtx G n) O m) (nmG G n) O 0 0 := by
  obtain ⟨hn, hm, hG, hO⟩ := h.ok
  have hx := lines_no10 (O := O) (m := m) hG
  have hs := text_size hG hO hn.2 hm.2
  have hlen : (gls G n ++ ols O m).length = n + m := by rw [List.length_append, gls_len, ols_len]
  rw [text_toB hG hO]
  refine .inr ⟨by rw [toB_size]; exact hs, .inr ⟨nmG G n, O, ?_, .inr ⟨?_, rfl, ?_, .inr ⟨rfl, rfl, rfl⟩⟩⟩⟩
  · rw [lnn_txt hx, hlen]
    have := rds_outs hG hO hn.2 m (Nat.le_refl _)
    rwa [oO_all hl] at this
  · rw [lnn_txt hx]; exact tx_last hx
  · rw [nmG_len, hl]
    refine .inr ⟨⟨by omega, by omega⟩, .inr ⟨⟨hn.2, hm.2⟩, .inr ⟨⟨fun i hi => ?_, hO⟩, rfl⟩⟩⟩
    rw [nmG_gt G hi]
    exact okg_nm (hG i hi)
end Go.Proofs.YtmpnaobjgknfkacDoor
