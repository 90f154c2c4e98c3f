/-
  IsTurned and SymmetriesOf of both programs.
-/
import Derived.Test.YtoemmaeglhdjnaaMoveI
import Derived.Test.YtoemmaeglhdjnaaSameFn
import Derived.Test.YtoemmaeglhdjnaaInts
namespace Go.Proofs.Ytoemmaeglhdjnaa
open Go.RowKit

def turnedV (p q : List Pt) (m : Int) : Bool := bif polyB p && (polyB q && inB m 0 7) then sameV (moveL p m.toNat) (moveL q 0) else false
theorem same_nil (q : List Pt) : sameV [] q = false := rfl
theorem same_nil' (p : List Pt) : sameV p [] = false := by
  unfold sameV
  rw [show polyB ([] : List Pt) = false from rfl, Bool.and_false]; rfl
theorem turned_eq (p q : List Pt) (m : Int) : sameV (moveV p m) (moveV q 0) = turnedV p q m := by
  unfold turnedV moveV
  cases polyB p
  · exact same_nil _
  · cases polyB q
    · exact same_nil' _
    · cases inB m 0 7
      · exact same_nil _
      · rfl
theorem moveV_small (p : List Pt) (m : Int) (h : p.length ≤ 1048576) : (moveV p m).length ≤ 1048576 := by
  unfold moveV
  cases polyB p && inB m 0 7
  · simp
  · simp only [cond_true, moveL_len]; exact h

set_option maxRecDepth 100000 in
set_option maxHeartbeats 1000000 in
theorem spec_turned (A B : Option Addr) (c d : Nat) (p q : List Pt) (m : Int) (w : World) (hA : PtsA w A p) (hB : PtsA w B q) (h1 : p.length ≤ 1048576) (h2 : q.length ≤ 1048576) :
    Calls Try.prog 44 #[.slice A p.length c, .slice B q.length d, .int .i64 m] w fun e w' => e = .returned (.bool (turnedV p q m)) ∧ Below w.heap.size w w' := by
  have P1 := Lib.hid (spec_poly A c p w hA h1)
  have P2 := Lib.hid (fun (W : World) (hb : Below w.heap.size w W) => spec_poly B d q W (ptsA_on hB hb) h2)
  have HV : Hid (turnedV p q m = bif polyB p && (polyB q && inB m 0 7) then sameV (moveL p m.toNat) (moveL q 0) else false) := rfl
  cases hp : polyB p
  · rw [hp] at P1
    clear hA hB
    go_enter Try.func44, Try.ntmps44
    go_wp2_with fail
    refine P1.out.mono ?_
    rintro e w1 ⟨rfl, b1⟩
    go_wp2_with fail
    go_ret
    exact ⟨ret_bool (by rw [HV.out, hp]; rfl), b1⟩
  obtain ⟨h3, h10, hok⟩ := polyB_all hp
  rw [hp] at P1
  cases hq : polyB q
  · rw [hq] at P2
    clear hA hB
    go_enter Try.func44, Try.ntmps44
    go_wp2_with fail
    refine P1.out.mono ?_
    rintro e w1 ⟨rfl, b1⟩
    go_wp2_with fail
    refine (P2.out _ b1).mono ?_
    rintro e w2 ⟨rfl, hb2⟩
    go_wp2_with fail
    go_ret
    exact ⟨ret_bool (by rw [HV.out, hq, Bool.false_and, Bool.and_false]; rfl), below_on b1 hb2⟩
  obtain ⟨k3, k10, kok⟩ := polyB_all hq
  rw [hq] at P2
  cases hm : inB m 0 7
  · clear hA hB
    go_enter Try.func44, Try.ntmps44
    go_wp2_with fail
    refine P1.out.mono ?_
    rintro e w1 ⟨rfl, b1⟩
    go_wp2_with fail
    refine (P2.out _ b1).mono ?_
    rintro e w2 ⟨rfl, hb2⟩
    go_wp2_with fail
    refine (in_any _ _ _ _).mono ?_
    rintro e w3 ⟨rfl, rfl⟩
    rw [hm]
    go_wp2_with fail
    go_ret
    exact ⟨ret_bool (by rw [HV.out, hm, Bool.and_false, Bool.and_false]; rfl), below_on b1 hb2⟩
  have hm1 := inB_spec.1 hm
  obtain ⟨k, rfl⟩ : ∃ k : Nat, m = k := ⟨m.toNat, by omega⟩
  have HV2 : Hid (turnedV p q k = sameV (moveL p k) (moveL q 0)) := by
    show _ = _
    rw [HV.out, hp, hq, hm]; simp
  have M1 := Lib.hid (fun W (hb : Below w.heap.size w W) => move_any A c p k W (ptsA_on hA hb) (by omega) h10 hok (by omega))
  have M2 := Lib.hid (fun W (hb : Below w.heap.size w W) => move_any B d q 0 W (ptsA_on hB hb) (by omega) k10 kok (by omega))
  have HS := Lib.hid (fun A B c d w hp hq => spec_same A B c d (moveL p k) (moveL q 0) w hp hq (by rw [moveL_len]; exact h1) (by rw [moveL_len]; exact h2))
  rw [moveL_len, moveL_len] at HS
  have l1 := moveL_len p k
  have l2 := moveL_len q 0
  unfold Lists at M1 M2
  rw [l1] at M1
  rw [l2] at M2
  generalize sameV (moveL p k) (moveL q 0) = r at *
  generalize moveL p k = X at *
  generalize moveL q 0 = Y at *
  have HL := Lib.hid (And.intro l1 l2)
  clear hA hB HV hok kok h1 h2 l1 l2 h3 h10 k3 k10 hp hq
  go_enter Try.func44, Try.ntmps44
  go_wp2_with fail
  refine P1.out.mono ?_
  rintro e w1 ⟨rfl, b1⟩
  go_wp2_with fail
  refine (P2.out _ b1).mono ?_
  rintro e w2 ⟨rfl, hb2⟩
  have b2 := below_on b1 hb2
  clear hb2 b1
  go_wp2_with fail
  refine (in_any _ _ _ _).mono ?_
  rintro e w3 ⟨rfl, rfl⟩
  rw [hm]
  go_wp2_with fail
  refine (M1.out _ b2).mono ?_
  rintro e w4 ⟨v4, rfl, own4, hb4⟩
  have b4 := below_on b2 hb4
  obtain ⟨_, A4, c4, rfl, p4⟩ := own_pts (show w4.ownsRow w3.heap.size 56 2 v4 X.length (flat X) by rw [HL.out.1]; exact own4)
  clear hb4 b2 own4
  rw [HL.out.1]
  go_wp2_with fail
  refine (M2.out _ b4).mono ?_
  rintro e w5 ⟨v5, rfl, own5, hb5⟩
  have b5 := below_on b4 hb5
  replace p4 := ptsA_on p4 hb5
  obtain ⟨_, A5, c5, rfl, p5⟩ := own_pts (show w5.ownsRow w4.heap.size 56 2 v5 Y.length (flat Y) by rw [HL.out.2]; exact own5)
  clear hb5 b4 own5
  rw [HL.out.2]
  go_wp2_with fail
  refine (HS.out A4 A5 c4 c5 w5 p4 p5).mono ?_
  rintro e w6 ⟨rfl, hb6⟩
  have b6 := below_on b5 hb6
  clear hb6 b5 p4 p5
  go_wp2_with fail
  go_ret
  exact ⟨ret_bool HV2.out.symm, b6⟩
set_option maxRecDepth 100000 in
set_option maxHeartbeats 1000000 in
theorem impl_turned (A B : Option Addr) (c d : Nat) (p q : List Pt) (m : Int) (w : World) (hA : PtsA w A p) (hB : PtsA w B q) (h1 : p.length ≤ 1048576) (h2 : q.length ≤ 1048576) :
    Calls Try.prog 45 #[.slice A p.length c, .slice B q.length d, .int .i64 m] w fun e w' => e = .returned (.bool (turnedV p q m)) ∧ Below w.heap.size w w' := by
  have HV := Lib.hid (turned_eq p q m)
  have M1 := Lib.hid (impl_move A c p m w hA h1)
  have M2 := Lib.hid (fun W (hb : Below w.heap.size w W) => impl_move B d q 0 W (ptsA_on hB hb) h2)
  have HS := Lib.hid (fun A B c d w hp hq => impl_same A B c d (moveV p m) (moveV q 0) w hp hq (moveV_small p m h1) (moveV_small q 0 h2))
  unfold Lists at M1 M2
  generalize moveV p m = X at *
  generalize moveV q 0 = Y at *
  rw [HV.out] at HS
  clear hA hB h1 h2
  go_enter Try.func45, Try.ntmps45
  go_wp2_with fail
  refine M1.out.mono ?_
  rintro e w4 ⟨v4, rfl, own4, b4⟩
  obtain ⟨_, A4, c4, rfl, p4⟩ := own_pts own4
  clear own4
  go_wp2_with fail
  refine (M2.out _ b4).mono ?_
  rintro e w5 ⟨v5, rfl, own5, hb5⟩
  have b5 := below_on b4 hb5
  replace p4 := ptsA_on p4 hb5
  obtain ⟨_, A5, c5, rfl, p5⟩ := own_pts own5
  clear hb5 b4 own5
  go_wp2_with fail
  refine (HS.out A4 A5 c4 c5 w5 p4 p5).mono ?_
  rintro e w6 ⟨rfl, hb6⟩
  have b6 := below_on b5 hb6
  clear hb6 b5 p4 p5
  go_wp2_with fail
  go_ret
  exact ⟨rfl, b6⟩

/-! ### SymmetriesOf -/
def symTill (p : List Pt) (k : Nat) : List Int := ((List.range k).filter fun j => turnedV p p (j : Nat)).map fun (j : Nat) => (j : Int)
def symV (p : List Pt) : List Int := symTill p 8
theorem sym_step (p : List Pt) (k : Nat) : symTill p (k + 1) = bif turnedV p p (k : Nat) then symTill p k ++ [(k : Int)] else symTill p k := by
  unfold symTill
  rw [List.range_succ, List.filter_append, List.map_append]
  cases h : turnedV p p (k : Nat) <;> simp [h]
theorem sym_len (p : List Pt) (k : Nat) : (symTill p k).length ≤ k := by
  unfold symTill
  rw [List.length_map]
  exact Nat.le_trans (List.length_filter_le _ _) (by simp)
theorem symV_len (p : List Pt) : (symV p).length ≤ 1048576 := by
  have := sym_len p 8
  unfold symV; omega
theorem sym_no {p : List Pt} (hp : polyB p = false) : symV p = [] := by
  unfold symV symTill
  rw [List.filter_eq_nil_iff.2 (fun j _ => by simp [turnedV, hp])]; rfl
set_option maxRecDepth 100000 in
set_option maxHeartbeats 2000000 in
theorem impl_sym (A : Option Addr) (c : Nat) (L : List Pt) (w : World) (hA : PtsA w A L) (hL : L.length ≤ 1048576) :
    Calls Try.prog 40 #[.slice A L.length c] w (ListsI w (symV L)) := by
  obtain ⟨i0, hi0, hz0, hz1, hz2⟩ := info_parts infoI
  have HE := Lib.hid (fun (m : Int) W (hb : Below w.heap.size w W) => impl_turned A A c c L L m W (ptsA_on hA hb) (ptsA_on hA hb) hL hL)
  have HU : Hid (symV L = symTill L 8) := rfl
  have own0 := World.ownsRow_nil w w.heap.size 3 1
  have b0 := Below.refl w.heap.size w
  clear hA
  go_enter Try.func40, Try.ntmps40
  go_wp2_with fail
  go_loopw [3, 4, 5] (fun s _ i wr => ∃ (k : Nat) (M : List Int), k ≤ 8 ∧ i = .int .i64 k ∧ Hid (M = symTill L k) ∧ wr.ownsRow w.heap.size 3 1 s M.length (ints M) ∧ Below w.heap.size w wr) (fun _ _ i _ => 8 - (intOf i).toNat)
  case atStart => exact ⟨0, [], Nat.zero_le _, rfl, rfl, own0, b0⟩
  case round =>
    obtain ⟨wo, rfl⟩ : ∃ wo : World, wo = wr := ⟨_, rfl⟩
    clear own0 b0
    obtain ⟨k, M, hk, rfl, HM, own, hb⟩ := hrel
    by_cases hlt : k < 8
    · have HC := Lib.hid (HE.out k wo hb)
      have HS : Hid (symTill L (k + 1) = bif turnedV L L (k : Nat) then M ++ [(k : Int)] else M) := by
        show _ = _
        rw [HM.out, sym_step]
      have hML : M.length ≤ 10 := by rw [HM.out]; have := sym_len L k; omega
      clear HM
      go_wp2_with fail
      refine HC.out.mono ?_
      rintro e w6 ⟨rfl, hb6⟩
      have b6 := below_on hb hb6
      have own6 := own_below own hb6
      have hs6 := b6.size
      clear hb hb6 own HC
      cases he : turnedV L L (k : Nat)
      · have HT : Hid (M = symTill L (k + 1)) := by show _ = _; rw [HS.out, he]; rfl
        have R := Lib.hid (And.intro own6 b6)
        clear own6 b6 hs6
        go_wp2_with fail
        go_roundw
        case rel => exact ⟨k + 1, M, by omega, by go_num, HT, R.out.1, R.out.2⟩
        case measure => simp [intOf]; omega
      · have HT : Hid (M ++ [(k : Int)] = symTill L (k + 1)) := by show _ = _; rw [HS.out, he]; rfl
        go_wp2_with (at_builtin; refine wpList_append_own _ rfl _ _ 48 rfl w.heap.size 3 i0 (.int .i64 0) 1 8 Try.underlying48 hi0 hz0 hz1 hz2 rfl (by decide) _ _ _ rfl (own6.alloc _) ⟨w6.heap.size, 0, none⟩ 1 1 [.int .i64 (k : Int)] rfl rfl ?d1 ?d2 ?d3 ?d4 ?d5 ?_)
        case d1 => exact World.news_of_block (cs := #[.int .i64 (k : Int)]) (t := 3) (fr := (0, 0)) (heap_alloc_new w6 _)
        case d2 => simp [Value.oneCell']
        case d3 => unfold maxLen; omega
        case d4 => omega
        case d5 => simp; omega
        intro v' w7 own7 hgrow _
        have hrw := fun k hk => (own6.lt k hk).1
        have R : Hid (w7.ownsRow w.heap.size 3 1 v' (M ++ [(k : Int)]).length (ints (M ++ [(k : Int)])) ∧ Below w.heap.size w w7) :=
          ⟨by rw [ints_snoc, List.length_append]; exact own7, (b6.alloc hs6 _).grown hgrow (by simp; omega) hrw⟩
        clear own6 own7 hgrow b6 hrw
        go_wp2_with fail
        go_roundw
        case rel => exact ⟨k + 1, M ++ [(k : Int)], by omega, by go_num, HT, R.out.1, R.out.2⟩
        case measure => simp [intOf]; omega
    · have e : k = 8 := by omega
      have HQ : Hid (M = symV L) := by
        show _ = _
        rw [HM.out, e]; rfl
      clear HM e
      go_wp2_with fail
      go_ret
      rw [← HQ.out]
      exact ⟨_, rfl, own, hb⟩
set_option maxRecDepth 100000 in
set_option maxHeartbeats 2000000 in
theorem spec_sym (A : Option Addr) (c : Nat) (L : List Pt) (w : World) (hA : PtsA w A L) (hL : L.length ≤ 1048576) :
    Calls Try.prog 39 #[.slice A L.length c] w (ListsI w (symV L)) := by
  have PC := Lib.hid (spec_poly A c L w hA hL)
  cases hp : polyB L
  · rw [hp] at PC
    rw [sym_no hp]
    clear hA
    go_enter Try.func39, Try.ntmps39
    go_wp2_with fail
    refine PC.out.mono ?_
    rintro e w1 ⟨rfl, hb1⟩
    go_wp2_with fail
    go_ret
    exact ⟨_, rfl, World.ownsRow_nil _ _ _ _, hb1⟩
  obtain ⟨h3, h10, hok⟩ := polyB_all hp
  obtain ⟨i0, hi0, hz0, hz1, hz2⟩ := info_parts infoI
  rw [hp] at PC
  have M1 := Lib.hid (fun (k : Nat) (hk : k < 8) W (hb : Below w.heap.size w W) => move_any A c L k W (ptsA_on hA hb) (by omega) h10 hok hk)
  have HTV : Hid (∀ k : Nat, k < 8 → sameV (moveL L k) (moveL L 0) = turnedV L L k) := fun k hk => by
    unfold turnedV
    rw [hp, inB_spec.2 (by omega)]; simp
  have HS := Lib.hid (fun (k : Nat) A B c d w hp hq => spec_same A B c d (moveL L k) (moveL L 0) w hp hq (by rw [moveL_len]; exact hL) (by rw [moveL_len]; exact hL))
  have HLN := Lib.hid (moveL_len L)
  unfold Lists at M1
  clear hA hok hp
  go_enter Try.func39, Try.ntmps39
  go_wp2_with fail
  refine PC.out.mono ?_
  rintro e w1 ⟨rfl, hb1⟩
  have own0 := World.ownsRow_lit (base := w.heap.size) (e := 3) (size := 1) w1 #[] 0 hb1.size (by unfold maxLen; omega) (by rfl)
  have b0 := hb1.alloc hb1.size (.cells #[] 3)
  go_wp2_with fail
  go_loopw [3, 4] (fun s i wr => ∃ (k : Nat) (M : List Int), k ≤ 8 ∧ i = .int .i64 k ∧ Hid (M = symTill L k) ∧ wr.ownsRow w.heap.size 3 1 s M.length (ints M) ∧ Below w.heap.size w wr) (fun _ i _ => 8 - (intOf i).toNat)
  case atStart => exact ⟨0, [], Nat.zero_le _, rfl, rfl, own0, b0⟩
  case round =>
    obtain ⟨wo, rfl⟩ : ∃ wo : World, wo = wr := ⟨_, rfl⟩
    clear hb1 own0 b0
    obtain ⟨k, M, hk, rfl, HM, own, hb⟩ := hrel
    by_cases hlt : k < 8
    · have HC := Lib.hid (M1.out k hlt)
      have H0 := Lib.hid (M1.out 0 (by omega))
      have HSK := Lib.hid (HS.out k)
      rw [HTV.out k hlt] at HSK
      have l1 := HLN.out k
      have l2 := HLN.out 0
      rw [l1] at HC HSK
      rw [l2] at H0 HSK
      have HS1 : Hid (symTill L (k + 1) = bif turnedV L L (k : Nat) then M ++ [(k : Int)] else M) := by
        show _ = _
        rw [HM.out, sym_step]
      have hML : M.length ≤ 10 := by rw [HM.out]; have := sym_len L k; omega
      generalize moveL L k = X at *
      generalize moveL L 0 = Y at *
      have HL := Lib.hid (And.intro l1 l2)
      clear HM l1 l2
      go_wp2_with fail
      refine (HC.out _ hb).mono ?_
      rintro e w4 ⟨v4, rfl, own4, hb4⟩
      have b4 := below_on hb hb4
      replace own := own_below own hb4
      obtain ⟨_, A4, c4, rfl, p4⟩ := own_pts (show w4.ownsRow wo.heap.size 56 2 v4 X.length (flat X) by rw [HL.out.1]; exact own4)
      clear hb4 hb own4 HC
      rw [HL.out.1]
      go_wp2_with fail
      refine (H0.out _ b4).mono ?_
      rintro e w5 ⟨v5, rfl, own5, hb5⟩
      have b5 := below_on b4 hb5
      replace own := own_below own hb5
      replace p4 := ptsA_on p4 hb5
      obtain ⟨_, A5, c5, rfl, p5⟩ := own_pts (show w5.ownsRow w4.heap.size 56 2 v5 Y.length (flat Y) by rw [HL.out.2]; exact own5)
      clear hb5 b4 own5 H0
      rw [HL.out.2]
      go_wp2_with fail
      refine (HSK.out A4 A5 c4 c5 w5 p4 p5).mono ?_
      rintro e w6 ⟨rfl, hb6⟩
      have b6 := below_on b5 hb6
      have own6 := own_below own hb6
      have hs6 := b6.size
      clear hb6 own b5 p4 p5 HSK
      cases he : turnedV L L (k : Nat)
      · have HT : Hid (M = symTill L (k + 1)) := by show _ = _; rw [HS1.out, he]; rfl
        have R := Lib.hid (And.intro own6 b6)
        clear own6 b6 hs6
        go_wp2_with fail
        go_roundw
        case rel => exact ⟨k + 1, M, by omega, by go_num, HT, R.out.1, R.out.2⟩
        case measure => simp [intOf]; omega
      · have HT : Hid (M ++ [(k : Int)] = symTill L (k + 1)) := by show _ = _; rw [HS1.out, he]; rfl
        go_wp2_with (at_builtin; refine wpList_append_own _ rfl _ _ 48 rfl w.heap.size 3 i0 (.int .i64 0) 1 8 Try.underlying48 hi0 hz0 hz1 hz2 rfl (by decide) _ _ _ rfl (own6.alloc _) ⟨w6.heap.size, 0, none⟩ 1 1 [.int .i64 (k : Int)] rfl rfl ?d1 ?d2 ?d3 ?d4 ?d5 ?_)
        case d1 => exact World.news_of_block (cs := #[.int .i64 (k : Int)]) (t := 3) (fr := (0, 0)) (heap_alloc_new w6 _)
        case d2 => simp [Value.oneCell']
        case d3 => unfold maxLen; omega
        case d4 => omega
        case d5 => simp; omega
        intro v' w7 own7 hgrow _
        have hrw := fun k hk => (own6.lt k hk).1
        have R : Hid (w7.ownsRow w.heap.size 3 1 v' (M ++ [(k : Int)]).length (ints (M ++ [(k : Int)])) ∧ Below w.heap.size w w7) :=
          ⟨by rw [ints_snoc, List.length_append]; exact own7, (b6.alloc hs6 _).grown hgrow (by simp; omega) hrw⟩
        clear own6 own7 hgrow b6 hrw
        go_wp2_with fail
        go_roundw
        case rel => exact ⟨k + 1, M ++ [(k : Int)], by omega, by go_num, HT, R.out.1, R.out.2⟩
        case measure => simp [intOf]; omega
    · have e : k = 8 := by omega
      have HQ : Hid (M = symV L) := by
        show _ = _
        rw [HM.out, e]; rfl
      clear HM e
      go_wp2_with fail
      go_ret
      rw [← HQ.out]
      exact ⟨_, rfl, own, hb⟩
end Go.Proofs.Ytoemmaeglhdjnaa
