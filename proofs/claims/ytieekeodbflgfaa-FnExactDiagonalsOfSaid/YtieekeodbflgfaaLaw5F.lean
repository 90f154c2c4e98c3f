/-
  The law of DiagonalsOf, out of what the model and the program answer.
-/
import Derived.Test.YtieekeodbflgfaaRowsD
import Derived.Test.YtieekeodbflgfaaLawMk
namespace Go.Proofs.Ytieekeodbflgfaa
open Go.RowKit

theorem RowsR.kept {w w' : World} {B : Nat} {v : Value} {Rs : List Rw} {row : Option Nat} (h : RowsR w B v Rs) (hg : w.grownBy w' row) (h1 : ∀ k, row = some k → v.ownBlock ≠ some k ∧ ∀ r ∈ Rs, r.g ≠ k) : RowsR w' B v Rs := by
  refine ⟨h.out.kept hg ?_, fun r hr => (h.row r hr).kept hg (.inr fun e => (h1 r.g (by rw [← e, hdr_own])).2 r hr rfl), h.far, h.nodup⟩
  cases hv : v.ownBlock with
  | none => exact .inl rfl
  | some b => exact .inr fun e => (h1 b e.symm).1 hv
theorem RowsR.but {w w' : World} {B N : Nat} {v : Value} {Rs Qs : List Rw} (h : RowsR w B v Rs) (hb : ButRows Qs w w') (hl : (∀ k, v.ownBlock = some k → k < N) ∧ ∀ r ∈ Rs, r.g < N) (hh : ∀ r ∈ Qs, N ≤ r.g) : RowsR w' B v Rs :=
  ⟨hb.own h.out (fun r hr e => by have := hl.1 _ e; have := hh r hr; omega), fun x hx => hb.own (h.row x hx) (fun r hr e => by have := hl.2 x hx; have := hh r hr; have e2 : x.g = r.g := Option.some.inj e; omega), h.far, h.nodup⟩
theorem RowsR.top {w : World} {B : Nat} {v : Value} {Rs : List Rw} (h : RowsR w B v Rs) : (∀ k, v.ownBlock = some k → k < w.heap.size) ∧ ∀ r ∈ Rs, r.g < w.heap.size :=
  ⟨fun k hk => (h.out.lt k hk).2, fun _ hr => (h.lt hr).2⟩
theorem RowsR.bottom {w : World} {B : Nat} {v : Value} {Rs : List Rw} (h : RowsR w B v Rs) : (∀ k, v.ownBlock = some k → B ≤ k) ∧ ∀ r ∈ Rs, B ≤ r.g :=
  ⟨fun k hk => (h.out.lt k hk).1, fun _ hr => (h.lt hr).1⟩
set_option maxRecDepth 100000 in
set_option maxHeartbeats 2000000 in
theorem law_diagonalsOf (A : Option Addr) (c : Nat) (L : List (Int × Int)) (M : List (List Int)) (q : Nat) (w : World) (hA : ArgA w A L) (hL : L.length ≤ maxLen)
    (SC : L.length ≤ 1048576 → ∀ A c w, PtsA w A L → Calls Try.prog 51 #[.slice A L.length c] w (ListsR w M))
    (IC : L.length ≤ 1048576 → ∀ A c w, PtsA w A L → Calls Try.prog 52 #[.slice A L.length c] w (ListsR w M)) (hM : M.length ≤ 1000) (hq : ∀ m ∈ M, m.length = q) (hq1 : q ≤ 1000) :
    Calls Try.prog 10 #[.slice A L.length c] w fun e w' => e = .returned (.bool true) ∧ Below w.heap.size w w' := by
  by_cases hs : L.length ≤ 1048576
  case neg =>
    clear SC IC hA
    have HZ := Lib.hid (sz_great A L.length c w (by omega) hL)
    go_enter Try.func10, Try.ntmps10
    go_wp2_with fail
    refine HZ.out.mono ?_
    rintro e w0 ⟨rfl, rfl⟩
    go_wp2_with fail
    go_ret
    exact ⟨rfl, Below.refl _ _⟩
  have HS : Hid (∀ A c w, PtsA w A L → Calls Try.prog 51 #[.slice A L.length c] w fun e w' => ∃ v Rs, e = .returned v ∧ RowsR w' w.heap.size v Rs ∧ Rs.map Rw.M = M ∧ Below w.heap.size w w') := SC hs
  have HI : Hid (∀ A c w, PtsA w A L → Calls Try.prog 52 #[.slice A L.length c] w fun e w' => ∃ v Rs, e = .returned v ∧ RowsR w' w.heap.size v Rs ∧ Rs.map Rw.M = M ∧ Below w.heap.size w w') := IC hs
  clear SC IC
  have HLE : Hid (∀ Rs : List Rw, Rs.map Rw.M = M → Rs.length ≤ 1000 ∧ (∀ r ∈ Rs, r.M.length = q)) := fun Rs e => by
    refine ⟨by rw [← e] at hM; simpa using hM, fun r hr => hq _ (by rw [← e]; exact List.mem_map_of_mem hr)⟩
  have HQ1 := Lib.hid hq1
  have HA := Lib.hid hA; clear hA
  have HM := Lib.hid hs
  have HZ := Lib.hid (sz_small A L.length c w hs)
  clear hM hq hq1
  go_enter Try.func10, Try.ntmps10
  go_wp2_with fail
  refine HZ.out.mono ?_
  rintro e w0 ⟨rfl, rfl⟩
  go_wp2_with fail
  refine (toS_any A c L _ HA.out HM.out).mono ?_
  rintro e w1 ⟨v1, rfl, own1, b1⟩
  obtain ⟨_, A1, c1, rfl, p1⟩ := own_pts own1
  clear own1
  go_wp2_with fail
  refine (HS.out A1 c1 w1 p1).mono ?_
  rintro e w2 ⟨v2, R2, rfl, own2, m2, hb2⟩
  have b2 := below_on b1 hb2
  have T2 := Lib.hid own2.top
  have M2 := Lib.hid m2
  clear hb2 b1 p1 m2
  go_wp2_with fail
  refine (toS_any A c L _ (HA.out.step b2) HM.out).mono ?_
  rintro e w3 ⟨v3, rfl, own3, hb3⟩
  have b3 := below_on b2 hb3
  replace own2 := own2.below hb3
  have hsz := Lib.hid hb3.size
  have hB2 := Lib.hid b2.size
  have T3 := Lib.hid own3.lt
  clear hb3 b2
  obtain ⟨_, A3, c3, rfl, p3⟩ := own_pts own3
  go_wp2_with fail
  refine (HI.out A3 c3 w3 p3).mono ?_
  rintro e w4 ⟨v4, R4, rfl, own4, m4, hb4⟩
  have b4 := below_on b3 hb4
  have M4 := Lib.hid m4
  have T4 := Lib.hid own4.bottom
  have hB3 := Lib.hid b3.size
  replace own2 := own2.below hb4
  replace own3 := own_below own3 hb4
  clear hb4 p3 b3 m4
  obtain ⟨l4, q4⟩ := HLE.out R4 M4.out
  obtain ⟨l2, q2⟩ := HLE.out R2 M2.out
  have Q4 := Lib.hid q4
  have Q2 := Lib.hid q2
  have E42 : Hid (R4.map Rw.M = R2.map Rw.M) := M4.out.trans M2.out.symm
  have E4 : Hid (∀ r ∈ R4, r.M.length ≤ 1048576) := fun r hr => by have := q4 r hr; have := HQ1.out; omega
  clear q4 q2
  go_wp2_with fail
  refine (eq_rows _ _ v4 v2 R4 R2 w4 own4 own2 E42.out (by omega) E4.out).mono ?_
  rintro e w5 ⟨rfl, hb5⟩
  have b5 := below_on b4 hb5
  replace own2 := own2.below hb5
  replace own3 := own_below own3 hb5
  replace own4 := own4.below hb5
  clear hb5 b4
  go_wp2_with fail
  refine (toS_any A c L _ (HA.out.step b5) HM.out).mono ?_
  rintro e w6 ⟨v6, rfl, own6, hb6⟩
  have b6 := below_on b5 hb6
  replace own2 := own2.below hb6
  replace own3 := own_below own3 hb6
  replace own4 := own4.below hb6
  obtain ⟨_, A6, c6, rfl, p6⟩ := own_pts own6
  have p3 := ptsA_of own3
  clear hb6 own6 b5
  go_wp2_with fail
  refine (eq_pts A3 A6 c3 c6 L w6 p3 p6 HM.out).mono ?_
  rintro e w7 ⟨rfl, hb7⟩
  have b7 := below_on b6 hb7
  replace own2 := own2.below hb7
  replace own3 := own_below own3 hb7
  replace own4 := own4.below hb7
  clear hb7 p3 p6 b6
  go_wp2_with fail
  refine (mark_pts _ _ _ _ w7 own3 HM.out).mono ?_
  rintro e w8 ⟨rfl, own3m, hg8⟩
  have b8 := b7.grown hg8 b7.size (fun k hk => Nat.le_trans hB2.out (T3.out k hk).1)
  replace own2 := own2.kept hg8 (fun k hk => ⟨fun e => by have := T2.out.1 k e; have := (T3.out k hk).1; omega, fun r hr e => by have := T2.out.2 r hr; have := (T3.out k hk).1; omega⟩)
  replace own4 := own4.kept hg8 (fun k hk => ⟨fun e => by have := T4.out.1 k e; have := (T3.out k hk).2; omega, fun r hr e => by have := T4.out.2 r hr; have := (T3.out k hk).2; omega⟩)
  clear hg8 own3 own3m b7
  go_wp2_with fail
  refine (eq_rows _ _ v4 v2 R4 R2 w8 own4 own2 E42.out (by omega) E4.out).mono ?_
  rintro e w9 ⟨rfl, hb9⟩
  have b9 := below_on b8 hb9
  replace own2 := own2.below hb9
  replace own4 := own4.below hb9
  clear hb9 b8
  go_wp2_with fail
  refine (mark_rows _ v4 R4 q w9 own4 Q4.out HQ1.out l4).mono ?_
  rintro e w10 ⟨rfl, own4m, hg10⟩
  have b10 := hg10.below b9 b9.size (fun r hr => Nat.le_trans hB3.out (T4.out.2 r hr))
  replace own2 := own2.but hg10 ⟨fun k hk => Nat.lt_of_lt_of_le (T2.out.1 k hk) hsz.out, fun r hr => Nat.lt_of_lt_of_le (T2.out.2 r hr) hsz.out⟩ T4.out.2
  clear hg10 own4 b9
  obtain ⟨m, hm⟩ : ∃ m, Hid (m = 1 + (q : Int) * (R4.length : Int)) := ⟨_, rfl⟩
  obtain ⟨z0, z1⟩ := row_w HQ1.out (Nat.le_refl R4.length) l4
  rw [← hm.out] at z0 z1
  have z2 : ¬ m < 0 := by omega
  have HELD := Lib.hid (fun W (o : RowsR W w3.heap.size v4 (mixR q R4 R4.length)) => held_rows _ v4 R4 q W o HQ1.out l4)
  simp only [← hm.out] at HELD
  rw [← hm.out]
  go_wp2_with fail
  refine (HELD.out w10 own4m).mono ?_
  rintro e w11 ⟨rfl, rfl⟩
  go_wp2_with fail
  refine (toS_any A c L _ (HA.out.step b10) HM.out).mono ?_
  rintro e w12 ⟨v12, rfl, own12, hb12⟩
  have b12 := below_on b10 hb12
  replace own2 := own2.below hb12
  replace own4m := own4m.below hb12
  obtain ⟨_, A12, c12, rfl, p12⟩ := own_pts own12
  clear hb12 own12 b10
  go_wp2_with fail
  refine (HI.out A12 c12 w12 p12).mono ?_
  rintro e w13 ⟨v13, R13, rfl, own13, m13, hb13⟩
  have b13 := below_on b12 hb13
  replace own2 := own2.below hb13
  replace own4m := own4m.below hb13
  have E13 : Hid (R13.map Rw.M = R2.map Rw.M) := m13.trans M2.out.symm
  obtain ⟨l13, q13⟩ := HLE.out R13 m13
  have E13' : Hid (∀ r ∈ R13, r.M.length ≤ 1048576) := fun r hr => by have := q13 r hr; have := HQ1.out; omega
  clear hb13 b12 p12 m13 q13
  go_wp2_with fail
  refine (eq_rows _ _ v13 v2 R13 R2 w13 own13 own2 E13.out (by omega) E13'.out).mono ?_
  rintro e w14 ⟨rfl, hb14⟩
  have b14 := below_on b13 hb14
  replace own4m := own4m.below hb14
  clear hb14 own2 own13 b13
  go_wp2_with fail
  refine (HELD.out w14 own4m).mono ?_
  rintro e w15 ⟨rfl, rfl⟩
  go_wp2_with fail
  go_ret
  exact ⟨rfl, b14⟩
end Go.Proofs.Ytieekeodbflgfaa
