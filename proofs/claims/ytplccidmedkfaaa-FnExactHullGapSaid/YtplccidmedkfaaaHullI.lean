/-
  A walk for HullOf of the program.
-/
import Derived.Test.YtplccidmedkfaaaLeft
import Derived.Test.YtplccidmedkfaaaHullS2
import Derived.Test.YtplccidmedkfaaaKeep
namespace Go.Proofs.Ytplccidmedkfaaa
open Go.RowKit

theorem hull_in {S L : List P2} (hp : S.Perm L) (hs : sortedP S) : inB ((hullS S).length : Int) 3 10 = inB ((hullM L).length : Int) 3 10 ∧ (inB ((hullM L).length : Int) 3 10 = true → hullS S = hullM L) := by
  obtain ⟨h1, h2⟩ := hull_same hp hs
  rcases Nat.lt_or_ge (sortD L).length 3 with h | h
  · obtain ⟨h3, h4⟩ := h2 h
    have e : inB ((hullS S).length : Int) 3 10 = false := by
      cases hb : inB ((hullS S).length : Int) 3 10
      · rfl
      · have := (inB_spec.1 hb).1; omega
    rw [e, h4]
    exact ⟨rfl, fun h => by cases h⟩
  · rw [h1 h]
    exact ⟨rfl, fun _ => rfl⟩
theorem hull_few {L : List P2} (h : L.length < 3) : hullM L = [] := by
  have := sortD_len _ L rfl
  unfold hullM
  rw [decide_eq_true (show (sortD L).length < 3 by omega)]; rfl

set_option maxRecDepth 100000 in
set_option maxHeartbeats 8000000 in
theorem impl_hull (A : Option Addr) (c : Nat) (L : List P2) (w : World) (hA : PtsA w A L) (hL : L.length ≤ 1048576) :
    Calls Try.prog 32 #[.slice A L.length c] w (HullT w L) := by
  obtain ⟨i0, hi0, hz0, hz1, hz2⟩ := info_parts infoPt
  cases hin : inB (L.length : Int) 3 30
  · have HU := hullT_no (w := w) (L := L) (by
      unfold hullOK
      rcases Nat.lt_or_ge L.length 3 with h | h
      · rw [hull_few h]
        simp [inB]
      · have h30 : ¬ L.length ≤ 30 := fun h30 => by
          have : inB (L.length : Int) 3 30 = true := inB_spec.2 ⟨by omega, by omega⟩
          rw [hin] at this; cases this
        rw [decide_eq_false h30]; rfl)
    have HI := Lib.hid (fun w => from_any (L.length : Int) 3 30 w)
    rw [hin] at HI
    clear hA
    go_enter Try.func32, Try.ntmps32
    go_wp2_with fail
    refine (HI.out _).mono ?_
    rintro e w1 ⟨rfl, rfl⟩
    go_wp2_with fail
    go_returns
    rw [HU.out]
    exact ⟨_, rfl, World.ownsRow_nil _ _ _ _, Below.refl _ _⟩
  · have hn := inB_spec.1 hin
    have h3 : 3 ≤ L.length := by omega
    have h30 : L.length ≤ 30 := by omega
    obtain ⟨g, rfl, -⟩ := hA 0 (by omega)
    have HI := Lib.hid (fun w => from_any (L.length : Int) 3 30 w)
    rw [hin] at HI
    have hg : g < w.heap.size := by
      obtain ⟨g', e, h1, _⟩ := hA 0 (by omega)
      cases e
      exact World.block_lt_of_cell? w _ h1
    have HAL := Lib.hid (all_any g c L w (pts_of hA) hg hL)
    cases hall : allOk L
    · have HU := hullT_no (w := w) (L := L) (by unfold hullOK; rw [hall]; simp)
      rw [hall] at HAL
      clear hA hin hn
      go_enter Try.func32, Try.ntmps32
      go_wp2_with fail
      refine (HI.out _).mono ?_
      rintro e w1 ⟨rfl, rfl⟩
      go_wp2_with fail
      refine HAL.out.mono ?_
      rintro e w2 ⟨rfl, hb2⟩
      go_wp2_with fail
      go_returns
      rw [HU.out]
      exact ⟨_, rfl, World.ownsRow_nil _ _ _ _, hb2⟩
    · have HOF : Hid (hullOK L = inB ((hullM L).length : Int) 3 10) := by
        show _ = _
        unfold hullOK; rw [decide_eq_true h30, hall]; simp
      rw [hall] at HAL
      have HO := Lib.hid (fun w' (hb : Below w.heap.size w w') => order_any (some ⟨g, 0, none⟩) c L w' (ptsA_on hA hb) (by omega) hL)
      have HALL := Lib.hid hall
      clear hA hin hn hall
      go_enter Try.func32, Try.ntmps32
      go_wp2_with fail
      refine (HI.out _).mono ?_
      rintro e w1 ⟨rfl, e1⟩
      obtain rfl := e1.symm
      go_wp2_with fail
      refine HAL.out.mono ?_
      rintro e w2 ⟨rfl, hb2⟩
      go_wp2_with fail
      refine (HO.out w2 hb2).mono ?_
      rintro e w3 ⟨gp, M, rfl, hp, hs, own3, hb3⟩
      have hMl : M.length = L.length := hp.length_eq
      have hMok : allOk M = true := by
        have h := HALL.out
        simp only [allOk, List.all_eq_true] at *
        exact fun x hx => h x (hp.mem_iff.1 hx)
      have HIN := Lib.hid (hull_in hp hs)
      have b3 := below_on hb2 hb3
      have hgp := own3.lt gp rfl
      have HGP : Hid (w.heap.size ≤ gp ∧ gp < w3.heap.size) := ⟨Nat.le_trans hb2.size hgp.1, hgp.2⟩
      replace own3 := own_base own3 hb2.size
      have pt3 := ptsA_of own3
      have HLU : Hid (Calls Try.prog 72 #[.slice (some ⟨gp, 0, none⟩) L.length L.length] w3 fun e w' => ∃ v, e = .returned v ∧ w'.ownsRow w3.heap.size 27 2 v (chL M).length (flat (chL M)) ∧ Below w3.heap.size w3 w') := by
        have h := left_any gp L.length M w3 pt3 (by omega) (by omega) (by omega) hMok
        rw [hMl] at h
        exact h
      have HMV : Hid (hullS M = (chL M).dropLast ++ (chL M.reverse).dropLast) := rfl
      have hR2 := chL_two (P := M) (by omega)
      have hRl := chL_len _ M rfl
      have hT2 := chL_two (P := M.reverse) (by rw [List.length_reverse]; omega)
      have hTl := chL_len _ M.reverse rfl
      rw [List.length_reverse] at hTl
      have HRO : Hid (allOk M.reverse = true ∧ M.reverse.length = L.length) := ⟨rev_ok hMok, by rw [List.length_reverse]; exact hMl⟩
      have HO3 := Lib.hid own3
      have HML := Lib.hid hMl
      obtain ⟨R, hR⟩ : ∃ R, R = chL M := ⟨_, rfl⟩
      obtain ⟨T, hT⟩ : ∃ T, T = chL M.reverse := ⟨_, rfl⟩
      have HT := Lib.hid hT
      rw [← hR] at HLU HMV hR2 hRl
      rw [← hT] at HMV hT2 hTl
      clear hp hs hMok hgp own3 pt3 hb2 hb3 hR hT HALL
      go_wp2_with fail
      refine HLU.out.mono ?_
      rintro e w4 ⟨vu, rfl, ownu, hb4⟩
      obtain ⟨gu, cu, rfl⟩ := own_pos ownu (by omega)
      have hgu := ownu.lt gu rfl
      have own4 := own_below HO3.out hb4
      have b4 := below_on b3 hb4
      have hs34 := hb4.size
      have HRV : Hid (Calls Try.prog 48 #[.slice (some ⟨gp, 0, none⟩) L.length L.length] w4 fun e w' => (∃ v, e = .returned v) ∧ w'.ownsRow w.heap.size 27 2 (.slice (some ⟨gp, 0, none⟩) L.length L.length) L.length (flat M.reverse) ∧ w4.grownBy w' (some gp)) := by
        have h := rv_any w.heap.size gp L.length M w4 (by rw [HML.out]; exact own4) (by omega) (by omega)
        rw [HML.out] at h
        exact h
      have HOU := Lib.hid ownu
      clear ownu own4 hb4 b3
      go_wp2_with fail
      refine HRV.out.mono ?_
      rintro e w5 ⟨⟨vr, rfl⟩, own5, hg5⟩
      have b5 := b4.grown hg5 b4.size (fun k e => by cases e; exact HGP.out.1)
      have ownu5 := HOU.out.kept hg5 (.inr (by simp [Value.ownBlock]; have := HGP.out.2; omega))
      have HLD : Hid (Calls Try.prog 72 #[.slice (some ⟨gp, 0, none⟩) L.length L.length] w5 fun e w' => ∃ v, e = .returned v ∧ w'.ownsRow w5.heap.size 27 2 v T.length (flat T) ∧ Below w5.heap.size w5 w') := by
        have h := left_any gp L.length M.reverse w5 (ptsA_of own5) (by rw [HRO.out.2]; omega) (by rw [HRO.out.2]; omega) (by rw [HRO.out.2]; omega) HRO.out.1
        rw [HRO.out.2, ← HT.out] at h
        exact h
      have HOU5 := Lib.hid ownu5
      have hs45 := hg5.size
      clear own5 hg5 b4 ownu5
      go_wp2_with fail
      refine HLD.out.mono ?_
      rintro e w6 ⟨vd, rfl, ownd, hb6⟩
      obtain ⟨gd, cd, rfl⟩ := own_pos ownd (by omega)
      have hcu := own_cap HOU5.out
      have hcd := own_cap ownd
      have ownu6 := own_below HOU5.out hb6
      have b6 := below_on b5 hb6
      have PD := Lib.hid (ptsA_of ownd)
      obtain ⟨r1, hr1⟩ : ∃ r1, r1 = R.length - 1 := ⟨_, rfl⟩
      obtain ⟨t1, ht1⟩ : ∃ t1, t1 = T.length - 1 := ⟨_, rfl⟩
      have own7 := own_cut ownu6 r1 (by omega)
      have LR : Hid (R.take r1 = R.dropLast) := by
        show _ = _
        rw [hr1, List.dropLast_eq_take]
      have LT : Hid ((flat T.dropLast).length = t1 * 2 ∧ T.dropLast = T.take t1) := ⟨by rw [flat_len, List.length_dropLast, ← ht1], by rw [List.dropLast_eq_take, ← ht1]⟩
      rw [LR.out] at own7
      have EU := Lib.hid (end_any (some ⟨gu, 0, none⟩) R.length cu w6 (by omega) hcu (by omega))
      have ED := Lib.hid (end_any (some ⟨gd, 0, none⟩) T.length cd w6 (by omega) hcd (by omega))
      have HHL : Hid ((hullS M).length = r1 + t1 ∧ flat (hullS M) = flat R.dropLast ++ flat T.dropLast) := by
        constructor
        · rw [HMV.out, List.length_append, List.length_dropLast, List.length_dropLast, ← hr1, ← ht1]
        · rw [HMV.out, flat_append]
      rw [← hr1] at EU
      rw [← ht1] at ED
      have hr30 : r1 ≤ 30 := by omega
      have ht30 : t1 ≤ 30 := by omega
      have hr0 : 1 ≤ r1 := by omega
      have ht0 : 1 ≤ t1 := by omega
      have hb7 : w.heap.size ≤ w3.heap.size := Nat.le_trans HGP.out.1 (Nat.le_of_lt HGP.out.2)
      have hs6 : w3.heap.size ≤ w6.heap.size := by have := hb6.size; omega
      have O7 := Lib.hid own7
      clear ownd hb6 b5 ownu6 hr1 ht1 hcu hcd own7 hR2 hT2 hRl hTl hMl
      go_wp2_with fail
      refine EU.out.mono ?_
      rintro e w7 ⟨rfl, rfl⟩
      go_wp2_with fail
      refine ED.out.mono ?_
      rintro e w8 ⟨rfl, rfl⟩
      have own7 := O7.out
      go_wp2_with (at_builtin; refine wpList_append_own _ rfl _ _ 23 rfl w3.heap.size 27 i0 (.agg #[.int .i64 0, .int .i64 0]) 2 16 Try.underlying23 hi0 hz0 hz1 hz2 rfl (by decide) _ _ _ rfl own7 ⟨gd, 0, none⟩ t1 cd (flat T.dropLast) rfl LT.out.1 (by rw [LT.out.2]; exact ptsA_take PD.out _) (flat_one _) ?d3 ?d4 hs6 ?_)
      case d3 => unfold maxLen; omega
      case d4 => omega
      intro v9 w9 own9 hg9 _
      obtain ⟨g9, c9, rfl⟩ := own_pos own9 (by omega)
      have b9 := b6.grown hg9 b6.size (fun k e => by have := (own7.lt _ e).1; omega)
      have R9 : Hid (w9.ownsRow w.heap.size 27 2 (.slice (some ⟨g9, 0, none⟩) (r1 + t1) c9) (r1 + t1) (flat (hullS M)) ∧ Below w.heap.size w w9) := by
        rw [HHL.out.2]
        exact ⟨own_base own9 hb7, b9⟩
      have HI2 := Lib.hid (fun w => from_any ((r1 + t1 : Nat) : Int) 3 10 w)
      have hIN := HIN.out
      rw [HHL.out.1] at hIN
      have HIN2 := Lib.hid hIN
      clear own7 own9 hg9 b6 b9 hIN
      cases hq : inB ((r1 + t1 : Nat) : Int) 3 10
      · have HU := hullT_no (w := w) (L := L) (by rw [HOF.out, ← HIN2.out.1]; exact hq)
        rw [hq] at HI2
        go_wp2_with fail
        refine (HI2.out _).mono ?_
        rintro e w10 ⟨rfl, rfl⟩
        go_wp2_with fail
        go_returns
        rw [HU.out]
        exact ⟨_, rfl, World.ownsRow_nil _ _ _ _, R9.out.2⟩
      · have hqq : inB ((hullM L).length : Int) 3 10 = true := by rw [← HIN2.out.1]; exact hq
        have HU := hullT_yes (w := w) (L := L) (by rw [HOF.out]; exact hqq)
        have HE := Lib.hid (HIN2.out.2 hqq)
        rw [hq] at HI2
        go_wp2_with fail
        refine (HI2.out _).mono ?_
        rintro e w10 ⟨rfl, rfl⟩
        go_wp2_with fail
        go_returns
        rw [HU.out, ← HE.out, HHL.out.1]
        exact ⟨_, rfl, R9.out.1, R9.out.2⟩
end Go.Proofs.Ytplccidmedkfaaa
