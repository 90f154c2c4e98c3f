/-
  A walk for HullOf of the model.
-/
import Derived.Test.YtplccidmedkfaaaHullS
namespace Go.Proofs.Ytplccidmedkfaaa
open Go.RowKit

def HullT (w : World) (L : List P2) (e : Ending) (w' : World) : Prop := ∃ v, e = .returned (.tuple #[v, .bool (hullOK L)]) ∧ w'.ownsRow w.heap.size 27 2 v (hullV L).length (flat (hullV L)) ∧ Below w.heap.size w w'
theorem hullT_no {w : World} {L : List P2} (h : hullOK L = false) : Hid (HullT w L = fun e w' => ∃ v, e = .returned (.tuple #[v, .bool false]) ∧ w'.ownsRow w.heap.size 27 2 v 0 [] ∧ Below w.heap.size w w') := by
  show _ = _
  unfold HullT hullV
  rw [h]; rfl
theorem hullT_yes {w : World} {L : List P2} (h : hullOK L = true) : Hid (HullT w L = fun e w' => ∃ v, e = .returned (.tuple #[v, .bool true]) ∧ w'.ownsRow w.heap.size 27 2 v (hullM L).length (flat (hullM L)) ∧ Below w.heap.size w w') := by
  show _ = _
  unfold HullT hullV
  rw [h]; rfl
set_option maxRecDepth 100000 in
set_option maxHeartbeats 4000000 in
theorem spec_hull (A : Option Addr) (c : Nat) (L : List P2) (w : World) (hA : PtsA w A L) (hL : L.length ≤ 1048576) :
    Calls Try.prog 31 #[.slice A L.length c] w (HullT w L) := by
  by_cases h30 : L.length ≤ 30
  · have f1 : ¬ (30 : Int) < (L.length : Int) := by omega
    have HO : Hid (hullOK L = (allOk L && inB ((hullM L).length : Int) 3 10)) := by
      show _ = _
      unfold hullOK; rw [decide_eq_true h30, Bool.true_and]
    have HA := Lib.hid hA
    clear hA
    go_enter Try.func31, Try.ntmps31
    go_wp2_with fail
    go_loopw [5, 12] (fun _ i wr => ∃ k : Nat, k ≤ L.length ∧ i = .int .i64 k ∧ Hid (allOk L = allOk (L.drop k)) ∧ Below w.heap.size w wr) (fun _ i _ => L.length - (intOf i).toNat)
    case atStart => exact ⟨0, Nat.zero_le _, rfl, rfl, Below.refl _ _⟩
    case round =>
      obtain ⟨wo, rfl⟩ : ∃ wo : World, wo = wr := ⟨_, rfl⟩
      obtain ⟨k, hk, rfl, HK, hb⟩ := hrel
      by_cases hlt : k < L.length
      · obtain ⟨g, rfl, -⟩ := HA.out k hlt
        obtain ⟨c1, c2⟩ := gt_cells (ptsA_on HA.out hb) hlt
        have hd : L.drop k = L[k] :: L.drop (k + 1) := List.drop_eq_getElem_cons hlt
        have HK2 : Hid (allOk L = (okP (gt L k).1 (gt L k).2 && allOk (L.drop (k + 1)))) := by
          show _ = _
          rw [HK.out, hd, gt_at hlt]; rfl
        generalize (gt L k).1 = x at *
        generalize (gt L k).2 = y at *
        obtain ⟨d1, d2⟩ := cells1c wo x y 27
        clear hd HK
        go_wp2_with fail
        refine (spec_ok _ _ _).mono ?_
        rintro e w2 ⟨rfl, hb2⟩
        have b2 := below_on (hb.alloc hb.size _) hb2
        clear hb hb2 c1 c2 d1 d2
        cases hok : okP x y
        · rw [hok] at HK2
          have HU := hullT_no (w := w) (L := L) (by rw [HO.out, HK2.out]; rfl)
          go_wp2_with fail
          go_returns
          rw [HU.out]
          exact ⟨_, rfl, World.ownsRow_nil _ _ _ _, b2⟩
        · rw [hok] at HK2
          go_wp2_with fail
          go_roundw
          case rel => exact ⟨k + 1, by omega, by go_num, HK2, b2⟩
          case measure => simp [intOf]; omega
      · have hall : allOk L = true := by rw [HK.out, List.drop_of_length_le (by omega)]; rfl
        have HH : Hid (Calls Try.prog 69 #[.slice A L.length c] wo fun e w' => ∃ v, e = .returned v ∧ w'.ownsRow wo.heap.size 27 2 v (hullM L).length (flat (hullM L)) ∧ Below wo.heap.size wo w') := hullL_any A c L wo (ptsA_on HA.out hb) (by omega) hall
        cases hin : inB ((hullM L).length : Int) 3 10
        · have HU := hullT_no (w := w) (L := L) (by rw [HO.out, hall, hin]; rfl)
          have HI := Lib.hid (fun w => in_any ((hullM L).length : Int) 3 10 w)
          rw [hin] at HI
          obtain ⟨M, hM⟩ : ∃ M, M = hullM L := ⟨_, rfl⟩
          rw [← hM] at HH HI
          clear hM hin hall HK HO
          go_wp2_with fail
          refine HH.out.mono ?_
          rintro e w3 ⟨v, rfl, own, hb3⟩
          obtain ⟨_, A3, c3, rfl, _⟩ := own_pts own
          have b3 := below_on hb hb3
          clear own hb hb3
          go_wp2_with fail
          refine (HI.out _).mono ?_
          rintro e w4 ⟨rfl, rfl⟩
          go_wp2_with fail
          go_returns
          rw [HU.out]
          exact ⟨_, rfl, World.ownsRow_nil _ _ _ _, b3⟩
        · have HU := hullT_yes (w := w) (L := L) (by rw [HO.out, hall, hin]; rfl)
          have HI := Lib.hid (fun w => in_any ((hullM L).length : Int) 3 10 w)
          have hge := (inB_spec.1 hin).1
          rw [hin] at HI
          obtain ⟨M, hM⟩ : ∃ M, M = hullM L := ⟨_, rfl⟩
          rw [← hM] at HH HI HU hge
          clear hM hin hall HK HO
          go_wp2_with fail
          refine HH.out.mono ?_
          rintro e w3 ⟨v, rfl, own, hb3⟩
          obtain ⟨g3, c3, rfl⟩ := own_pos own (by omega)
          have R := Lib.hid (And.intro (own_base own hb.size) (below_on hb hb3))
          clear own hb hb3
          go_wp2_with fail
          refine (HI.out _).mono ?_
          rintro e w4 ⟨rfl, rfl⟩
          go_wp2_with fail
          go_returns
          rw [HU.out]
          exact ⟨_, rfl, R.out.1, R.out.2⟩
  · have f1 : (30 : Int) < (L.length : Int) := by omega
    have HU := hullT_no (w := w) (L := L) (by unfold hullOK; rw [decide_eq_false h30]; rfl)
    clear hA
    go_enter Try.func31, Try.ntmps31
    go_wp2_with fail
    go_returns
    rw [HU.out]
    exact ⟨_, rfl, World.ownsRow_nil _ _ _ _, Below.refl _ _⟩
end Go.Proofs.Ytplccidmedkfaaa
