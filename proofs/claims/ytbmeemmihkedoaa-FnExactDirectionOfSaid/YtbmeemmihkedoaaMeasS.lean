/-
  The model's l07Direction and l07Left.
-/
import Derived.Test.YtbmeemmihkedoaaMeasIn
namespace Go.Proofs.Ytbmeemmihkedoaa
open Go.RowKit

/-- The answer is a new slice of the two numbers p, q. -/
def DirR (w : World) (p q : Int) (e : Ending) (w' : World) : Prop := ∃ g, e = .returned (.slice (some ⟨g, 0, none⟩) 2 2) ∧ At w' g p q 3 ∧ w.heap.size ≤ g ∧ Below w.heap.size w w'
set_option maxRecDepth 100000 in
set_option maxHeartbeats 2000000 in
theorem dirS_any (x y : Int) (w : World) (h0 : ¬ (x = 0 ∧ y = 0)) (hx : x.natAbs ≤ 1000) (hy : y.natAbs ≤ 1000) :
    Calls Try.prog 71 #[.int .i64 x, .int .i64 y] w (DirR w (dirP x y).1 (dirP x y).2) := by
  have hg := gN_pos h0
  have hgl := gN_le hx hy
  have HG := Lib.hid (fun w => gcdS_any x y w (by omega) (by omega))
  have hD := dir_model h0
  obtain ⟨hd1, hd2⟩ := dir_small h0 hx hy
  have hgc : (Nat.gcd x.natAbs y.natAbs : Nat) = gN x y := rfl
  rw [hgc] at HG
  obtain ⟨g, hgd⟩ : ∃ g : Int, g = (gN x y : Int) := ⟨_, rfl⟩
  rw [← hgd] at HG hD
  have hg0 : g ≠ 0 := by omega
  obtain ⟨p, hp⟩ : ∃ p, p = x.tdiv g := ⟨_, rfl⟩
  obtain ⟨q, hq⟩ : ∃ q, q = y.tdiv g := ⟨_, rfl⟩
  rw [← hp, ← hq] at hD
  have hpa : p.natAbs ≤ 1000 ∧ q.natAbs ≤ 1000 := by
    rcases Bool.eq_false_or_eq_true (down p q) with e | e
    · rw [hD, e] at hd1 hd2
      simp only [cond_true] at hd1 hd2; omega
    · rw [hD, e] at hd1 hd2
      simp only [cond_false] at hd1 hd2; omega
  have n1 : wrap64 p = p := wrap_id (by omega)
  have n2 : wrap64 q = q := wrap_id (by omega)
  have n3 : wrap64 (-p) = -p := wrap_id (by omega)
  have n4 : wrap64 (-q) = -q := wrap_id (by omega)
  have f1 : wrap64 (x.tdiv g) = p := by rw [← hp]; exact n1
  have f2 : wrap64 (y.tdiv g) = q := by rw [← hq]; exact n2
  have HDD := Lib.hid hD
  clear hD hd1 hd2 hp hq n1 n2 hgd hgc hpa hg hgl hx hy
  cases hdn : down p q
  · rw [hdn] at HDD
    have hb1 : decide (q < 0) = false := by rw [down_no] at hdn; exact decide_eq_false (by omega)
    have hb2 : (q == 0 && decide (p < 0)) = false := by unfold down at hdn; rw [hb1] at hdn; exact hdn
    clear hdn n3 n4
    cases hq0 : (q == 0)
    all_goals
      rw [hq0] at hb2
      try rw [Bool.true_and] at hb2
      go_enter Try.func71, Try.ntmps71
      go_wp2_with fail
      refine (HG.out _).mono ?_
      rintro e w1 ⟨rfl, rfl⟩
      go_wp2_with fail
      go_ret
      rw [HDD.out]
      exact ⟨_, rfl, at_new _ _ _ _, Nat.le_refl _, below1 _ _⟩
  · rw [hdn] at HDD
    cases hb1 : decide (q < 0)
    · unfold down at hdn
      rw [hb1, Bool.false_or, Bool.and_eq_true] at hdn
      obtain ⟨hq0, hb2⟩ := hdn
      go_enter Try.func71, Try.ntmps71
      go_wp2_with fail
      refine (HG.out _).mono ?_
      rintro e w1 ⟨rfl, rfl⟩
      go_wp2_with fail
      go_ret
      rw [HDD.out]
      exact ⟨_, rfl, at_new _ _ _ _, Nat.le_refl _, below1 _ _⟩
    · clear hdn
      go_enter Try.func71, Try.ntmps71
      go_wp2_with fail
      refine (HG.out _).mono ?_
      rintro e w1 ⟨rfl, rfl⟩
      go_wp2_with fail
      go_ret
      rw [HDD.out]
      exact ⟨_, rfl, at_new _ _ _ _, Nat.le_refl _, below1 _ _⟩
/-- What the model takes for its list: the same as the program's where the area is not 0. -/
def leftS (L : List (Int × Int)) : List (Int × Int) := bif decide (twiceI L < 0) then turnL L else L
theorem leftS_eq {L : List (Int × Int)} (h : twiceI L ≠ 0) : leftS L = leftL L := by
  unfold leftS leftL
  by_cases q : twiceI L < 0
  · rw [decide_eq_true q, decide_eq_false (show ¬ 0 < twiceI L by omega)]; rfl
  · rw [decide_eq_false q, decide_eq_true (show 0 < twiceI L by omega)]; rfl
theorem spec_left (A : Option Addr) (c : Nat) (L : List (Int × Int)) (w : World) (hA : PtsA w A L) (hp : polyB L = true) :
    Calls Try.prog 136 #[.slice A L.length c] w fun e w' => ∃ A' c', e = .returned (.slice A' (leftS L).length c') ∧ PtsA w' A' (leftS L) ∧ Below w.heap.size w w' := by
  obtain ⟨h3, h10, hok⟩ := polyB_all hp
  have HT := Lib.hid (fun W hb => turn_any A c L W (ptsA_on hA hb) (by omega) (by omega))
  have PC := Lib.hid (twice_any A c L w hA (by omega) h10 hok)
  have HA := Lib.hid hA
  obtain ⟨t, ht⟩ : ∃ t, t = twiceI L := ⟨_, rfl⟩
  rw [← ht] at PC
  have HE : Hid (leftS L = bif decide (t < 0) then turnL L else L) := by rw [ht]; rfl
  clear hA ht hok
  by_cases h0 : t < 0
  · rw [decide_eq_true h0] at HE
    go_enter Try.func136, Try.ntmps136
    go_wp2_with fail
    refine PC.out.mono ?_
    rintro e w1 ⟨rfl, hb1⟩
    go_wp2_with fail
    refine (HT.out _ hb1).mono ?_
    rintro e w2 ⟨v, rfl, hv, hb2⟩
    go_wp2_with fail
    go_ret
    rw [HE.out]
    obtain ⟨A', c', rfl, h, -⟩ := own_ptsA hv
    exact ⟨_, _, rfl, h, below_on hb1 hb2⟩
  · rw [decide_eq_false h0] at HE
    go_enter Try.func136, Try.ntmps136
    go_wp2_with fail
    refine PC.out.mono ?_
    rintro e w1 ⟨rfl, hb1⟩
    go_wp2_with fail
    go_ret
    rw [HE.out]
    exact ⟨_, _, rfl, ptsA_on HA.out hb1, hb1⟩
end Go.Proofs.Ytbmeemmihkedoaa
