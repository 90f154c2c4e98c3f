/-
  A walk for the method isRightOf of a side, at small points.
-/
import Derived.Test.YtimkknljoeiceaaCross
import Derived.RegionTactic
import Derived.Deep.DeepCutAuto
import Derived.ChangeAlike
namespace Go.Proofs.Ytimkknljoeiceaa
open Go.RowKit

def loB (l h p : Int × Int) : Bool := decide (l.2 ≤ p.2) && decide (p.2 < h.2) && decide (0 < crossI l.1 l.2 h.1 h.2 p.1 p.2)
def rightB (a b p : Int × Int) : Bool := bif decide (b.2 < a.2) then loB b a p else loB a b p

theorem at_froz {W : World} {g : Nat} {x y : Int} {t : TypeId} (h : At W g x y t) (o : Nat) : W.frozen? ⟨g, o, none⟩ = false := by simp [World.frozen?, show W.heap[g]? = _ from h]
theorem at_set {W : World} {x y : Int} {b : Nat} {t : TypeId} {G : Nat} (h : At W G x y t) (hne : G ≠ b) (o : Nat) (v : Value) : At (W.setCell ⟨b, o, none⟩ v) G x y t := (Below.heap_setCell W ⟨b, o, none⟩ v G hne).trans h
theorem at_st0 {W : World} {g : Nat} {x y : Int} {t : TypeId} (h : At W g x y t) (a : Int) (o : Nat) (ho : o = 0 := by rfl) : At (W.setCell ⟨g, o, none⟩ (.int .i64 a)) g a y t := by
  subst ho
  obtain ⟨hlt, hk⟩ := Array.getElem?_eq_some_iff.1 h
  show (W.heap.modify g _)[g]? = _
  rw [Array.getElem?_eq_getElem (by rw [Array.size_modify]; exact hlt), Array.getElem_modify_self, hk]
  rfl
theorem at_st1 {W : World} {g : Nat} {x y : Int} {t : TypeId} (h : At W g x y t) (a : Int) : At (W.setCell ⟨g, 1, none⟩ (.int .i64 a)) g x a t := by
  obtain ⟨hlt, hk⟩ := Array.getElem?_eq_some_iff.1 h
  show (W.heap.modify g _)[g]? = _
  rw [Array.getElem?_eq_getElem (by rw [Array.size_modify]; exact hlt), Array.getElem_modify_self, hk]
  rfl
set_option maxRecDepth 100000 in
set_option maxHeartbeats 4000000 in
theorem right_sm (ax ay bx by' px py : Int) (w : World) (ha : smP ax ay = true) (hb : smP bx by' = true) (hp : smP px py = true) :
    Calls Try.prog 157 #[.agg #[.int .i64 ax, .int .i64 ay, .int .i64 bx, .int .i64 by'], (.agg #[.int .i64 px, .int .i64 py])] w fun e w' => e = .returned (.bool (rightB (ax, ay) (bx, by') (px, py))) ∧ Below w.heap.size w w' := by
  go_enter Try.func157, Try.ntmps157
  go_upto_region 1 with (fail)
  go_cut [5, 6] (fun s5 s6 wx => ∃ B5 B6, Hid (B5 ≠ B6) ∧ Hid (w.heap.size + 1 < B5) ∧ Hid (w.heap.size + 1 < B6) ∧ s5 = .pointer (some ⟨B5, 0, none⟩) ∧ s6 = .pointer (some ⟨B6, 0, none⟩) ∧ Hid (At wx B5 ax ay 54) ∧ Hid (At wx B6 bx by' 54) ∧ Hid (At wx (w.heap.size + 1) px py 54) ∧ Hid (Below w.heap.size w wx))
  case first =>
    have hb1 := below2 w (.cells #[.int .i64 ax, .int .i64 ay, .int .i64 bx, .int .i64 by'] 114) (.cells #[.int .i64 px, .int .i64 py] 54)
    have hp1 := at_new (w.alloc (.cells #[.int .i64 ax, .int .i64 ay, .int .i64 bx, .int .i64 by'] 114)) px py 54
    rw [size_alloc] at hp1
    have hs2 : ((w.alloc (.cells #[.int .i64 ax, .int .i64 ay, .int .i64 bx, .int .i64 by'] 114)).alloc (.cells #[.int .i64 px, .int .i64 py] 54)).heap.size = w.heap.size + 1 + 1 := by simp
    have hK : ∀ (W : World) (a b c d : Int), W.heap.size = w.heap.size + 1 + 1 → Below w.heap.size w W → At W (w.heap.size + 1) px py 54 → Below w.heap.size w ((W.alloc (.cells #[.int .i64 a, .int .i64 b] 54)).alloc (.cells #[.int .i64 c, .int .i64 d] 54)).drew ∧ At ((W.alloc (.cells #[.int .i64 a, .int .i64 b] 54)).alloc (.cells #[.int .i64 c, .int .i64 d] 54)).drew (w.heap.size + 1) px py 54 ∧ At ((W.alloc (.cells #[.int .i64 a, .int .i64 b] 54)).alloc (.cells #[.int .i64 c, .int .i64 d] 54)).drew (w.heap.size + 1 + 1) a b 54 ∧ At ((W.alloc (.cells #[.int .i64 a, .int .i64 b] 54)).alloc (.cells #[.int .i64 c, .int .i64 d] 54)).drew (w.heap.size + 1 + 1 + 1) c d 54 := fun W a b c d hs hB hP => by
      have k1 := (at_new W a b 54).alloc (.cells #[.int .i64 c, .int .i64 d] 54)
      have k2 := at_new (W.alloc (.cells #[.int .i64 a, .int .i64 b] 54)) c d 54
      rw [size_alloc] at k2
      rw [hs] at k1 k2
      exact ⟨((hB.alloc (by omega) _).alloc (by simp; omega) _).drew, (hP.alloc _).alloc _, k1, k2⟩
    go_region
    all_goals go_wp2_with fail
    all_goals go_meet
    · have k := hK _ ax ay bx by' hs2 hb1 hp1
      exact ⟨_, _, Lib.hid (by omega), Lib.hid (by omega), Lib.hid (by omega), rfl, rfl, k.2.2.1, k.2.2.2, k.2.1, k.1⟩
    · have k := hK _ bx by' ax ay hs2 hb1 hp1
      exact ⟨_, _, Lib.hid (by omega), Lib.hid (by omega), Lib.hid (by omega), rfl, rfl, k.2.2.2, k.2.2.1, k.2.1, k.1⟩
  case rest =>
    obtain ⟨B5, B6, h1, h2, h3, rfl, rfl, h5, h6, hp', hb'⟩ := hcut
    have c0 := h5.out.c0; have c1 := h5.out.c1; have c2 := h6.out.c0; have c3 := h6.out.c1
    go_upto_if 15 with (fail)
    go_cut [] (fun wx => ∃ l h, Hid (rightB (ax, ay) (bx, by') (px, py) = loB l h (px, py)) ∧ Hid (smP l.1 l.2 = true) ∧ Hid (smP h.1 h.2 = true) ∧ Hid (At wx B5 l.1 l.2 54) ∧ Hid (At wx B6 h.1 h.2 54) ∧ Hid (At wx (w.heap.size + 1) px py 54) ∧ Hid (Below w.heap.size w wx))
    case first =>
      by_cases hsw : by' < ay
      · have f0 := at_froz h5.out 0; have f1 := at_froz h5.out 1
        have e1 := at_st1 (at_st0 h5.out bx 0) by'
        have e2 := at_set (at_set h6.out h1.out.symm 0 (.int .i64 bx)) h1.out.symm 1 (.int .i64 by')
        have e3 := at_st1 (at_st0 e2 ax 0) ay
        have e4 := at_set (at_set e1 h1.out 0 (.int .i64 ax)) h1.out 1 (.int .i64 ay)
        have q1 := e2.c0; have q2 := e2.c1; have q3 := at_froz e2 0; have q4 := at_froz e2 1
        have n5 : w.heap.size + 1 ≠ B5 := by have := h2.out; omega
        have n6 : w.heap.size + 1 ≠ B6 := by have := h3.out; omega
        have eP := at_set (at_set (at_set (at_set hp'.out n5 0 (.int .i64 bx)) n5 1 (.int .i64 by')) n6 0 (.int .i64 ax)) n6 1 (.int .i64 ay)
        have m5 : w.heap.size ≤ B5 := by have := h2.out; omega
        have m6 : w.heap.size ≤ B6 := by have := h3.out; omega
        have bE := (((hb'.out.setCell (p := ⟨B5, 0, none⟩) m5 (.int .i64 bx)).setCell (p := ⟨B5, 1, none⟩) m5 (.int .i64 by')).setCell (p := ⟨B6, 0, none⟩) m6 (.int .i64 ax)).setCell (p := ⟨B6, 1, none⟩) m6 (.int .i64 ay)
        have HX : Hid (At _ B6 _ _ _ ∧ At _ B5 _ _ _ ∧ At _ (w.heap.size + 1) _ _ _ ∧ Below w.heap.size w _) := ⟨e3, e4, eP, bE⟩
        have HR : Hid (rightB (ax, ay) (bx, by') (px, py) = loB (bx, by') (ax, ay) (px, py)) := Lib.hid (by simp [rightB, hsw])
        clear e1 e2 e3 e4 eP bE
        go_wp2_with fail
        go_meet
        exact ⟨_, _, HR, hb, ha, HX.out.2.1, HX.out.1, HX.out.2.2.1, HX.out.2.2.2⟩
      · have HR : Hid (rightB (ax, ay) (bx, by') (px, py) = loB (ax, ay) (bx, by') (px, py)) := Lib.hid (by simp [rightB, hsw])
        go_wp2_with fail
        go_meet
        exact ⟨_, _, HR, ha, hb, h5, h6, hp', hb'⟩
    case rest =>
      obtain ⟨⟨lx, ly⟩, ⟨hx, hy⟩, e1, e2, e3, e4, e5, e6, e7⟩ := hcut
      have HW : Hid (wrap64 (wrap64 (wrap64 (hx - lx) * wrap64 (py - ly)) - wrap64 (wrap64 (hy - ly) * wrap64 (px - lx))) = crossI lx ly hx hy px py) := Lib.hid (cross_wrap_sm e2.out e3.out hp)
      clear c0 c1 c2 c3
      have r0 := cell_regrown e4.out.c0; have r1 := cell_regrown e4.out.c1; have r2 := cell_regrown e5.out.c0; have r3 := cell_regrown e5.out.c1; have r4 := cell_regrown e6.out.c0; have r5 := cell_regrown e6.out.c1
      simp only at r0 r1 r2 r3
      have hc : Hid (loB (lx, ly) (hx, hy) (px, py) = (decide (ly ≤ py) && decide (py < hy) && decide (0 < crossI lx ly hx hy px py))) := Lib.hid rfl
      clear h5 h6 hp' hb' e2 e3 e4 e5 e6
      by_cases g1 : ly ≤ py
      · have d1 : decide (ly ≤ py) = true := decide_eq_true g1
        by_cases g2 : py < hy
        · have d2 : decide (py < hy) = true := decide_eq_true g2
          have HZ : Hid (rightB (ax, ay) (bx, by') (px, py) = decide (0 < wrap64 (wrap64 (wrap64 (hx - lx) * wrap64 (py - ly)) - wrap64 (wrap64 (hy - ly) * wrap64 (px - lx))))) := Lib.hid (by rw [e1.out, hc.out, d1, d2, HW.out]; rfl)
          clear e1 hc HW
          go_upto_region 4 with (fail)
          refine wp_region_quiet_below (by kernel_rfl) (by kernel_rfl) ?_
          repeat (first
            | go_big_quiet_step (first | exact Calls.regrown_of (minus_any _ _ _ _ _) | exact Calls.regrown_of (crossM_any _ _ _ _ _))
            | quiet_step (first | exact Calls.regrown_of (minus_any _ _ _ _ _) | exact Calls.regrown_of (crossM_any _ _ _ _ _)))
          refine wpQuiet_nil ?_
          rintro _ ⟨⟨dq, osq⟩, rfl⟩
          have hB2 := e7.out.trans ((below_regrown wc dq osq).mono e7.out.size)
          go_wp2_with fail
          go_ret
          exact ⟨ret_bool HZ.out.symm, hB2⟩
        · have d2 : decide (py < hy) = false := decide_eq_false g2
          have HZ : Hid (rightB (ax, ay) (bx, by') (px, py) = false) := Lib.hid (by rw [e1.out, hc.out, d1, d2]; rfl)
          clear e1 hc HW
          go_upto_region 4 with (fail)
          refine wp_region_quiet_below (by kernel_rfl) (by kernel_rfl) ?_
          repeat (first
            | go_big_quiet_step (first | exact Calls.regrown_of (minus_any _ _ _ _ _) | exact Calls.regrown_of (crossM_any _ _ _ _ _))
            | quiet_step (first | exact Calls.regrown_of (minus_any _ _ _ _ _) | exact Calls.regrown_of (crossM_any _ _ _ _ _)))
          refine wpQuiet_nil ?_
          rintro _ ⟨⟨dq, osq⟩, rfl⟩
          have hB2 := e7.out.trans ((below_regrown wc dq osq).mono e7.out.size)
          go_wp2_with fail
          go_ret
          exact ⟨ret_bool HZ.out.symm, hB2⟩
      · have d1 : decide (ly ≤ py) = false := decide_eq_false g1
        have HZ : Hid (rightB (ax, ay) (bx, by') (px, py) = false) := Lib.hid (by rw [e1.out, hc.out, d1]; rfl)
        clear e1 hc HW
        go_upto_region 4 with (fail)
        refine wp_region_quiet_below (by kernel_rfl) (by kernel_rfl) ?_
        repeat (first
          | go_big_quiet_step (first | exact Calls.regrown_of (minus_any _ _ _ _ _) | exact Calls.regrown_of (crossM_any _ _ _ _ _))
          | quiet_step (first | exact Calls.regrown_of (minus_any _ _ _ _ _) | exact Calls.regrown_of (crossM_any _ _ _ _ _)))
        refine wpQuiet_nil ?_
        rintro _ ⟨⟨dq, osq⟩, rfl⟩
        have hB2 := e7.out.trans ((below_regrown wc dq osq).mono e7.out.size)
        go_wp2_with fail
        go_ret
        exact ⟨ret_bool HZ.out.symm, hB2⟩
end Go.Proofs.Ytimkknljoeiceaa
