/-
  IsTriangulation of the model.
-/
import Derived.Test.YtoemmaeglhdjnaaTriBase
import Derived.Test.YtoemmaeglhdjnaaArgSS
import Derived.Laws.OwnMore
namespace Go.Proofs.Ytoemmaeglhdjnaa
open Go.RowKit

theorem wrap_sq {n : Nat} (h : n ≤ 10) : wrap64 ((n : Int) * (n : Int)) = ((n * n : Nat) : Int) ∧ IntKind.i64.wrap ((n : Int) * (n : Int)) = ((n * n : Nat) : Int) := by
  have e : (n : Int) * (n : Int) = ((n * n : Nat) : Int) := by rw [Int.natCast_mul]
  have q : n * n ≤ 100 := Nat.mul_le_mul h h
  rw [e]
  generalize n * n = m at *
  exact ⟨IntWalk.wrap64_in _ (by omega), IntWalk.i64_in _ (by omega)⟩
theorem prod_bd' {x y : Int} (hx : 0 ≤ x ∧ x ≤ 40) (hy : 0 ≤ y ∧ y ≤ 40) : 0 ≤ x * y ∧ x * y ≤ 1600 :=
  ⟨Int.mul_nonneg hx.1 hy.1, Int.le_trans (Int.mul_le_mul hx.2 hy.2 hy.1 (by omega)) (by omega)⟩
theorem area_bd' {ax ay bx by' : Int} (ha : okP ax ay = true) (hb : okP bx by' = true) : (ax * by' - ay * bx).natAbs ≤ 1600 := by
  have h1 := okP_bounds ha; have h2 := okP_bounds hb
  have p1 := prod_bd' (x := ax) (y := by') (by omega) (by omega)
  have p2 := prod_bd' (x := ay) (y := bx) (by omega) (by omega)
  omega
theorem twiceI_bd' {L : List (Int × Int)} (hok : allOk L = true) (hl : L.length ≤ 10) : (twiceI L).natAbs ≤ 16000 := by
  have h := sumT_abs (f := twiceT L) (m := 1600) L.length (fun i _ => area_bd' (gt_ok hok i) (gt_ok hok (nx L i))) L.length (Nat.le_refl _)
  exact Nat.le_trans h (by have := Nat.mul_le_mul_right 1600 hl; omega)
theorem isTri_no {L : List (Int × Int)} {Ms : List (List Int)} (h : polyB L = false) : isTri L Ms = false := by rw [isTri, h]; rfl
theorem isTri_len {L : List (Int × Int)} {Ms : List (List Int)} (h : ¬ (Ms.length : Int) = (L.length : Int) - 2) : isTri L Ms = false := by rw [isTri, decide_eq_false h, Bool.false_and, Bool.and_false]
theorem isTri_area {L : List (Int × Int)} {Ms : List (List Int)} {M : List Int} (hm : M ∈ Ms) (h : areaT L M = 0) : isTri L Ms = false := by
  have e : (Ms.all fun M => decide (areaT L M ≠ 0)) = false := by
    rw [← Bool.not_eq_true, List.all_eq_true]
    exact fun q => (of_decide_eq_true (q M hm)) h
  rw [isTri, e, Bool.false_and, Bool.and_false, Bool.and_false]
theorem idx_w {n an bn : Nat} {a b : Int} (h : n ≤ 10) (ha : a = (an : Int)) (hb : b = (bn : Int)) (h1 : an < n) (h2 : bn < n) :
    ∃ (y : Int) (z : Nat), z = an * n + bn ∧ z < n * n ∧ 0 ≤ y ∧ wrap64 (a * (n : Int)) = y ∧ IntKind.i64.wrap (a * (n : Int)) = y ∧ wrap64 (y + b) = (z : Int) ∧ IntKind.i64.wrap (y + b) = (z : Int) := by
  have q1 : an * n ≤ 10 * 10 := Nat.mul_le_mul (by omega : an ≤ 10) h
  have q2 := at_lt h1 h2
  have e : (an : Int) * (n : Int) = ((an * n : Nat) : Int) := by rw [Int.natCast_mul]
  refine ⟨((an * n : Nat) : Int), an * n + bn, rfl, q2, Int.natCast_nonneg _, ?_, ?_, ?_, ?_⟩
  · rw [ha, e]; generalize an * n = m at *; exact IntWalk.wrap64_in _ (by omega)
  · rw [ha, e]; generalize an * n = m at *; exact IntWalk.i64_in _ (by omega)
  · rw [hb]; generalize an * n = m at *; exact IntWalk.wrap64_in _ (by omega)
  · rw [hb]; generalize an * n = m at *; exact IntWalk.i64_in _ (by omega)
theorem arr_step {w : World} {G m n an bn z : Nat} {E : List (Int × Int)} (hown : w.ownsRow G 3 1 (.slice (some ⟨G, 0, none⟩) m m) m (ints (cntA n E))) (hm : m = n * n) (h1 : an < n) (h2 : bn < n) (hz : z = an * n + bn) (hE : E.length ≤ 1000) :
    ∃ x : Int, w.cell? ⟨G, z, none⟩ = some (.int .i64 x) ∧ wrap64 (x + 1) = x + 1 ∧ IntKind.i64.wrap (x + 1) = x + 1 ∧ (w.setCell ⟨G, z, none⟩ (.int .i64 (x + 1))).ownsRow G 3 1 (.slice (some ⟨G, 0, none⟩) m m) m (ints (cntA n (E ++ [((an : Int), (bn : Int))]))) := by
  have hzm : z < m := by rw [hm, hz]; exact at_lt h1 h2
  have hc := List.count_le_length (a := ((an : Int), (bn : Int))) (l := E)
  refine ⟨(E.count ((an : Int), (bn : Int)) : Int), ?_, IntWalk.wrap64_in _ (by omega), IntWalk.i64_in _ (by omega), ?_⟩
  · rw [hown.cellAt z (by omega)]
    have hl : z < (cntA n E).length := by rw [cntA_len, ← hm]; exact hzm
    have e : (cntA n E)[z] = (E.count ((an : Int), (bn : Int)) : Int) := by subst hz; exact cntA_at h1 h2
    simp [ints, hl, e]
  · have q := (hown.stored z (.int .i64 ((E.count ((an : Int), (bn : Int)) : Int) + 1))).1
    rw [ints_setI, hz, cntA_set h1 h2, ← hz] at q
    exact q
theorem sum_w {L : List (Int × Int)} {Ms : List (List Int)} {s X : Int} (hok : allOk L = true) (hl : Ms.length ≤ 10) (hs : s = areaSum L Ms) (hx : 0 ≤ X ∧ X ≤ 3200) : wrap64 (s + X) = s + X ∧ IntKind.i64.wrap (s + X) = s + X := by
  have q := areaSum_bd hok Ms
  rw [← hs] at q
  exact ⟨IntWalk.wrap64_in _ (by omega), IntWalk.i64_in _ (by omega)⟩
theorem sides_len (Ms : List (List Int)) : (sidesTs Ms).length = 3 * Ms.length := by
  induction Ms with
  | nil => rfl
  | cons M Ms ih => rw [sidesTs, List.flatMap_cons, List.length_append, ← sidesTs, ih, sidesT]; simp; omega
def UseAt (n : Nat) (E : List (Int × Int)) (i k : Nat) : Prop := (nbr n i k → E.count ((i : Int), (k : Int)) = 1) ∧ (¬ nbr n i k → E.count ((i : Int), (k : Int)) = 0 ∨ E.count ((i : Int), (k : Int)) = 2)
open Classical in
theorem isTri_use {L : List (Int × Int)} {Ms : List (List Int)} {i k : Nat} (h1 : i < k) (h2 : k < L.length) (h : ¬ UseAt L.length (sidesTs Ms) i k) : isTri L Ms = false := by
  have e : ¬ Uses L.length (sidesTs Ms) := fun q => h (q i k h1 h2)
  rw [isTri, decide_eq_false e, Bool.false_and, Bool.and_false, Bool.and_false, Bool.and_false]
theorem arr_cell {w : World} {G m n an bn z : Nat} {E : List (Int × Int)} (hown : w.ownsRow G 3 1 (.slice (some ⟨G, 0, none⟩) m m) m (ints (cntA n E))) (hm : m = n * n) (h1 : an < n) (h2 : bn < n) (hz : z = an * n + bn) : w.cell? ⟨G, z, none⟩ = some (.int .i64 (E.count ((an : Int), (bn : Int)) : Int)) := by
  have hzm : z < m := by rw [hm, hz]; exact at_lt h1 h2
  rw [hown.cellAt z (by omega)]
  have hl : z < (cntA n E).length := by rw [cntA_len, ← hm]; exact hzm
  have e : (cntA n E)[z] = (E.count ((an : Int), (bn : Int)) : Int) := by subst hz; exact cntA_at h1 h2
  simp [ints, hl, e]
set_option maxRecDepth 100000 in
set_option maxHeartbeats 4000000 in
theorem spec_trian (A : Option Addr) (c : Nat) (v : Value) (Rs : List Rw) (B : Nat) (L : List (Int × Int)) (w : World) (hA : PtsA w A L) (hL : L.length ≤ 1048576) (hR : RowsR w B v Rs) :
    Calls Try.prog 23 #[.slice A L.length c, v] w fun e w' => e = .returned (.bool (isTri L (Rs.map Rw.M))) ∧ Below w.heap.size w w' := by
  have HP := Lib.hid (spec_poly A c L w hA hL)
  obtain ⟨A', c', rfl, CR⟩ := hR.form
  cases hp : polyB L
  · rw [hp] at HP
    have HV := Lib.hid (isTri_no (Ms := Rs.map Rw.M) hp)
    clear hA hR CR
    go_enter Try.func23, Try.ntmps23
    go_wp2_with fail
    refine HP.out.mono ?_
    rintro e w1 ⟨rfl, hb⟩
    go_wp2_with fail
    go_ret
    exact ⟨by rw [HV.out]; rfl, hb⟩
  rw [hp] at HP
  obtain ⟨h3, h10, hok⟩ := polyB_all hp
  obtain ⟨g, rfl, -⟩ := hA 0 (by omega)
  have s1 : wrap64 ((L.length : Int) - 2) = (L.length : Int) - 2 := IntWalk.wrap64_in _ (by omega)
  by_cases hlen : ¬ (Rs.length : Int) = (L.length : Int) - 2
  · have HV := Lib.hid (isTri_len (L := L) (Ms := Rs.map Rw.M) (by rw [List.length_map]; exact hlen))
    have d1 : ((Rs.length : Int) != (L.length : Int) - 2) = true := bne_iff_ne.2 hlen
    clear hA hR CR
    go_enter Try.func23, Try.ntmps23
    go_wp2_with fail
    refine HP.out.mono ?_
    rintro e w1 ⟨rfl, hb⟩
    go_wp2_with fail
    go_ret
    exact ⟨by rw [HV.out]; rfl, hb⟩
  have hlen := Classical.not_not.1 hlen
  have d1 : ((Rs.length : Int) != (L.length : Int) - 2) = false := by rw [hlen]; simp
  have hn : Rs.length ≤ 1048576 := by omega
  obtain ⟨i0, hi0, hz0, hz1, hz2⟩ := info_parts infoN
  obtain ⟨m, hm⟩ : ∃ m, m = L.length * L.length := ⟨_, rfl⟩
  have hm100 : m ≤ 100 := by rw [hm]; exact Nat.mul_le_mul h10 h10
  have e1 := (wrap_sq h10).1
  rw [← hm] at e1
  have hmk : ∀ w, (Instr.makeSlice 48 (.int .i64 (m : Int)) (.int .i64 (m : Int))).run Try.prog w = .ok (.slice (some ⟨w.heap.size, 0, none⟩) m m) (w.alloc (.cells (madeCells #[.int .i64 0] m) 3)) := fun w => by
    have h := run_make (P := Try.prog) w 48 3 i0 _ Try.underlying48 hi0 hz0 .i64 .i64 (m : Int) (m : Int) (by omega) (Int.le_refl _) (by rw [hz2]; omega) (by omega)
    rw [hz1] at h
    simpa [Value.cells, Nat.mul_one] using h
  have HA := Lib.hid hA; have HR := Lib.hid hR; have HC := Lib.hid CR
  have HM := Lib.hid hm
  have HOK := Lib.hid hok
  clear hA hR CR hm hok
  go_enter Try.func23, Try.ntmps23
  go_wp2_with fail
  refine HP.out.mono ?_
  rintro e w1 ⟨rfl, hb⟩
  go_wp2_with fail
  have hown0 := World.ownsRow_lit (base := w1.heap.size) (e := 3) (size := 1) w1 (madeCells #[.int .i64 0] m) m (Nat.le_refl _) (by unfold maxLen; omega) ((size_madeCells _ _).trans (Nat.mul_one _).symm)
  have hown : (w1.alloc (.cells (madeCells #[.int .i64 0] m) 3)).ownsRow w1.heap.size 3 1 (.slice (some ⟨w1.heap.size, 0, none⟩) m m) m (ints (cntA L.length [])) := by
    rw [cntA_nil, ← HM.out, ints, List.map_replicate, ← toList_madeCells_one]
    exact hown0
  have hb0 := below_on hb (below1 w1 (.cells (madeCells #[.int .i64 0] m) 3))
  have hG := Lib.hid hb.size
  clear hown0 hmk e1 hb d1
  generalize w1.alloc (.cells (madeCells #[.int .i64 0] m) 3) = w2 at *
  generalize w1.heap.size = G at *
  go_loopw [6, 32] (fun sm i wr => ∃ (k : Nat) (s : Int), k ≤ Rs.length ∧ i = .int .i64 k ∧ sm = .int .i64 s ∧ Hid (s = areaSum L ((Rs.take k).map Rw.M)) ∧ Hid (∀ M ∈ (Rs.take k).map Rw.M, areaT L M ≠ 0) ∧ Hid (wr.ownsRow G 3 1 (.slice (some ⟨G, 0, none⟩) m m) m (ints (cntA L.length (sidesTs ((Rs.take k).map Rw.M))))) ∧ Hid (Below w.heap.size w wr)) (fun _ i _ => Rs.length - (intOf i).toNat)
  case atStart => exact ⟨0, _, Nat.zero_le _, rfl, rfl, rfl, fun M hM => absurd hM (by simp), hown, hb0⟩
  case round =>
    obtain ⟨wo, rfl⟩ : ∃ wo : World, wo = wr := ⟨_, rfl⟩
    clear hown hb0
    obtain ⟨k, s, hk, rfl, rfl, HS, HZ, HW, HB⟩ := hrel
    by_cases hlt : k < Rs.length
    · obtain ⟨g', rfl, hc0⟩ := HC.out k hlt
      have hc1 := cell_on HB.out rfl hc0
      have HT : Hid (∀ W, Below w.heap.size w W → IntsA W (some ⟨(Rs[k]).g, 0, none⟩) (Rs[k]).M) := fun W hb => intsA_on (intsA_of (HR.out.row _ (List.getElem_mem hlt))) hb
      have HMM : Hid ((Rs[k]).M ∈ Rs.map Rw.M) := List.mem_map_of_mem (List.getElem_mem hlt)
      have HTK : Hid ((Rs.take (k + 1)).map Rw.M = (Rs.take k).map Rw.M ++ [(Rs[k]).M]) := by
        show _ = _
        rw [List.take_succ_eq_append_getElem hlt, List.map_append]; rfl
      have f1 := (k_w' hk hn).1; have f1' := (k_w' hk hn).2
      unfold hdr at hc1
      clear hc0
      generalize (Rs[k]).M = M at *
      generalize (Rs[k]).g = r at *
      generalize (Rs[k]).cap = rc at *
      have k0 := cell_regrown hc1
      by_cases hl : M.length = 3
      · obtain ⟨a, b, d, rfl⟩ : ∃ a b d, M = [a, b, d] := ⟨_, _, _, three_form hl⟩
        replace hc1 : wo.cell? ⟨g', k, none⟩ = some (.slice (some ⟨r, 0, none⟩) 3 rc) := hc1
        replace k0 := cell_regrown hc1
        have t0 : wo.cell? ⟨r, 0, none⟩ = some (.int .i64 a) := by obtain ⟨T', e, q⟩ := HT.out wo HB.out 0 (by simp); cases e; exact q
        have t1 : wo.cell? ⟨r, 1, none⟩ = some (.int .i64 b) := by obtain ⟨T', e, q⟩ := HT.out wo HB.out 1 (by simp); cases e; exact q
        have t2 : wo.cell? ⟨r, 2, none⟩ = some (.int .i64 d) := by obtain ⟨T', e, q⟩ := HT.out wo HB.out 2 (by simp); cases e; exact q
        have k1 := cell_regrown t0; have k2 := cell_regrown t1; have k3 := cell_regrown t2
        have hv : triOk L.length [a, b, d] = (decide (0 ≤ a) && (decide (a < b) && (decide (b < d) && decide (d < (L.length : Int))))) := rfl
        have HTO := Lib.hid hv
        clear hv hl
        by_cases c1 : a < 0
        · have d1 : decide (a < 0) = true := decide_eq_true c1
          have HV : Hid (isTri L (Rs.map Rw.M) = false) := isTri_area HMM.out (by rw [areaT, HTO.out, decide_eq_false (by omega : ¬ 0 ≤ a)]; rfl)
          go_upto_region 9 with (fail)
          refine wp_region_quiet_below (by kernel_rfl) (by kernel_rfl) ?_
          repeat (first
            | go_big_quiet_step (fail)
            | quiet_step (fail))
          refine wpQuiet_nil ?_
          rintro _ ⟨⟨dq, osq⟩, rfl⟩
          have b3 := below_on HB.out (below_regrown wo dq osq)
          go_wp2_with fail
          go_ret
          exact ⟨by rw [HV.out]; rfl, b3⟩
        have d1 : decide (a < 0) = false := decide_eq_false c1
        have e1 : decide (0 ≤ a) = true := decide_eq_true (by omega)
        by_cases c2 : b ≤ a
        · have d2 : decide (b ≤ a) = true := decide_eq_true c2
          have HV : Hid (isTri L (Rs.map Rw.M) = false) := isTri_area HMM.out (by rw [areaT, HTO.out, decide_eq_false (by omega : ¬ a < b), e1]; rfl)
          clear e1
          go_upto_region 9 with (fail)
          refine wp_region_quiet_below (by kernel_rfl) (by kernel_rfl) ?_
          repeat (first
            | go_big_quiet_step (fail)
            | quiet_step (fail))
          refine wpQuiet_nil ?_
          rintro _ ⟨⟨dq, osq⟩, rfl⟩
          have b3 := below_on HB.out (below_regrown wo dq osq)
          go_wp2_with fail
          go_ret
          exact ⟨by rw [HV.out]; rfl, b3⟩
        have d2 : decide (b ≤ a) = false := decide_eq_false c2
        have e2 : decide (a < b) = true := decide_eq_true (by omega)
        by_cases c3 : d ≤ b
        · have d3 : decide (d ≤ b) = true := decide_eq_true c3
          have HV : Hid (isTri L (Rs.map Rw.M) = false) := isTri_area HMM.out (by rw [areaT, HTO.out, decide_eq_false (by omega : ¬ b < d), e1, e2]; rfl)
          clear e1 e2
          go_upto_region 9 with (fail)
          refine wp_region_quiet_below (by kernel_rfl) (by kernel_rfl) ?_
          repeat (first
            | go_big_quiet_step (fail)
            | quiet_step (fail))
          refine wpQuiet_nil ?_
          rintro _ ⟨⟨dq, osq⟩, rfl⟩
          have b3 := below_on HB.out (below_regrown wo dq osq)
          go_wp2_with fail
          go_ret
          exact ⟨by rw [HV.out]; rfl, b3⟩
        have d3 : decide (d ≤ b) = false := decide_eq_false c3
        have e3 : decide (b < d) = true := decide_eq_true (by omega)
        by_cases c4 : (L.length : Int) ≤ d
        · have d4 : decide ((L.length : Int) ≤ d) = true := decide_eq_true c4
          have HV : Hid (isTri L (Rs.map Rw.M) = false) := isTri_area HMM.out (by rw [areaT, HTO.out, decide_eq_false (by omega : ¬ d < (L.length : Int)), e1, e2, e3]; rfl)
          clear e1 e2 e3
          go_upto_region 9 with (fail)
          refine wp_region_quiet_below (by kernel_rfl) (by kernel_rfl) ?_
          repeat (first
            | go_big_quiet_step (fail)
            | quiet_step (fail))
          refine wpQuiet_nil ?_
          rintro _ ⟨⟨dq, osq⟩, rfl⟩
          have b3 := below_on HB.out (below_regrown wo dq osq)
          go_wp2_with fail
          go_ret
          exact ⟨by rw [HV.out]; rfl, b3⟩
        have d4 : decide ((L.length : Int) ≤ d) = false := decide_eq_false c4
        clear e1 e2 e3 HTO
        obtain ⟨an, ha⟩ : ∃ an : Nat, a = (an : Int) := ⟨a.toNat, by omega⟩
        obtain ⟨bn, hb'⟩ : ∃ bn : Nat, b = (bn : Int) := ⟨b.toNat, by omega⟩
        obtain ⟨dn, hd⟩ : ∃ dn : Nat, d = (dn : Int) := ⟨d.toNat, by omega⟩
        have hab : an < bn := by omega
        have hbd : bn < dn := by omega
        have hdn : dn < L.length := by omega
        have HAR : Hid (∀ W, Below w.heap.size w W → Calls Try.prog 56 #[.slice (some ⟨g, 0, none⟩) L.length c, .slice (some ⟨r, 0, none⟩) 3 rc] W fun e w' => e = .returned (.int .i64 (areaT L [a, b, d])) ∧ Below W.heap.size W w') := fun W hb => by
          have q := HT.out W hb
          rw [ha, hb', hd] at q ⊢
          exact l05area_any g c r rc an bn dn L W (ptsA_on HA.out hb) HOK.out q hab hbd hdn
        have HK := Lib.hid (fun dd os => HAR.out (Go.Sort.grow (redrawn wo dd) os) (below_on HB.out (below_regrown wo dd os)))
        have HAB := Lib.hid (areaT_bd HOK.out [a, b, d])
        have HF := Lib.hid (And.intro hab (And.intro hbd hdn))
        have HE := Lib.hid (And.intro ha (And.intro hb' hd))
        obtain ⟨X, hX⟩ : ∃ X, X = areaT L [a, b, d] := ⟨_, rfl⟩
        have HX := Lib.hid hX
        rw [← hX] at HAR HK HAB
        clear hX hab hbd hdn c1 c2 c3 c4 ha hb' hd
        by_cases hx : X = 0
        · have d5 : (X == 0) = true := by rw [hx]; rfl
          have HV : Hid (isTri L (Rs.map Rw.M) = false) := isTri_area HMM.out (by rw [← HX.out]; exact hx)
          go_upto_region 9 with (fail)
          refine wp_region_quiet_below (by kernel_rfl) (by kernel_rfl) ?_
          repeat (first
            | go_big_quiet_step (first | exact Calls.regrown_of (HK.out _ _))
            | quiet_step (first | exact Calls.regrown_of (HK.out _ _)))
          refine wpQuiet_nil ?_
          rintro _ ⟨⟨dq, osq⟩, rfl⟩
          have b3 := below_on HB.out (below_regrown wo dq osq)
          go_wp2_with fail
          go_ret
          exact ⟨by rw [HV.out]; rfl, b3⟩
        have d5 : (X == 0) = false := beq_eq_false_iff_ne.2 hx
        obtain ⟨hab, hbd, hdn⟩ := HF.out
        obtain ⟨ha, hb', hd⟩ := HE.out
        have h10' := h10
        obtain ⟨ya, za, hza, hzam, ya0, g1, g2, g3, g4⟩ := idx_w h10 ha hb' (by omega) (by omega)
        obtain ⟨yb, zb, hzb, hzbm, yb0, g5, g6, g7, g8⟩ := idx_w h10 hb' hd (by omega) hdn
        obtain ⟨yc, zc, hzc, hzcm, yc0, g9, g10, g11, g12⟩ := idx_w h10 ha hd (by omega) hdn
        rw [← HM.out] at hzam hzbm hzcm
        have HSW := Lib.hid (sum_w HOK.out (by rw [List.length_map, List.length_take]; omega) HS.out HAB.out)
        have HEL : Hid ((sidesTs ((Rs.take k).map Rw.M)).length ≤ 30) := by show _ ≤ _; rw [sides_len, List.length_map, List.length_take]; omega
        have HZA := Lib.hid hza; have HZB := Lib.hid hzb; have HZC := Lib.hid hzc
        have HG1 := Lib.hid (And.intro g1 g2); have HG3 := Lib.hid (And.intro g3 g4); have HG5 := Lib.hid (And.intro g5 g6); have HG7 := Lib.hid (And.intro g7 g8); have HG9 := Lib.hid (And.intro g9 g10); have HG11 := Lib.hid (And.intro g11 g12)
        have HF1 := Lib.hid (And.intro f1 f1')
        clear g1 g2 g3 g4 g5 g6 g7 g8 g9 g10 g11 g12 hza hzb hzc ha hb' hd hab hbd hdn f1 f1'
        go_upto_region 9 with (fail)
        refine wp_region_quiet_below (by kernel_rfl) (by kernel_rfl) ?_
        repeat (first
          | go_big_quiet_step (first | exact Calls.regrown_of (HK.out _ _))
          | quiet_step (first | exact Calls.regrown_of (HK.out _ _)))
        refine wpQuiet_nil ?_
        rintro _ ⟨⟨dq, osq⟩, rfl⟩
        have b3 := below_on HB.out (below_regrown wo dq osq)
        have o3 := own_below HW.out (below_regrown wo dq osq)
        clear k0 k1 k2 k3 t0 t1 t2 hc1
        simp only at *
        generalize Go.Sort.grow (redrawn wo dq) osq = w3 at *
        have HA3 := Lib.hid (HAR.out w3 b3)
        have B3 := Lib.hid b3
        have O3 := Lib.hid o3
        have m1 := HSW.out.1; have m2 := HSW.out.2
        clear b3 o3
        go_wp2_with fail
        refine HA3.out.mono ?_
        rintro e w4 ⟨rfl, hb4⟩
        have o4 := own_below O3.out hb4
        have b4 := below_on B3.out hb4
        obtain ⟨x1, xc1, xw1, xw1', own5⟩ := arr_step o4 HM.out (Nat.lt_trans HF.out.1 (Nat.lt_trans HF.out.2.1 HF.out.2.2)) (Nat.lt_trans HF.out.2.1 HF.out.2.2) HZA.out (Nat.le_trans HEL.out (by omega))
        have fr := o4.frozenAt za
        have b5 := b4.setCell (p := ⟨G, za, none⟩) hG.out (.int .i64 (x1 + 1))
        have t0 : w4.cell? ⟨r, 0, none⟩ = some (.int .i64 a) := by obtain ⟨T', e, q⟩ := HT.out w4 b4 0 (by simp); cases e; exact q
        have t1 : w4.cell? ⟨r, 1, none⟩ = some (.int .i64 b) := by obtain ⟨T', e, q⟩ := HT.out w4 b4 1 (by simp); cases e; exact q
        have O5 := Lib.hid own5; have B5 := Lib.hid b5
        have u1 := HG1.out.1; have u2 := HG1.out.2; have u3 := HG3.out.1; have u4 := HG3.out.2
        clear o4 b4 hb4 own5 b5 HA3 m1 m2
        go_upto_region 12 with (fail)
        go_region
        clear xc1 xw1 xw1' fr t0 t1 u1 u2 u3 u4
        generalize w4.setCell ⟨G, za, none⟩ (.int .i64 (x1 + 1)) = w5 at *
        have o5 := O5.out; have b5 := B5.out
        obtain ⟨x2, xc2, xw2, xw2', own6⟩ := arr_step o5 HM.out (Nat.lt_trans HF.out.2.1 HF.out.2.2) HF.out.2.2 HZB.out (by rw [List.length_append]; exact Nat.le_trans (Nat.add_le_add_right HEL.out _) (by simp))
        have fr2 := o5.frozenAt zb
        have b6 := b5.setCell (p := ⟨G, zb, none⟩) hG.out (.int .i64 (x2 + 1))
        have t1 : w5.cell? ⟨r, 1, none⟩ = some (.int .i64 b) := by obtain ⟨T', e, q⟩ := HT.out w5 b5 1 (by simp); cases e; exact q
        have t2 : w5.cell? ⟨r, 2, none⟩ = some (.int .i64 d) := by obtain ⟨T', e, q⟩ := HT.out w5 b5 2 (by simp); cases e; exact q
        have O6 := Lib.hid own6; have B6 := Lib.hid b6
        have u1 := HG5.out.1; have u2 := HG5.out.2; have u3 := HG7.out.1; have u4 := HG7.out.2
        clear o5 b5 own6 b6
        go_upto_region 13 with (fail)
        go_region
        clear xc2 xw2 xw2' fr2 t1 t2 u1 u2 u3 u4
        generalize w5.setCell ⟨G, zb, none⟩ (.int .i64 (x2 + 1)) = w6 at *
        have o6 := O6.out; have b6 := B6.out
        obtain ⟨x3, xc3, xw3, xw3', own7⟩ := arr_step o6 HM.out (Nat.lt_trans HF.out.1 (Nat.lt_trans HF.out.2.1 HF.out.2.2)) HF.out.2.2 HZC.out (by rw [List.length_append, List.length_append]; exact Nat.le_trans (Nat.add_le_add_right (Nat.add_le_add_right HEL.out _) _) (by simp))
        have fr3 := o6.frozenAt zc
        have b7 := b6.setCell (p := ⟨G, zc, none⟩) hG.out (.int .i64 (x3 + 1))
        have t0 : w6.cell? ⟨r, 0, none⟩ = some (.int .i64 a) := by obtain ⟨T', e, q⟩ := HT.out w6 b6 0 (by simp); cases e; exact q
        have t2 : w6.cell? ⟨r, 2, none⟩ = some (.int .i64 d) := by obtain ⟨T', e, q⟩ := HT.out w6 b6 2 (by simp); cases e; exact q
        have O7 := Lib.hid own7; have B7 := Lib.hid b7
        have u1 := HG9.out.1; have u2 := HG9.out.2; have u3 := HG11.out.1; have u4 := HG11.out.2
        clear o6 b6 own7 b7
        go_upto_region 14 with (fail)
        go_region
        clear xc3 xw3 xw3' fr3 t0 t2 u1 u2 u3 u4
        generalize w6.setCell ⟨G, zc, none⟩ (.int .i64 (x3 + 1)) = w7 at *
        have f1 := HF1.out.1; have f1' := HF1.out.2
        go_wp2_with fail
        clear f1 f1'
        go_roundw
        case rel =>
          refine ⟨k + 1, s + X, by omega, by go_num, by rw [HSW.out.1], ?_, ?_, ?_, B7.out.drew.drew.drew⟩
          · show _ = _
            rw [HTK.out, areaSum_snoc, ← HS.out, ← HX.out]
          · show ∀ M ∈ _, _
            rw [HTK.out]
            intro M hM
            rcases List.mem_append.1 hM with hM | hM
            · exact HZ.out M hM
            · rw [List.mem_singleton.1 hM, ← HX.out]; exact hx
          · show World.ownsRow _ _ _ _ _ _ _
            have q := O7.out
            rw [HTK.out, sidesTs_snoc]
            obtain ⟨ha, hb', hd⟩ := HE.out
            have e : sidesT [a, b, d] = [((an : Int), (bn : Int))] ++ ([((bn : Int), (dn : Int))] ++ [((an : Int), (dn : Int))]) := by rw [ha, hb', hd]; rfl
            rw [e, ← List.append_assoc, ← List.append_assoc]
            exact own_below q (((Below.refl _ _).drew).drew).drew
        case measure => simp [intOf]; omega
      · have q0 : ((M.length : Int) != 3) = true := by rw [bne_iff_ne]; omega
        have HV : Hid (isTri L (Rs.map Rw.M) = false) := isTri_area HMM.out (by rw [areaT, triOk, decide_eq_false hl]; rfl)
        go_upto_region 9 with (fail)
        refine wp_region_quiet_below (by kernel_rfl) (by kernel_rfl) ?_
        repeat (first
          | go_big_quiet_step (fail)
          | quiet_step (fail))
        refine wpQuiet_nil ?_
        rintro _ ⟨⟨dq, osq⟩, rfl⟩
        have b3 := below_on HB.out (below_regrown wo dq osq)
        go_wp2_with fail
        go_ret
        exact ⟨by rw [HV.out]; rfl, b3⟩
    · obtain rfl : k = Rs.length := by omega
      have HALL : Hid (∀ M ∈ Rs.map Rw.M, areaT L M ≠ 0) := by have q := HZ.out; rwa [List.take_of_length_le (Nat.le_refl _)] at q
      have HSU : Hid (s = areaSum L (Rs.map Rw.M)) := by have q := HS.out; rwa [List.take_of_length_le (Nat.le_refl _)] at q
      have HW2 : Hid (wo.ownsRow G 3 1 (.slice (some ⟨G, 0, none⟩) m m) m (ints (cntA L.length (sidesTs (Rs.map Rw.M))))) := by have q := HW.out; rwa [List.take_of_length_le (Nat.le_refl _)] at q
      clear HZ HS HW HC
      obtain ⟨wz, hwz⟩ : ∃ wz, wz = wo := ⟨_, rfl⟩
      go_wp2_with fail
      go_loopw [10] (fun iv wr => ∃ i : Nat, i ≤ L.length ∧ iv = .int .i64 i ∧ Hid (∀ j, j < i → ∀ q, j < q → q < L.length → UseAt L.length (sidesTs (Rs.map Rw.M)) j q) ∧ Hid (wr.ownsRow G 3 1 (.slice (some ⟨G, 0, none⟩) m m) m (ints (cntA L.length (sidesTs (Rs.map Rw.M))))) ∧ Hid (Below w.heap.size w wr)) (fun iv _ => L.length - (intOf iv).toNat)
      case atStart => exact ⟨0, Nat.zero_le _, rfl, fun j hj => absurd hj (Nat.not_lt_zero _), HW2, HB⟩
      case round =>
        clear HB HW2
        obtain ⟨i, hi, rfl, HU, HW, HB⟩ := hrel
        by_cases hin : i < L.length
        · go_wp2_with fail
          go_loopw [11] (fun kv wr => ∃ k : Nat, k ≤ L.length ∧ i < k ∧ kv = .int .i64 k ∧ Hid (∀ q, i < q → q < k → UseAt L.length (sidesTs (Rs.map Rw.M)) i q) ∧ Hid (wr.ownsRow G 3 1 (.slice (some ⟨G, 0, none⟩) m m) m (ints (cntA L.length (sidesTs (Rs.map Rw.M))))) ∧ Hid (Below w.heap.size w wr)) (fun kv _ => L.length - (intOf kv).toNat)
          case atStart => exact ⟨i + 1, by omega, by omega, by go_num, fun q h1 h2 => by omega, HW, HB⟩
          case round =>
            clear HW HB
            obtain ⟨k, hk, hik, rfl, HI, HW, HB⟩ := hrel
            by_cases hkn : k < L.length
            · obtain ⟨y, z, hz, hzm, y0, u1, u2, u3, u4⟩ := idx_w (a := (i : Int)) (b := (k : Int)) h10 rfl rfl hin hkn
              rw [← HM.out] at hzm
              have hcc := arr_cell HW.out HM.out hin hkn hz
              obtain ⟨x, hxe⟩ : ∃ x : Int, x = ((sidesTs (Rs.map Rw.M)).count ((i : Int), (k : Int)) : Int) := ⟨_, rfl⟩
              rw [← hxe] at hcc
              have HX := Lib.hid hxe
              have HIK := Lib.hid hik
              have HI1 : Hid (UseAt L.length (sidesTs (Rs.map Rw.M)) i k → Hid (∀ q, i < q → q < k + 1 → UseAt L.length (sidesTs (Rs.map Rw.M)) i q)) := fun hh q h1 h2 => by
                rcases Nat.lt_or_ge q k with e | e
                · exact HI.out q h1 e
                · obtain rfl : q = k := by omega
                  exact hh
              clear hz hxe
              go_upto_region 23 with (fail)
              clear hcc u1 u2 u3 u4 hzm y0
              by_cases w1 : k = i + 1
              · have v1 : ((k : Int) == (i : Int) + 1) = true := by rw [beq_iff_eq]; omega
                have HNB : Hid (nbr L.length i k) := .inl w1
                clear w1
                by_cases hx : x = 1
                · have y1 : (x != 1) = false := by rw [hx]; rfl
                  have HI2 := HI1.out ⟨fun _ => by have := HX.out; omega, fun q => absurd HNB.out q⟩
                  go_wp2_with fail
                  go_roundw
                  case rel => exact ⟨k + 1, by omega, by omega, by go_num, HI2, HW, HB⟩
                  case measure => simp [intOf]; omega
                · have y1 : (x != 1) = true := bne_iff_ne.2 hx
                  have HV := Lib.hid (isTri_use HIK.out hkn (fun q => hx (by have := q.1 HNB.out; have := HX.out; omega)) : isTri L (Rs.map Rw.M) = false)
                  go_wp2_with fail
                  go_ret
                  exact ⟨by rw [HV.out]; rfl, HB.out⟩
              have v1 : ((k : Int) == (i : Int) + 1) = false := by rw [beq_eq_false_iff_ne]; omega
              by_cases w2 : i = 0
              · have v2 : ((i : Int) == 0) = true := by rw [w2]; rfl
                have W2 := Lib.hid w2
                clear w2
                by_cases w3 : k = L.length - 1
                · have v3 : ((k : Int) == (L.length : Int) - 1) = true := by rw [beq_iff_eq]; omega
                  have HNB : Hid (nbr L.length i k) := .inr ⟨W2.out, w3⟩
                  clear w3
                  by_cases hx : x = 1
                  · have y1 : (x != 1) = false := by rw [hx]; rfl
                    have HI2 := HI1.out ⟨fun _ => by have := HX.out; omega, fun q => absurd HNB.out q⟩
                    go_wp2_with fail
                    go_roundw
                    case rel => exact ⟨k + 1, by omega, by omega, by go_num, HI2, HW, HB⟩
                    case measure => simp [intOf]; omega
                  · have y1 : (x != 1) = true := bne_iff_ne.2 hx
                    have HV := Lib.hid (isTri_use HIK.out hkn (fun q => hx (by have := q.1 HNB.out; have := HX.out; omega)) : isTri L (Rs.map Rw.M) = false)
                    go_wp2_with fail
                    go_ret
                    exact ⟨by rw [HV.out]; rfl, HB.out⟩
                · have v3 : ((k : Int) == (L.length : Int) - 1) = false := by rw [beq_eq_false_iff_ne]; omega
                  have HNB : Hid (¬ nbr L.length i k) := fun q => by rcases q with q | q; exact w1 q; exact w3 q.2
                  by_cases hx : x = 0
                  · have y1 : (x != 0) = false := by rw [hx]; rfl
                    have HI2 := HI1.out ⟨fun q => absurd q HNB.out, fun _ => .inl (by have := HX.out; omega)⟩
                    go_wp2_with fail
                    go_roundw
                    case rel => exact ⟨k + 1, by omega, by omega, by go_num, HI2, HW, HB⟩
                    case measure => simp [intOf]; omega
                  have y1 : (x != 0) = true := bne_iff_ne.2 hx
                  by_cases hx2 : x = 2
                  · have y2 : (x != 2) = false := by rw [hx2]; rfl
                    have HI2 := HI1.out ⟨fun q => absurd q HNB.out, fun _ => .inr (by have := HX.out; omega)⟩
                    go_wp2_with fail
                    go_roundw
                    case rel => exact ⟨k + 1, by omega, by omega, by go_num, HI2, HW, HB⟩
                    case measure => simp [intOf]; omega
                  · have y2 : (x != 2) = true := bne_iff_ne.2 hx2
                    have HV := Lib.hid (isTri_use HIK.out hkn (fun q => by have := q.2 HNB.out; have := HX.out; omega) : isTri L (Rs.map Rw.M) = false)
                    go_wp2_with fail
                    go_ret
                    exact ⟨by rw [HV.out]; rfl, HB.out⟩
              · have v2 : ((i : Int) == 0) = false := by rw [beq_eq_false_iff_ne]; omega
                have HNB : Hid (¬ nbr L.length i k) := fun q => by rcases q with q | q; exact w1 q; exact w2 q.1
                by_cases hx : x = 0
                · have y1 : (x != 0) = false := by rw [hx]; rfl
                  have HI2 := HI1.out ⟨fun q => absurd q HNB.out, fun _ => .inl (by have := HX.out; omega)⟩
                  go_wp2_with fail
                  go_roundw
                  case rel => exact ⟨k + 1, by omega, by omega, by go_num, HI2, HW, HB⟩
                  case measure => simp [intOf]; omega
                have y1 : (x != 0) = true := bne_iff_ne.2 hx
                by_cases hx2 : x = 2
                · have y2 : (x != 2) = false := by rw [hx2]; rfl
                  have HI2 := HI1.out ⟨fun q => absurd q HNB.out, fun _ => .inr (by have := HX.out; omega)⟩
                  go_wp2_with fail
                  go_roundw
                  case rel => exact ⟨k + 1, by omega, by omega, by go_num, HI2, HW, HB⟩
                  case measure => simp [intOf]; omega
                · have y2 : (x != 2) = true := bne_iff_ne.2 hx2
                  have HV := Lib.hid (isTri_use HIK.out hkn (fun q => by have := q.2 HNB.out; have := HX.out; omega) : isTri L (Rs.map Rw.M) = false)
                  go_wp2_with fail
                  go_ret
                  exact ⟨by rw [HV.out]; rfl, HB.out⟩
            · have HU2 : Hid (∀ j, j < i + 1 → ∀ q, j < q → q < L.length → UseAt L.length (sidesTs (Rs.map Rw.M)) j q) := fun j hj q h1 h2 => by
                rcases Nat.lt_or_ge j i with e | e
                · exact HU.out j e q h1 h2
                · obtain rfl : j = i := by omega
                  exact HI.out q h1 (by omega)
              go_wp2_with fail
              go_roundw
              case rel => exact ⟨i + 1, by omega, by go_num, HU2, HW, HB⟩
              case measure => simp [intOf]; omega
        · have HV : Hid (isTri L (Rs.map Rw.M) = (s == maxI (twiceI L) (-twiceI L))) := by
            show _ = _
            have hall : ((Rs.map Rw.M).all fun M => decide (areaT L M ≠ 0)) = true := List.all_eq_true.2 fun M hM => decide_eq_true (HALL.out M hM)
            have huse : Uses L.length (sidesTs (Rs.map Rw.M)) := fun j q h1 h2 => HU.out j (by omega) q h1 h2
            rw [isTri, hp, hall, @decide_eq_true _ (Classical.propDecidable _) huse, List.length_map, decide_eq_true hlen, ← HSU.out]
            rfl
          have HT2 := Lib.hid (twice_any (some ⟨g, 0, none⟩) c L wr (ptsA_on HA.out HB.out) (by omega) h10 HOK.out)
          have hbd := twiceI_bd' HOK.out h10
          generalize twiceI L = tw at *
          go_wp2_with fail
          refine HT2.out.mono ?_
          rintro e w8 ⟨rfl, hb8⟩
          have b8 := below_on HB.out hb8
          go_wp2_with fail
          refine (mag4_any tw w8 hbd).mono ?_
          rintro e w9 ⟨rfl, hb9⟩
          have b9 := below_on b8 hb9
          go_wp2_with fail
          go_ret
          exact ⟨by rw [HV.out]; rfl, b9⟩
end Go.Proofs.Ytoemmaeglhdjnaa
