/-
  Walks for pointsOk, CrossOf of both programs.
-/
import Derived.Test.YtimkknljoeiceaaPts
namespace Go.Proofs.Ytimkknljoeiceaa
open Go.RowKit

theorem abs_mul {x y : Int} {m n : Nat} (h1 : x.natAbs ≤ m) (h2 : y.natAbs ≤ n) : (x * y).natAbs ≤ m * n := by
  rw [Int.natAbs_mul]; exact Nat.mul_le_mul h1 h2
theorem wrap_id {x : Int} (h : x.natAbs ≤ 1000000000000000000) : wrap64 x = x := IntWalk.wrap64_in x (by omega)

def crossI (ax ay bx by' px py : Int) : Int := (bx - ax) * (py - ay) - (by' - ay) * (px - ax)
theorem crossI_bound {ax ay bx by' px py : Int} (ha : okP ax ay = true) (hb : okP bx by' = true) (hp : okP px py = true) : (crossI ax ay bx by' px py).natAbs ≤ 3200 := by
  have := okP_bounds ha; have := okP_bounds hb; have := okP_bounds hp
  have h1 := abs_mul (x := bx - ax) (y := py - ay) (m := 40) (n := 40) (by omega) (by omega)
  have h2 := abs_mul (x := by' - ay) (y := px - ax) (m := 40) (n := 40) (by omega) (by omega)
  unfold crossI
  generalize (bx - ax) * (py - ay) = u at *
  generalize (by' - ay) * (px - ax) = v at *
  omega
/-- Small points: what is reckoned of them has no wraps. -/
def smP (x y : Int) : Bool := decide (-200 ≤ x) && decide (x ≤ 200) && decide (-200 ≤ y) && decide (y ≤ 200)
theorem smP_bounds {x y : Int} (h : smP x y = true) : -200 ≤ x ∧ x ≤ 200 ∧ -200 ≤ y ∧ y ≤ 200 := by
  simp only [smP, Bool.and_eq_true, decide_eq_true_eq] at h
  omega
theorem smP_ok {x y : Int} (h : okP x y = true) : smP x y = true := by
  have := okP_bounds h
  simp only [smP, Bool.and_eq_true, decide_eq_true_eq]
  omega
/-- What the program reckons, with its wraps, at small points. -/
theorem cross_wrap_sm {ax ay bx by' px py : Int} (ha : smP ax ay = true) (hb : smP bx by' = true) (hp : smP px py = true) :
    wrap64 (wrap64 (wrap64 (bx - ax) * wrap64 (py - ay)) - wrap64 (wrap64 (by' - ay) * wrap64 (px - ax))) = crossI ax ay bx by' px py := by
  have := smP_bounds ha; have := smP_bounds hb; have := smP_bounds hp
  rw [wrap_id (x := bx - ax) (by omega), wrap_id (x := py - ay) (by omega), wrap_id (x := by' - ay) (by omega), wrap_id (x := px - ax) (by omega)]
  have h1 := abs_mul (x := bx - ax) (y := py - ay) (m := 400) (n := 400) (by omega) (by omega)
  have h2 := abs_mul (x := by' - ay) (y := px - ax) (m := 400) (n := 400) (by omega) (by omega)
  rw [wrap_id (x := (bx - ax) * (py - ay)) (by omega), wrap_id (x := (by' - ay) * (px - ax)) (by omega)]
  unfold crossI
  generalize (bx - ax) * (py - ay) = u at *
  generalize (by' - ay) * (px - ax) = v at *
  exact wrap_id (by omega)
theorem cross_wrap {ax ay bx by' px py : Int} (ha : okP ax ay = true) (hb : okP bx by' = true) (hp : okP px py = true) :
    wrap64 (wrap64 (wrap64 (bx - ax) * wrap64 (py - ay)) - wrap64 (wrap64 (by' - ay) * wrap64 (px - ax))) = crossI ax ay bx by' px py := cross_wrap_sm (smP_ok ha) (smP_ok hb) (smP_ok hp)
def crossV (ax ay bx by' px py : Int) : Int := bif okP ax ay && okP bx by' && okP px py then crossI ax ay bx by' px py else 0

set_option maxRecDepth 100000 in
set_option maxHeartbeats 400000 in
theorem all_any (g c : Nat) (L : List (Int × Int)) (w : World) (hP : Pts w g L) (hg : g < w.heap.size) (hL : L.length ≤ 1048576) :
    Calls Try.prog 100 #[.slice (some ⟨g, 0, none⟩) L.length c] w fun e w' => e = .returned (.bool (allOk L)) ∧ Below w.heap.size w w' := by
  have HP := Lib.hid hP; clear hP
  go_enter Try.func100, Try.ntmps100
  go_wp2_with fail
  go_loopw [4, 7] (fun v i w' => ∃ k : Nat, k ≤ L.length ∧ i = .int .i64 k ∧ Hid (allOk L = allOk (L.drop k)) ∧ Below w.heap.size w w') (fun _ i _ => L.length - (intOf i).toNat)
  case atStart => exact ⟨0, Nat.zero_le _, rfl, rfl, Below.refl _ _⟩
  case round =>
    obtain ⟨wo, rfl⟩ : ∃ wo : World, wo = wr := ⟨_, rfl⟩
    obtain ⟨k, hk, rfl, HA, hb⟩ := hrel
    by_cases hlt : k < L.length
    · have hp := HP.out.step hg hb k hlt
      have hd : L.drop k = L[k] :: L.drop (k + 1) := List.drop_eq_getElem_cons hlt
      have HA2 : Hid (allOk L = (okP L[k].1 L[k].2 && allOk (L.drop (k + 1)))) := by
        show _ = _
        rw [HA.out, hd]; rfl
      obtain ⟨x, y, hxy⟩ : ∃ x y, L[k] = (x, y) := ⟨_, _, rfl⟩
      rw [hxy] at hp HA2
      obtain ⟨c1, c2⟩ := hp
      simp only at c1 c2 HA2
      clear hd hxy
      go_wp2_with fail
      refine (impl_ok _ _ _).mono ?_
      rintro e w2 ⟨rfl, hb2⟩
      have b2 := below_on (hb.alloc hb.size _) hb2
      cases hok : okP x y
      · rw [hok] at HA2
        go_wp2_with fail
        go_ret
        exact ⟨ret_bool (by rw [HA2.out]; rfl), b2⟩
      · rw [hok] at HA2
        clear c1 c2 hb2
        go_wp2_with fail
        go_roundw
        case rel => exact ⟨k + 1, by omega, by go_num, HA2, b2⟩
        case measure => simp [intOf]; omega
    · obtain rfl : k = L.length := by omega
      go_wp2_with fail
      go_ret
      exact ⟨ret_bool (by rw [HA.out]; simp [allOk]), hb⟩
theorem pts3 (w : World) (ax ay bx by' px py : Int) : Pts ((((w.alloc (.cells #[.int .i64 ax, .int .i64 ay] 54)).alloc (.cells #[.int .i64 bx, .int .i64 by'] 54)).alloc (.cells #[.int .i64 px, .int .i64 py] 54)).alloc
      (.cells #[.int .i64 ax, .int .i64 ay, .int .i64 bx, .int .i64 by', .int .i64 px, .int .i64 py] 54)) (w.heap.size + 1 + 1 + 1) [(ax, ay), (bx, by'), (px, py)] := by
  have e3 : w.heap.size + 1 + 1 + 1 = (((w.alloc (.cells #[.int .i64 ax, .int .i64 ay] 54)).alloc (.cells #[.int .i64 bx, .int .i64 by'] 54)).alloc (.cells #[.int .i64 px, .int .i64 py] 54)).heap.size := by simp
  rw [e3]
  intro k hk
  simp only [World.cell?_alloc_mark]
  have hk3 : k < 3 := hk
  match k, hk3 with
  | 0, _ => exact ⟨rfl, rfl⟩
  | 1, _ => exact ⟨rfl, rfl⟩
  | 2, _ => exact ⟨rfl, rfl⟩
theorem pts2 (w : World) (ax ay bx by' : Int) : Pts (((w.alloc (.cells #[.int .i64 ax, .int .i64 ay] 54)).alloc (.cells #[.int .i64 bx, .int .i64 by'] 54)).alloc
      (.cells #[.int .i64 ax, .int .i64 ay, .int .i64 bx, .int .i64 by'] 54)) (w.heap.size + 1 + 1) [(ax, ay), (bx, by')] := by
  have e3 : w.heap.size + 1 + 1 = ((w.alloc (.cells #[.int .i64 ax, .int .i64 ay] 54)).alloc (.cells #[.int .i64 bx, .int .i64 by'] 54)).heap.size := by simp
  rw [e3]
  intro k hk
  simp only [World.cell?_alloc_mark]
  have hk3 : k < 2 := hk
  match k, hk3 with
  | 0, _ => exact ⟨rfl, rfl⟩
  | 1, _ => exact ⟨rfl, rfl⟩
theorem pts4 (w : World) (ax ay bx by' px py qx qy : Int) : Pts (((((w.alloc (.cells #[.int .i64 ax, .int .i64 ay] 54)).alloc (.cells #[.int .i64 bx, .int .i64 by'] 54)).alloc (.cells #[.int .i64 px, .int .i64 py] 54)).alloc (.cells #[.int .i64 qx, .int .i64 qy] 54)).alloc
      (.cells #[.int .i64 ax, .int .i64 ay, .int .i64 bx, .int .i64 by', .int .i64 px, .int .i64 py, .int .i64 qx, .int .i64 qy] 54)) (w.heap.size + 1 + 1 + 1 + 1) [(ax, ay), (bx, by'), (px, py), (qx, qy)] := by
  have e3 : w.heap.size + 1 + 1 + 1 + 1 = ((((w.alloc (.cells #[.int .i64 ax, .int .i64 ay] 54)).alloc (.cells #[.int .i64 bx, .int .i64 by'] 54)).alloc (.cells #[.int .i64 px, .int .i64 py] 54)).alloc (.cells #[.int .i64 qx, .int .i64 qy] 54)).heap.size := by simp
  rw [e3]
  intro k hk
  simp only [World.cell?_alloc_mark]
  have hk3 : k < 4 := hk
  match k, hk3 with
  | 0, _ => exact ⟨rfl, rfl⟩
  | 1, _ => exact ⟨rfl, rfl⟩
  | 2, _ => exact ⟨rfl, rfl⟩
  | 3, _ => exact ⟨rfl, rfl⟩
theorem all2 (a b c d : Int) : allOk [(a, b), (c, d)] = (okP a b && okP c d) := by simp [allOk]
theorem all3 (a b c d e f : Int) : allOk [(a, b), (c, d), (e, f)] = (okP a b && okP c d && okP e f) := by simp [allOk, Bool.and_assoc]
theorem all4 (a b c d e f g h : Int) : allOk [(a, b), (c, d), (e, f), (g, h)] = (okP a b && okP c d && okP e f && okP g h) := by simp [allOk, Bool.and_assoc]
set_option maxRecDepth 100000 in
set_option maxHeartbeats 400000 in
theorem impl_cross (ax ay bx by' px py : Int) (w : World) :
    Calls Try.prog 155 #[(.agg #[.int .i64 ax, .int .i64 ay]), (.agg #[.int .i64 bx, .int .i64 by']), (.agg #[.int .i64 px, .int .i64 py])] w fun e w' => e = .returned (.int .i64 (crossV ax ay bx by' px py)) ∧ Below w.heap.size w w' := by
  have HP := Lib.hid (pts3 w ax ay bx by' px py)
  go_enter Try.func155, Try.ntmps155
  go_wp2_with fail
  refine (all_any _ _ [(ax, ay), (bx, by'), (px, py)] _ HP.out (by simp) (by simp)).mono ?_
  rintro e w1 ⟨rfl, hb1⟩
  have t1 := ((three0 w ax ay bx by' px py 54).alloc _).step hb1
  have b1 := below_on (below4 w _ _ _ _) hb1
  clear hb1 HP
  cases hok : allOk [(ax, ay), (bx, by'), (px, py)]
  · go_wp2_with fail
    go_ret
    exact ⟨ret_int (by rw [crossV, ← all3, hok]; rfl), b1⟩
  have hok' := hok
  rw [all3] at hok'
  simp only [Bool.and_eq_true] at hok'
  obtain ⟨⟨ha, hb⟩, hp⟩ := hok'
  have c1 := t1.1.c0; have c2 := t1.1.c1; have c3 := t1.2.1.c0; have c4 := t1.2.1.c1; have c5 := t1.2.2.c0; have c6 := t1.2.2.c1
  have k1 := cell_regrown c1; have k2 := cell_regrown c2; have k3 := cell_regrown c3; have k4 := cell_regrown c4; have k5 := cell_regrown c5; have k6 := cell_regrown c6
  go_wp2_with fail
  refine wp_region_quiet_below (by kernel_rfl) (by kernel_rfl) ?_
  repeat (first
    | go_big_quiet_step (first | exact Calls.regrown_of (minus_any _ _ _ _ _) | exact Calls.regrown_of (crossM_any _ _ _ _ _))
    | quiet_step (first | exact Calls.regrown_of (minus_any _ _ _ _ _) | exact Calls.regrown_of (crossM_any _ _ _ _ _)))
  refine wpQuiet_nil ?_
  intro _ hw'
  obtain ⟨⟨dq, osq⟩, hw''⟩ := hw'
  subst hw''
  have b2 := b1.trans ((below_regrown w1 dq osq).mono b1.size)
  go_wp2_with fail
  go_ret
  exact ⟨ret_int (by rw [cross_wrap ha hb hp]; simp [crossV, ha, hb, hp]), b2⟩
end Go.Proofs.Ytimkknljoeiceaa
