/-
  Walks for countCommonEnds, lineParts, HowMeet of the program.
-/
import Derived.Test.YtimkknljoeiceaaMeetFn
namespace Go.Proofs.Ytimkknljoeiceaa
open Go.RowKit

def tillE (a b c d : Int × Int) (k : Nat) : List (Int × Int) := ([a, b, c, d].take k).foldl (addE a b c d) []
theorem tillE_step {a b c d p : Int × Int} {k : Nat} (h : [a, b, c, d][k]? = some p) : tillE a b c d (k + 1) = addE a b c d (tillE a b c d k) p := by
  have hk : k < [a, b, c, d].length := (List.getElem?_eq_some_iff.1 h).1
  have hp : [a, b, c, d][k] = p := (List.getElem?_eq_some_iff.1 h).2
  rw [tillE, List.take_succ_eq_append_getElem hk, List.foldl_append, hp]; rfl
theorem idx4 (ax ay bx by' cx cy dx dy x y : Int) : ∀ (k : Nat) (_ : [(ax, ay), (bx, by'), (cx, cy), (dx, dy)][k]? = some (x, y)) (w : World),
    (Instr.index 99 (.agg #[.int .i64 ax, .int .i64 ay, .int .i64 bx, .int .i64 by', .int .i64 cx, .int .i64 cy, .int .i64 dx, .int .i64 dy]) (.int .i64 (k : Int))).run Try.prog w = .ok (.agg #[.int .i64 x, .int .i64 y]) w
  | 0, h, w => by
    obtain ⟨rfl, rfl⟩ : ax = x ∧ ay = y := by simpa using h
    simp [go_sem, Instr.index]
  | 1, h, w => by
    obtain ⟨rfl, rfl⟩ : bx = x ∧ by' = y := by simpa using h
    simp [go_sem, Instr.index]
  | 2, h, w => by
    obtain ⟨rfl, rfl⟩ : cx = x ∧ cy = y := by simpa using h
    simp [go_sem, Instr.index]
  | 3, h, w => by
    obtain ⟨rfl, rfl⟩ : dx = x ∧ dy = y := by simpa using h
    simp [go_sem, Instr.index]
  | k + 4, h, w => by simp at h
theorem tillE_len (a b c d : Int × Int) (k : Nat) : (tillE a b c d k).length ≤ 4 := by
  have : ∀ (l : List (Int × Int)) E, (l.foldl (addE a b c d) E).length ≤ E.length + l.length := by
    intro l
    induction l with
    | nil => intro E; simp
    | cons p l ih =>
      intro E
      have h1 := ih (addE a b c d E p)
      have h2 : (addE a b c d E p).length ≤ E.length + 1 := by
        unfold addE
        cases onP a b p && onP c d p && !(hasP E p.1 p.2) <;> simp
      simp only [List.foldl_cons, List.length_cons]
      omega
  have h := this ([a, b, c, d].take k) []
  have h2 : ([a, b, c, d].take k).length ≤ 4 := by rw [List.length_take]; simp; omega
  unfold tillE
  simp only [List.length_nil] at h
  omega
theorem onV_on {ax ay bx by' px py : Int} (ha : okP ax ay = true) (hb : okP bx by' = true) (hp : okP px py = true) : onV ax ay bx by' px py = onP (ax, ay) (bx, by') (px, py) := by
  rw [onV, ha, hb, hp]; rfl
set_option maxHeartbeats 4000000 in
set_option maxRecDepth 100000 in
theorem count_any (ax ay bx by' cx cy dx dy : Int) (w : World) (ha : okP ax ay = true) (hb : okP bx by' = true) (hc : okP cx cy = true) (hd : okP dx dy = true) :
    Calls Try.prog 188 #[(.agg #[.int .i64 ax, .int .i64 ay]), (.agg #[.int .i64 bx, .int .i64 by']), (.agg #[.int .i64 cx, .int .i64 cy]), (.agg #[.int .i64 dx, .int .i64 dy])] w fun e w' => e = .returned (.int .i64 (endsE (ax, ay) (bx, by') (cx, cy) (dx, dy)).length) ∧ Below w.heap.size w w' := by
  have t0 := four0 w ax ay bx by' cx cy dx dy 54
  have b0 := below4 w (.cells #[.int .i64 ax, .int .i64 ay] 54) (.cells #[.int .i64 bx, .int .i64 by'] 54) (.cells #[.int .i64 cx, .int .i64 cy] 54) (.cells #[.int .i64 dx, .int .i64 dy] 54)
  obtain ⟨i0, hi0, hz0, hz1, hz2⟩ := info_parts infoPt
  go_enter Try.func188, Try.ntmps188
  go_wp2_with fail
  generalize (((w.alloc (.cells #[.int .i64 ax, .int .i64 ay] 54)).alloc (.cells #[.int .i64 bx, .int .i64 by'] 54)).alloc (.cells #[.int .i64 cx, .int .i64 cy] 54)).alloc (.cells #[.int .i64 dx, .int .i64 dy] 54) = w1 at *
  have HT := Lib.hid t0; have HB := Lib.hid b0
  clear t0 b0
  go_loopw [9, 11, 17] (fun s _ i wr => ∃ k : Nat, k ≤ 4 ∧ i = .int .i64 k ∧ wr.ownsRow (w.heap.size + 1 + 1 + 1 + 1) 54 2 s (tillE (ax, ay) (bx, by') (cx, cy) (dx, dy) k).length (flat (tillE (ax, ay) (bx, by') (cx, cy) (dx, dy) k)) ∧
      Four wr w.heap.size ax ay bx by' cx cy dx dy 54 ∧ Below w.heap.size w wr) (fun _ _ i _ => 4 - (intOf i).toNat)
  case atStart => exact ⟨0, by omega, rfl, World.ownsRow_nil _ _ _ _, HT.out, HB.out⟩
  case round =>
    obtain ⟨wo, rfl⟩ : ∃ wo : World, wo = wr := ⟨_, rfl⟩
    obtain ⟨k, hk, rfl, hown, t1, b1⟩ := hrel
    by_cases hlt : k < 4
    · obtain ⟨x, y, hxy⟩ : ∃ x y, [(ax, ay), (bx, by'), (cx, cy), (dx, dy)][k]? = some (x, y) := ⟨_, _, List.getElem?_eq_getElem (by simpa using hlt)⟩
      have hok : okP x y = true := by
        have := List.mem_of_getElem? hxy
        simp only [List.mem_cons, Prod.mk.injEq, List.not_mem_nil, or_false] at this
        rcases this with ⟨rfl, rfl⟩ | ⟨rfl, rfl⟩ | ⟨rfl, rfl⟩ | ⟨rfl, rfl⟩ <;> assumption
      have hs := tillE_step hxy
      have hidx := fun w => idx4 ax ay bx by' cx cy dx dy x y k hxy w
      have V1 := Lib.hid (onV_on ha hb hok); have V2 := Lib.hid (onV_on hc hd hok)
      have HS := Lib.hid hs
      have hE4 := tillE_len (ax, ay) (bx, by') (cx, cy) (dx, dy) k
      generalize tillE (ax, ay) (bx, by') (cx, cy) (dx, dy) k = E at *
      clear hxy hs hok
      have u1 := t1.alloc (.cells #[.int .i64 x, .int .i64 y] 54)
      have n1 := at_new wo x y 54
      have c1 := u1.1.c0; have c2 := u1.1.c1; have c3 := u1.2.1.c0; have c4 := u1.2.1.c1
      obtain ⟨_, A, cp, rfl, _⟩ := own_pts hown
      go_wp2_with fail
      refine (impl_on _ _ _ _ _ _ _).mono ?_
      rintro e w2 ⟨rfl, hb2⟩
      have t2 := u1.step hb2
      have n2 := n1.step hb2
      have b2 := below_on (b1.alloc b1.size _) hb2
      have own2 := own_below (hown.alloc _) hb2
      clear u1 n1 t1 b1 hown hb2 c1 c2 c3 c4 hidx
      rw [V1.out]
      cases ho1 : onP (ax, ay) (bx, by') (x, y)
      · have HE : Hid (tillE (ax, ay) (bx, by') (cx, cy) (dx, dy) (k + 1) = E) := by
          show _ = _
          rw [HS.out, addE, ho1]; rfl
        have R := Lib.hid (And.intro own2 (And.intro t2 b2))
        clear own2 t2 b2 n2
        go_wp2_with fail
        go_roundw
        case rel => exact ⟨k + 1, by omega, by go_num, by rw [HE.out]; exact R.out.1, R.out.2.1, R.out.2.2⟩
        case measure => simp [intOf]; omega
      have c1 := t2.2.2.1.c0; have c2 := t2.2.2.1.c1; have c3 := t2.2.2.2.c0; have c4 := t2.2.2.2.c1; have c5 := n2.c0; have c6 := n2.c1
      go_wp2_with fail
      refine (impl_on _ _ _ _ _ _ _).mono ?_
      rintro e w3 ⟨rfl, hb3⟩
      have t3 := t2.step hb3
      have n3 := n2.step hb3
      have b3 := below_on b2 hb3
      have own3 := own_below own2 hb3
      clear t2 n2 b2 own2 hb3 c1 c2 c3 c4 c5 c6
      rw [V2.out]
      cases ho2 : onP (cx, cy) (dx, dy) (x, y)
      · have HE : Hid (tillE (ax, ay) (bx, by') (cx, cy) (dx, dy) (k + 1) = E) := by
          show _ = _
          rw [HS.out, addE, ho1, ho2]; rfl
        have R := Lib.hid (And.intro own3 (And.intro t3 b3))
        clear own3 t3 b3 n3
        go_wp2_with fail
        go_roundw
        case rel => exact ⟨k + 1, by omega, by go_num, by rw [HE.out]; exact R.out.1, R.out.2.1, R.out.2.2⟩
        case measure => simp [intOf]; omega
      have c5 := n3.c0; have c6 := n3.c1
      have HH := Lib.hid (has_any A cp E x y w3 (ptsA_of own3) (by omega))
      go_wp2_with fail
      refine HH.out.mono ?_
      rintro e w4 ⟨rfl, hb4⟩
      have t4 := t3.step hb4
      have n4 := n3.step hb4
      have b4 := below_on b3 hb4
      have own4 := own_below own3 hb4
      clear t3 n3 b3 own3 hb4 c5 c6 HH
      cases ho3 : hasP E x y
      · have HE : Hid (tillE (ax, ay) (bx, by') (cx, cy) (dx, dy) (k + 1) = E ++ [(x, y)]) := by
          show _ = _
          rw [HS.out, addE, ho1, ho2]
          show (bif true && true && !(hasP E x y) then _ else _) = _
          rw [ho3]; rfl
        have c5 := n4.c0; have c6 := n4.c1
        have hB := t4.2.2.2.lt
        go_wp2_with (at_builtin; refine wpList_append_own _ rfl _ _ 27 rfl (w.heap.size + 1 + 1 + 1 + 1) 54 i0 (.agg #[.int .i64 0, .int .i64 0]) 2 16 Try.underlying27 hi0 hz0 hz1 hz2 rfl (by decide) _ _ _ rfl (own4.alloc _) ⟨w4.heap.size, 0, none⟩ 1 1 [.int .i64 x, .int .i64 y] rfl rfl ?d1 ?d2 ?d3 ?d4 ?d5 ?_)
        case d1 => exact World.news_of_block (cs := #[.int .i64 x, .int .i64 y]) (t := 54) (fr := (0, 0)) (heap_alloc_new w4 _)
        case d2 => simp [Value.oneCell']
        case d3 => unfold maxLen; omega
        case d4 => omega
        case d5 => simp; omega
        intro v' w5 own5 hgrow _
        have hr := fun k hk => (own4.lt k hk).1
        have R : Hid (w5.ownsRow (w.heap.size + 1 + 1 + 1 + 1) 54 2 v' (E ++ [(x, y)]).length (flat (E ++ [(x, y)])) ∧ Four w5 w.heap.size ax ay bx by' cx cy dx dy 54 ∧ Below w.heap.size w w5) :=
          ⟨by rw [flat_append, List.length_append]; exact own5, (t4.alloc _).grown hgrow hr, (b4.alloc b4.size _).grown hgrow (by have := b4.size; simp; omega) (fun q hq => by have := hr q hq; omega)⟩
        clear own4 own5 hgrow t4 b4 n4 c5 c6
        go_wp2_with fail
        exact ⟨⟨k + 1, by omega, by go_num, by rw [HE.out]; exact R.out.1, R.out.2.1, R.out.2.2⟩, by simp [intOf]; omega⟩
      · have HE : Hid (tillE (ax, ay) (bx, by') (cx, cy) (dx, dy) (k + 1) = E) := by
          show _ = _
          rw [HS.out, addE, ho1, ho2]
          show (bif true && true && !(hasP E x y) then _ else _) = _
          rw [ho3]; rfl
        have R := Lib.hid (And.intro own4 (And.intro t4 b4))
        clear own4 t4 b4 n4
        go_wp2_with fail
        go_roundw
        case rel => exact ⟨k + 1, by omega, by go_num, by rw [HE.out]; exact R.out.1, R.out.2.1, R.out.2.2⟩
        case measure => simp [intOf]; omega
    · obtain rfl : k = 4 := by omega
      obtain ⟨_, A, c, rfl, _⟩ := own_pts hown
      go_wp2_with fail
      go_ret
      exact ⟨rfl, b1⟩
theorem crossV_on {ax ay bx by' px py : Int} (ha : okP ax ay = true) (hb : okP bx by' = true) (hp : okP px py = true) : crossV ax ay bx by' px py = crossP (ax, ay) (bx, by') (px, py) := by
  rw [crossV, ha, hb, hp]; rfl
set_option maxRecDepth 100000 in
set_option maxHeartbeats 1000000 in
theorem parts_any (ax ay bx by' cx cy dx dy : Int) (w : World) (ha : okP ax ay = true) (hb : okP bx by' = true) (hc : okP cx cy = true) (hd : okP dx dy = true) :
    Calls Try.prog 189 #[(.agg #[.int .i64 ax, .int .i64 ay]), (.agg #[.int .i64 bx, .int .i64 by']), (.agg #[.int .i64 cx, .int .i64 cy]), (.agg #[.int .i64 dx, .int .i64 dy])] w fun e w' => e = .returned (.bool (opp (ax, ay) (bx, by') (cx, cy) (dx, dy))) ∧ Below w.heap.size w w' := by
  have m1 := sgn_abs (crossV ax ay bx by' cx cy)
  have m2 := sgn_abs (crossV ax ay bx by' dx dy)
  have HO : Hid (opp (ax, ay) (bx, by') (cx, cy) (dx, dy) = decide (sgn (crossV ax ay bx by' cx cy) * sgn (crossV ax ay bx by' dx dy) < 0)) := by
    show _ = _
    rw [crossV_on ha hb hc, crossV_on ha hb hd]; rfl
  have hm := abs_mul m1 m2
  obtain ⟨m, em⟩ : ∃ m, m = sgn (crossV ax ay bx by' cx cy) * sgn (crossV ax ay bx by' dx dy) := ⟨_, rfl⟩
  rw [← em] at hm HO
  have e1 : sgn (crossV ax ay bx by' cx cy) * sgn (crossV ax ay bx by' dx dy) = m := em.symm
  have e2 : IntKind.i64.wrap m = m := IntWalk.i64_in _ (by omega)
  have e3 : wrap64 m = m := wrap_id (by omega)
  clear m1 m2 hm em ha hb hc hd
  go_enter Try.func189, Try.ntmps189
  go_wp2_with fail
  obtain ⟨w1, t1, b1, h1⟩ : ∃ w1, Four w1 w.heap.size ax ay bx by' cx cy dx dy 54 ∧ Below w.heap.size w w1 ∧ w1 = _ := ⟨_, four0 w ax ay bx by' cx cy dx dy 54, below4 w _ _ _ _, rfl⟩
  rw [← h1]
  clear h1
  have c1 := t1.1.c0; have c2 := t1.1.c1; have c3 := t1.2.1.c0; have c4 := t1.2.1.c1; have c5 := t1.2.2.1.c0; have c6 := t1.2.2.1.c1; have c7 := t1.2.2.2.c0; have c8 := t1.2.2.2.c1
  have k1 := cell_regrown c1; have k2 := cell_regrown c2; have k3 := cell_regrown c3; have k4 := cell_regrown c4; have k5 := cell_regrown c5; have k6 := cell_regrown c6; have k7 := cell_regrown c7; have k8 := cell_regrown c8
  refine wp_region_quiet_below (by kernel_rfl) (by kernel_rfl) ?_
  repeat (first
    | go_big_quiet_step (first | exact Calls.regrown_of (impl_side _ _ _ _ _ _ _))
    | quiet_step (first | exact Calls.regrown_of (impl_side _ _ _ _ _ _ _)))
  refine wpQuiet_nil ?_
  rintro _ ⟨⟨dq, osq⟩, rfl⟩
  have b2 := b1.trans ((below_regrown w1 dq osq).mono b1.size)
  clear k1 k2 k3 k4 k5 k6 k7 k8 c1 c2 c3 c4 c5 c6 c7 c8 t1 b1
  go_wp2_with fail
  go_ret
  exact ⟨ret_bool (by rw [HO.out]), b2⟩
theorem okQ_pair (x y : Int) : okQ (x, y) = okP x y := rfl
set_option maxRecDepth 100000 in
set_option maxHeartbeats 4000000 in
theorem impl_meet (ax ay bx by' cx cy dx dy : Int) (w : World) :
    Calls Try.prog 171 #[(.agg #[.int .i64 ax, .int .i64 ay]), (.agg #[.int .i64 bx, .int .i64 by']), (.agg #[.int .i64 cx, .int .i64 cy]), (.agg #[.int .i64 dx, .int .i64 dy])] w fun e w' => e = .returned (.int .i64 (meetV (ax, ay) (bx, by') (cx, cy) (dx, dy))) ∧ Below w.heap.size w w' := by
  have HP := Lib.hid (pts4 w ax ay bx by' cx cy dx dy)
  have GP := guard_pt
  have EP := fun w x y x' y' => eql_pt w x y x' y'
  go_enter Try.func171, Try.ntmps171
  go_wp2_with fail
  refine (all_any _ _ [(ax, ay), (bx, by'), (cx, cy), (dx, dy)] _ HP.out (by simp) (by simp)).mono ?_
  rintro e w1 ⟨rfl, hb1⟩
  have t1 := ((four0 w ax ay bx by' cx cy dx dy 54).alloc _).step hb1
  have b1 := below_on ((below4 w _ _ _ _).alloc (by simp; omega) _) hb1
  clear hb1 HP
  have HO := Lib.hid (all4 ax ay bx by' cx cy dx dy)
  cases hok : allOk [(ax, ay), (bx, by'), (cx, cy), (dx, dy)]
  · go_wp2_with fail
    go_ret
    exact ⟨ret_int (by simp only [meetV, okQ_pair]; rw [← HO.out, hok]; rfl), b1⟩
  have hok2 := HO.out.symm
  rw [hok] at hok2
  simp only [Bool.and_eq_true] at hok2
  obtain ⟨⟨⟨ha, hb⟩, hc⟩, hd⟩ := hok2
  have c1 := t1.1.c0; have c2 := t1.1.c1; have c3 := t1.2.1.c0; have c4 := t1.2.1.c1; have c5 := t1.2.2.1.c0; have c6 := t1.2.2.1.c1; have c7 := t1.2.2.2.c0; have c8 := t1.2.2.2.c1
  cases hab : (ax == bx && ay == by')
  case true =>
    go_wp2_with fail
    go_ret
    exact ⟨ret_int (by simp only [meetV, okQ_pair, eqQ]; rw [← HO.out, hok, hab]; rfl), b1⟩
  cases hcd : (cx == dx && cy == dy)
  case true =>
    go_wp2_with fail
    go_ret
    exact ⟨ret_int (by simp only [meetV, okQ_pair, eqQ]; rw [← HO.out, hok, hab, hcd]; rfl), b1⟩
  have HM : Hid (meetV (ax, ay) (bx, by') (cx, cy) (dx, dy) = meetI (ax, ay) (bx, by') (cx, cy) (dx, dy)) := by
    show _ = _
    simp only [meetV, okQ_pair, eqQ]; rw [← HO.out, hok, hab, hcd]; rfl
  have HC := Lib.hid (fun w => count_any ax ay bx by' cx cy dx dy w ha hb hc hd)
  have H1 := Lib.hid (fun w => parts_any ax ay bx by' cx cy dx dy w ha hb hc hd)
  have H2 := Lib.hid (fun w => parts_any cx cy dx dy ax ay bx by' w hc hd ha hb)
  clear ha hb hc hd
  go_wp2_with fail
  refine (HC.out _).mono ?_
  rintro e w2 ⟨rfl, hb2⟩
  have t2 := t1.step hb2
  have b2 := below_on b1 hb2
  clear hb2 t1 b1 c1 c2 c3 c4 c5 c6 c7 c8 hok hab hcd HO
  have hz := fun h => ends_zero (a := (ax, ay)) (b := (bx, by')) (c := (cx, cy)) (d := (dx, dy)) h
  have hs := fun h => ends_some (a := (ax, ay)) (b := (bx, by')) (c := (cx, cy)) (d := (dx, dy)) h
  generalize (endsE (ax, ay) (bx, by') (cx, cy) (dx, dy)).length = m at *
  have HZ := Lib.hid hz; have HS := Lib.hid hs
  clear hz hs
  rcases Nat.lt_or_ge m 1 with hm | hm
  · obtain rfl : m = 0 := by omega
    have HV := Lib.hid (HZ.out rfl)
    have c1 := t2.1.c0; have c2 := t2.1.c1; have c3 := t2.2.1.c0; have c4 := t2.2.1.c1; have c5 := t2.2.2.1.c0; have c6 := t2.2.2.1.c1; have c7 := t2.2.2.2.c0; have c8 := t2.2.2.2.c1
    clear hm
    go_wp2_with fail
    refine (H1.out _).mono ?_
    rintro e w3 ⟨rfl, hb3⟩
    have t3 := t2.step hb3
    have b3 := below_on b2 hb3
    clear hb3 t2 b2 c1 c2 c3 c4 c5 c6 c7 c8
    cases ho : opp (ax, ay) (bx, by') (cx, cy) (dx, dy)
    · go_wp2_with fail
      go_ret
      exact ⟨ret_int (by rw [HM.out, HV.out, ho]; rfl), b3⟩
    have c1 := t3.1.c0; have c2 := t3.1.c1; have c3 := t3.2.1.c0; have c4 := t3.2.1.c1; have c5 := t3.2.2.1.c0; have c6 := t3.2.2.1.c1; have c7 := t3.2.2.2.c0; have c8 := t3.2.2.2.c1
    go_wp2_with fail
    refine (H2.out _).mono ?_
    rintro e w4 ⟨rfl, hb4⟩
    have b4 := below_on b3 hb4
    clear hb4 t3 b3 c1 c2 c3 c4 c5 c6 c7 c8
    cases ho2 : opp (cx, cy) (dx, dy) (ax, ay) (bx, by')
    · go_wp2_with fail
      go_ret
      exact ⟨ret_int (by rw [HM.out, HV.out, ho, ho2]; rfl), b4⟩
    · go_wp2_with fail
      go_ret
      exact ⟨ret_int (by rw [HM.out, HV.out, ho, ho2]; rfl), b4⟩
  · have HV := Lib.hid (HS.out hm)
    by_cases h1 : m = 1
    · subst h1
      clear hm
      go_wp2_with fail
      go_ret
      exact ⟨ret_int (by rw [HM.out, HV.out]; rfl), b2⟩
    · have e0 : ((m : Int) == 0) = false := by simp; omega
      have e1 : ((m : Int) == 1) = false := by simp; omega
      have HV2 : Hid (meetI (ax, ay) (bx, by') (cx, cy) (dx, dy) = 3) := by
        show _ = _
        rw [HV.out, if_neg h1]
      clear hm h1
      go_wp2_with fail
      go_ret
      exact ⟨ret_int (by rw [HM.out, HV2.out]), b2⟩
end Go.Proofs.Ytimkknljoeiceaa
