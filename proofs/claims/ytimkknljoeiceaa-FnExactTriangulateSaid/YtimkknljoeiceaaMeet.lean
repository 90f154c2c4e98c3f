/-
  Walks for l02Meet and HowMeet of the model.
-/
import Derived.Test.YtimkknljoeiceaaMeetFn
namespace Go.Proofs.Ytimkknljoeiceaa
open Go.RowKit

theorem crossS_sm (ax ay bx by' px py : Int) (w : World) (ha : smP ax ay = true) (hb : smP bx by' = true) (hp : smP px py = true) :
    Calls Try.prog 167 #[(.agg #[.int .i64 ax, .int .i64 ay]), (.agg #[.int .i64 bx, .int .i64 by']), (.agg #[.int .i64 px, .int .i64 py])] w fun e w' => e = .returned (.int .i64 (crossP (ax, ay) (bx, by') (px, py))) ∧ Below w.heap.size w w' := by
  have h := crossS_any ax ay bx by' px py w
  rw [cross_wrap_sm ha hb hp] at h
  exact h
theorem crossS_on (ax ay bx by' px py : Int) (w : World) (ha : okP ax ay = true) (hb : okP bx by' = true) (hp : okP px py = true) :
    Calls Try.prog 167 #[(.agg #[.int .i64 ax, .int .i64 ay]), (.agg #[.int .i64 bx, .int .i64 by']), (.agg #[.int .i64 px, .int .i64 py])] w fun e w' => e = .returned (.int .i64 (crossP (ax, ay) (bx, by') (px, py))) ∧ Below w.heap.size w w' := crossS_sm ax ay bx by' px py w (smP_ok ha) (smP_ok hb) (smP_ok hp)
theorem on_sm' (ax ay bx by' px py : Int) (w : World) (ha : smP ax ay = true) (hb : smP bx by' = true) (hp : smP px py = true) :
    Calls Try.prog 168 #[(.agg #[.int .i64 ax, .int .i64 ay]), (.agg #[.int .i64 bx, .int .i64 by']), (.agg #[.int .i64 px, .int .i64 py])] w fun e w' => e = .returned (.bool (onP (ax, ay) (bx, by') (px, py))) ∧ Below w.heap.size w w' := on_sm ax ay bx by' px py w ha hb hp
theorem on_any' (ax ay bx by' px py : Int) (w : World) (ha : okP ax ay = true) (hb : okP bx by' = true) (hp : okP px py = true) :
    Calls Try.prog 168 #[(.agg #[.int .i64 ax, .int .i64 ay]), (.agg #[.int .i64 bx, .int .i64 by']), (.agg #[.int .i64 px, .int .i64 py])] w fun e w' => e = .returned (.bool (onP (ax, ay) (bx, by') (px, py))) ∧ Below w.heap.size w w' := on_any ax ay bx by' px py w ha hb hp
/-- What a filter has let by of the first k. -/
def tillF (f : Int × Int → Bool) (L : List (Int × Int)) (k : Nat) : List (Int × Int) := (L.take k).filter f
theorem tillF_step {f : Int × Int → Bool} {L : List (Int × Int)} {p : Int × Int} {k : Nat} (h : L[k]? = some p) : tillF f L (k + 1) = bif f p then tillF f L k ++ [p] else tillF f L k := by
  have hk : k < L.length := (List.getElem?_eq_some_iff.1 h).1
  have hp : L[k] = p := (List.getElem?_eq_some_iff.1 h).2
  rw [tillF, List.take_succ_eq_append_getElem hk, List.filter_append, hp]
  cases hf : f p <;> simp [tillF, hf]
theorem tillF_len (f : Int × Int → Bool) (L : List (Int × Int)) (k : Nat) : (tillF f L k).length ≤ L.length := by
  unfold tillF
  exact Nat.le_trans (List.length_filter_le _ _) (by rw [List.length_take]; omega)
theorem same_iff (M : List (Int × Int)) (h0 : 0 < M.length) : sameAll M = true ↔ ∀ j (hj : j < M.length), M[j].1 = (M[0]).1 ∧ M[j].2 = (M[0]).2 := by
  cases M with
  | nil => simp at h0
  | cons p t =>
    simp only [sameAll, List.all_eq_true, Bool.and_eq_true, beq_iff_eq]
    constructor
    · intro h j hj
      cases j with
      | zero => exact ⟨rfl, rfl⟩
      | succ j => exact h _ (List.getElem_mem (by simpa using hj))
    · intro h y hy
      obtain ⟨j, hj, rfl⟩ := List.getElem_of_mem hy
      exact h (j + 1) (by simpa using hj)
set_option maxHeartbeats 8000000 in
set_option maxRecDepth 100000 in
theorem meet_any (ax ay bx by' cx cy dx dy : Int) (w : World) (ha : okP ax ay = true) (hb : okP bx by' = true) (hc : okP cx cy = true) (hd : okP dx dy = true) :
    Calls Try.prog 121 #[(.agg #[.int .i64 ax, .int .i64 ay]), (.agg #[.int .i64 bx, .int .i64 by']), (.agg #[.int .i64 cx, .int .i64 cy]), (.agg #[.int .i64 dx, .int .i64 dy])] w fun e w' => e = .returned (.int .i64 (meetI (ax, ay) (bx, by') (cx, cy) (dx, dy))) ∧ Below w.heap.size w w' := by
  obtain ⟨i0, hi0, hz0, hz1, hz2⟩ := info_parts infoPt
  have GP := guard_pt
  have EP := fun w x y x' y' => neq_pt w x y x' y'
  have A1 := Lib.hid (fun w => crossS_on ax ay bx by' cx cy w ha hb hc)
  have A2 := Lib.hid (fun w => crossS_on ax ay bx by' dx dy w ha hb hd)
  have A3 := Lib.hid (fun w => crossS_on cx cy dx dy ax ay w hc hd ha)
  have A4 := Lib.hid (fun w => crossS_on cx cy dx dy bx by' w hc hd hb)
  have m1 := abs_mul (sgn_abs (crossP (ax, ay) (bx, by') (cx, cy))) (sgn_abs (crossP (ax, ay) (bx, by') (dx, dy)))
  have m2 := abs_mul (sgn_abs (crossP (cx, cy) (dx, dy) (ax, ay))) (sgn_abs (crossP (cx, cy) (dx, dy) (bx, by')))
  have HM : Hid (meetI (ax, ay) (bx, by') (cx, cy) (dx, dy) = bif decide (sgn (crossP (ax, ay) (bx, by') (cx, cy)) * sgn (crossP (ax, ay) (bx, by') (dx, dy)) < 0) && decide (sgn (crossP (cx, cy) (dx, dy) (ax, ay)) * sgn (crossP (cx, cy) (dx, dy) (bx, by')) < 0) then 2 else
      bif (sharedS (ax, ay) (bx, by') (cx, cy) (dx, dy)).isEmpty then 0 else bif sameAll (sharedS (ax, ay) (bx, by') (cx, cy) (dx, dy)) then 1 else 3) := rfl
  obtain ⟨u, eu⟩ : ∃ u, u = sgn (crossP (ax, ay) (bx, by') (cx, cy)) * sgn (crossP (ax, ay) (bx, by') (dx, dy)) := ⟨_, rfl⟩
  obtain ⟨v, ev⟩ : ∃ v, v = sgn (crossP (cx, cy) (dx, dy) (ax, ay)) * sgn (crossP (cx, cy) (dx, dy) (bx, by')) := ⟨_, rfl⟩
  rw [← eu] at m1 HM
  rw [← ev] at m2 HM
  have e1 := eu.symm; have e2 := ev.symm
  have e3 : wrap64 u = u := wrap_id (by omega)
  have e4 : wrap64 v = v := wrap_id (by omega)
  have e5 : IntKind.i64.wrap u = u := IntWalk.i64_in _ (by omega)
  have e6 : IntKind.i64.wrap v = v := IntWalk.i64_in _ (by omega)
  clear m1 m2 eu ev
  have HA := Lib.hid ha; have HB := Lib.hid hb; have HC := Lib.hid hc; have HD := Lib.hid hd
  clear ha hb hc hd
  go_enter Try.func121, Try.ntmps121
  go_wp2_with fail
  refine (A1.out _).mono ?_
  rintro e w1 ⟨rfl, hb1⟩
  have t1 := (four0 w ax ay bx by' cx cy dx dy 54).step hb1
  have b1 := below_on (below4 w _ _ _ _) hb1
  clear hb1
  have c1 := t1.1.c0; have c2 := t1.1.c1; have c3 := t1.2.1.c0; have c4 := t1.2.1.c1; have c5 := t1.2.2.1.c0; have c6 := t1.2.2.1.c1; have c7 := t1.2.2.2.c0; have c8 := t1.2.2.2.c1
  go_wp2_with fail
  refine (sign_any _ _).mono ?_
  rintro e _ ⟨rfl, rfl⟩
  go_wp2_with fail
  refine (A2.out _).mono ?_
  rintro e w2 ⟨rfl, hb2⟩
  have t2 := t1.step hb2
  have b2 := below_on b1 hb2
  clear hb2 t1 b1
  clear c1 c2 c3 c4 c5 c6 c7 c8
  have c1 := t2.1.c0; have c2 := t2.1.c1; have c3 := t2.2.1.c0; have c4 := t2.2.1.c1; have c5 := t2.2.2.1.c0; have c6 := t2.2.2.1.c1; have c7 := t2.2.2.2.c0; have c8 := t2.2.2.2.c1
  go_wp2_with fail
  refine (sign_any _ _).mono ?_
  rintro e _ ⟨rfl, rfl⟩
  go_wp2_with fail
  refine (A3.out _).mono ?_
  rintro e w3 ⟨rfl, hb3⟩
  have t3 := t2.step hb3
  have b3 := below_on b2 hb3
  clear hb3 t2 b2
  clear c1 c2 c3 c4 c5 c6 c7 c8
  have c1 := t3.1.c0; have c2 := t3.1.c1; have c3 := t3.2.1.c0; have c4 := t3.2.1.c1; have c5 := t3.2.2.1.c0; have c6 := t3.2.2.1.c1; have c7 := t3.2.2.2.c0; have c8 := t3.2.2.2.c1
  go_wp2_with fail
  refine (sign_any _ _).mono ?_
  rintro e _ ⟨rfl, rfl⟩
  go_wp2_with fail
  refine (A4.out _).mono ?_
  rintro e w4 ⟨rfl, hb4⟩
  have t4 := t3.step hb4
  have b4 := below_on b3 hb4
  clear hb4 t3 b3
  clear c1 c2 c3 c4 c5 c6 c7 c8
  cases h1 : (decide (u < 0) && decide (v < 0))
  case true =>
    have h2 : decide (u < 0) = true := by cases h : decide (u < 0) <;> simp_all
    have h3 : decide (v < 0) = true := by cases h : decide (v < 0) <;> simp_all
    have HR : Hid (meetI (ax, ay) (bx, by') (cx, cy) (dx, dy) = 2) := by
      show _ = _
      rw [HM.out, h1]; rfl
    clear h1
    go_wp2_with fail
    refine (sign_any _ _).mono ?_
    rintro e _ ⟨rfl, rfl⟩
    go_wp2_with fail
    go_ret
    exact ⟨ret_int HR.out.symm, b4⟩
  have HR : Hid (meetI (ax, ay) (bx, by') (cx, cy) (dx, dy) = bif (sharedS (ax, ay) (bx, by') (cx, cy) (dx, dy)).isEmpty then 0 else bif sameAll (sharedS (ax, ay) (bx, by') (cx, cy) (dx, dy)) then 1 else 3) := by
    show _ = _
    rw [HM.out, h1]; rfl
  have hd' : decide (u < 0) = false ∨ (decide (u < 0) = true ∧ decide (v < 0) = false) := by
    cases h : decide (u < 0) <;> simp_all
  clear h1 HM
  have own0 := (World.ownsRow_lit (base := w4.heap.size) (e := 54) (size := 2) w4 #[] 0 (Nat.le_refl _) (by decide) rfl).alloc (.cells #[.int .i64 ax, .int .i64 ay, .int .i64 bx, .int .i64 by'] 54)
  have hP0 := pts2_new (w4.alloc (.cells #[] 54)) ax ay bx by'
  rw [size_alloc] at hP0
  have H4 : Hid (w.heap.size + 1 + 1 + 1 < w4.heap.size) := t4.2.2.2.lt
  have u4 := t4.alloc (.cells #[] 54)
  have c1 := u4.1.c0; have c2 := u4.1.c1; have c3 := u4.2.1.c0; have c4 := u4.2.1.c1
  rcases hd' with hd1 | ⟨hd1, hd2⟩
  all_goals
    go_wp2_with fail
    refine (sign_any _ _).mono ?_
    rintro e w4 ⟨rfl, rfl⟩
    go_wp2_with fail
    clear c1 c2 c3 c4 u4
    go_loopw [13, 15, 55] (fun s _ i wr => ∃ (k g cap : Nat) (M : List (Int × Int)), k ≤ 2 ∧ i = .int .i64 k ∧ s = .slice (some ⟨g, 0, none⟩) M.length cap ∧ Hid (M = tillF (onP (cx, cy) (dx, dy)) [(ax, ay), (bx, by')] k) ∧ wr.ownsRow w4.heap.size 54 2 (.slice (some ⟨g, 0, none⟩) M.length cap) M.length (flat M) ∧
        g ≠ w4.heap.size + 1 ∧ w4.heap.size + 1 < wr.heap.size ∧ Four wr w.heap.size ax ay bx by' cx cy dx dy 54 ∧ Pts wr (w4.heap.size + 1) [(ax, ay), (bx, by')] ∧ Below w.heap.size w wr) (fun _ _ i _ => 2 - (intOf i).toNat)
    case atStart => exact ⟨0, w4.heap.size, 0, [], by omega, rfl, rfl, rfl, own0, by omega, by simp, (t4.alloc _).alloc _, hP0, (b4.alloc b4.size _).alloc (by have := b4.size; simp; omega) _⟩
    case round =>
      obtain ⟨wo, rfl⟩ : ∃ wo : World, wo = wr := ⟨_, rfl⟩
      clear own0 t4 b4 hP0
      obtain ⟨k, g, cp, M, hk, rfl, rfl, HMM, hown, hgs, hgl, t1, hP, b1⟩ := hrel
      by_cases hlt : k < 2
      · obtain ⟨x, y, hxy⟩ : ∃ x y, [(ax, ay), (bx, by')][k]? = some (x, y) := ⟨_, _, List.getElem?_eq_getElem (by simpa using hlt)⟩
        have hok : okP x y = true := by
          have := List.mem_of_getElem? hxy
          simp only [List.mem_cons, Prod.mk.injEq, List.not_mem_nil, or_false] at this
          rcases this with ⟨rfl, rfl⟩ | ⟨rfl, rfl⟩
          · exact HA.out
          · exact HB.out
        have hpk := hP k (by simpa using hlt)
        have hLk : [(ax, ay), (bx, by')][k]'(by simpa using hlt) = (x, y) := (List.getElem?_eq_some_iff.1 hxy).2
        rw [hLk] at hpk
        obtain ⟨p1, p2⟩ := hpk
        simp only at p1 p2
        have hs := tillF_step (f := (onP (cx, cy) (dx, dy))) hxy
        have hE4 : M.length ≤ 4 := by
          have h1 := tillF_len (onP (cx, cy) (dx, dy)) [(ax, ay), (bx, by')] k
          rw [HMM.out]
          simp only [List.length_cons, List.length_nil] at *
          omega
        have HON := Lib.hid (fun w => on_any' cx cy dx dy x y w HC.out HD.out hok)
        have HS : Hid (tillF (onP (cx, cy) (dx, dy)) [(ax, ay), (bx, by')] (k + 1) = bif (onP (cx, cy) (dx, dy)) (x, y) then M ++ [(x, y)] else M) := by
          show _ = _
          rw [HMM.out, hs]
          try (cases (onP (cx, cy) (dx, dy)) (x, y) <;> simp)
        clear hxy hs hLk hok HMM
        have u1 := t1.alloc (.cells #[.int .i64 x, .int .i64 y] 54)
        have n1 := at_new wo x y 54
        have hP1 := hP.alloc hgl (.cells #[.int .i64 x, .int .i64 y] 54)
        have c1 := u1.2.2.1.c0; have c2 := u1.2.2.1.c1; have c3 := u1.2.2.2.c0; have c4 := u1.2.2.2.c1
        go_wp2_with fail
        refine (HON.out _).mono ?_
        rintro e w2 ⟨rfl, hb2⟩
        have t2 := u1.step hb2
        have n2 := n1.step hb2
        have hP2 := hP1.step (by simp; omega) hb2
        have b2 := below_on (b1.alloc b1.size _) hb2
        have own2 := own_below (hown.alloc _) hb2
        have hgl2 : w4.heap.size + 1 < w2.heap.size := by have := hb2.size; simp at this; omega
        clear u1 n1 t1 b1 hown hb2 c1 c2 c3 c4 hP hP1 p1 p2 HON
        cases ho1 : (onP (cx, cy) (dx, dy)) (x, y)
        · have HE : Hid (M = tillF (onP (cx, cy) (dx, dy)) [(ax, ay), (bx, by')] (k + 1)) := by
            show _ = _
            rw [HS.out, ho1]; rfl
          have R := Lib.hid (And.intro own2 (And.intro t2 (And.intro hP2 b2)))
          clear own2 t2 b2 n2 hP2
          go_wp2_with fail
          go_roundw
          case rel => exact ⟨k + 1, g, cp, M, by omega, by go_num, rfl, HE, R.out.1, hgs, hgl2, R.out.2.1, R.out.2.2.1, R.out.2.2.2⟩
          case measure => simp [intOf]; omega
        · have HE : Hid (M ++ [(x, y)] = tillF (onP (cx, cy) (dx, dy)) [(ax, ay), (bx, by')] (k + 1)) := by
            show _ = _
            rw [HS.out, ho1]; rfl
          have c5 := n2.c0; have c6 := n2.c1
          have hB := t2.2.2.2.lt
          go_wp2_with (at_builtin; refine wpList_append_lies _ rfl _ _ 27 rfl w4.heap.size 54 i0 (.agg #[.int .i64 0, .int .i64 0]) 2 16 Try.underlying27 hi0 hz0 hz1 hz2 rfl (by decide) _ _ _ rfl (own2.alloc _) ⟨w2.heap.size, 0, none⟩ 1 1 [.int .i64 x, .int .i64 y] rfl rfl ?d1 ?d2 (by omega) ?d3 ?d4 ?d5 (w2.heap.size + 1) (by simp) ?_)
          case d1 => exact World.news_of_block (cs := #[.int .i64 x, .int .i64 y]) (t := 54) (fr := (0, 0)) (heap_alloc_new w2 _)
          case d2 => simp [Value.oneCell']
          case d3 => unfold maxLen; omega
          case d4 => omega
          case d5 => have := (own2.lt g rfl); simp; omega
          intro g5 cp5 w5 own5 hgrow hat _
          have hr := fun k hk => (own2.lt k hk).1
          have hw4 : w.heap.size + 1 + 1 + 1 < w4.heap.size := H4.out
          have hg5 : g5 ≠ w4.heap.size + 1 := by
            rcases hat with hat | hat
            · simp [Value.ownBlock] at hat; omega
            · omega
          have HN : Hid ((M ++ [(x, y)]).length = M.length + 1) := by simp [Hid]
          have R : Hid (w5.ownsRow w4.heap.size 54 2 (.slice (some ⟨g5, 0, none⟩) (M ++ [(x, y)]).length cp5) (M ++ [(x, y)]).length (flat (M ++ [(x, y)])) ∧ Four w5 w.heap.size ax ay bx by' cx cy dx dy 54 ∧ Pts w5 (w4.heap.size + 1) [(ax, ay), (bx, by')] ∧ Below w.heap.size w w5 ∧ w4.heap.size + 1 < w5.heap.size) :=
            ⟨by rw [flat_append, HN.out]; exact own5, (t2.alloc _).grown hgrow (fun q hq => by have := hr q hq; omega), (hP2.alloc hgl2 _).grown hgrow (by simp [Value.ownBlock]; omega),
              (b2.alloc b2.size _).grown hgrow (by have := b2.size; simp; omega) (fun q hq => by have := hr q hq; omega), by have := hgrow.size; simp at this; omega⟩
          clear own2 own5 hgrow t2 b2 n2 c5 c6 hP2
          go_wp2_with fail
          exact ⟨⟨k + 1, g5, cp5, M ++ [(x, y)], by omega, by go_num, by rw [HN.out], HE, R.out.1, hg5, R.out.2.2.2.2, R.out.2.1, R.out.2.2.1, R.out.2.2.2.1⟩, by simp [intOf]; omega⟩
      · have HK := Lib.hid (show k = 2 by omega)
        replace HMM : Hid (M = tillF (onP (cx, cy) (dx, dy)) [(ax, ay), (bx, by')] 2) := by
          show _ = _
          rw [HMM.out, HK.out]
        have S1len : M.length ≤ 2 := by rw [HMM.out]; simpa using tillF_len (onP (cx, cy) (dx, dy)) [(ax, ay), (bx, by')] 2
        have HSH : Hid (sharedS (ax, ay) (bx, by') (cx, cy) (dx, dy) = M ++ tillF (onP (ax, ay) (bx, by')) [(cx, cy), (dx, dy)] 2) := by
          show _ = _
          rw [HMM.out]; rfl
        obtain ⟨w6, e6⟩ : ∃ w6 : World, w6 = wo := ⟨_, rfl⟩
        obtain ⟨S1, eS⟩ : ∃ S1 : List (Int × Int), S1 = M := ⟨_, rfl⟩
        have hlt6 := (hown.lt g rfl).2
        rw [← e6] at hown t1 b1 hlt6 ⊢
        rw [← eS] at hown HSH S1len ⊢
        clear e6 hP hgl hgs HMM eS
        have own6 := hown; have t6 := t1; have b6 := b1
        clear hown t1 b1
        have c1 := t6.2.2.1.c0; have c2 := t6.2.2.1.c1; have c3 := t6.2.2.2.c0; have c4 := t6.2.2.2.c1
        go_wp2_with fail
        clear c1 c2 c3 c4
        go_loopw [13, 17, 72] (fun s _ i wr => ∃ (k g cap : Nat) (M : List (Int × Int)), k ≤ 2 ∧ i = .int .i64 k ∧ s = .slice (some ⟨g, 0, none⟩) M.length cap ∧ Hid (M = S1 ++ tillF (onP (ax, ay) (bx, by')) [(cx, cy), (dx, dy)] k) ∧ wr.ownsRow w4.heap.size 54 2 (.slice (some ⟨g, 0, none⟩) M.length cap) M.length (flat M) ∧
            g ≠ w6.heap.size ∧ w6.heap.size < wr.heap.size ∧ Four wr w.heap.size ax ay bx by' cx cy dx dy 54 ∧ Pts wr (w6.heap.size) [(cx, cy), (dx, dy)] ∧ Below w.heap.size w wr) (fun _ _ i _ => 2 - (intOf i).toNat)
        case atStart => exact ⟨0, g, cp, S1, by omega, rfl, rfl, by simp [Hid, tillF], own6.alloc _, by omega, by simp, t6.alloc _, pts2_new w6 cx cy dx dy, b6.alloc b6.size _⟩
        case round =>
          obtain ⟨wo, rfl⟩ : ∃ wo : World, wo = wr := ⟨_, rfl⟩
          clear own6 t6 b6
          obtain ⟨k, g, cp, M, hk, rfl, rfl, HMM, hown, hgs, hgl, t1, hP, b1⟩ := hrel
          by_cases hlt : k < 2
          · obtain ⟨x, y, hxy⟩ : ∃ x y, [(cx, cy), (dx, dy)][k]? = some (x, y) := ⟨_, _, List.getElem?_eq_getElem (by simpa using hlt)⟩
            have hok : okP x y = true := by
              have := List.mem_of_getElem? hxy
              simp only [List.mem_cons, Prod.mk.injEq, List.not_mem_nil, or_false] at this
              rcases this with ⟨rfl, rfl⟩ | ⟨rfl, rfl⟩
              · exact HC.out
              · exact HD.out
            have hpk := hP k (by simpa using hlt)
            have hLk : [(cx, cy), (dx, dy)][k]'(by simpa using hlt) = (x, y) := (List.getElem?_eq_some_iff.1 hxy).2
            rw [hLk] at hpk
            obtain ⟨p1, p2⟩ := hpk
            simp only at p1 p2
            have hs := tillF_step (f := (onP (ax, ay) (bx, by'))) hxy
            have hE4 : M.length ≤ 4 := by
              have h1 := tillF_len (onP (ax, ay) (bx, by')) [(cx, cy), (dx, dy)] k
              rw [HMM.out]
              simp only [List.length_append, List.length_cons, List.length_nil] at *
              omega
            have HON := Lib.hid (fun w => on_any' ax ay bx by' x y w HA.out HB.out hok)
            have HS : Hid (S1 ++ tillF (onP (ax, ay) (bx, by')) [(cx, cy), (dx, dy)] (k + 1) = bif (onP (ax, ay) (bx, by')) (x, y) then M ++ [(x, y)] else M) := by
              show _ = _
              rw [HMM.out, hs]
              try (cases (onP (ax, ay) (bx, by')) (x, y) <;> simp)
            clear hxy hs hLk hok HMM
            have u1 := t1.alloc (.cells #[.int .i64 x, .int .i64 y] 54)
            have n1 := at_new wo x y 54
            have hP1 := hP.alloc hgl (.cells #[.int .i64 x, .int .i64 y] 54)
            have c1 := u1.1.c0; have c2 := u1.1.c1; have c3 := u1.2.1.c0; have c4 := u1.2.1.c1
            go_wp2_with fail
            refine (HON.out _).mono ?_
            rintro e w2 ⟨rfl, hb2⟩
            have t2 := u1.step hb2
            have n2 := n1.step hb2
            have hP2 := hP1.step (by simp; omega) hb2
            have b2 := below_on (b1.alloc b1.size _) hb2
            have own2 := own_below (hown.alloc _) hb2
            have hgl2 : w6.heap.size < w2.heap.size := by have := hb2.size; simp at this; omega
            clear u1 n1 t1 b1 hown hb2 c1 c2 c3 c4 hP hP1 p1 p2 HON
            cases ho1 : (onP (ax, ay) (bx, by')) (x, y)
            · have HE : Hid (M = S1 ++ tillF (onP (ax, ay) (bx, by')) [(cx, cy), (dx, dy)] (k + 1)) := by
                show _ = _
                rw [HS.out, ho1]; rfl
              have R := Lib.hid (And.intro own2 (And.intro t2 (And.intro hP2 b2)))
              clear own2 t2 b2 n2 hP2
              go_wp2_with fail
              go_roundw
              case rel => exact ⟨k + 1, g, cp, M, by omega, by go_num, rfl, HE, R.out.1, hgs, hgl2, R.out.2.1, R.out.2.2.1, R.out.2.2.2⟩
              case measure => simp [intOf]; omega
            · have HE : Hid (M ++ [(x, y)] = S1 ++ tillF (onP (ax, ay) (bx, by')) [(cx, cy), (dx, dy)] (k + 1)) := by
                show _ = _
                rw [HS.out, ho1]; rfl
              have c5 := n2.c0; have c6 := n2.c1
              have hB := t2.2.2.2.lt
              go_wp2_with (at_builtin; refine wpList_append_lies _ rfl _ _ 27 rfl w4.heap.size 54 i0 (.agg #[.int .i64 0, .int .i64 0]) 2 16 Try.underlying27 hi0 hz0 hz1 hz2 rfl (by decide) _ _ _ rfl (own2.alloc _) ⟨w2.heap.size, 0, none⟩ 1 1 [.int .i64 x, .int .i64 y] rfl rfl ?d1 ?d2 (by omega) ?d3 ?d4 ?d5 (w2.heap.size + 1) (by simp) ?_)
              case d1 => exact World.news_of_block (cs := #[.int .i64 x, .int .i64 y]) (t := 54) (fr := (0, 0)) (heap_alloc_new w2 _)
              case d2 => simp [Value.oneCell']
              case d3 => unfold maxLen; omega
              case d4 => omega
              case d5 => have := (own2.lt g rfl); simp; omega
              intro g5 cp5 w5 own5 hgrow hat _
              have hr := fun k hk => (own2.lt k hk).1
              have hw4 : w.heap.size + 1 + 1 + 1 < w4.heap.size := H4.out
              have hg5 : g5 ≠ w6.heap.size := by
                rcases hat with hat | hat
                · simp [Value.ownBlock] at hat; omega
                · omega
              have HN : Hid ((M ++ [(x, y)]).length = M.length + 1) := by simp [Hid]
              have R : Hid (w5.ownsRow w4.heap.size 54 2 (.slice (some ⟨g5, 0, none⟩) (M ++ [(x, y)]).length cp5) (M ++ [(x, y)]).length (flat (M ++ [(x, y)])) ∧ Four w5 w.heap.size ax ay bx by' cx cy dx dy 54 ∧ Pts w5 (w6.heap.size) [(cx, cy), (dx, dy)] ∧ Below w.heap.size w w5 ∧ w6.heap.size < w5.heap.size) :=
                ⟨by rw [flat_append, HN.out]; exact own5, (t2.alloc _).grown hgrow (fun q hq => by have := hr q hq; omega), (hP2.alloc hgl2 _).grown hgrow (by simp [Value.ownBlock]; omega),
                  (b2.alloc b2.size _).grown hgrow (by have := b2.size; simp; omega) (fun q hq => by have := hr q hq; omega), by have := hgrow.size; simp at this; omega⟩
              clear own2 own5 hgrow t2 b2 n2 c5 c6 hP2
              go_wp2_with fail
              exact ⟨⟨k + 1, g5, cp5, M ++ [(x, y)], by omega, by go_num, by rw [HN.out], HE, R.out.1, hg5, R.out.2.2.2.2, R.out.2.1, R.out.2.2.1, R.out.2.2.2.1⟩, by simp [intOf]; omega⟩
          · have HK := Lib.hid (show k = 2 by omega)
            replace HMM : Hid (M = S1 ++ tillF (onP (ax, ay) (bx, by')) [(cx, cy), (dx, dy)] 2) := by
              show _ = _
              rw [HMM.out, HK.out]
            have HS2 : Hid (sharedS (ax, ay) (bx, by') (cx, cy) (dx, dy) = M) := by
              show _ = _
              rw [HSH.out, HMM.out]
            have hl4 : M.length ≤ 4 := by
              have h1 := tillF_len (onP (ax, ay) (bx, by')) [(cx, cy), (dx, dy)] 2
              rw [HMM.out]
              simp only [List.length_append, List.length_cons, List.length_nil] at *
              omega
            have HRS : Hid (meetI (ax, ay) (bx, by') (cx, cy) (dx, dy) = bif M.isEmpty then 0 else bif sameAll M then 1 else 3) := by
              show _ = _
              rw [HR.out, HS2.out]
            have HPA := Lib.hid (ptsA_of hown)
            clear HMM HSH HS2 hP hgs hgl t1 hown HR
            rcases Nat.eq_zero_or_pos M.length with h0 | h0
            · obtain rfl : M = [] := List.length_eq_zero_iff.1 h0
              clear h0
              go_wp2_with fail
              go_ret
              exact ⟨ret_int HRS.out.symm, b1⟩
            · have e0 : ((M.length : Int) == 0) = false := by rw [beq_eq_false_iff_ne]; omega
              have e0' : ¬ M = [] := fun h => by rw [h] at h0; simp at h0
              have HE : Hid (M.isEmpty = false) := by
                cases M with
                | nil => simp at h0
                | cons p t => rfl
              obtain ⟨x0, hx0⟩ : ∃ x0, x0 = (M[0]).1 := ⟨_, rfl⟩
              obtain ⟨y0, hy0⟩ : ∃ y0, y0 = (M[0]).2 := ⟨_, rfl⟩
              have HS := Lib.hid (same_iff M h0)
              have HX := Lib.hid (And.intro hx0 hy0)
              clear hx0 hy0
              obtain ⟨w7, e7⟩ : ∃ w7 : World, w7 = wo := ⟨_, rfl⟩
              rw [← e7] at b1 HPA ⊢
              clear e7
              go_wp2_with fail
              go_loopw [19, 90] (fun _ i wr => ∃ k : Nat, k ≤ M.length ∧ i = .int .i64 k ∧ Below w7.heap.size w7 wr ∧ Hid (∀ j (hj : j < M.length), j < k → M[j].1 = x0 ∧ M[j].2 = y0)) (fun _ i _ => M.length - (intOf i).toNat)
              case atStart => exact ⟨0, Nat.zero_le _, rfl, Below.refl _ _, fun j hj h => by omega⟩
              case round =>
                obtain ⟨wo, rfl⟩ : ∃ wo : World, wo = wr := ⟨_, rfl⟩
                obtain ⟨k, hk, rfl, hb, HN⟩ := hrel
                by_cases hlt : k < M.length
                · obtain ⟨g1, hg1, q1, q2⟩ := ptsA_on HPA.out hb k hlt
                  obtain ⟨g2, hg2, q3, q4⟩ := ptsA_on HPA.out hb 0 h0
                  simp only [Option.some.injEq, Addr.mk.injEq, and_true] at hg1 hg2
                  subst hg1
                  subst hg2
                  obtain ⟨x, hx⟩ : ∃ x, x = (M[k]).1 := ⟨_, rfl⟩
                  obtain ⟨y, hy⟩ : ∃ y, y = (M[k]).2 := ⟨_, rfl⟩
                  rw [← hx] at q1
                  rw [← hy] at q2
                  rw [← HX.out.1] at q3
                  rw [← HX.out.2] at q4
                  have HXY := Lib.hid (And.intro hx hy)
                  clear hx hy
                  have hal := (Below.refl wo.heap.size wo).alloc (Nat.le_refl _) (.cells #[.int .i64 x, .int .i64 y] 54)
                  have r3 := cell_on hal rfl q3; have r4 := cell_on hal rfl q4
                  have n1 := at_new wo x y 54
                  have s1 := n1.c0; have s2 := n1.c1
                  have b2 := below_on (b1.trans (hb.mono b1.size)) hal
                  have hb2 := below_on hb hal
                  clear hal n1 hb
                  cases he : (x == x0 && y == y0)
                  · have HV : Hid (meetI (ax, ay) (bx, by') (cx, cy) (dx, dy) = 3) := by
                      have hsm : sameAll M = false := by
                        cases hq : sameAll M
                        · rfl
                        · have := HS.out.1 hq k hlt
                          rw [← HXY.out.1, ← HXY.out.2, ← HX.out.1, ← HX.out.2] at this
                          simp [this.1, this.2] at he
                      show _ = _
                      rw [HRS.out, HE.out, hsm]; rfl
                    have R := Lib.hid b2
                    clear b2 hb2 b1
                    go_wp2_with fail
                    go_quiet (fail)
                    go_wp2_with fail
                    go_ret
                    exact ⟨ret_int HV.out.symm, R.out.os, R.out.tape, R.out.output, R.out.size, R.out.block⟩
                  · have HN2 : Hid (∀ j (hj : j < M.length), j < k + 1 → M[j].1 = x0 ∧ M[j].2 = y0) := fun j hj h => by
                      rcases Nat.lt_or_ge j k with h1 | h1
                      · exact HN.out j hj h1
                      · obtain rfl : j = k := by omega
                        rw [← HXY.out.1, ← HXY.out.2]
                        simpa using he
                    have R := Lib.hid hb2
                    clear b2 hb2
                    go_wp2_with fail
                    go_quiet (fail)
                    go_wp2_with fail
                    go_roundw
                    case rel => exact ⟨k + 1, by omega, by go_num, ⟨R.out.os, R.out.tape, R.out.output, R.out.size, R.out.block⟩, HN2⟩
                    case measure => simp [intOf]; omega
                · have HV : Hid (meetI (ax, ay) (bx, by') (cx, cy) (dx, dy) = 1) := by
                    have hsm : sameAll M = true := HS.out.2 fun j hj => by
                      rw [← HX.out.1, ← HX.out.2]
                      exact HN.out j hj (by omega)
                    show _ = _
                    rw [HRS.out, HE.out, hsm]; rfl
                  have R := Lib.hid (b1.trans (hb.mono b1.size))
                  clear b1 hb
                  go_wp2_with fail
                  go_ret
                  exact ⟨ret_int HV.out.symm, R.out⟩
end Go.Proofs.Ytimkknljoeiceaa
