/-
  Walks for l04Sides and IsOval of the model.
-/
import Derived.Test.YtbmeemmihkedoaaConv
import Derived.Test.YtbmeemmihkedoaaShape
namespace Go.Proofs.Ytbmeemmihkedoaa
open Go.RowKit

/-- The vector of a side. -/
def dvec (S : List (Int × Int)) (i : Nat) : Int × Int := ((gt S (nx S i)).1 - (gt S i).1, (gt S (nx S i)).2 - (gt S i).2)
def dvs (S : List (Int × Int)) : List (Int × Int) := (List.range S.length).map (dvec S)
def backB (p q : Int × Int) : Bool := p.1 == -q.1 && p.2 == -q.2
def ovalB (D : List (Int × Int)) : Bool := (List.range D.length).all fun i => (List.range D.length).any fun j => backB (gt D j) (gt D i)
def ovalV (L : List (Int × Int)) : Bool := convV L && ovalB (dvs (straightL L))
theorem dvs_len (S : List (Int × Int)) : (dvs S).length = S.length := by simp [dvs]
theorem oval_true {D : List (Int × Int)} (h : ∀ i, i < D.length → (List.range D.length).any (fun j => backB (gt D j) (gt D i)) = true) : ovalB D = true := by
  simp only [ovalB, List.all_eq_true, List.mem_range]
  exact h
theorem oval_false {D : List (Int × Int)} {i : Nat} (hi : i < D.length) (h : (List.range D.length).any (fun j => backB (gt D j) (gt D i)) = false) : ovalB D = false := by
  cases hb : ovalB D
  · rfl
  · simp only [ovalB, List.all_eq_true, List.mem_range] at hb
    rw [hb i hi] at h; cases h
theorem any_snoc (f : Nat → Bool) (q : Nat) : (List.range (q + 1)).any f = ((List.range q).any f || f q) := by
  rw [List.range_succ, List.any_append]; simp

/-- Slices of two ints, as the cells of an owned slice. -/
def RowsI (w : World) (base : Nat) (v : Value) (D : List (Int × Int)) : Prop := ∃ vals : List Value, w.ownsRow base 24 1 v D.length vals ∧ ∀ j (h : j < D.length), ∃ g, vals[j]? = some (.slice (some ⟨g, 0, none⟩) 2 2) ∧ At w g D[j].1 D[j].2 3 ∧ v.ownBlock ≠ some g
def RowsA (w : World) (gl : Nat) (D : List (Int × Int)) : Prop := ∀ j, j < D.length → ∃ g, w.cell? ⟨gl, j, none⟩ = some (.slice (some ⟨g, 0, none⟩) 2 2) ∧ w.cell? ⟨g, 0, none⟩ = some (.int .i64 (gt D j).1) ∧ w.cell? ⟨g, 1, none⟩ = some (.int .i64 (gt D j).2)
theorem rowsA_on {w w' : World} {gl : Nat} {D : List (Int × Int)} (h : RowsA w gl D) (hb : Below w.heap.size w w') : RowsA w' gl D := fun j hj => by
  obtain ⟨g, h1, h2, h3⟩ := h j hj
  exact ⟨g, cell_on hb rfl h1, cell_on hb rfl h2, cell_on hb rfl h3⟩
theorem rows_at {w : World} {base : Nat} {v : Value} {D : List (Int × Int)} (h : RowsI w base v D) (h0 : 0 < D.length) : ∃ gl cap, v = .slice (some ⟨gl, 0, none⟩) D.length cap ∧ RowsA w gl D := by
  obtain ⟨vals, own, hr⟩ := h
  rcases own.2 with ⟨_, h1⟩ | ⟨gl, cap, cur, hv, _⟩
  · omega
  · refine ⟨gl, cap, hv, fun j hj => ?_⟩
    obtain ⟨g, h1, h2, _⟩ := hr j hj
    rw [hv] at own
    refine ⟨g, ?_, ?_, ?_⟩
    · rw [own.cellAt j (by omega)]; exact h1
    · rw [gt_at hj]; exact h2.c0
    · rw [gt_at hj]; exact h2.c1
theorem rows_below {w w' : World} {base : Nat} {v : Value} {D : List (Int × Int)} (h : RowsI w base v D) (hb : Below w.heap.size w w') : RowsI w' base v D := by
  obtain ⟨vals, own, hr⟩ := h
  refine ⟨vals, own_below own hb, fun j hj => ?_⟩
  obtain ⟨g, h1, h2, h3⟩ := hr j hj
  exact ⟨g, h1, h2.step hb, h3⟩
theorem rows_step {w w6 : World} {base : Nat} {v : Value} {D : List (Int × Int)} {vals : List Value} {x y : Int} {gP g6 cp : Nat}
    (hr : ∀ j (h : j < D.length), ∃ g, vals[j]? = some (.slice (some ⟨g, 0, none⟩) 2 2) ∧ At w g D[j].1 D[j].2 3 ∧ v.ownBlock ≠ some g) (hl : vals.length = D.length)
    (hP : At w gP x y 3) (hgP : v.ownBlock ≠ some gP)
    (own6 : w6.ownsRow base 24 1 (.slice (some ⟨g6, 0, none⟩) (D.length + 1) cp) (D.length + 1) (vals ++ [.slice (some ⟨gP, 0, none⟩) 2 2])) (hgrow : w.grownBy w6 v.ownBlock) (hg6 : v.ownBlock = some g6 ∨ g6 = w.heap.size) :
    RowsI w6 base (.slice (some ⟨g6, 0, none⟩) (D.length + 1) cp) (D ++ [(x, y)]) := by
  have hob : (Value.slice (some ⟨g6, 0, none⟩) (D.length + 1) cp).ownBlock = some g6 := rfl
  refine ⟨_, by simpa using own6, fun j hj => ?_⟩
  rw [hob]
  rcases Nat.lt_or_ge j D.length with h1 | h1
  · obtain ⟨g, e1, e2, e3⟩ := hr j h1
    refine ⟨g, by rw [List.getElem?_append_left (by omega)]; exact e1, ?_, ?_⟩
    · rw [List.getElem_append_left h1]; exact e2.grown hgrow (Ne.symm e3)
    · intro e
      rcases hg6 with h | h
      · exact e3 (h.trans e)
      · have := e2.lt; simp only [Option.some.injEq] at e; omega
  · have hj' : j = D.length := by simp at hj; omega
    subst hj'
    refine ⟨gP, by rw [List.getElem?_append_right (by omega)]; simp [hl], ?_, ?_⟩
    · rw [List.getElem_append_right (Nat.le_refl _)]; simpa using hP.grown hgrow (Ne.symm hgP)
    · intro e
      rcases hg6 with h | h
      · exact hgP (h.trans e)
      · have := hP.lt; simp only [Option.some.injEq] at e; omega

theorem infoInts : (Try.prog.info? 24).map (fun i => (i.zero, i.size, i.bytes)) = some (some (.slice none 0 0), 1, 24) := by kernel_rfl
set_option maxRecDepth 100000 in
set_option maxHeartbeats 4000000 in
theorem vecs_any (A : Option Addr) (c : Nat) (L : List (Int × Int)) (w : World) (hA : PtsA w A L) (h1 : 1 ≤ L.length) (h2 : L.length ≤ 10) (hok : allOk L = true) :
    Calls Try.prog 135 #[.slice A L.length c] w fun e w' => ∃ v, e = .returned v ∧ RowsI w' w.heap.size v (dvs L) ∧ Below w.heap.size w w' := by
  obtain ⟨g, rfl, -⟩ := hA 0 h1
  have HA := Lib.hid hA; have HOK := Lib.hid hok
  clear hA hok
  obtain ⟨i0, hi0, hz0, hz1, hz2⟩ := info_parts infoInts
  have own0 := World.ownsRow_lit (base := w.heap.size) (e := 24) (size := 1) w #[] 0 (Nat.le_refl _) (by decide) rfl
  have b0 := below1 w (.cells #[] 24)
  go_enter Try.func135, Try.ntmps135
  go_wp2_with fail
  go_loopw [3, 4, 5, 6, 10] (fun s _ _ _ i wr => ∃ (k g5 cap : Nat) (D : List (Int × Int)), k ≤ L.length ∧ i = .int .i64 k ∧ s = .slice (some ⟨g5, 0, none⟩) D.length cap ∧ Hid (D = (List.range k).map (dvec L)) ∧ Hid (RowsI wr w.heap.size (.slice (some ⟨g5, 0, none⟩) D.length cap) D) ∧ Below w.heap.size w wr) (fun _ _ _ _ i _ => L.length - (intOf i).toNat)
  case atStart => exact ⟨0, w.heap.size, 0, [], Nat.zero_le _, rfl, rfl, rfl, ⟨[], own0, fun j hj => by simp at hj⟩, b0⟩
  case round =>
    obtain ⟨wo, rfl⟩ : ∃ wo : World, wo = wr := ⟨_, rfl⟩
    clear own0 b0
    obtain ⟨k, g5, cap, D, hk, rfl, rfl, HD, HR, hb⟩ := hrel
    by_cases hlt : k < L.length
    · obtain ⟨hr, hrl⟩ := next_int (i := k) h1
      have hap := ptsA_on HA.out hb
      obtain ⟨c1, c2⟩ := gt_cells hap hlt
      obtain ⟨c3, c4⟩ := gt_cells hap hrl
      have HST : Hid (D ++ [((gt L ((k + 1) % L.length)).1 - (gt L k).1, (gt L ((k + 1) % L.length)).2 - (gt L k).2)] = (List.range (k + 1)).map (dvec L)) := by
        show _ = _
        rw [HD.out, List.range_succ]; simp [dvec, nx]
      have hDL : D.length ≤ 10 := by rw [HD.out]; simp; omega
      have q1 := okP_bounds (all_at HOK.out hlt)
      have q2 := okP_bounds (all_at HOK.out hrl)
      clear hap HD
      generalize (k + 1) % L.length = r at *
      generalize (gt L k).1 = x at *
      generalize (gt L k).2 = y at *
      generalize (gt L r).1 = x' at *
      generalize (gt L r).2 = y' at *
      have f1 : IntKind.i64.wrap ((k : Int) + 1) = (k : Int) + 1 := IntWalk.i64_in _ (by omega)
      have f4 : IntKind.i64.wrap (r : Int) = (r : Int) := IntWalk.i64_in _ (by omega)
      have f5 : wrap64 (x' - x) = x' - x := IntWalk.wrap64_in _ (by omega)
      have f6 : wrap64 (y' - y) = y' - y := IntWalk.wrap64_in _ (by omega)
      have f7 : IntKind.i64.wrap (x' - x) = x' - x := IntWalk.i64_in _ (by omega)
      have f8 : IntKind.i64.wrap (y' - y) = y' - y := IntWalk.i64_in _ (by omega)
      clear q1 q2
      have hp1 : (r : Int) < (L.length : Int) := by omega
      have hp2 : (0 : Int) ≤ (r : Int) := by omega
      have hne : ¬ L.length = 0 := by omega
      have hal := below1 wo (.cells #[.int .i64 x, .int .i64 y] 27)
      have d3 := cell_on hal rfl c3; have d4 := cell_on hal rfl c4
      obtain ⟨w3, e3⟩ : ∃ w3, w3 = ((wo.alloc (.cells #[.int .i64 x, .int .i64 y] 27)).alloc (.cells #[.int .i64 x', .int .i64 y'] 27)).alloc (.cells #[.int .i64 (x' - x), .int .i64 (y' - y)] 3) := ⟨_, rfl⟩
      have n1 : At w3 wo.heap.size x y 27 := by rw [e3]; exact ((at_new wo x y 27).alloc _).alloc _
      have n2 : At w3 (wo.heap.size + 1) x' y' 27 := by rw [e3]; have := (at_new (wo.alloc (.cells #[.int .i64 x, .int .i64 y] 27)) x' y' 27).alloc (.cells #[.int .i64 (x' - x), .int .i64 (y' - y)] 3); rwa [size_alloc] at this
      have n3 : At w3 (wo.heap.size + 1 + 1) (x' - x) (y' - y) 3 := by
        rw [e3]
        have := at_new ((wo.alloc (.cells #[.int .i64 x, .int .i64 y] 27)).alloc (.cells #[.int .i64 x', .int .i64 y'] 27)) (x' - x) (y' - y) 3
        rwa [size_alloc, size_alloc] at this
      have hb3 : Below wo.heap.size wo w3 := by rw [e3]; exact below3 wo _ _ _
      have hs3 : w3.heap.size = wo.heap.size + 1 + 1 + 1 := by rw [e3]; simp
      have m1 := (two0 wo x y x' y' 27)
      have c5 := m1.1.c0; have c6 := m1.1.c1; have c7 := m1.2.c0; have c8 := m1.2.c1
      have b3 := below_on hb hb3
      have hr3 := rows_below HR.out hb3
      obtain ⟨vals, own3, hrows⟩ := hr3
      have hvl : vals.length = D.length := by simpa using own3.1
      have hg5 := (own3.lt g5 rfl).1
      have hg5b : (Value.slice (some ⟨g5, 0, none⟩) D.length cap).ownBlock ≠ some (wo.heap.size + 1 + 1) := by
        obtain ⟨vals0, own0, _⟩ := HR.out
        have := (own0.lt g5 rfl).2
        simp [Value.ownBlock]; omega
      have own4 := own3.alloc (.cells #[.slice (some ⟨wo.heap.size + 1 + 1, 0, none⟩) 2 2] 24)
      have b4 := b3.alloc b3.size (.cells #[.slice (some ⟨wo.heap.size + 1 + 1, 0, none⟩) 2 2] 24)
      have hnew := World.news_of_block (cs := #[.slice (some ⟨wo.heap.size + 1 + 1, 0, none⟩) 2 2]) (t := 24) (fr := (0, 0)) (heap_alloc_new w3 (.cells #[.slice (some ⟨wo.heap.size + 1 + 1, 0, none⟩) 2 2] 24))
      rw [hs3] at hnew
      have hs4 : (w3.alloc (.cells #[.slice (some ⟨wo.heap.size + 1 + 1, 0, none⟩) 2 2] 24)).heap.size = wo.heap.size + 1 + 1 + 1 + 1 := by rw [size_alloc, hs3]
      have hr4 : ∀ j (h : j < D.length), ∃ g, vals[j]? = some (.slice (some ⟨g, 0, none⟩) 2 2) ∧ At (w3.alloc (.cells #[.slice (some ⟨wo.heap.size + 1 + 1, 0, none⟩) 2 2] 24)) g D[j].1 D[j].2 3 ∧ (Value.slice (some ⟨g5, 0, none⟩) D.length cap).ownBlock ≠ some g := fun j hj => by
        obtain ⟨g, e1, e2, e3⟩ := hrows j hj
        exact ⟨g, e1, e2.alloc _, e3⟩
      have HS := Lib.hid (And.intro hr4 (And.intro hvl (And.intro (n3.alloc (.cells #[.slice (some ⟨wo.heap.size + 1 + 1, 0, none⟩) 2 2] 24)) (And.intro hg5b (And.intro hs4 (And.intro b4 hnew))))))
      have HO4 := Lib.hid own4
      have HG5 := Lib.hid hg5
      have HW3 := Lib.hid e3
      clear hal hb HR hrows own3 b3 hb3 n1 n2 n3 hr4 hvl hg5 hg5b b4 hnew hs3 hs4 own4 e3 m1
      go_wp2_with (at_builtin; refine wpList_append_lies _ rfl _ _ 39 rfl w.heap.size 24 i0 (.slice none 0 0) 1 24 Try.underlying39 hi0 hz0 hz1 hz2 rfl (by decide) _ _ _ rfl (by rw [← HW3.out]; exact HO4.out) ⟨wo.heap.size + 1 + 1 + 1, 0, none⟩ 1 1 [.slice (some ⟨wo.heap.size + 1 + 1, 0, none⟩) 2 2] rfl rfl ?d1 ?d2 (by omega) ?d3 ?d4 ?d5 (wo.heap.size + 1 + 1 + 1 + 1) ?d6 ?_)
      case d2 => simp [Value.oneCell']
      case d3 => unfold maxLen; omega
      case d4 => omega
      case d5 => have h := HS.out.2.2.2.2.2.1.size; have h2 := HS.out.2.2.2.2.1; omega
      intro g6 cp6 w6 own6 hgrow hg6 _
      rw [← HW3.out] at hgrow
      obtain ⟨s1, s2, s3, s4, s5, s6, s7⟩ := HS.out
      have HN : Hid ((D ++ [(x' - x, y' - y)]).length = D.length + 1) := by simp [Hid]
      have R : Hid (RowsI w6 w.heap.size (.slice (some ⟨g6, 0, none⟩) (D ++ [(x' - x, y' - y)]).length cp6) (D ++ [(x' - x, y' - y)]) ∧ Below w.heap.size w w6) := by
        rw [HN.out]
        exact ⟨rows_step s1 s2 s3 s4 own6 hgrow (by rw [s5]; exact hg6), s6.grown hgrow (by have := s6.size; omega) (fun k hk => by cases hk; exact HG5.out)⟩
      clear s1 s2 s3 s4 s5 s6 s7 own6 hgrow hg6 c1 c2 c3 c4 c5 c6 c7 c8 d3 d4
      go_wp2_with fail
      first
        | exact ⟨⟨k + 1, g6, cp6, _, by omega, by go_num, by rw [HN.out], HST, R.out.1, R.out.2⟩, by simp [intOf]; omega⟩
        | (go_roundw
           case rel => exact ⟨k + 1, g6, cp6, _, by omega, by go_num, by rw [HN.out], HST, R.out.1, R.out.2⟩
           case measure => simp [intOf]; omega)
    · have e : k = L.length := by omega
      have HQ : Hid (D = dvs L) := by
        show _ = _
        rw [HD.out, e]; rfl
      clear e HD
      go_wp2_with fail
      go_ret
      exact ⟨_, rfl, by rw [← HQ.out]; exact HR.out, hb⟩
end Go.Proofs.Ytbmeemmihkedoaa
