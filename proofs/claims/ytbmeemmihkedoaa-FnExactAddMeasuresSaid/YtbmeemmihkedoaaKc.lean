/-
  Walks and facts of this seat, part Kc (merged by a script of this repo out of smaller texts).
-/
import Derived.Test.YtbmeemmihkedoaaKb
import Derived.Laws.MakeOwn
import Derived.Deep.DeepCutAuto
import Derived.Test.YtbmeemmihkedoaaProg
import Derived.Deep.RegionHeld3
import Derived.Maps.AppendAt
/-! Oval -/
namespace Go.Proofs.Ytbmeemmihkedoaa
open Go.RowKit

/-- The vector of a side. -/
def dvec (S : List (Int × Int)) (i : Nat) : Int × Int := ((gt S (nx S i)).1 - (gt S i).1, (gt S (nx S i)).2 - (gt S i).2)
def dvs (S : List (Int × Int)) : List (Int × Int) := (List.range S.length).map (dvec S)
def backB (p q : Int × Int) : Bool := p.1 == -q.1 && p.2 == -q.2
def ovalB (D : List (Int × Int)) : Bool := (List.range D.length).all fun i => (List.range D.length).any fun j => backB (gt D j) (gt D i)
def ovalV (L : List (Int × Int)) : Bool := convV L && ovalB (dvs (straightL L))
theorem dvs_len (S : List (Int × Int)) : (dvs S).length = S.length := by simp [dvs]
theorem oval_true {D : List (Int × Int)} (h : ∀ i, i < D.length → (List.range D.length).any (fun j => backB (gt D j) (gt D i)) = true) : ovalB D = true := by
  simp only [ovalB, List.all_eq_true, List.mem_range]
  exact h
theorem oval_false {D : List (Int × Int)} {i : Nat} (hi : i < D.length) (h : (List.range D.length).any (fun j => backB (gt D j) (gt D i)) = false) : ovalB D = false := by
  cases hb : ovalB D
  · rfl
  · simp only [ovalB, List.all_eq_true, List.mem_range] at hb
    rw [hb i hi] at h; cases h
theorem any_snoc (f : Nat → Bool) (q : Nat) : (List.range (q + 1)).any f = ((List.range q).any f || f q) := by
  rw [List.range_succ, List.any_append]; simp

/-- Slices of two ints, as the cells of an owned slice. -/
def RowsI (w : World) (base : Nat) (v : Value) (D : List (Int × Int)) : Prop := ∃ vals : List Value, w.ownsRow base 24 1 v D.length vals ∧ ∀ j (h : j < D.length), ∃ g, vals[j]? = some (.slice (some ⟨g, 0, none⟩) 2 2) ∧ At w g D[j].1 D[j].2 3 ∧ v.ownBlock ≠ some g
def RowsA (w : World) (gl : Nat) (D : List (Int × Int)) : Prop := ∀ j, j < D.length → ∃ g, w.cell? ⟨gl, j, none⟩ = some (.slice (some ⟨g, 0, none⟩) 2 2) ∧ w.cell? ⟨g, 0, none⟩ = some (.int .i64 (gt D j).1) ∧ w.cell? ⟨g, 1, none⟩ = some (.int .i64 (gt D j).2)
theorem rowsA_on {w w' : World} {gl : Nat} {D : List (Int × Int)} (h : RowsA w gl D) (hb : Below w.heap.size w w') : RowsA w' gl D := fun j hj => by
  obtain ⟨g, h1, h2, h3⟩ := h j hj
  exact ⟨g, cell_on hb rfl h1, cell_on hb rfl h2, cell_on hb rfl h3⟩
theorem rows_at {w : World} {base : Nat} {v : Value} {D : List (Int × Int)} (h : RowsI w base v D) (h0 : 0 < D.length) : ∃ gl cap, v = .slice (some ⟨gl, 0, none⟩) D.length cap ∧ RowsA w gl D := by
  obtain ⟨vals, own, hr⟩ := h
  rcases own.2 with ⟨_, h1⟩ | ⟨gl, cap, cur, hv, _⟩
  · omega
  · refine ⟨gl, cap, hv, fun j hj => ?_⟩
    obtain ⟨g, h1, h2, _⟩ := hr j hj
    rw [hv] at own
    refine ⟨g, ?_, ?_, ?_⟩
    · rw [own.cellAt j (by omega)]; exact h1
    · rw [gt_at hj]; exact h2.c0
    · rw [gt_at hj]; exact h2.c1
theorem rows_below {w w' : World} {base : Nat} {v : Value} {D : List (Int × Int)} (h : RowsI w base v D) (hb : Below w.heap.size w w') : RowsI w' base v D := by
  obtain ⟨vals, own, hr⟩ := h
  refine ⟨vals, own_below own hb, fun j hj => ?_⟩
  obtain ⟨g, h1, h2, h3⟩ := hr j hj
  exact ⟨g, h1, h2.step hb, h3⟩
theorem rows_step {w w6 : World} {base : Nat} {v : Value} {D : List (Int × Int)} {vals : List Value} {x y : Int} {gP g6 cp : Nat}
    (hr : ∀ j (h : j < D.length), ∃ g, vals[j]? = some (.slice (some ⟨g, 0, none⟩) 2 2) ∧ At w g D[j].1 D[j].2 3 ∧ v.ownBlock ≠ some g) (hl : vals.length = D.length)
    (hP : At w gP x y 3) (hgP : v.ownBlock ≠ some gP)
    (own6 : w6.ownsRow base 24 1 (.slice (some ⟨g6, 0, none⟩) (D.length + 1) cp) (D.length + 1) (vals ++ [.slice (some ⟨gP, 0, none⟩) 2 2])) (hgrow : w.grownBy w6 v.ownBlock) (hg6 : v.ownBlock = some g6 ∨ g6 = w.heap.size) :
    RowsI w6 base (.slice (some ⟨g6, 0, none⟩) (D.length + 1) cp) (D ++ [(x, y)]) := by
  have hob : (Value.slice (some ⟨g6, 0, none⟩) (D.length + 1) cp).ownBlock = some g6 := rfl
  refine ⟨_, by simpa using own6, fun j hj => ?_⟩
  rw [hob]
  rcases Nat.lt_or_ge j D.length with h1 | h1
  · obtain ⟨g, e1, e2, e3⟩ := hr j h1
    refine ⟨g, by rw [List.getElem?_append_left (by omega)]; exact e1, ?_, ?_⟩
    · rw [List.getElem_append_left h1]; exact e2.grown hgrow (Ne.symm e3)
    · intro e
      rcases hg6 with h | h
      · exact e3 (h.trans e)
      · have := e2.lt; simp only [Option.some.injEq] at e; omega
  · have hj' : j = D.length := by simp at hj; omega
    subst hj'
    refine ⟨gP, by rw [List.getElem?_append_right (by omega)]; simp [hl], ?_, ?_⟩
    · rw [List.getElem_append_right (Nat.le_refl _)]; simpa using hP.grown hgrow (Ne.symm hgP)
    · intro e
      rcases hg6 with h | h
      · exact hgP (h.trans e)
      · have := hP.lt; simp only [Option.some.injEq] at e; omega

theorem infoInts : (Try.prog.info? 24).map (fun i => (i.zero, i.size, i.bytes)) = some (some (.slice none 0 0), 1, 24) := by kernel_rfl
set_option maxRecDepth 100000 in
set_option maxHeartbeats 4000000 in
theorem vecs_any (A : Option Addr) (c : Nat) (L : List (Int × Int)) (w : World) (hA : PtsA w A L) (h1 : 1 ≤ L.length) (h2 : L.length ≤ 10) (hok : allOk L = true) :
    Calls Try.prog 135 #[.slice A L.length c] w fun e w' => ∃ v, e = .returned v ∧ RowsI w' w.heap.size v (dvs L) ∧ Below w.heap.size w w' := by
  obtain ⟨g, rfl, -⟩ := hA 0 h1
  have HA := Lib.hid hA; have HOK := Lib.hid hok
  clear hA hok
  obtain ⟨i0, hi0, hz0, hz1, hz2⟩ := info_parts infoInts
  have own0 := World.ownsRow_lit (base := w.heap.size) (e := 24) (size := 1) w #[] 0 (Nat.le_refl _) (by decide) rfl
  have b0 := below1 w (.cells #[] 24)
  go_enter Try.func135, Try.ntmps135
  go_wp2_with fail
  go_loopw [3, 4, 5, 6, 10] (fun s _ _ _ i wr => ∃ (k g5 cap : Nat) (D : List (Int × Int)), k ≤ L.length ∧ i = .int .i64 k ∧ s = .slice (some ⟨g5, 0, none⟩) D.length cap ∧ Hid (D = (List.range k).map (dvec L)) ∧ Hid (RowsI wr w.heap.size (.slice (some ⟨g5, 0, none⟩) D.length cap) D) ∧ Below w.heap.size w wr) (fun _ _ _ _ i _ => L.length - (intOf i).toNat)
  case atStart => exact ⟨0, w.heap.size, 0, [], Nat.zero_le _, rfl, rfl, rfl, ⟨[], own0, fun j hj => by simp at hj⟩, b0⟩
  case round =>
    obtain ⟨wo, rfl⟩ : ∃ wo : World, wo = wr := ⟨_, rfl⟩
    clear own0 b0
    obtain ⟨k, g5, cap, D, hk, rfl, rfl, HD, HR, hb⟩ := hrel
    by_cases hlt : k < L.length
    · obtain ⟨hr, hrl⟩ := next_int (i := k) h1
      have hap := ptsA_on HA.out hb
      obtain ⟨c1, c2⟩ := gt_cells hap hlt
      obtain ⟨c3, c4⟩ := gt_cells hap hrl
      have HST : Hid (D ++ [((gt L ((k + 1) % L.length)).1 - (gt L k).1, (gt L ((k + 1) % L.length)).2 - (gt L k).2)] = (List.range (k + 1)).map (dvec L)) := by
        show _ = _
        rw [HD.out, List.range_succ]; simp [dvec, nx]
      have hDL : D.length ≤ 10 := by rw [HD.out]; simp; omega
      have q1 := okP_bounds (all_at HOK.out hlt)
      have q2 := okP_bounds (all_at HOK.out hrl)
      clear hap HD
      generalize (k + 1) % L.length = r at *
      generalize (gt L k).1 = x at *
      generalize (gt L k).2 = y at *
      generalize (gt L r).1 = x' at *
      generalize (gt L r).2 = y' at *
      have f1 : IntKind.i64.wrap ((k : Int) + 1) = (k : Int) + 1 := IntWalk.i64_in _ (by omega)
      have f4 : IntKind.i64.wrap (r : Int) = (r : Int) := IntWalk.i64_in _ (by omega)
      have f5 : wrap64 (x' - x) = x' - x := IntWalk.wrap64_in _ (by omega)
      have f6 : wrap64 (y' - y) = y' - y := IntWalk.wrap64_in _ (by omega)
      have f7 : IntKind.i64.wrap (x' - x) = x' - x := IntWalk.i64_in _ (by omega)
      have f8 : IntKind.i64.wrap (y' - y) = y' - y := IntWalk.i64_in _ (by omega)
      clear q1 q2
      have hp1 : (r : Int) < (L.length : Int) := by omega
      have hp2 : (0 : Int) ≤ (r : Int) := by omega
      have hne : ¬ L.length = 0 := by omega
      have hal := below1 wo (.cells #[.int .i64 x, .int .i64 y] 27)
      have d3 := cell_on hal rfl c3; have d4 := cell_on hal rfl c4
      obtain ⟨w3, e3⟩ : ∃ w3, w3 = ((wo.alloc (.cells #[.int .i64 x, .int .i64 y] 27)).alloc (.cells #[.int .i64 x', .int .i64 y'] 27)).alloc (.cells #[.int .i64 (x' - x), .int .i64 (y' - y)] 3) := ⟨_, rfl⟩
      have n1 : At w3 wo.heap.size x y 27 := by rw [e3]; exact ((at_new wo x y 27).alloc _).alloc _
      have n2 : At w3 (wo.heap.size + 1) x' y' 27 := by rw [e3]; have := (at_new (wo.alloc (.cells #[.int .i64 x, .int .i64 y] 27)) x' y' 27).alloc (.cells #[.int .i64 (x' - x), .int .i64 (y' - y)] 3); rwa [size_alloc] at this
      have n3 : At w3 (wo.heap.size + 1 + 1) (x' - x) (y' - y) 3 := by
        rw [e3]
        have := at_new ((wo.alloc (.cells #[.int .i64 x, .int .i64 y] 27)).alloc (.cells #[.int .i64 x', .int .i64 y'] 27)) (x' - x) (y' - y) 3
        rwa [size_alloc, size_alloc] at this
      have hb3 : Below wo.heap.size wo w3 := by rw [e3]; exact below3 wo _ _ _
      have hs3 : w3.heap.size = wo.heap.size + 1 + 1 + 1 := by rw [e3]; simp
      have m1 := (two0 wo x y x' y' 27)
      have c5 := m1.1.c0; have c6 := m1.1.c1; have c7 := m1.2.c0; have c8 := m1.2.c1
      have b3 := below_on hb hb3
      have hr3 := rows_below HR.out hb3
      obtain ⟨vals, own3, hrows⟩ := hr3
      have hvl : vals.length = D.length := by simpa using own3.1
      have hg5 := (own3.lt g5 rfl).1
      have hg5b : (Value.slice (some ⟨g5, 0, none⟩) D.length cap).ownBlock ≠ some (wo.heap.size + 1 + 1) := by
        obtain ⟨vals0, own0, _⟩ := HR.out
        have := (own0.lt g5 rfl).2
        simp [Value.ownBlock]; omega
      have own4 := own3.alloc (.cells #[.slice (some ⟨wo.heap.size + 1 + 1, 0, none⟩) 2 2] 24)
      have b4 := b3.alloc b3.size (.cells #[.slice (some ⟨wo.heap.size + 1 + 1, 0, none⟩) 2 2] 24)
      have hnew := World.news_of_block (cs := #[.slice (some ⟨wo.heap.size + 1 + 1, 0, none⟩) 2 2]) (t := 24) (fr := (0, 0)) (heap_alloc_new w3 (.cells #[.slice (some ⟨wo.heap.size + 1 + 1, 0, none⟩) 2 2] 24))
      rw [hs3] at hnew
      have hs4 : (w3.alloc (.cells #[.slice (some ⟨wo.heap.size + 1 + 1, 0, none⟩) 2 2] 24)).heap.size = wo.heap.size + 1 + 1 + 1 + 1 := by rw [size_alloc, hs3]
      have hr4 : ∀ j (h : j < D.length), ∃ g, vals[j]? = some (.slice (some ⟨g, 0, none⟩) 2 2) ∧ At (w3.alloc (.cells #[.slice (some ⟨wo.heap.size + 1 + 1, 0, none⟩) 2 2] 24)) g D[j].1 D[j].2 3 ∧ (Value.slice (some ⟨g5, 0, none⟩) D.length cap).ownBlock ≠ some g := fun j hj => by
        obtain ⟨g, e1, e2, e3⟩ := hrows j hj
        exact ⟨g, e1, e2.alloc _, e3⟩
      have HS := Lib.hid (And.intro hr4 (And.intro hvl (And.intro (n3.alloc (.cells #[.slice (some ⟨wo.heap.size + 1 + 1, 0, none⟩) 2 2] 24)) (And.intro hg5b (And.intro hs4 (And.intro b4 hnew))))))
      have HO4 := Lib.hid own4
      have HG5 := Lib.hid hg5
      have HW3 := Lib.hid e3
      clear hal hb HR hrows own3 b3 hb3 n1 n2 n3 hr4 hvl hg5 hg5b b4 hnew hs3 hs4 own4 e3 m1
      go_wp2_with (at_builtin; refine wpList_append_lies _ rfl _ _ 39 rfl w.heap.size 24 i0 (.slice none 0 0) 1 24 Try.underlying39 hi0 hz0 hz1 hz2 rfl (by decide) _ _ _ rfl (by rw [← HW3.out]; exact HO4.out) ⟨wo.heap.size + 1 + 1 + 1, 0, none⟩ 1 1 [.slice (some ⟨wo.heap.size + 1 + 1, 0, none⟩) 2 2] rfl rfl ?d1 ?d2 (by omega) ?d3 ?d4 ?d5 (wo.heap.size + 1 + 1 + 1 + 1) ?d6 ?_)
      case d2 => simp [Value.oneCell']
      case d3 => unfold maxLen; omega
      case d4 => omega
      case d5 => have h := HS.out.2.2.2.2.2.1.size; have h2 := HS.out.2.2.2.2.1; omega
      intro g6 cp6 w6 own6 hgrow hg6 _
      rw [← HW3.out] at hgrow
      obtain ⟨s1, s2, s3, s4, s5, s6, s7⟩ := HS.out
      have HN : Hid ((D ++ [(x' - x, y' - y)]).length = D.length + 1) := by simp [Hid]
      have R : Hid (RowsI w6 w.heap.size (.slice (some ⟨g6, 0, none⟩) (D ++ [(x' - x, y' - y)]).length cp6) (D ++ [(x' - x, y' - y)]) ∧ Below w.heap.size w w6) := by
        rw [HN.out]
        exact ⟨rows_step s1 s2 s3 s4 own6 hgrow (by rw [s5]; exact hg6), s6.grown hgrow (by have := s6.size; omega) (fun k hk => by cases hk; exact HG5.out)⟩
      clear s1 s2 s3 s4 s5 s6 s7 own6 hgrow hg6 c1 c2 c3 c4 c5 c6 c7 c8 d3 d4
      go_wp2_with fail
      first
        | exact ⟨⟨k + 1, g6, cp6, _, by omega, by go_num, by rw [HN.out], HST, R.out.1, R.out.2⟩, by simp [intOf]; omega⟩
        | (go_roundw
           case rel => exact ⟨k + 1, g6, cp6, _, by omega, by go_num, by rw [HN.out], HST, R.out.1, R.out.2⟩
           case measure => simp [intOf]; omega)
    · have e : k = L.length := by omega
      have HQ : Hid (D = dvs L) := by
        show _ = _
        rw [HD.out, e]; rfl
      clear e HD
      go_wp2_with fail
      go_ret
      exact ⟨_, rfl, by rw [← HQ.out]; exact HR.out, hb⟩
end Go.Proofs.Ytbmeemmihkedoaa

/-! MeasIn -/
namespace Go.Proofs.Ytbmeemmihkedoaa
open Go.RowKit Go.Shelf Go.Sort
attribute [local go_sem] Oper.semAt_some

def leftL (L : List (Int × Int)) : List (Int × Int) := bif decide (0 < twiceI L) then L else turnL L
/-- What the walks ask of a list: that its reverse is a polygon, too. -/
def TurnOk (L : List (Int × Int)) : Prop := polyB L = true → polyB (leftL L) = true
def leftV (L : List (Int × Int)) : List (Int × Int) := bif polyB L then leftL L else []
def measStep (L : List (Int × Int)) (M : Ms) (i : Nat) : Ms := putM M (dirP (dvec L (i % L.length)).1 (dvec L (i % L.length)).2) (stp (dvec L (i % L.length)).1 (dvec L (i % L.length)).2)
def measL (L : List (Int × Int)) (pre : List Nat) : Ms := pre.foldl (measStep L) []
def measI (L : List (Int × Int)) : Ms := measL L (List.range L.length)
theorem measL_snoc (L : List (Int × Int)) (pre : List Nat) (x : Nat) : measL L (pre ++ [x]) = measStep L (measL L pre) x := by simp [measL]
theorem measL_ord (L : List (Int × Int)) (pre : List Nat) : OrdM (measL L pre) := by
  have key : ∀ (pre : List Nat) (M : Ms), OrdM M → OrdM (pre.foldl (measStep L) M) := by
    intro pre
    induction pre with
    | nil => exact fun M h => h
    | cons x pre ih => exact fun M h => ih _ (putM_ord h _ _)
  exact key pre [] ordM_nil
theorem stp_le {x y : Int} {m : Nat} (hx : x.natAbs ≤ m) (hy : y.natAbs ≤ m) : (stp x y).natAbs ≤ m := by rw [stp_abs]; exact gN_le hx hy
theorem dvec_small {L : List (Int × Int)} (hok : allOk L = true) (i : Nat) : (dvec L i).1.natAbs ≤ 40 ∧ (dvec L i).2.natAbs ≤ 40 := by
  have h1 := okP_bounds (gt_ok hok i); have h2 := okP_bounds (gt_ok hok (nx L i))
  unfold dvec
  simp only
  omega
theorem measL_val {L : List (Int × Int)} (hok : allOk L = true) (pre : List Nat) (d : Int × Int) : (valM (measL L pre) d).natAbs ≤ 40 * pre.length := by
  have key : ∀ (pre : List Nat) (M : Ms), OrdM M → (valM (pre.foldl (measStep L) M) d).natAbs ≤ (valM M d).natAbs + 40 * pre.length := by
    intro pre
    induction pre with
    | nil => intro M _; simp
    | cons x pre ih =>
      intro M h
      have h1 := ih (measStep L M x) (putM_ord h _ _)
      have h2 := dvec_small hok (x % L.length)
      have h3 := stp_le h2.1 h2.2
      have h4 : valM (measStep L M x) d = _ := valM_put h _ _ d
      rw [List.foldl_cons, List.length_cons]
      have h5 : (valM (measStep L M x) d).natAbs ≤ (valM M d).natAbs + 40 := by
        rw [h4]
        split <;> omega
      omega
  have := key pre [] ordM_nil
  simpa [valM, measL] using this
theorem own_ptsA {w : World} {B : Nat} {v : Value} {L : List (Int × Int)} (h : w.ownsRow B 27 2 v L.length (flat L)) : ∃ A c, v = .slice A L.length c ∧ PtsA w A L ∧ ∀ g, A = some ⟨g, 0, none⟩ → B ≤ g := by
  rcases h.2 with ⟨rfl, h0⟩ | ⟨g, cap, cur, rfl, hg, hh, _⟩
  · exact ⟨none, 0, by rw [h0], fun k hk => by omega, fun g e => by cases e⟩
  · refine ⟨some ⟨g, 0, none⟩, cap, rfl, fun k hk => ⟨g, rfl, ?_⟩, fun g' e => by cases e; exact hg⟩
    obtain ⟨f1, f2⟩ := flat_at L k hk
    rw [h.cellAt (k * 2) (by omega), h.cellAt (k * 2 + 1) (by omega)]
    exact ⟨f1, f2⟩
theorem leftV_len (L : List (Int × Int)) : (leftV L).length ≤ 10 ∧ (leftV L = [] ∨ 3 ≤ (leftV L).length) := by
  unfold leftV leftL
  cases hp : polyB L
  · simp
  · obtain ⟨h3, h10, -⟩ := polyB_all hp
    have e : (turnL L).length = L.length := by unfold turnL; rw [turn_len]; omega
    cases decide (0 < twiceI L)
    · simp only [cond_true, cond_false, e]; exact ⟨h10, .inr h3⟩
    · simp only [cond_true]; exact ⟨h10, .inr h3⟩
theorem impl_left (A : Option Addr) (c : Nat) (L : List (Int × Int)) (w : World) (hA : PtsA w A L) (hL : L.length ≤ 1048576) :
    Calls Try.prog 86 #[.slice A L.length c] w fun e w' => ∃ A' c', e = .returned (.slice A' (leftV L).length c') ∧ PtsA w' A' (leftV L) ∧ Below w.heap.size w w' ∧ ((A' = A ∧ leftV L = L) ∨ ∀ g, A' = some ⟨g, 0, none⟩ → w.heap.size ≤ g) := by
  have HT := Lib.hid (fun W hb => impl_turn A c L W (ptsA_on hA hb) hL)
  have PC := Lib.hid (impl_twice A c L w hA hL)
  have HA := Lib.hid hA
  obtain ⟨t, ht⟩ : ∃ t, t = bif polyB L then twiceI L else 0 := ⟨_, rfl⟩
  rw [← ht] at PC
  by_cases h0 : 0 < t
  · have hp : polyB L = true := by
      cases hp : polyB L
      · rw [hp] at ht; simp only [cond_false] at ht; omega
      · rfl
    have HE : Hid (leftV L = L) := by
      show _ = _
      rw [hp] at ht
      simp only [cond_true] at ht
      unfold leftV leftL
      rw [hp, ← ht, decide_eq_true h0]; rfl
    clear hA ht
    go_enter Try.func86, Try.ntmps86
    go_wp2_with fail
    refine PC.out.mono ?_
    rintro e w1 ⟨rfl, hb1⟩
    go_wp2_with fail
    go_ret
    rw [HE.out]
    exact ⟨_, _, rfl, ptsA_on HA.out hb1, hb1, .inl ⟨rfl, rfl⟩⟩
  · have HE : Hid (leftV L = turnV L) := by
      show _ = _
      unfold leftV leftL turnV
      cases hp : polyB L
      · rfl
      · rw [hp] at ht
        simp only [cond_true] at ht
        rw [← ht, decide_eq_false h0]; rfl
    clear hA ht
    go_enter Try.func86, Try.ntmps86
    go_wp2_with fail
    refine PC.out.mono ?_
    rintro e w1 ⟨rfl, hb1⟩
    go_wp2_with fail
    refine (HT.out _ hb1).mono ?_
    rintro e w2 ⟨v, rfl, hv, hb2⟩
    go_wp2_with fail
    go_ret
    rw [HE.out]
    obtain ⟨A', c', rfl, h, hg⟩ := own_ptsA hv
    exact ⟨_, _, rfl, h, below_on hb1 hb2, .inr fun g e => Nat.le_trans hb1.size (hg g e)⟩
theorem meas_side {Q : List (Int × Int)} (hok : allOk Q = true) (hne : ∀ i, i < Q.length → gt Q i ≠ gt Q (nx Q i)) (x : Nat) (hx : x < Q.length) (W : World) :
    Calls Try.prog 73 #[.agg #[.int .i64 (gt Q x).1, .int .i64 (gt Q x).2, .int .i64 (gt Q (nx Q x)).1, .int .i64 (gt Q (nx Q x)).2]] W fun e w' => e = .returned (headV (dvec Q x).1 (dvec Q x).2) ∧ Below W.heap.size W w' :=
  head_any _ _ _ _ W (gt_ok hok x) (gt_ok hok (nx Q x)) (fun h => hne x hx (Prod.ext (by omega) (by omega)))
def MeasP (w : World) (Q : List (Int × Int)) (e : Ending) (w' : World) : Prop := ∃ b, e = .returned (.map (some b)) ∧ w.heap.size ≤ b ∧ MapM w' b (measI Q) Q.length ∧ Below w.heap.size w w'
set_option maxRecDepth 100000 in
set_option maxHeartbeats 4000000 in
theorem measIn_yes (A : Option Addr) (c : Nat) (L : List (Int × Int)) (w : World) (hA : PtsA w A L) (hL : L.length ≤ 1048576) (h3 : 3 ≤ (leftV L).length) (hok : allOk (leftV L) = true) (hne : ∀ i, i < (leftV L).length → gt (leftV L) i ≠ gt (leftV L) (nx (leftV L) i)) :
    Calls Try.prog 77 #[.slice A L.length c] w (MeasP w (leftV L)) := by
  refine (callsIn_wide (n := 8)).1 ?_
  refine callsIn_of_wp_marks Try.func77 rfl trivial ?_ rfl
  simp only [Try.ntmps77, List.size_toArray, List.length_cons, List.length_nil, Nat.reduceAdd, Nat.reduceSub, Array.replicate_succ, Array.replicate_zero, List.push_toArray, List.append_toArray, List.nil_append, List.cons_append]
  have hmm := @run_makeMap Try.prog
  have HLF := Lib.hid (fun W hb => impl_left A c L W (ptsA_on hA hb) hL)
  have hPL : ∀ g, A = some ⟨g, 0, none⟩ → leftV L = L → g < w.heap.size := fun g e e2 => by
    obtain ⟨g', e', h1, -⟩ := hA 0 (by rw [← e2]; omega)
    rw [e] at e'
    cases e'
    rcases Nat.lt_or_ge g w.heap.size with q | q
    · exact q
    · simp [World.cell?, Array.getElem?_eq_none q] at h1
  have h10 := (leftV_len L).1
  clear hA
  obtain ⟨Q, hQ⟩ : ∃ Q, Q = leftV L := ⟨_, rfl⟩
  rw [← hQ] at HLF h3 hok hne h10 hPL ⊢
  clear hQ
  have hM0 := mapM_made w
  have hb0 := below2 w (.map #[] 0) (.cells #[.map (some w.heap.size)] 81)
  have bT := Boxed.new (w.alloc (.map #[] 0)) 81 (.map (some w.heap.size))
  have hM1 := hM0.on (below1 _ (.cells #[.map (some w.heap.size)] 81))
  rw [World.size_alloc] at bT
  gi_wp2
  refine ⟨trivial, (wide0.calls (HLF.out _ hb0)).mono ?_⟩
  rintro e w1 ⟨A', c', rfl, hQ, hb1, hfar⟩
  obtain ⟨g, rfl, -⟩ := hQ 0 (by omega)
  have hgb : g ≠ w.heap.size ∧ g ≠ w.heap.size + 1 := by
    rcases hfar with ⟨e1, e2⟩ | hf
    · have := hPL g e1.symm e2; omega
    · have := hf g rfl; simp at this; omega
  have hgl : g < w1.heap.size := by
    obtain ⟨g', e', h1, -⟩ := hQ 0 (by omega)
    cases e'
    rcases Nat.lt_or_ge g w1.heap.size with q | q
    · exact q
    · simp [World.cell?, Array.getElem?_eq_none q] at h1
  have hM2 := hM1.on hb1
  have bT2 := boxed_on bT hb1
  have hB1 := below_on hb0 hb1
  clear hfar hPL HLF hM0 hM1 bT hb0 hb1 hmm
  gi_wp2
  refine ⟨trivial, (wide0.calls (sides_any _ Q.length c' _)).mono ?_⟩
  rintro e w2 ⟨rfl, rfl⟩
  gi_wp2
  have bN := Boxed.new w1 35 (.slice (some ⟨g, 0, none⟩) Q.length c')
  have bT3 := bT2.alloc (.cells #[.slice (some ⟨g, 0, none⟩) Q.length c'] 35)
  have hb2 := below1 w1 (.cells #[.slice (some ⟨g, 0, none⟩) Q.length c'] 35)
  have hM3 := hM2.on hb2
  have hQ3 := ptsA_on hQ hb2
  have hB3 := below_on hB1 hb2
  have hs1 := hB1.size
  have hbl := bT2.lt
  have hsz : (w1.alloc (.cells #[.slice (some ⟨g, 0, none⟩) Q.length c'] 35)).heap.size = w1.heap.size + 1 := by simp
  obtain ⟨W0, hW0⟩ : ∃ W0, w1.alloc (.cells #[.slice (some ⟨g, 0, none⟩) Q.length c'] 35) = W0 := ⟨_, rfl⟩
  rw [hW0] at bN bT3 hM3 hQ3 hB3 hsz ⊢
  clear hW0 hQ hM2 bT2 hb2 hB1
  refine wpIn_rangeFunc_ownH rfl (by decide) (gf := 160) (lb := #[.pointer (some ⟨w1.heap.size, 0, none⟩)]) rfl trivial (enters_of Try.func160 (by kernel_rfl) rfl)
    (sidesG_stops 7 w1.heap.size g c' Q W0 (by omega) (by omega) (by omega) hQ3 (by omega) bN.cell) keepG_t (keepG_b (by omega) (by omega)) (Below.refl _ _) (fun _ => rfl)
    (fun pre W => ((MapM W w.heap.size (measL Q pre) pre.length ∧ Boxed W (w.heap.size + 1) 81 (.map (some w.heap.size))) ∧ Boxed W w1.heap.size 35 (.slice (some ⟨g, 0, none⟩) Q.length c')) ∧ Below w.heap.size w W ∧ g < W.heap.size)
    (fun _ _ _ => False)
    (OwnFrom.and (OwnFrom.and (OwnFrom.and (fun s X Y row hs hg hr => hs.kept hg (fun e => by have := (hr _ e.symm).1; omega)) (Own.from (boxed_own _ _ _) _)) (Own.from (boxed_own _ _ _) _)) (OwnFrom.and (ownFrom_below (Nat.le_refl _) (by omega)) (fun s X Y row hs hg hr => Nat.lt_of_lt_of_le hs hg.size)))
    (fun _ => ownFrom_pure _ (fun _ => False))
    ⟨⟨⟨hM3, bT3⟩, bN⟩, hB3, by omega⟩
    (fun x a' W => ∃ Bx, w1.heap.size < Bx ∧ SideAt W Bx Q (x % Q.length) ∧ a' = { tmps := #[.slice A L.length c, undef, .map none, .pointer (some ⟨w.heap.size + 1, 0, none⟩), undef, .pointer (some ⟨Bx, 0, none⟩), undef, undef, .map (some w.heap.size), .slice A L.length c, .slice (some ⟨g, 0, none⟩) Q.length c', .func (.func 160) #[] #[.pointer (some ⟨w1.heap.size, 0, none⟩)], .int .i64 (x : Int), .agg #[.int .i64 (gt Q (x % Q.length)).1, .int .i64 (gt Q (x % Q.length)).2, .int .i64 (gt Q (nx Q (x % Q.length))).1, .int .i64 (gt Q (nx Q (x % Q.length))).2], undef, undef, undef, undef, undef, undef, undef, undef, undef, undef], defers := [] })
    (fun x a' _ X Y row hs hg hr => by obtain ⟨Bx, e1, e2, e3⟩ := hs; exact ⟨Bx, e1, sideAt_own Bx Q (x % Q.length) _ () X Y row e2 hg hr, e3⟩)
    ?assign ?body ?done ?stop
  case assign =>
    rintro l pre x W K ⟨⟨⟨hM4, bT4⟩, bN4⟩, hB4, hg4⟩ hK
    simp only [sideV]
    gi_wp2
    have hs2 := hB4.size
    exact hK _ _ (keepsFrom_below (below1 _ _)) (KeepG.of_below (below1 _ _) hg4 bN4.lt) ⟨⟨⟨hM4.on (below1 _ _), bT4.alloc _⟩, bN4.alloc _⟩, hB4.alloc hs2 _, by simp; omega⟩ ⟨W.heap.size, bN4.lt, sideAt_new W Q (x % Q.length), rfl⟩
  case body =>
    rintro l pre x a' W hl hpx ⟨⟨⟨hM4, bT4⟩, bN4⟩, hB4, hg4⟩ ⟨Bx, hBx, bX, rfl⟩ hlt
    obtain ⟨xi, hxi⟩ : ∃ xi, xi = x := ⟨_, rfl⟩
    have HM0 := measL_snoc Q pre x
    unfold measStep at HM0
    have hxl : x % Q.length < Q.length := Nat.mod_lt _ (by omega)
    rw [← hxi] at HM0 ⊢
    rw [hxi] at HM0
    clear hpx
    generalize x % Q.length = x at *
    obtain ⟨x0, x1, x2, x3⟩ := bX.cells
    obtain ⟨ax, ha⟩ : ∃ ax, ax = (gt Q x).1 := ⟨_, rfl⟩
    obtain ⟨ay, hay⟩ : ∃ ay, ay = (gt Q x).2 := ⟨_, rfl⟩
    obtain ⟨bx, hbx⟩ : ∃ bx, bx = (gt Q (nx Q x)).1 := ⟨_, rfl⟩
    obtain ⟨by', hby⟩ : ∃ by', by' = (gt Q (nx Q x)).2 := ⟨_, rfl⟩
    rw [← ha] at x0; rw [← hay] at x1; rw [← hbx] at x2; rw [← hby] at x3
    have HH := Lib.hid (fun W => meas_side hok hne x (by omega) W)
    have hds := dvec_small hok x
    have hst := stp_le hds.1 hds.2
    have hd0 : ¬ ((dvec Q x).1 = 0 ∧ (dvec Q x).2 = 0) := fun e => hne x (by omega) (Prod.ext (by have := e.1; unfold dvec at this; omega) (by have := e.2; unfold dvec at this; omega))
    obtain ⟨hp1, hp2⟩ := dir_small hd0 hds.1 hds.2
    have hvl := measL_val hok pre (dirP (dvec Q x).1 (dvec Q x).2)
    have HC := Lib.hid (fun W h => tally_any w.heap.size pre.length (measL Q pre) (dirP (dvec Q x).1 (dvec Q x).2).1 (dirP (dvec Q x).1 (dvec Q x).2).2 (stp (dvec Q x).1 (dvec Q x).2) W h (measL_ord Q pre) (WalkArith.wf_i64 (by omega)) (WalkArith.wf_i64 (by omega)) (by omega) (Nat.le_trans hvl (by omega)) (by omega))
    have HM : Hid (measL Q (pre ++ [xi]) = putM (measL Q pre) ((dirP (dvec Q x).1 (dvec Q x).2).1, (dirP (dvec Q x).1 (dvec Q x).2).2) (stp (dvec Q x).1 (dvec Q x).2)) := by rw [hxi]; exact HM0
    unfold headV at HH
    simp only [← ha, ← hay, ← hbx, ← hby] at HH ⊢
    generalize (dirP (dvec Q x).1 (dvec Q x).2).1 = p at *
    generalize (dirP (dvec Q x).1 (dvec Q x).2).2 = q at *
    generalize stp (dvec Q x).1 (dvec Q x).2 = s at *
    clear ha hay hbx hby hp1 hp2 hvl hds hst hd0
    have cT := bT4.cell
    gi_wp2
    refine ⟨trivial, ((wideR l).calls (HH.out _)).mono ?_⟩
    rintro e w5 ⟨rfl, hb5⟩
    have hb6 := hb5.alloc hb5.size (.cells #[.int .i64 p, .int .i64 q] 27)
    have cT6 := (boxed_on bT4 hb6).cell
    have cP6 := at_new w5 p q 27
    have cP0 := cP6.c0; have cP1 := cP6.c1
    have hM6 := hM4.on hb6
    clear cT x0 x1 x2 x3
    gi_wp2
    refine ⟨trivial, ((wideR l).calls (HC.out _ hM6)).mono ?_⟩
    rintro e w7 ⟨⟨r, rfl⟩, hM7, hg7⟩
    gi_wp2
    have hs4 := hB4.size
    have hs6 := hb6.size
    have hbT := bT4.lt
    have hbN := bN4.lt
    have hk6 := KeepG.of_below hb6 hg4 hbN
    have hg6 : g < (w5.alloc (.cells #[.int .i64 p, .int .i64 q] 27)).heap.size := by omega
    refine ⟨(keepsFrom_below hb6).trans (KeepsFrom.of_grownBy hg7 (fun j e => by cases e; omega)), keepG_t hk6 (KeepG.of_grown hg7 hg6 (by omega) (by omega) (by omega)),
      ⟨⟨⟨by rw [HM.out, List.length_append]; exact hM7, (boxed_on bT4 hb6).kept hg7 (fun e => by have := Option.some.inj e; omega)⟩, (boxed_on bN4 hb6).kept hg7 (fun e => by have := Option.some.inj e; omega)⟩, ?_, Nat.lt_of_lt_of_le hg6 hg7.size⟩⟩
    exact (hB4.trans (hb6.mono hs4)).grown hg7 (by omega) (fun j e => by cases e; exact Nat.le_refl _)
  case done =>
    rintro D ys W hD rfl ⟨⟨⟨hM4, bT4⟩, bN4⟩, hB4, hg4⟩ hK
    have cT := bT4.cell
    gi_wp2
    refine ⟨by simp, .inl ⟨_, _, rfl, run_takeDeferred hK, ?_⟩⟩
    have hBD := hB4.trans (belowK_b (w := w) (Nat.le_refl _) W D _ (.deferred none) (by have := hB3.size; omega) hK rfl rfl)
    refine ⟨_, results_tmp rfl _ _ _, w.heap.size, rfl, Nat.le_refl _, ?_, hBD⟩
    have := hM4.kept (grownBy_putObj' W D (.deferred none)) (fun e => by have := Option.some.inj e; omega)
    rw [List.length_range] at this
    exact this
  case stop =>
    rintro D k pre W hD hpre h hK
    exact h.elim
set_option maxRecDepth 100000 in
set_option maxHeartbeats 4000000 in
theorem measIn_no (A : Option Addr) (c : Nat) (L : List (Int × Int)) (w : World) (hA : PtsA w A L) (hL : L.length ≤ 1048576) (h0 : leftV L = []) :
    Calls Try.prog 77 #[.slice A L.length c] w (MeasP w []) := by
  refine (callsIn_wide (n := 8)).1 ?_
  refine callsIn_of_wp_marks Try.func77 rfl trivial ?_ rfl
  simp only [Try.ntmps77, List.size_toArray, List.length_cons, List.length_nil, Nat.reduceAdd, Nat.reduceSub, Array.replicate_succ, Array.replicate_zero, List.push_toArray, List.append_toArray, List.nil_append, List.cons_append]
  have hmm := @run_makeMap Try.prog
  have HLF := Lib.hid (fun W hb => impl_left A c L W (ptsA_on hA hb) hL)
  rw [h0] at HLF
  clear hA h0
  have hM0 := mapM_made w
  have hb0 := below2 w (.map #[] 0) (.cells #[.map (some w.heap.size)] 81)
  have bT := Boxed.new (w.alloc (.map #[] 0)) 81 (.map (some w.heap.size))
  have hM1 := hM0.on (below1 _ (.cells #[.map (some w.heap.size)] 81))
  rw [World.size_alloc] at bT
  gi_wp2
  refine ⟨trivial, (wide0.calls (HLF.out _ hb0)).mono ?_⟩
  rintro e w1 ⟨A', c', rfl, hQ, hb1, hfar⟩
  have hM2 := hM1.on hb1
  have bT2 := boxed_on bT hb1
  have hB1 := below_on hb0 hb1
  clear hfar HLF hM0 hM1 bT hb0 hb1 hmm hQ
  gi_wp2
  refine ⟨trivial, (wide0.calls (sides_any _ 0 c' _)).mono ?_⟩
  rintro e w2 ⟨rfl, rfl⟩
  gi_wp2
  have bN := Boxed.new w1 35 (.slice A' 0 c')
  have bT3 := bT2.alloc (.cells #[.slice A' 0 c'] 35)
  have hb2 := below1 w1 (.cells #[.slice A' 0 c'] 35)
  have hM3 := hM2.on hb2
  have hB3 := below_on hB1 hb2
  have hs1 := hB1.size
  have hbl := bT2.lt
  have hsz : (w1.alloc (.cells #[.slice A' 0 c'] 35)).heap.size = w1.heap.size + 1 := by simp
  obtain ⟨W0, hW0⟩ : ∃ W0, w1.alloc (.cells #[.slice A' 0 c'] 35) = W0 := ⟨_, rfl⟩
  rw [hW0] at bN bT3 hM3 hB3 hsz ⊢
  clear hW0 hM2 bT2 hb2 hB1
  refine wpIn_rangeFunc_ownH rfl (by decide) (gf := 160) (lb := #[.pointer (some ⟨w1.heap.size, 0, none⟩)]) rfl trivial (enters_of Try.func160 (by kernel_rfl) rfl)
    (sidesN_stops 7 w1.heap.size c' A' W0 (by omega) bN.cell) keepG_t (keepG_b (by omega) (by omega)) (Below.refl _ _) (fun _ => rfl)
    (fun pre W => ((MapM W w.heap.size [] 0 ∧ Boxed W (w.heap.size + 1) 81 (.map (some w.heap.size))) ∧ Boxed W w1.heap.size 35 (.slice A' 0 c')) ∧ Below w.heap.size w W)
    (fun _ _ _ => False)
    (OwnFrom.and (OwnFrom.and (OwnFrom.and (fun s X Y row hs hg hr => hs.kept hg (fun e => by have := (hr _ e.symm).1; omega)) (Own.from (boxed_own _ _ _) _)) (Own.from (boxed_own _ _ _) _)) (ownFrom_below (Nat.le_refl _) (by omega)))
    (fun _ => ownFrom_pure _ (fun _ => False))
    ⟨⟨⟨hM3, bT3⟩, bN⟩, hB3⟩
    (fun _ _ _ => True) (fun _ _ _ _ _ _ _ _ _ => trivial)
    ?assign ?body ?done ?stop
  case assign =>
    rintro l pre x W K ⟨⟨⟨hM4, bT4⟩, bN4⟩, hB4⟩ hK
    simp only [sideV]
    gi_wp2
    have hs2 := hB4.size
    have hbt := bT4.lt
    exact hK _ _ (keepsFrom_below (below1 _ _)) (KeepG.of_below (below1 _ _) (by omega) bN4.lt) ⟨⟨⟨hM4.on (below1 _ _), bT4.alloc _⟩, bN4.alloc _⟩, hB4.alloc hs2 _⟩ trivial
  case body =>
    rintro l pre x a' W hl hpx - - hlt
    exact absurd hlt (Nat.not_lt_zero _)
  case done =>
    rintro D ys W hD rfl ⟨⟨⟨hM4, bT4⟩, bN4⟩, hB4⟩ hK
    have cT := bT4.cell
    gi_wp2
    refine ⟨by simp, .inl ⟨_, _, rfl, run_takeDeferred hK, ?_⟩⟩
    have hBD := hB4.trans (belowK_b (w := w) (Nat.le_refl _) W D _ (.deferred none) (by have := hB3.size; omega) hK rfl rfl)
    refine ⟨_, results_tmp rfl _ _ _, w.heap.size, rfl, Nat.le_refl _, ?_, hBD⟩
    exact hM4.kept (grownBy_putObj' W D (.deferred none)) (fun e => by have := Option.some.inj e; omega)
  case stop =>
    rintro D k pre W hD hpre h hK
    exact h.elim
theorem poly_next {L : List (Int × Int)} (hp : polyB L = true) : ∀ i, i < L.length → gt L i ≠ gt L (nx L i) := by
  simp only [polyB, Bool.and_eq_true] at hp
  intro i hi e
  have := hp.1.2
  simp only [nbB, List.all_eq_true, List.mem_range] at this
  have h1 := this i hi
  rw [show gt L ((i + 1) % L.length) = gt L i from e.symm] at h1
  simp [eqQ] at h1
/-- **measuresIn**, at any list. -/
theorem measIn_any (A : Option Addr) (c : Nat) (L : List (Int × Int)) (w : World) (hA : PtsA w A L) (hL : L.length ≤ 1048576) (hok : polyB L = true → polyB (leftL L) = true) :
    Calls Try.prog 77 #[.slice A L.length c] w (MeasP w (leftV L)) := by
  rcases (leftV_len L).2 with h0 | h3
  · have := measIn_no A c L w hA hL h0
    rwa [h0]
  · cases hp : polyB L
    · unfold leftV at h3; rw [hp] at h3; simp at h3
    · have e : leftV L = leftL L := by unfold leftV; rw [hp]; rfl
      have hq := hok hp
      rw [← e] at hq
      exact measIn_yes A c L w hA hL h3 (polyB_all hq).2.2 (poly_next hq)
end Go.Proofs.Ytbmeemmihkedoaa

/-! MeasS -/
namespace Go.Proofs.Ytbmeemmihkedoaa
open Go.RowKit

/-- The answer is a new slice of the two numbers p, q. -/
def DirR (w : World) (p q : Int) (e : Ending) (w' : World) : Prop := ∃ g, e = .returned (.slice (some ⟨g, 0, none⟩) 2 2) ∧ At w' g p q 3 ∧ w.heap.size ≤ g ∧ Below w.heap.size w w'
set_option maxRecDepth 100000 in
set_option maxHeartbeats 2000000 in
theorem dirS_any (x y : Int) (w : World) (h0 : ¬ (x = 0 ∧ y = 0)) (hx : x.natAbs ≤ 1000) (hy : y.natAbs ≤ 1000) :
    Calls Try.prog 71 #[.int .i64 x, .int .i64 y] w (DirR w (dirP x y).1 (dirP x y).2) := by
  have hg := gN_pos h0
  have hgl := gN_le hx hy
  have HG := Lib.hid (fun w => gcdS_any x y w (by omega) (by omega))
  have hD := dir_model h0
  obtain ⟨hd1, hd2⟩ := dir_small h0 hx hy
  have hgc : (Nat.gcd x.natAbs y.natAbs : Nat) = gN x y := rfl
  rw [hgc] at HG
  obtain ⟨g, hgd⟩ : ∃ g : Int, g = (gN x y : Int) := ⟨_, rfl⟩
  rw [← hgd] at HG hD
  have hg0 : g ≠ 0 := by omega
  obtain ⟨p, hp⟩ : ∃ p, p = x.tdiv g := ⟨_, rfl⟩
  obtain ⟨q, hq⟩ : ∃ q, q = y.tdiv g := ⟨_, rfl⟩
  rw [← hp, ← hq] at hD
  have hpa : p.natAbs ≤ 1000 ∧ q.natAbs ≤ 1000 := by
    rcases Bool.eq_false_or_eq_true (down p q) with e | e
    · rw [hD, e] at hd1 hd2
      simp only [cond_true] at hd1 hd2; omega
    · rw [hD, e] at hd1 hd2
      simp only [cond_false] at hd1 hd2; omega
  have n1 : wrap64 p = p := wrap_id (by omega)
  have n2 : wrap64 q = q := wrap_id (by omega)
  have n3 : wrap64 (-p) = -p := wrap_id (by omega)
  have n4 : wrap64 (-q) = -q := wrap_id (by omega)
  have f1 : wrap64 (x.tdiv g) = p := by rw [← hp]; exact n1
  have f2 : wrap64 (y.tdiv g) = q := by rw [← hq]; exact n2
  have HDD := Lib.hid hD
  clear hD hd1 hd2 hp hq n1 n2 hgd hgc hpa hg hgl hx hy
  cases hdn : down p q
  · rw [hdn] at HDD
    have hb1 : decide (q < 0) = false := by rw [down_no] at hdn; exact decide_eq_false (by omega)
    have hb2 : (q == 0 && decide (p < 0)) = false := by unfold down at hdn; rw [hb1] at hdn; exact hdn
    clear hdn n3 n4
    cases hq0 : (q == 0)
    all_goals
      rw [hq0] at hb2
      try rw [Bool.true_and] at hb2
      go_enter Try.func71, Try.ntmps71
      go_wp2_with fail
      refine (HG.out _).mono ?_
      rintro e w1 ⟨rfl, rfl⟩
      go_wp2_with fail
      go_ret
      rw [HDD.out]
      exact ⟨_, rfl, at_new _ _ _ _, Nat.le_refl _, below1 _ _⟩
  · rw [hdn] at HDD
    cases hb1 : decide (q < 0)
    · unfold down at hdn
      rw [hb1, Bool.false_or, Bool.and_eq_true] at hdn
      obtain ⟨hq0, hb2⟩ := hdn
      go_enter Try.func71, Try.ntmps71
      go_wp2_with fail
      refine (HG.out _).mono ?_
      rintro e w1 ⟨rfl, rfl⟩
      go_wp2_with fail
      go_ret
      rw [HDD.out]
      exact ⟨_, rfl, at_new _ _ _ _, Nat.le_refl _, below1 _ _⟩
    · clear hdn
      go_enter Try.func71, Try.ntmps71
      go_wp2_with fail
      refine (HG.out _).mono ?_
      rintro e w1 ⟨rfl, rfl⟩
      go_wp2_with fail
      go_ret
      rw [HDD.out]
      exact ⟨_, rfl, at_new _ _ _ _, Nat.le_refl _, below1 _ _⟩
/-- What the model takes for its list: the same as the program's where the area is not 0. -/
def leftS (L : List (Int × Int)) : List (Int × Int) := bif decide (twiceI L < 0) then turnL L else L
theorem leftS_eq {L : List (Int × Int)} (h : twiceI L ≠ 0) : leftS L = leftL L := by
  unfold leftS leftL
  by_cases q : twiceI L < 0
  · rw [decide_eq_true q, decide_eq_false (show ¬ 0 < twiceI L by omega)]; rfl
  · rw [decide_eq_false q, decide_eq_true (show 0 < twiceI L by omega)]; rfl
theorem spec_left (A : Option Addr) (c : Nat) (L : List (Int × Int)) (w : World) (hA : PtsA w A L) (hp : polyB L = true) :
    Calls Try.prog 136 #[.slice A L.length c] w fun e w' => ∃ A' c', e = .returned (.slice A' (leftS L).length c') ∧ PtsA w' A' (leftS L) ∧ Below w.heap.size w w' := by
  obtain ⟨h3, h10, hok⟩ := polyB_all hp
  have HT := Lib.hid (fun W hb => turn_any A c L W (ptsA_on hA hb) (by omega) (by omega))
  have PC := Lib.hid (twice_any A c L w hA (by omega) h10 hok)
  have HA := Lib.hid hA
  obtain ⟨t, ht⟩ : ∃ t, t = twiceI L := ⟨_, rfl⟩
  rw [← ht] at PC
  have HE : Hid (leftS L = bif decide (t < 0) then turnL L else L) := by rw [ht]; rfl
  clear hA ht hok
  by_cases h0 : t < 0
  · rw [decide_eq_true h0] at HE
    go_enter Try.func136, Try.ntmps136
    go_wp2_with fail
    refine PC.out.mono ?_
    rintro e w1 ⟨rfl, hb1⟩
    go_wp2_with fail
    refine (HT.out _ hb1).mono ?_
    rintro e w2 ⟨v, rfl, hv, hb2⟩
    go_wp2_with fail
    go_ret
    rw [HE.out]
    obtain ⟨A', c', rfl, h, -⟩ := own_ptsA hv
    exact ⟨_, _, rfl, h, below_on hb1 hb2⟩
  · rw [decide_eq_false h0] at HE
    go_enter Try.func136, Try.ntmps136
    go_wp2_with fail
    refine PC.out.mono ?_
    rintro e w1 ⟨rfl, hb1⟩
    go_wp2_with fail
    go_ret
    rw [HE.out]
    exact ⟨_, _, rfl, ptsA_on HA.out hb1, hb1⟩
end Go.Proofs.Ytbmeemmihkedoaa

/-! ToPts -/
namespace Go.Proofs.Ytbmeemmihkedoaa
open Go.RowKit

/-- The cells of a slice of points that came in, wherever it lies. -/
def ArgA (w : World) (A : Option Addr) (L : List (Int × Int)) : Prop := ∀ k (h : k < L.length), ∃ a : Addr, A = some a ∧ a.block < w.heap.size ∧ w.cell? (a.add (k * 2)) = some (.int .i64 L[k].1) ∧ w.cell? (a.add (k * 2 + 1)) = some (.int .i64 L[k].2)
theorem ArgA.step {w w' : World} {A : Option Addr} {L : List (Int × Int)} (h : ArgA w A L) (hb : Below w.heap.size w w') : ArgA w' A L := fun k hk => by
  obtain ⟨a, hA, hl, h1, h2⟩ := h k hk
  exact ⟨a, hA, Nat.lt_of_lt_of_le hl hb.size, cell_on hb rfl h1, cell_on hb rfl h2⟩
theorem add_next (a : Addr) (j : Nat) : (⟨(a.add j).block, (a.add j).off + 1, none⟩ : Addr) = a.add (j + 1) := by
  have h : j + 1 ≠ 0 := by omega
  unfold Addr.add
  by_cases hj : j = 0
  · subst hj; simp
  · rw [if_neg hj, if_neg h]; simp [Nat.add_assoc]
theorem sz_any (A : Option Addr) (n c : Nat) (m : Int) (w : World) (hm : 0 ≤ m ∧ m ≤ 1073741824) (hn : n ≤ 9223372036854775807) :
    Calls Try.prog 20 #[.slice A n c, .int .i64 m] w fun e w' => e = .returned (.int .i64 (if m - n < 0 then -1 else m - n)) ∧ w' = w := by
  have e1 : wrap64 (m - n) = m - n := IntWalk.wrap64_in _ (by omega)
  by_cases h : m - (n : Int) < 0
  · rw [if_pos h]
    go_enter Try.func20, Try.ntmps20
    go_wp2_with fail
    go_ret
    exact ⟨rfl, rfl⟩
  · rw [if_neg h]
    go_enter Try.func20, Try.ntmps20
    go_wp2_with fail
    go_ret
    exact ⟨rfl, rfl⟩
theorem flat_set {L : List (Int × Int)} {zs : List Value} (hz : zs.length = L.length * 2) (k : Nat) (hk : k < L.length) :
    ((flat (L.take k) ++ zs.drop (k * 2)).set (k * 2) (.int .i64 L[k].1)).set (k * 2 + 1) (.int .i64 L[k].2) = flat (L.take (k + 1)) ++ zs.drop ((k + 1) * 2) := by
  have h1 : (flat (L.take k)).length = k * 2 := by rw [flat_len, List.length_take]; omega
  have e1 : zs.drop (k * 2) = zs[k * 2]'(by omega) :: zs[k * 2 + 1]'(by omega) :: zs.drop ((k + 1) * 2) := by
    have e0 : (k + 1) * 2 = k * 2 + 1 + 1 := by omega
    rw [e0, List.drop_eq_getElem_cons (by omega), List.drop_eq_getElem_cons (i := k * 2 + 1) (by omega)]
  rw [List.set_append_right _ _ (by omega), h1, Nat.sub_self, e1, List.set_cons_zero, List.set_append_right _ _ (by omega), h1, Nat.add_sub_cancel_left, List.set_cons_succ, List.set_cons_zero, List.take_succ_eq_append_getElem hk, flat_append, List.append_assoc]
  rfl
set_option maxRecDepth 100000 in
set_option maxHeartbeats 1600000 in
theorem toS_any (A : Option Addr) (c : Nat) (L : List (Int × Int)) (w : World) (hA : ArgA w A L) (hL : L.length ≤ 1048576) :
    Calls Try.prog 22 #[.slice A L.length c] w fun e w' => ∃ v, e = .returned v ∧ w'.ownsRow w.heap.size 27 2 v L.length (flat L) ∧ Below w.heap.size w w' := by
  obtain ⟨i0, hi0, hz0, hz1, hz2⟩ := info_parts infoPt
  have hmk : ∀ w, (Instr.makeSlice 35 (.int .i64 (L.length : Int)) (.int .i64 (L.length : Int))).run Try.prog w = .ok (.slice (some ⟨w.heap.size, 0, none⟩) L.length L.length) (w.alloc (.cells (madeCells #[.int .i64 0, .int .i64 0] (L.length * 2)) 27)) := fun w => by
    have h := run_make (P := Try.prog) w 35 27 i0 _ Try.underlying35 hi0 hz0 .i64 .i64 (L.length : Int) (L.length : Int) (by omega) (Int.le_refl _) (by rw [hz2]; omega) (by omega)
    rw [hz1] at h
    simpa [Value.cells] using h
  have hown := World.ownsRow_lit (base := w.heap.size) (e := 27) (size := 2) w (madeCells #[.int .i64 0, .int .i64 0] (L.length * 2)) L.length (Nat.le_refl _) (by unfold maxLen; omega) (size_madeCells _ _)
  have hzl : (madeCells #[.int .i64 0, .int .i64 0] (L.length * 2)).toList.length = L.length * 2 := by rw [Array.length_toList]; exact size_madeCells _ _
  have hb0 := below1 w (.cells (madeCells #[.int .i64 0, .int .i64 0] (L.length * 2)) 27)
  have HA := Lib.hid hA; clear hA
  go_enter Try.func22, Try.ntmps22
  go_wp2_with fail
  generalize (madeCells #[.int .i64 0, .int .i64 0] (L.length * 2)).toList = zs at *
  generalize w.alloc (.cells (madeCells #[.int .i64 0, .int .i64 0] (L.length * 2)) 27) = w1 at *
  clear hmk
  go_loopw [4] (fun i wr => ∃ k : Nat, k ≤ L.length ∧ i = .int .i64 k ∧ wr.ownsRow w.heap.size 27 2 (.slice (some ⟨w.heap.size, 0, none⟩) L.length L.length) L.length (flat (L.take k) ++ zs.drop (k * 2)) ∧ Below w.heap.size w wr) (fun i _ => L.length - (intOf i).toNat)
  case atStart => exact ⟨0, Nat.zero_le _, rfl, by simpa [flat] using hown, hb0⟩
  case round =>
    obtain ⟨wo, rfl⟩ : ∃ wo : World, wo = wr := ⟨_, rfl⟩
    clear hown
    obtain ⟨k, hk, rfl, hown, hb⟩ := hrel
    by_cases hlt : k < L.length
    · obtain ⟨a, rfl, hl, h1, h2⟩ := HA.out k hlt
      have c1 := cell_on hb rfl h1; have c2 := cell_on hb rfl h2
      rw [← add_next] at c2
      have hs := flat_set hzl k hlt
      obtain ⟨x, hx⟩ : ∃ x, x = L[k].1 := ⟨_, rfl⟩
      obtain ⟨y, hy⟩ : ∃ y, y = L[k].2 := ⟨_, rfl⟩
      rw [← hx] at c1 hs
      rw [← hy] at c2 hs
      have HS := Lib.hid hs
      clear hs h1 h2 hx hy
      go_wp2_with fail
      refine (to_any _ _ _).mono ?_
      rintro e w2 ⟨rfl, hb2⟩
      have own2 := own_below hown hb2
      have b2 := below_on hb hb2
      clear hown hb hb2 c1 c2
      obtain ⟨u1, d1⟩ := cell_some own2 (k * 2) (by omega)
      have f1 := own2.frozenAt (k * 2)
      have own3 := (own2.stored (k * 2) (.int .i64 x)).1
      obtain ⟨u2, d2⟩ := cell_some own2 (k * 2 + 1) (by omega)
      have f2 := own2.frozenAt (k * 2 + 1)
      obtain ⟨u3, d3⟩ := cell_some own3 (k * 2 + 1) (by omega)
      have f3 := own3.frozenAt (k * 2 + 1)
      have own4 := (own3.stored (k * 2 + 1) (.int .i64 y)).1
      rw [HS.out] at own4
      have b4 := (b2.setCell (p := ⟨w.heap.size, k * 2, none⟩) (Nat.le_refl _) (.int .i64 x)).setCell (p := ⟨w.heap.size, k * 2 + 1, none⟩) (Nat.le_refl _) (.int .i64 y)
      have R := Lib.hid (And.intro own4 b4)
      clear own2 own3 own4 b2 b4
      go_wp2_with fail
      go_roundw
      case rel => exact ⟨k + 1, by omega, by go_num, R.out.1, R.out.2⟩
      case measure => simp [intOf]; omega
    · obtain rfl : k = L.length := by omega
      rw [List.drop_of_length_le (by omega), List.take_of_length_le (Nat.le_refl _), List.append_nil] at hown
      have R := Lib.hid hown
      clear hown
      go_wp2_with fail
      go_ret
      exact ⟨_, rfl, R.out, hb⟩
end Go.Proofs.Ytbmeemmihkedoaa

/-! PolyLaw -/
namespace Go.Proofs.Ytbmeemmihkedoaa
open Go.RowKit

theorem sz_small (A : Option Addr) (n c : Nat) (w : World) (hn : n ≤ 1048576) : Calls Try.prog 20 #[.slice A n c, .int .i64 1048576] w fun e w' => e = .returned (.int .i64 (1048576 - n)) ∧ w = w' := by
  have h := sz_any A n c 1048576 w (by decide) (by omega)
  rw [if_neg (by omega)] at h
  exact h.mono fun e w' ⟨h1, h2⟩ => ⟨h1, h2.symm⟩
theorem sz_great (A : Option Addr) (n c : Nat) (w : World) (hn : 1048576 < n) (hn2 : n ≤ maxLen) : Calls Try.prog 20 #[.slice A n c, .int .i64 1048576] w fun e w' => e = .returned (.int .i64 (-1)) ∧ w = w' := by
  have h := sz_any A n c 1048576 w (by decide) (by unfold maxLen at hn2; omega)
  rw [if_pos (by omega)] at h
  exact h.mono fun e w' ⟨h1, h2⟩ => ⟨h1, h2.symm⟩
end Go.Proofs.Ytbmeemmihkedoaa

/-! IntsLaw -/
namespace Go.Proofs.Ytbmeemmihkedoaa
open Go.RowKit

theorem own_apart_g {w w1 : World} {B0 B1 s0 s1 : Nat} {e0 e1 : TypeId} {v0 v1 : Value} {n0 n1 : Nat} {xs0 xs1 : List Value} (h0 : w.ownsRow B0 e0 s0 v0 n0 xs0) (hB : w.heap.size ≤ B1) (h1 : w1.ownsRow B1 e1 s1 v1 n1 xs1) : v0.ownBlock = none ∨ v0.ownBlock ≠ v1.ownBlock := by
  cases hv : v0.ownBlock with
  | none => exact .inl rfl
  | some k =>
    refine .inr fun he => ?_
    have a1 := (h0.lt k hv).2
    have a2 := (h1.lt k he.symm).1
    omega
theorem own_apart_g' {w w1 : World} {B0 B1 s0 s1 : Nat} {e0 e1 : TypeId} {v0 v1 : Value} {n0 n1 : Nat} {xs0 xs1 : List Value} (h0 : w.ownsRow B0 e0 s0 v0 n0 xs0) (hB : w.heap.size ≤ B1) (h1 : w1.ownsRow B1 e1 s1 v1 n1 xs1) : v1.ownBlock = none ∨ v1.ownBlock ≠ v0.ownBlock := by
  rcases own_apart_g h0 hB h1 with h | h
  · cases hv : v1.ownBlock with
    | none => exact .inl rfl
    | some k => exact .inr (fun e => by rw [h] at e; cases e)
  · exact .inr (fun e => h e.symm)
theorem intsA_of {w : World} {B : Nat} {e : TypeId} {A : Option Addr} {n c : Nat} {M : List Int} (h : w.ownsRow B e 1 (.slice A n c) n (ints M)) : IntsA w A M := by
  obtain ⟨_, A', c', hv, hP⟩ := own_ints h
  simp only [Value.slice.injEq] at hv
  obtain ⟨rfl, -, -⟩ := hv
  exact hP
set_option maxRecDepth 100000 in
set_option maxHeartbeats 800000 in
theorem eq_ints (A1 A2 : Option Addr) (c1 c2 : Nat) (M : List Int) (w : World) (h1 : IntsA w A1 M) (h2 : IntsA w A2 M) (hL : M.length ≤ 1048576) :
    Calls Try.prog 17 #[.slice A1 M.length c1, .slice A2 M.length c2] w fun e w' => e = .returned (.bool true) ∧ Below w.heap.size w w' := by
  have H1 := Lib.hid h1; clear h1
  have H2 := Lib.hid h2; clear h2
  go_enter Try.func17, Try.ntmps17
  go_wp2_with fail
  go_loopw [5] (fun i w' => ∃ k : Nat, k ≤ M.length ∧ i = .int .i64 k ∧ Below w.heap.size w w') (fun i _ => M.length - (intOf i).toNat)
  case atStart => exact ⟨0, Nat.zero_le _, rfl, Below.refl _ _⟩
  case round =>
    obtain ⟨wo, rfl⟩ : ∃ wo : World, wo = wr := ⟨_, rfl⟩
    obtain ⟨k, hk, rfl, hb⟩ := hrel
    by_cases hlt : k < M.length
    · obtain ⟨g1, rfl, hc1⟩ := intsA_on H1.out hb k hlt
      obtain ⟨g2, rfl, hc2⟩ := intsA_on H2.out hb k hlt
      obtain ⟨x, hx⟩ : ∃ x, x = M[k] := ⟨_, rfl⟩
      rw [← hx] at hc1 hc2
      clear hx
      have k1 := cell_regrown hc1; have k3 := cell_regrown hc2
      go_wp2_with fail
      refine wp_region_quiet_below (by kernel_rfl) (by kernel_rfl) ?_
      repeat (first
        | go_big_quiet_step (fail)
        | quiet_step (fail))
      refine wpQuiet_nil ?_
      rintro _ ⟨⟨dq, osq⟩, rfl⟩
      have hb2 := hb.trans ((below_regrown wo dq osq).mono hb.size)
      clear hc1 hc2 k1 k3
      simp only at *
      generalize Go.Sort.grow (redrawn wo dq) osq = w2 at *
      go_wp2_with fail
      go_roundw
      case rel => exact ⟨k + 1, by omega, by go_num, hb2⟩
      case measure => simp [intOf]; omega
    · go_wp2_with fail
      go_ret
      exact ⟨rfl, hb⟩
theorem cell_some1 {w : World} {B : Nat} {e : TypeId} {g n cap : Nat} {xs : List Value} (h : w.ownsRow B e 1 (.slice (some ⟨g, 0, none⟩) n cap) n xs) (j : Nat) (hj : j < n) : ∃ u, w.cell? ⟨g, j, none⟩ = some u := by
  rw [h.cellAt j (by omega)]
  have : j < xs.length := by rw [h.1]; omega
  exact ⟨_, List.getElem?_eq_getElem this⟩
set_option maxRecDepth 100000 in
set_option maxHeartbeats 800000 in
/-- Every number of an owned slice of ints is overwritten by its mark. -/
theorem mark_ints (B : Nat) (v : Value) (n : Nat) (xs : List Value) (w : World) (hown : w.ownsRow B 3 1 v n xs) (hn : n ≤ 1048576) :
    Calls Try.prog 18 #[v, .int .i64 1] w fun e w' => e = .returned (.int .i64 (1 + n)) ∧ w'.ownsRow B 3 1 v n (marksI n) ∧ w.grownBy w' v.ownBlock := by
  have hl : xs.length = n := by have := hown.1; omega
  rcases hown.2 with ⟨rfl, rfl⟩ | ⟨g, cap, cur, rfl, _⟩
  · go_enter Try.func18, Try.ntmps18
    go_wp2_with fail
    refine wp_loop_rounds 1 ?_
    rw [rounds_succ]
    go_wp2_with fail
    go_ret
    exact ⟨rfl, World.ownsRow_nil _ _ _ _, World.grownBy.refl _ _⟩
  · go_enter Try.func18, Try.ntmps18
    go_wp2_with fail
    go_loopw [1, 5] (fun m i wr => ∃ k : Nat, k ≤ n ∧ i = .int .i64 k ∧ m = .int .i64 (1 + k) ∧ wr.ownsRow B 3 1 (.slice (some ⟨g, 0, none⟩) n cap) n (marksI k ++ xs.drop k) ∧ w.grownBy wr (some g)) (fun _ i _ => n - (intOf i).toNat)
    case atStart => exact ⟨0, Nat.zero_le _, rfl, rfl, by simpa [marksI] using hown, World.grownBy.refl _ _⟩
    case round =>
      obtain ⟨k, hk, rfl, rfl, hown', hgr⟩ := hrel
      by_cases hlt : k < n
      · obtain ⟨u1, hc1⟩ := cell_some1 hown' k hlt
        have hf1 := hown'.frozenAt k
        have hs1 := (hown'.stored k (.int .i64 (1 + (k : Int)))).1
        rw [marksI_step (by omega)] at hs1
        have hg2 := only_set hgr k (.int .i64 (1 + (k : Int)))
        have R := Lib.hid (And.intro hs1 hg2)
        clear hs1 hg2 hown' hgr hown
        go_wp2_with fail
        go_roundw
        case rel => exact ⟨k + 1, by omega, by go_num, by go_num, R.out.1, R.out.2⟩
        case measure => simp [intOf]; omega
      · obtain rfl : k = n := by omega
        rw [List.drop_of_length_le (by omega), List.append_nil] at hown'
        have R := Lib.hid hown'
        clear hown' hown
        go_wp2_with fail
        go_ret
        exact ⟨rfl, R.out, hgr⟩
set_option maxRecDepth 100000 in
set_option maxHeartbeats 800000 in
/-- The marks are still there. -/
theorem held_ints (B : Nat) (v : Value) (n : Nat) (w : World) (hown : w.ownsRow B 3 1 v n (marksI n)) (hn : n ≤ 1048576) :
    Calls Try.prog 19 #[v, .int .i64 1] w fun e w' => e = .returned (.int .i64 (1 + n)) ∧ w' = w := by
  have hM : ∀ j, j < n → (marksI n)[j]? = some (.int .i64 (1 + (j : Int))) := fun j hj => by simp [marksI, hj]
  rcases hown.2 with ⟨rfl, rfl⟩ | ⟨g, cap, cur, rfl, _⟩
  · clear hM
    go_enter Try.func19, Try.ntmps19
    go_wp2_with fail
    refine wp_loop_rounds 1 ?_
    rw [rounds_succ]
    go_wp2_with fail
    go_ret
    exact ⟨rfl, rfl⟩
  · have HC : Hid (∀ j, j < n → w.cell? ⟨g, j, none⟩ = some (.int .i64 (1 + (j : Int)))) := fun j hj => (hown.cellAt j (by omega)).trans (hM j hj)
    clear hM hown
    go_enter Try.func19, Try.ntmps19
    go_wp2_with fail
    go_loopw [1, 5] (fun m i wr => ∃ k : Nat, k ≤ n ∧ i = .int .i64 k ∧ m = .int .i64 (1 + k) ∧ wr = w) (fun _ i _ => n - (intOf i).toNat)
    case atStart => exact ⟨0, Nat.zero_le _, rfl, rfl, rfl⟩
    case round =>
      obtain ⟨k, hk, rfl, rfl, rfl⟩ := hrel
      by_cases hlt : k < n
      · have hc1 := HC.out k hlt
        go_wp2_with fail
        go_roundw
        case rel => exact ⟨k + 1, by omega, by go_num, by go_num, by first | trivial | rfl⟩
        case measure => simp [intOf]; omega
      · obtain rfl : k = n := by omega
        go_wp2_with fail
        go_ret
        exact ⟨rfl, rfl⟩
end Go.Proofs.Ytbmeemmihkedoaa

/-! RowsR -/
namespace Go.Proofs.Ytbmeemmihkedoaa
open Go.RowKit

/-- A row: its block, its capacity, its numbers. -/
structure Rw where
  g : Nat
  cap : Nat
  M : List Int
/-- The slice of a row. -/
def hdr (r : Rw) : Value := .slice (some ⟨r.g, 0, none⟩) r.M.length r.cap
theorem hdr_own (r : Rw) : (hdr r).ownBlock = some r.g := rfl
/-- v is a slice of the rows Rs, all owned from block B on, no two in one block. -/
structure RowsR (w : World) (B : Nat) (v : Value) (Rs : List Rw) : Prop where
  out : w.ownsRow B 24 1 v Rs.length (Rs.map hdr)
  row : ∀ r ∈ Rs, w.ownsRow B 3 1 (hdr r) r.M.length (ints r.M)
  far : ∀ r ∈ Rs, v.ownBlock ≠ some r.g
  nodup : (Rs.map Rw.g).Nodup
theorem rowsR_nil (w : World) (B : Nat) : RowsR w B (.slice none 0 0) [] :=
  ⟨World.ownsRow_nil _ _ _ _, fun r h => (by cases h), fun r h => (by cases h), by simp⟩
theorem RowsR.below {w w' : World} {B : Nat} {v : Value} {Rs : List Rw} (h : RowsR w B v Rs) (hb : Below w.heap.size w w') : RowsR w' B v Rs :=
  ⟨own_below h.out hb, fun r hr => own_below (h.row r hr) hb, h.far, h.nodup⟩
theorem RowsR.base {w : World} {B B' : Nat} {v : Value} {Rs : List Rw} (h : RowsR w B v Rs) (hb : B' ≤ B) : RowsR w B' v Rs :=
  ⟨own_base h.out hb, fun r hr => own_base (h.row r hr) hb, h.far, h.nodup⟩
theorem RowsR.lt {w : World} {B : Nat} {v : Value} {Rs : List Rw} (h : RowsR w B v Rs) {r : Rw} (hr : r ∈ Rs) : B ≤ r.g ∧ r.g < w.heap.size := (h.row r hr).lt r.g rfl
/-- The slice's own address, where it has rows. -/
theorem RowsR.form {w : World} {B : Nat} {v : Value} {Rs : List Rw} (h : RowsR w B v Rs) : ∃ A c, v = .slice A Rs.length c ∧ ∀ i (hi : i < Rs.length), ∃ g, A = some ⟨g, 0, none⟩ ∧ w.cell? ⟨g, i, none⟩ = some (hdr Rs[i]) := by
  rcases h.out.2 with ⟨rfl, h0⟩ | ⟨g, cap, cur, rfl, hg, hh, _⟩
  · exact ⟨none, 0, by rw [h0], fun k hk => by omega⟩
  · refine ⟨some ⟨g, 0, none⟩, cap, rfl, fun k hk => ⟨g, rfl, ?_⟩⟩
    rw [h.out.cellAt k (by omega)]
    simp [hk]
set_option maxRecDepth 100000 in
set_option maxHeartbeats 800000 in
theorem eq_rows (B1 B2 : Nat) (v1 v2 : Value) (Rs Qs : List Rw) (w : World) (h1 : RowsR w B1 v1 Rs) (h2 : RowsR w B2 v2 Qs) (hM : Rs.map Rw.M = Qs.map Rw.M) (hL : Rs.length ≤ 1048576) (hl : ∀ r ∈ Rs, r.M.length ≤ 1048576) :
    Calls Try.prog 27 #[v1, v2] w fun e w' => e = .returned (.bool true) ∧ Below w.heap.size w w' := by
  have hn : Qs.length = Rs.length := by
    have := congrArg List.length hM
    simpa using this.symm
  obtain ⟨A1, c1, rfl, C1⟩ := h1.form
  obtain ⟨A2, c2, rfl, C2⟩ := h2.form
  rw [hn]
  have H1 := Lib.hid C1; clear C1
  have H2 := Lib.hid C2; clear C2
  have HE : Hid (∀ k (hk : k < Rs.length) (hk2 : k < Qs.length) W, Below w.heap.size w W → Calls Try.prog 17 #[hdr Rs[k], hdr Qs[k]] W fun e w' => e = .returned (.bool true) ∧ Below W.heap.size W w') := fun k hk hk2 W hb => by
    have hr := List.getElem_mem hk
    have hq := List.getElem_mem hk2
    have e : (Rs[k]).M = (Qs[k]).M := by
      have := congrArg (·[k]?) hM
      simpa [hk, hk2] using this
    have q := eq_ints (some ⟨(Rs[k]).g, 0, none⟩) (some ⟨(Qs[k]).g, 0, none⟩) (Rs[k]).cap (Qs[k]).cap (Rs[k]).M W (intsA_on (intsA_of (h1.row _ hr)) hb) (by rw [e]; exact intsA_on (intsA_of (h2.row _ hq)) hb) (hl _ hr)
    unfold hdr
    rw [← e]
    exact q
  have HN := Lib.hid hn
  clear h1 h2 hM hl hn
  go_enter Try.func27, Try.ntmps27
  go_wp2_with fail
  go_loopw [5] (fun i w' => ∃ k : Nat, k ≤ Rs.length ∧ i = .int .i64 k ∧ Below w.heap.size w w') (fun i _ => Rs.length - (intOf i).toNat)
  case atStart => exact ⟨0, Nat.zero_le _, rfl, Below.refl _ _⟩
  case round =>
    obtain ⟨wo, rfl⟩ : ∃ wo : World, wo = wr := ⟨_, rfl⟩
    obtain ⟨k, hk, rfl, hb⟩ := hrel
    by_cases hlt : k < Rs.length
    · obtain ⟨g1, rfl, hc1⟩ := H1.out k hlt
      obtain ⟨g2, rfl, hc2⟩ := H2.out k (by rw [HN.out]; exact hlt)
      have HK := Lib.hid (fun d os => HE.out k hlt (by rw [HN.out]; exact hlt) (Go.Sort.grow (redrawn wo d) os) (below_on hb (below_regrown wo d os)))
      replace hc1 := cell_on hb rfl hc1
      replace hc2 := cell_on hb rfl hc2
      generalize hdr Rs[k] = x at *
      generalize hdr (Qs[k]'(by rw [HN.out]; exact hlt)) = y at *
      have k1 := cell_regrown hc1; have k3 := cell_regrown hc2
      go_wp2_with fail
      refine wp_region_quiet_below (by kernel_rfl) (by kernel_rfl) ?_
      repeat (first
        | go_big_quiet_step (first | exact Calls.regrown_of (HK.out _ _))
        | quiet_step (first | exact Calls.regrown_of (HK.out _ _)))
      refine wpQuiet_nil ?_
      rintro _ ⟨⟨dq, osq⟩, rfl⟩
      have hb2 := hb.trans ((below_regrown wo dq osq).mono hb.size)
      clear hc1 hc2 k1 k3
      simp only at *
      generalize Go.Sort.grow (redrawn wo dq) osq = w2 at *
      go_wp2_with fail
      go_roundw
      case rel => exact ⟨k + 1, by omega, by go_num, hb2⟩
      case measure => simp [intOf]; omega
    · go_wp2_with fail
      go_ret
      exact ⟨rfl, hb⟩
/-- Marks from s on. -/
def marksS (s : Int) (m : Nat) : List Int := (List.range m).map fun (j : Nat) => s + (j : Int)
theorem marksS_len (s : Int) (m : Nat) : (marksS s m).length = m := by simp [marksS]
theorem marksS_step {s : Int} {j : Nat} {xs : List Value} (hj : j < xs.length) : (ints (marksS s j) ++ xs.drop j).set j (.int .i64 (s + (j : Int))) = ints (marksS s (j + 1)) ++ xs.drop (j + 1) := by
  have h1 : (ints (marksS s j)).length = j := by rw [ints_len, marksS_len]
  have h2 : (xs.drop j).set 0 (.int .i64 (s + (j : Int))) = .int .i64 (s + (j : Int)) :: xs.drop (j + 1) := by
    rw [List.drop_eq_getElem_cons hj]; rfl
  rw [List.set_append_right _ _ (by omega), h1, Nat.sub_self, h2]
  simp [marksS, ints, List.range_succ]
theorem mark_w {s : Int} {k : Nat} (h0 : 0 ≤ s) (h1 : s ≤ 1000000000) (hk : k ≤ 1048576) : wrap64 (s + (k : Int) + 1) = s + ((k + 1 : Nat) : Int) ∧ IntKind.i64.wrap (s + (k : Int) + 1) = s + ((k + 1 : Nat) : Int) := by
  have e : s + (k : Int) + 1 = s + ((k + 1 : Nat) : Int) := by omega
  rw [e]
  exact ⟨IntWalk.wrap64_in _ (by omega), IntWalk.i64_in _ (by omega)⟩
set_option maxRecDepth 100000 in
set_option maxHeartbeats 800000 in
/-- A row is overwritten by its marks from s on. -/
theorem mark_row (B g cap : Nat) (n : Nat) (xs : List Value) (s : Int) (w : World) (hown : w.ownsRow B 3 1 (.slice (some ⟨g, 0, none⟩) n cap) n xs) (hn : n ≤ 1048576) (hs0 : 0 ≤ s) (hs1 : s ≤ 1000000000) :
    Calls Try.prog 18 #[.slice (some ⟨g, 0, none⟩) n cap, .int .i64 s] w fun e w' => e = .returned (.int .i64 (s + (n : Int))) ∧ w'.ownsRow B 3 1 (.slice (some ⟨g, 0, none⟩) n cap) n (ints (marksS s n)) ∧ w.grownBy w' (some g) := by
  have hl : xs.length = n := by have := hown.1; omega
  go_enter Try.func18, Try.ntmps18
  go_wp2_with fail
  go_loopw [1, 5] (fun m i wr => ∃ (k : Nat) (sv : Int), k ≤ n ∧ Hid (sv = s + (k : Int)) ∧ i = .int .i64 k ∧ m = .int .i64 sv ∧ wr.ownsRow B 3 1 (.slice (some ⟨g, 0, none⟩) n cap) n (ints (marksS s k) ++ xs.drop k) ∧ w.grownBy wr (some g)) (fun _ i _ => n - (intOf i).toNat)
  case atStart => exact ⟨0, s, Nat.zero_le _, by show s = s + ((0 : Nat) : Int); omega, rfl, rfl, by simpa [marksS, ints] using hown, World.grownBy.refl _ _⟩
  case round =>
    obtain ⟨k, sv, hk, HS, rfl, rfl, hown', hgr⟩ := hrel
    by_cases hlt : k < n
    · obtain ⟨u1, hc1⟩ := cell_some1 hown' k hlt
      have hf1 := hown'.frozenAt k
      have hs2 := (hown'.stored k (.int .i64 sv)).1
      have hst := marksS_step (s := s) (j := k) (xs := xs) (by omega)
      rw [← HS.out] at hst
      rw [hst] at hs2
      have hg2 := only_set hgr k (.int .i64 sv)
      have R := Lib.hid (And.intro hs2 hg2)
      obtain ⟨f1, f1'⟩ := mark_w (s := s) (k := k) hs0 hs1 (by omega)
      have HS1 : Hid (s + ((k + 1 : Nat) : Int) = sv + 1) := by show _ = _; rw [HS.out]; omega
      rw [← HS.out, HS1.out] at f1 f1'
      have HS2 : Hid (sv + 1 = s + ((k + 1 : Nat) : Int)) := HS1.out.symm
      clear hs2 hst hg2 hown' hgr hown HS1
      go_wp2_with fail
      clear f1 f1'
      go_roundw
      case rel => exact ⟨k + 1, sv + 1, by omega, HS2, by go_num, rfl, R.out.1, R.out.2⟩
      case measure => simp [intOf]; omega
    · obtain rfl : k = n := by omega
      rw [List.drop_of_length_le (by omega), List.append_nil] at hown'
      have R := Lib.hid hown'
      clear hown' hown
      go_wp2_with fail
      go_ret
      exact ⟨by rw [HS.out]; rfl, R.out, hgr⟩
set_option maxRecDepth 100000 in
set_option maxHeartbeats 800000 in
/-- The marks from s on are still there. -/
theorem held_row (B g cap : Nat) (n : Nat) (s : Int) (w : World) (hown : w.ownsRow B 3 1 (.slice (some ⟨g, 0, none⟩) n cap) n (ints (marksS s n))) (hn : n ≤ 1048576) (hs0 : 0 ≤ s) (hs1 : s ≤ 1000000000) :
    Calls Try.prog 19 #[.slice (some ⟨g, 0, none⟩) n cap, .int .i64 s] w fun e w' => e = .returned (.int .i64 (s + (n : Int))) ∧ w' = w := by
  have HC : Hid (∀ j, j < n → w.cell? ⟨g, j, none⟩ = some (.int .i64 (s + (j : Int)))) := fun j hj => (hown.cellAt j (by omega)).trans (by simp [marksS, ints, hj])
  clear hown
  go_enter Try.func19, Try.ntmps19
  go_wp2_with fail
  go_loopw [1, 5] (fun m i wr => ∃ (k : Nat) (sv : Int), k ≤ n ∧ Hid (sv = s + (k : Int)) ∧ i = .int .i64 k ∧ m = .int .i64 sv ∧ wr = w) (fun _ i _ => n - (intOf i).toNat)
  case atStart => exact ⟨0, s, Nat.zero_le _, by show s = s + ((0 : Nat) : Int); omega, rfl, rfl, rfl⟩
  case round =>
    obtain ⟨k, sv, hk, HS, rfl, rfl, rfl⟩ := hrel
    by_cases hlt : k < n
    · have hc1 := HC.out k hlt
      rw [← HS.out] at hc1
      obtain ⟨f1, f1'⟩ := mark_w (s := s) (k := k) hs0 hs1 (by omega)
      have HS1 : Hid (s + ((k + 1 : Nat) : Int) = sv + 1) := by show _ = _; rw [HS.out]; omega
      rw [← HS.out, HS1.out] at f1 f1'
      have HS2 : Hid (sv + 1 = s + ((k + 1 : Nat) : Int)) := HS1.out.symm
      clear HS1
      go_wp2_with fail
      clear f1 f1'
      go_roundw
      case rel => exact ⟨k + 1, sv + 1, by omega, HS2, by go_num, rfl, by first | trivial | rfl⟩
      case measure => simp [intOf]; omega
    · obtain rfl : k = n := by omega
      go_wp2_with fail
      go_ret
      exact ⟨by rw [HS.out]; rfl, rfl⟩
def mkR (q j : Nat) (r : Rw) : Rw := { r with M := marksS (1 + (q : Int) * (j : Int)) q }
/-- The first k rows are overwritten by marks. -/
def mixR (q : Nat) (Rs : List Rw) (k : Nat) : List Rw := Rs.mapIdx fun j r => bif decide (j < k) then mkR q j r else r
theorem mix_len (q : Nat) (Rs : List Rw) (k : Nat) : (mixR q Rs k).length = Rs.length := by simp [mixR]
theorem mix_get {q : Nat} {Rs : List Rw} {k j : Nat} (hj : j < (mixR q Rs k).length) : (mixR q Rs k)[j] = bif decide (j < k) then mkR q j (Rs[j]'(by rwa [mix_len] at hj)) else (Rs[j]'(by rwa [mix_len] at hj)) := by
  simp [mixR]
theorem mix_zero (q : Nat) (Rs : List Rw) : mixR q Rs 0 = Rs := by
  refine List.ext_getElem (mix_len _ _ _) fun j h1 h2 => ?_
  rw [mix_get]; rfl
theorem mix_g (q : Nat) (Rs : List Rw) (k : Nat) : (mixR q Rs k).map Rw.g = Rs.map Rw.g := by
  refine List.ext_getElem (by simp [mix_len]) fun j h1 h2 => ?_
  rw [List.getElem_map, List.getElem_map, mix_get]
  cases decide (j < k) <;> rfl
theorem mix_hdr {q : Nat} {Rs : List Rw} (hq : ∀ r ∈ Rs, r.M.length = q) (k : Nat) : (mixR q Rs k).map hdr = Rs.map hdr := by
  refine List.ext_getElem (by simp [mix_len]) fun j h1 h2 => ?_
  rw [List.getElem_map, List.getElem_map, mix_get]
  have := hq _ (List.getElem_mem (l := Rs) (n := j) (by simpa using h2))
  cases decide (j < k)
  · rfl
  · simp only [cond_true, hdr, mkR, marksS_len]
    rw [this]
theorem g_inj {Rs : List Rw} (h : (Rs.map Rw.g).Nodup) {i j : Nat} (hi : i < Rs.length) (hj : j < Rs.length) (e : (Rs[i]).g = (Rs[j]).g) : i = j := by
  have h1 : i < (Rs.map Rw.g).length := by simpa using hi
  have h2 : j < (Rs.map Rw.g).length := by simpa using hj
  exact (List.getElem_inj (h₀ := h1) (h₁ := h2) h).1 (by simpa using e)
theorem mix_step {w w' : World} {B : Nat} {v : Value} {Rs : List Rw} {q k : Nat} (hq : ∀ r ∈ Rs, r.M.length = q) (hk : k < Rs.length) (h : RowsR w B v (mixR q Rs k))
    (ho : w'.ownsRow B 3 1 (.slice (some ⟨(Rs[k]).g, 0, none⟩) q (Rs[k]).cap) q (ints (marksS (1 + (q : Int) * (k : Int)) q))) (hg : w.grownBy w' (some (Rs[k]).g)) : RowsR w' B v (mixR q Rs (k + 1)) := by
  have hlen := mix_len q Rs k
  have hkm : (mixR q Rs k)[k]'(by omega) = Rs[k] := by rw [mix_get]; simp
  have hfar : v.ownBlock ≠ some (Rs[k]).g := by
    have := h.far _ (List.getElem_mem (l := mixR q Rs k) (n := k) (by omega))
    rwa [hkm] at this
  have hnd : (Rs.map Rw.g).Nodup := by have := h.nodup; rwa [mix_g] at this
  refine ⟨?_, ?_, ?_, by rw [mix_g]; exact hnd⟩
  · have o := h.out.kept hg (by
      cases hv : v.ownBlock with
      | none => exact .inl rfl
      | some b => exact .inr (fun e => hfar (by rw [hv, ← e])))
    rw [mix_hdr hq, mix_len] at o
    rw [mix_hdr hq, mix_len]
    exact o
  · intro r hr
    obtain ⟨j, hj, rfl⟩ := List.getElem_of_mem hr
    have hj' : j < Rs.length := by rwa [mix_len] at hj
    by_cases e : j = k
    · subst e
      rw [mix_get, decide_eq_true (Nat.lt_succ_self j), cond_true]
      show w'.ownsRow B 3 1 (.slice (some ⟨(Rs[j]).g, 0, none⟩) (marksS _ q).length (Rs[j]).cap) (marksS _ q).length _
      rw [marksS_len]
      exact ho
    · have hd : decide (j < k + 1) = decide (j < k) := by
        rw [decide_eq_decide]; omega
      have hs : (mixR q Rs (k + 1))[j] = (mixR q Rs k)[j]'(by omega) := by rw [mix_get, mix_get, hd]
      rw [hs]
      have o := h.row _ (List.getElem_mem (l := mixR q Rs k) (n := j) (by omega))
      refine o.kept hg (.inr fun e2 => e (g_inj hnd hj' hk ?_))
      have e3 : ((mixR q Rs k)[j]'(by omega)).g = (Rs[j]).g := by rw [mix_get]; cases decide (j < k) <;> rfl
      rw [hdr_own, e3] at e2
      exact Option.some.inj e2
  · intro r hr
    obtain ⟨j, hj, rfl⟩ := List.getElem_of_mem hr
    have := h.far _ (List.getElem_mem (l := mixR q Rs k) (n := j) (by rw [mix_len] at hj ⊢; exact hj))
    have e3 : ((mixR q Rs k)[j]'(by rw [mix_len] at hj ⊢; exact hj)).g = ((mixR q Rs (k + 1))[j]).g := by
      rw [mix_get, mix_get]; cases decide (j < k) <;> cases decide (j < k + 1) <;> rfl
    rwa [e3] at this
theorem mix_all (q : Nat) (Rs : List Rw) {r : Rw} (h : r ∈ mixR q Rs Rs.length) : ∃ j, ∃ hj : j < Rs.length, r = mkR q j Rs[j] := by
  obtain ⟨j, hj, rfl⟩ := List.getElem_of_mem h
  have hj' : j < Rs.length := by rwa [mix_len] at hj
  exact ⟨j, hj', by rw [mix_get, decide_eq_true hj']; rfl⟩
theorem row_w {q k n : Nat} (hq : q ≤ 1000) (hk : k ≤ n) (hn : n ≤ 1000) : 0 ≤ 1 + (q : Int) * (k : Int) ∧ 1 + (q : Int) * (k : Int) ≤ 1000000000 := by
  have h : q * k ≤ 1000 * 1000 := Nat.mul_le_mul hq (Nat.le_trans hk hn)
  have e : (q : Int) * (k : Int) = ((q * k : Nat) : Int) := by simp
  rw [e]; omega
theorem row_nx (q k : Nat) : 1 + (q : Int) * (k : Int) + (q : Int) = 1 + (q : Int) * ((k + 1 : Nat) : Int) := by
  rw [Int.natCast_add, Int.mul_add]; simp; omega
theorem k_w {k n : Nat} (hk : k ≤ n) (hn : n ≤ 1000) : wrap64 ((k : Int) + 1) = (k : Int) + 1 ∧ IntKind.i64.wrap ((k : Int) + 1) = (k : Int) + 1 := ⟨IntWalk.wrap64_in _ (by omega), IntWalk.i64_in _ (by omega)⟩
/-- Nothing of what lay has changed but the rows. -/
structure ButRows (Rs : List Rw) (w w' : World) : Prop where
  os : w'.os = w.os
  tape : w'.tape = w.tape
  output : w'.output = w.output
  size : w.heap.size ≤ w'.heap.size
  block : ∀ j, j < w.heap.size → (∀ r ∈ Rs, r.g ≠ j) → w'.heap[j]? = w.heap[j]?
theorem ButRows.refl (Rs : List Rw) (w : World) : ButRows Rs w w := ⟨rfl, rfl, rfl, Nat.le_refl _, fun _ _ _ => rfl⟩
theorem ButRows.step {Rs : List Rw} {w a b : World} {g : Nat} (h : ButRows Rs w a) (hg : a.grownBy b (some g)) (hn : ∀ j, (∀ r ∈ Rs, r.g ≠ j) → g ≠ j) : ButRows Rs w b :=
  ⟨hg.os.trans h.os, hg.tape.trans h.tape, hg.output.trans h.output, Nat.le_trans h.size hg.size, fun j hj hr => (hg.block j (Nat.lt_of_lt_of_le hj h.size) (fun e => hn j hr (Option.some.inj e).symm)).trans (h.block j hj hr)⟩
theorem ButRows.below {Rs : List Rw} {w a b : World} {B : Nat} (h : ButRows Rs a b) (hb : Below B w a) (hB : B ≤ a.heap.size) (hr : ∀ r ∈ Rs, B ≤ r.g) : Below B w b :=
  ⟨h.os.trans hb.os, h.tape.trans hb.tape, h.output.trans hb.output, Nat.le_trans hb.size h.size, fun j hj => (h.block j (Nat.lt_of_lt_of_le hj hB) (fun r hrr e => by have := hr r hrr; omega)).trans (hb.block j hj)⟩
/-- Another slice of the call's own, whose block is no row's. -/
theorem ButRows.own {Rs : List Rw} {w w' : World} {B size n : Nat} {e : TypeId} {v : Value} {xs : List Value} (h : ButRows Rs w w') (ho : w.ownsRow B e size v n xs) (hf : ∀ r ∈ Rs, v.ownBlock ≠ some r.g) : w'.ownsRow B e size v n xs := by
  refine ⟨ho.1, ?_⟩
  rcases ho.2 with hn | ⟨g, cap, cur, rfl, hb, hgg, rest⟩
  · exact .inl hn
  · refine .inr ⟨g, cap, cur, rfl, hb, ?_, rest⟩
    exact (h.block g (Array.getElem?_eq_some_iff.1 hgg).1 (fun r hr e => hf r hr (by rw [e]; rfl))).trans hgg
set_option maxRecDepth 100000 in
set_option maxHeartbeats 800000 in
/-- Every row is overwritten by its marks. -/
theorem mark_rows (B : Nat) (v : Value) (Rs : List Rw) (q : Nat) (w : World) (h : RowsR w B v Rs) (hq : ∀ r ∈ Rs, r.M.length = q) (hq1 : q ≤ 1000) (hn : Rs.length ≤ 1000) :
    Calls Try.prog 29 #[v, .int .i64 1] w fun e w' => e = .returned (.int .i64 (1 + (q : Int) * (Rs.length : Int))) ∧ RowsR w' B v (mixR q Rs Rs.length) ∧ ButRows Rs w w' := by
  obtain ⟨A, c, rfl, -⟩ := h.form
  have HQ := Lib.hid hq
  have HH := Lib.hid h
  clear h hq
  go_enter Try.func29, Try.ntmps29
  go_wp2_with fail
  go_loopw [1, 5] (fun m i wr => ∃ (k : Nat) (sv : Int), k ≤ Rs.length ∧ Hid (sv = 1 + (q : Int) * (k : Int)) ∧ i = .int .i64 k ∧ m = .int .i64 sv ∧ Hid (RowsR wr B (.slice A Rs.length c) (mixR q Rs k)) ∧ Hid (ButRows Rs w wr)) (fun _ i _ => Rs.length - (intOf i).toNat)
  case atStart => exact ⟨0, 1, Nat.zero_le _, by show (1 : Int) = 1 + (q : Int) * ((0 : Nat) : Int); simp, rfl, rfl, by show RowsR _ _ _ _; rw [mix_zero]; exact HH.out, ButRows.refl _ _⟩
  case round =>
    obtain ⟨wo, rfl⟩ : ∃ wo : World, wo = wr := ⟨_, rfl⟩
    obtain ⟨k, sv, hk, HS, rfl, rfl, HR, HK⟩ := hrel
    by_cases hlt : k < Rs.length
    · obtain ⟨A', c', hv, hcell⟩ := HR.out.form
      simp only [Value.slice.injEq] at hv
      obtain ⟨rfl, hl, rfl⟩ := hv
      obtain ⟨g, rfl, hc⟩ := hcell k (by rw [mix_len]; exact hlt)
      have hkm : (mixR q Rs k)[k]'(by rw [mix_len]; exact hlt) = Rs[k] := by rw [mix_get]; simp
      rw [hkm] at hc
      have hrow := HR.out.row _ (List.getElem_mem (l := mixR q Rs k) (n := k) (by rw [mix_len]; exact hlt))
      rw [hkm] at hrow
      have hql := HQ.out _ (List.getElem_mem hlt)
      obtain ⟨w0, w1⟩ := row_w hq1 hk hn
      have hx : hdr Rs[k] = .slice (some ⟨(Rs[k]).g, 0, none⟩) q (Rs[k]).cap := by unfold hdr; rw [hql]
      rw [hx] at hc hrow
      rw [hql] at hrow
      have HM := Lib.hid (mark_row B (Rs[k]).g (Rs[k]).cap q _ sv wo hrow (by omega) (by rw [HS.out]; exact w0) (by rw [HS.out]; exact w1))
      have HST : Hid (∀ w', w'.ownsRow B 3 1 (.slice (some ⟨(Rs[k]).g, 0, none⟩) q (Rs[k]).cap) q (ints (marksS sv q)) → wo.grownBy w' (some (Rs[k]).g) → RowsR w' B (.slice (some ⟨g, 0, none⟩) Rs.length c) (mixR q Rs (k + 1))) := fun w' ho hg => mix_step HQ.out hlt HR.out (by rw [← HS.out]; exact ho) hg
      have HIN : Hid (∀ j, (∀ r ∈ Rs, r.g ≠ j) → (Rs[k]).g ≠ j) := fun j hh => hh _ (List.getElem_mem hlt)
      obtain ⟨f1, f1'⟩ := k_w hk hn
      have HS1 : Hid (sv + (q : Int) = 1 + (q : Int) * ((k + 1 : Nat) : Int)) := by show _ = _; rw [HS.out, row_nx]
      clear hrow hkm hcell hql hx w0 w1 hl
      generalize (Rs[k]).g = gk at *
      generalize (Rs[k]).cap = ck at *
      go_wp2_with fail
      refine HM.out.mono ?_
      rintro e w2 ⟨rfl, ho, hg⟩
      have R2 := Lib.hid (HST.out w2 ho hg)
      have K2 := Lib.hid (HK.out.step hg HIN.out)
      clear ho hg hc
      go_wp2_with fail
      clear f1 f1'
      go_roundw
      case rel => exact ⟨k + 1, sv + (q : Int), by omega, HS1, by go_num, rfl, R2, K2⟩
      case measure => simp [intOf]; omega
    · obtain rfl : k = Rs.length := by omega
      go_wp2_with fail
      go_ret
      exact ⟨by rw [HS.out]; rfl, HR.out, HK.out⟩
set_option maxRecDepth 100000 in
set_option maxHeartbeats 800000 in
/-- The marks are still there. -/
theorem held_rows (B : Nat) (v : Value) (Rs : List Rw) (q : Nat) (w : World) (h : RowsR w B v (mixR q Rs Rs.length)) (hq1 : q ≤ 1000) (hn : Rs.length ≤ 1000) :
    Calls Try.prog 30 #[v, .int .i64 1] w fun e w' => e = .returned (.int .i64 (1 + (q : Int) * (Rs.length : Int))) ∧ w' = w := by
  obtain ⟨A, c, rfl, hcell⟩ := h.form
  have HH := Lib.hid h
  have HC := Lib.hid hcell
  rw [mix_len]
  clear h hcell
  go_enter Try.func30, Try.ntmps30
  go_wp2_with fail
  go_loopw [1, 5] (fun m i wr => ∃ (k : Nat) (sv : Int), k ≤ Rs.length ∧ Hid (sv = 1 + (q : Int) * (k : Int)) ∧ i = .int .i64 k ∧ m = .int .i64 sv ∧ wr = w) (fun _ i _ => Rs.length - (intOf i).toNat)
  case atStart => exact ⟨0, 1, Nat.zero_le _, by show (1 : Int) = 1 + (q : Int) * ((0 : Nat) : Int); simp, rfl, rfl, rfl⟩
  case round =>
    obtain ⟨k, sv, hk, HS, rfl, rfl, rfl⟩ := hrel
    by_cases hlt : k < Rs.length
    · obtain ⟨g, rfl, hc⟩ := HC.out k (by rw [mix_len]; exact hlt)
      have hkm : (mixR q Rs Rs.length)[k]'(by rw [mix_len]; exact hlt) = mkR q k Rs[k] := by rw [mix_get, decide_eq_true hlt]; rfl
      rw [hkm] at hc
      have hrow := HH.out.row _ (List.getElem_mem (l := mixR q Rs Rs.length) (n := k) (by rw [mix_len]; exact hlt))
      rw [hkm] at hrow
      obtain ⟨w0, w1⟩ := row_w hq1 hk hn
      have hx : hdr (mkR q k Rs[k]) = .slice (some ⟨(Rs[k]).g, 0, none⟩) q (Rs[k]).cap := by simp [hdr, mkR, marksS_len]
      have hml : (mkR q k Rs[k]).M.length = q := marksS_len _ _
      rw [hx] at hc hrow
      rw [hml] at hrow
      have HM := Lib.hid (held_row B (Rs[k]).g (Rs[k]).cap q sv wr (by rw [HS.out]; exact hrow) (by omega) (by rw [HS.out]; exact w0) (by rw [HS.out]; exact w1))
      obtain ⟨f1, f1'⟩ := k_w hk hn
      have HS1 : Hid (sv + (q : Int) = 1 + (q : Int) * ((k + 1 : Nat) : Int)) := by show _ = _; rw [HS.out, row_nx]
      have hnn : decide (sv + (q : Int) < 0) = false := decide_eq_false (by rw [HS.out]; omega)
      have hnn' : ¬ sv + (q : Int) < 0 := by rw [HS.out]; omega
      clear hrow hkm hx hml w0 w1
      generalize (Rs[k]).g = gk at *
      generalize (Rs[k]).cap = ck at *
      go_wp2_with fail
      refine HM.out.mono ?_
      rintro e w2 ⟨rfl, rfl⟩
      clear hc
      go_wp2_with fail
      clear f1 f1' hnn hnn'
      go_roundw
      case rel => exact ⟨k + 1, sv + (q : Int), by omega, HS1, by go_num, rfl, by first | trivial | rfl⟩
      case measure => simp [intOf]; omega
    · obtain rfl : k = Rs.length := by omega
      go_wp2_with fail
      go_ret
      exact ⟨by rw [HS.out]; rfl, rfl⟩
end Go.Proofs.Ytbmeemmihkedoaa

/-! Diag -/
namespace Go.Proofs.Ytbmeemmihkedoaa.Mid
open Go.RowKit

theorem cross_aa (a b : Pt) : crossP a b a = 0 := by unfold crossP crossI; grind
theorem cross_abb (a b : Pt) : crossP a b b = 0 := by unfold crossP crossI; grind
theorem le_of_mulD {d x y : Int} (hd : 0 < d) (h : d * x ≤ d * y) : x ≤ y := Int.le_of_mul_le_mul_left h hd
theorem mix_le {s t a b lo : Int} (hs : 0 ≤ s) (ht : 0 ≤ t) (ha : lo ≤ a) (hb : lo ≤ b) : (s + t) * lo ≤ s * a + t * b := by
  have h1 := Int.mul_le_mul_of_nonneg_left ha hs
  have h2 := Int.mul_le_mul_of_nonneg_left hb ht
  rw [Int.add_mul]; omega
theorem le_mix {s t a b hi : Int} (hs : 0 ≤ s) (ht : 0 ≤ t) (ha : a ≤ hi) (hb : b ≤ hi) : s * a + t * b ≤ (s + t) * hi := by
  have h1 := Int.mul_le_mul_of_nonneg_left ha hs
  have h2 := Int.mul_le_mul_of_nonneg_left hb ht
  rw [Int.add_mul]; omega
theorem on_of_x {a b v : Pt} (h : a.1 ≠ b.1) (hc : crossP a b v = 0) (hb : bt a.1 b.1 v.1) : onP a b v = true := by
  refine (onP_iff _ _ _).2 ⟨hc, hb, ?_⟩
  unfold crossP crossI at hc
  unfold bt at hb
  rcases Int.lt_or_gt_of_ne h with k | k
  · exact frac_bt (m := b.1 - a.1) (q := v.1 - a.1) (by omega) (by omega) (by omega) (by grind)
  · exact frac_bt (m := a.1 - b.1) (q := a.1 - v.1) (by omega) (by omega) (by omega) (by grind)
theorem on_of_y {a b v : Pt} (h : a.2 ≠ b.2) (hc : crossP a b v = 0) (hb : bt a.2 b.2 v.2) : onP a b v = true := by
  refine (onP_iff _ _ _).2 ⟨hc, ?_, hb⟩
  unfold crossP crossI at hc
  unfold bt at hb
  rcases Int.lt_or_gt_of_ne h with k | k
  · exact frac_bt (m := b.2 - a.2) (q := v.2 - a.2) (by omega) (by omega) (by omega) (by grind)
  · exact frac_bt (m := a.2 - b.2) (q := a.2 - v.2) (by omega) (by omega) (by omega) (by grind)
/-- Two intervals with a common point: an end of one is in the other. -/
theorem ends_meet {a b c d s t p q : Int} (hs : 0 ≤ s) (ht : 0 ≤ t) (hp : 0 ≤ p) (hq : 0 ≤ q) (h5 : 0 < s + t) (h6 : s + t = p + q) (h : s * a + t * b = p * c + q * d) : bt a b c ∨ bt a b d ∨ bt c d a ∨ bt c d b := by
  have m1 : (s + t) * min a b ≤ s * a + t * b := mix_le hs ht (by omega) (by omega)
  have m2 : s * a + t * b ≤ (s + t) * max a b := le_mix hs ht (by omega) (by omega)
  have m3 : (p + q) * min c d ≤ p * c + q * d := mix_le hp hq (by omega) (by omega)
  have m4 : p * c + q * d ≤ (p + q) * max c d := le_mix hp hq (by omega) (by omega)
  rw [← h6, ← h] at m3 m4
  have l1 := le_of_mulD h5 (Int.le_trans m1 m4)
  have l2 := le_of_mulD h5 (Int.le_trans m3 m2)
  unfold bt
  omega
theorem mul_zeroR {s x : Int} (h : s * x = 0) (hx : x ≠ 0) : s = 0 := by
  rcases Int.mul_eq_zero.1 h with k | k
  · exact k
  · exact absurd k hx
theorem opp_signs {x y : Int} (h : (0 < x ∧ y < 0) ∨ (x < 0 ∧ 0 < y)) : sgn x * sgn y < 0 := by
  unfold sgn
  rcases h with h | h
  · split <;> split <;> (try split) <;> (try split) <;> omega
  · split <;> split <;> (try split) <;> (try split) <;> omega
theorem cross_lin {a b c d e f : Pt} {s t p q : Int} (h6 : s + t = p + q) (e1 : s * a.1 + t * b.1 = p * c.1 + q * d.1) (e2 : s * a.2 + t * b.2 = p * c.2 + q * d.2) : s * crossP e f a + t * crossP e f b = p * crossP e f c + q * crossP e f d := by
  unfold crossP crossI
  have : p = s + t - q := by omega
  subst this
  grind
theorem strict_opp {s t x y : Int} (hs : 0 ≤ s) (ht : 0 ≤ t) (h5 : 0 < s + t) (h : s * x + t * y = 0) (hx : x ≠ 0) (hy : y ≠ 0) : (0 < x ∧ y < 0) ∨ (x < 0 ∧ 0 < y) := by
  rcases Int.lt_or_gt_of_ne hx with k | k <;> rcases Int.lt_or_gt_of_ne hy with l | l
  · exfalso
    have a1 := Int.mul_nonneg hs (show 0 ≤ -x by omega)
    have a2 := Int.mul_nonneg ht (show 0 ≤ -y by omega)
    rw [Int.mul_neg] at a1 a2
    have b1 := mul_zeroR (show s * x = 0 by omega) hx
    have b2 := mul_zeroR (show t * y = 0 by omega) hy
    omega
  · exact .inr ⟨k, l⟩
  · exact .inl ⟨k, l⟩
  · exfalso
    have a1 := Int.mul_nonneg hs (show 0 ≤ x by omega)
    have a2 := Int.mul_nonneg ht (show 0 ≤ y by omega)
    have b1 := mul_zeroR (show s * x = 0 by omega) hx
    have b2 := mul_zeroR (show t * y = 0 by omega) hy
    omega
theorem wt_on {a b x : Pt} {p q m : Int} (hp : 0 ≤ p) (hq : 0 ≤ q) (hm : 0 < m) (h : m = p + q) (e1 : m * x.1 = p * a.1 + q * b.1) (e2 : m * x.2 = p * a.2 + q * b.2) : onP a b x = true := by
  subst h
  refine (onP_iff _ _ _).2 ⟨?_, ?_, ?_⟩
  · refine mul_zeroR (x := p + q) ?_ (by omega)
    unfold crossP crossI
    grind
  · exact frac_bt (m := p + q) (q := q) hm hq (by omega) (by grind)
  · exact frac_bt (m := p + q) (q := q) hm hq (by omega) (by grind)
theorem apart {a b c d : Pt} (hab : a ≠ b) (hcd : c ≠ d) (h : meetI a b c d = 0) {s t p q : Int} (hs : 0 ≤ s) (ht : 0 ≤ t) (hp : 0 ≤ p) (hq : 0 ≤ q) (h5 : 0 < s + t) (h6 : s + t = p + q) (e1 : s * a.1 + t * b.1 = p * c.1 + q * d.1) (e2 : s * a.2 + t * b.2 = p * c.2 + q * d.2) : False := by
  have hh := meet_zero.1 h
  obtain ⟨ho, q1, q2, q3, q4⟩ := hh
  have f1 := cross_lin (e := c) (f := d) h6 e1 e2
  have f2 := cross_lin (e := a) (f := b) h6 e1 e2
  rw [cross_aa, cross_abb, Int.mul_zero, Int.mul_zero, Int.add_zero] at f1
  rw [cross_aa, cross_abb, Int.mul_zero, Int.mul_zero, Int.add_zero] at f2
  have f2' := f2.symm
  by_cases z1 : crossP c d a = 0
  · by_cases z2 : crossP c d b = 0
    · -- all on one line
      have z3 : crossP a b c = 0 ∧ crossP a b d = 0 := by
        have g : crossP a b c - crossP a b d = crossP c d b - crossP c d a := by unfold crossP crossI; grind
        have g2 : (p + q) * crossP a b c = 0 := by
          have : crossP a b d = crossP a b c := by omega
          rw [this] at f2'; grind
        have g3 : crossP a b c = 0 := mul_zeroR (x := p + q) (by rw [Int.mul_comm]; exact g2) (by omega)
        omega
      by_cases hx : a.1 = b.1 ∧ c.1 = d.1
      · have hy1 : a.2 ≠ b.2 := fun e => hab (Prod.ext hx.1 e)
        have hy2 : c.2 ≠ d.2 := fun e => hcd (Prod.ext hx.2 e)
        rcases ends_meet hs ht hp hq h5 h6 e2 with k | k | k | k
        · rw [on_of_y hy1 z3.1 k] at q3; cases q3
        · rw [on_of_y hy1 z3.2 k] at q4; cases q4
        · rw [on_of_y hy2 z1 k] at q1; cases q1
        · rw [on_of_y hy2 z2 k] at q2; cases q2
      · have hx1 : a.1 ≠ b.1 := fun e => by
          have hy1 : a.2 ≠ b.2 := fun e' => hab (Prod.ext e e')
          have g1 := z3.1
          have g2 := z3.2
          unfold crossP crossI at g1 g2
          rw [← e, Int.sub_self, Int.zero_mul] at g1 g2
          have k1 := mul_zeroR (s := c.1 - a.1) (x := b.2 - a.2) (by rw [Int.mul_comm]; omega) (by omega)
          have k2 := mul_zeroR (s := d.1 - a.1) (x := b.2 - a.2) (by rw [Int.mul_comm]; omega) (by omega)
          exact hx ⟨e, by omega⟩
        have hx2 : c.1 ≠ d.1 := fun e => by
          have hy1 : c.2 ≠ d.2 := fun e' => hcd (Prod.ext e e')
          have g1 := z1
          have g2 := z2
          unfold crossP crossI at g1 g2
          rw [← e, Int.sub_self, Int.zero_mul] at g1 g2
          have k1 := mul_zeroR (s := a.1 - c.1) (x := d.2 - c.2) (by rw [Int.mul_comm]; omega) (by omega)
          have k2 := mul_zeroR (s := b.1 - c.1) (x := d.2 - c.2) (by rw [Int.mul_comm]; omega) (by omega)
          exact hx ⟨by omega, e⟩
        rcases ends_meet hs ht hp hq h5 h6 e1 with k | k | k | k
        · rw [on_of_x hx1 z3.1 k] at q3; cases q3
        · rw [on_of_x hx1 z3.2 k] at q4; cases q4
        · rw [on_of_x hx2 z1 k] at q1; cases q1
        · rw [on_of_x hx2 z2 k] at q2; cases q2
    · have t0 : t = 0 := mul_zeroR (x := crossP c d b) (by rw [z1, Int.mul_zero] at f1; omega) z2
      subst t0
      rw [Int.zero_mul, Int.add_zero] at e1 e2
      rw [wt_on hp hq (by omega) (by omega) e1 e2] at q1; cases q1
  · by_cases z2 : crossP c d b = 0
    · have s0 : s = 0 := mul_zeroR (x := crossP c d a) (by rw [z2, Int.mul_zero] at f1; omega) z1
      subst s0
      rw [Int.zero_mul, Int.zero_add] at e1 e2
      rw [wt_on hp hq (by omega) (by omega) e1 e2] at q2; cases q2
    · have o1 := strict_opp hs ht h5 f1 z1 z2
      by_cases z3 : crossP a b c = 0
      · by_cases z4 : crossP a b d = 0
        · have g : crossP a b c - crossP a b d = crossP c d b - crossP c d a := by unfold crossP crossI; grind
          omega
        · have t0 : q = 0 := mul_zeroR (x := crossP a b d) (by rw [z3, Int.mul_zero] at f2'; omega) z4
          subst t0
          rw [Int.zero_mul, Int.add_zero] at e1 e2
          rw [wt_on hs ht (by omega) (by omega) e1.symm e2.symm] at q3; cases q3
      · by_cases z4 : crossP a b d = 0
        · have t0 : p = 0 := mul_zeroR (x := crossP a b c) (by rw [z4, Int.mul_zero] at f2'; omega) z3
          subst t0
          rw [Int.zero_mul, Int.zero_add] at e1 e2
          rw [wt_on hs ht (by omega) (by omega) e1.symm e2.symm] at q4; cases q4
        · have o2 := strict_opp hp hq (by omega) f2' z3 z4
          have k1 := opp_signs o1
          have k2 := opp_signs o2
          unfold opp at ho
          rw [decide_eq_true k2, decide_eq_true k1] at ho
          cases ho


theorem half {a b d : Pt} {p q : Int} (hq : 0 ≤ q) (hm : 0 < p + q) (e1 : (p + q) * (a.1 + b.1) = 2 * p * a.1 + 2 * q * d.1) (e2 : (p + q) * (a.2 + b.2) = 2 * p * a.2 + 2 * q * d.2) : onP a d b = true ∨ onP a b d = true := by
  rcases Int.le_total q p with h | h
  · exact .inl (wt_on (p := p - q) (q := 2 * q) (m := p + q) (by omega) (by omega) hm (by omega) (by grind) (by grind))
  · exact .inr (wt_on (p := q - p) (q := p + q) (m := 2 * q) (by omega) (by omega) (by omega) (by omega) (by grind) (by grind))
theorem touch {a b c d : Pt} {p q : Int} (hab : a ≠ b) (hcd : c ≠ d) (h : meetI a b c d = 1) (hc : c = a ∨ c = b ∨ d = a ∨ d = b) (hp : 0 ≤ p) (hq : 0 ≤ q) (hm : 0 < p + q)
    (e1 : (p + q) * (a.1 + b.1) = 2 * p * c.1 + 2 * q * d.1) (e2 : (p + q) * (a.2 + b.2) = 2 * p * c.2 + 2 * q * d.2) : False := by
  have M := meet_one h
  rcases hc with rfl | rfl | rfl | rfl
  · rcases half hq hm e1 e2 with k | k
    · exact hab (M c b (mem_shared.2 (.inl ⟨.inl rfl, on_left c d⟩)) (mem_shared.2 (.inl ⟨.inr rfl, k⟩)))
    · exact hcd (M c d (mem_shared.2 (.inl ⟨.inl rfl, on_left c d⟩)) (mem_shared.2 (.inr ⟨.inr rfl, k⟩)))
  · rcases half (a := c) (b := a) hq hm (by rw [← e1, Int.add_comm a.1]) (by rw [← e2, Int.add_comm a.2]) with k | k
    · exact hab (M a c (mem_shared.2 (.inl ⟨.inl rfl, k⟩)) (mem_shared.2 (.inl ⟨.inr rfl, on_left c d⟩)))
    · exact hcd (M c d (mem_shared.2 (.inl ⟨.inr rfl, on_left c d⟩)) (mem_shared.2 (.inr ⟨.inr rfl, by rw [on_flip]; exact k⟩)))
  · rcases half (a := d) (b := b) (d := c) (p := q) (q := p) hp (by omega) (by grind) (by grind) with k | k
    · exact hab (M d b (mem_shared.2 (.inl ⟨.inl rfl, on_right c d⟩)) (mem_shared.2 (.inl ⟨.inr rfl, by rw [on_flip]; exact k⟩)))
    · exact hcd (M c d (mem_shared.2 (.inr ⟨.inl rfl, k⟩)) (mem_shared.2 (.inl ⟨.inl rfl, on_right c d⟩)))
  · rcases half (a := d) (b := a) (d := c) (p := q) (q := p) hp (by omega) (by grind) (by grind) with k | k
    · exact hab (M a d (mem_shared.2 (.inl ⟨.inl rfl, by rw [on_flip]; exact k⟩)) (mem_shared.2 (.inl ⟨.inr rfl, on_right c d⟩)))
    · exact hcd (M c d (mem_shared.2 (.inr ⟨.inl rfl, by rw [on_flip]; exact k⟩)) (mem_shared.2 (.inl ⟨.inr rfl, on_right c d⟩)))
theorem vals (a b c d : Pt) : meetI a b c d = 0 ∨ meetI a b c d = 1 ∨ meetI a b c d = 2 ∨ meetI a b c d = 3 := by
  unfold meetI
  cases opp a b c d && opp c d a b <;> cases (sharedS a b c d).isEmpty <;> cases sameAll (sharedS a b c d) <;> simp
/-- Segments with a common point: they touch or are along each other. -/
theorem has_shared {a b c d p : Pt} (h : p ∈ sharedS a b c d) : meetI a b c d = 1 ∨ meetI a b c d = 3 := by
  have ho : (opp a b c d && opp c d a b) = false := by
    cases ho : opp a b c d && opp c d a b
    · rfl
    · rw [opp_none ho] at h; simp at h
  have he : (sharedS a b c d).isEmpty = false := by
    cases he : (sharedS a b c d).isEmpty
    · rfl
    · rw [List.isEmpty_iff.1 he] at h; simp at h
  unfold meetI
  rw [ho, he]
  cases sameAll (sharedS a b c d) <;> simp
theorem ends_shared {a b c d : Pt} (h : c = a ∨ c = b ∨ d = a ∨ d = b) : ∃ p, p ∈ sharedS a b c d := by
  rcases h with rfl | rfl | rfl | rfl
  · exact ⟨c, mem_shared.2 (.inl ⟨.inl rfl, on_left _ _⟩)⟩
  · exact ⟨c, mem_shared.2 (.inl ⟨.inr rfl, on_left _ _⟩)⟩
  · exact ⟨d, mem_shared.2 (.inl ⟨.inl rfl, on_right _ _⟩)⟩
  · exact ⟨d, mem_shared.2 (.inl ⟨.inr rfl, on_right _ _⟩)⟩
end Go.Proofs.Ytbmeemmihkedoaa.Mid
namespace Go.Proofs.Ytbmeemmihkedoaa
open Go.RowKit

/-! ### Diagonals -/
def dbQ (p : Pt) : Pt := (p.1 + p.1, p.2 + p.2)
def dblL (L : List Pt) : List Pt := L.map dbQ
def addQ (a b : Pt) : Pt := (a.1 + b.1, a.2 + b.2)
theorem dbl_len (L : List Pt) : (dblL L).length = L.length := by simp [dblL]
theorem dbl_gt (L : List Pt) (i : Nat) : gt (dblL L) i = dbQ (gt L i) := by
  simp only [gt, dblL, List.getD_eq_getElem?_getD, List.getElem?_map]
  cases L[i]? <;> rfl
theorem dbl_nx (L : List Pt) (i : Nat) : nx (dblL L) i = nx L i := by rw [nx, nx, dbl_len]
/-- The segment between corners i and k, and side j: what the document asks. -/
def sideM (L : List Pt) (i k j : Nat) : Int := meetI (gt L i) (gt L k) (gt L j) (gt L (nx L j))
def sharesB (L : List Pt) (i k j : Nat) : Bool := j == i || j == k || nx L j == i || nx L j == k
def sideB (L : List Pt) (i k j : Nat) : Bool := bif sharesB L i k j then !(sideM L i k j == 3 || sideM L i k j == 2) else sideM L i k j == 0
def farB (L : List Pt) (i k : Nat) : Bool := !(nx L i == k || nx L k == i || i == k)
def diagB (L : List Pt) (i k : Nat) : Bool := farB L i k && ((List.range L.length).all (sideB L i k) && insideB (dblL L) (addQ (gt L i) (gt L k)))
/-- What the program asks of side j. -/
def wantI (L : List Pt) (i k j : Nat) : Int := bif (eqQ (gt L j) (gt L i) || eqQ (gt L (nx L j)) (gt L i)) || (eqQ (gt L j) (gt L k) || eqQ (gt L (nx L j)) (gt L k)) then 1 else 0
def atEndsB (L : List Pt) (i k : Nat) : Bool := (List.range L.length).all fun j => meetV (gt L i) (gt L k) (gt L j) (gt L (nx L j)) == wantI L i k j

theorem good_far {L : List Pt} (h : Good L) {i k : Nat} (hi : i < L.length) (hk : k < L.length) (e : i ≠ k) : gt L i ≠ gt L k := fun hg => e (gt_inj h.2.2.1 hi hk hg)
theorem dbl_rim {L : List Pt} (h : Good L) {i k : Nat} (hi : i < L.length) (hk : k < L.length) (hik : i ≠ k) (hs : ∀ j, j < L.length → sideB L i k j = true) : onRim (dblL L) (addQ (gt L i) (gt L k)) = false := by
  refine onRim_false fun j hj => ?_
  rw [dbl_len] at hj
  rw [dbl_nx, dbl_gt, dbl_gt]
  cases hon : onP (dbQ (gt L j)) (dbQ (gt L (nx L j))) (addQ (gt L i) (gt L k))
  · rfl
  · exfalso
    have hn := nx_lt (L := L) (by omega) j
    have hjn : j ≠ nx L j := by
      have := h.1
      rw [nx_eq hj]
      split <;> omega
    have hcd := good_far h hj hn hjn
    have hab := good_far h hi hk hik
    have hne : dbQ (gt L j) ≠ dbQ (gt L (nx L j)) := fun e => hcd (by
      have e1 := congrArg Prod.fst e
      have e2 := congrArg Prod.snd e
      simp only [dbQ] at e1 e2
      exact Prod.ext (by omega) (by omega))
    obtain ⟨p, q, w⟩ := on_wt hon hne
    have w1 := w.e1
    have w2 := w.e2
    simp only [dbQ, addQ] at w1 w2
    have hb := hs j hj
    unfold sideB at hb
    cases hsh : sharesB L i k j
    · rw [hsh] at hb
      simp only [cond_false, beq_iff_eq] at hb
      exact Mid.apart hab hcd hb (s := p + q) (t := p + q) (p := 2 * p) (q := 2 * q) (by have := w.pq; omega) (by have := w.pq; omega) (by have := w.p0; omega) (by have := w.q0; omega) (by have := w.pq; omega) (by omega) (by grind) (by grind)
    · have hc : gt L j = gt L i ∨ gt L j = gt L k ∨ gt L (nx L j) = gt L i ∨ gt L (nx L j) = gt L k := by
        simp only [sharesB, Bool.or_eq_true, beq_iff_eq] at hsh
        rcases hsh with ((e | e) | e) | e <;> simp [e]
      rw [hsh] at hb
      have hm : sideM L i k j = 1 := by
        obtain ⟨x, hx⟩ := Mid.ends_shared hc
        rcases Mid.has_shared hx with e | e
        · exact e
        · rw [show sideM L i k j = 3 from e] at hb; cases hb
      exact Mid.touch hab hcd hm hc w.p0 w.q0 w.pq (by grind) (by grind)
/-- The program's test is the document's. -/
theorem diag_eq {L : List Pt} (h : Good L) {i k : Nat} (hi : i < L.length) (hk : k < L.length) : (atEndsB L i k && aroundB (dblL L) (addQ (gt L i) (gt L k))) = diagB L i k := by
  have hl := h.1
  have hq : ∀ x y, x < L.length → y < L.length → eqQ (gt L x) (gt L y) = (x == y) := fun x y hx hy => by
    rw [Bool.eq_iff_iff, eqQ_iff, beq_iff_eq]
    exact ⟨fun e => gt_inj h.2.2.1 hx hy e, fun e => by rw [e]⟩
  have ok := fun x => gt_ok h.2.1 x
  have hw : ∀ j, j < L.length → wantI L i k j = bif sharesB L i k j then 1 else 0 := fun j hj => by
    have hn := nx_lt (L := L) (by omega) j
    unfold wantI sharesB
    rw [hq j i hj hi, hq j k hj hk, hq _ i hn hi, hq _ k hn hk]
    cases (j == i) <;> cases (j == k) <;> cases (nx L j == i) <;> cases (nx L j == k) <;> rfl
  have hj1 : ∀ j, j < L.length → j ≠ nx L j := fun j hj => by
    rw [nx_eq hj]
    split <;> omega
  have hv : ∀ j, j < L.length → i ≠ k → meetV (gt L i) (gt L k) (gt L j) (gt L (nx L j)) = sideM L i k j := fun j hj hik => by
    have hn := nx_lt (L := L) (by omega) j
    unfold meetV okQ
    rw [ok i, ok k, ok j, ok (nx L j), hq i k hi hk, hq j _ hj hn, beq_eq_false_iff_ne.2 hik, beq_eq_false_iff_ne.2 (hj1 j hj)]
    rfl
  by_cases hik : i = k
  · subst hik
    have e1 : atEndsB L i i = false := by
      simp only [atEndsB, List.all_eq_false, List.mem_range]
      refine ⟨i, hi, ?_⟩
      have e2 : meetV (gt L i) (gt L i) (gt L i) (gt L (nx L i)) = 0 := by
        unfold meetV
        rw [(eqQ_iff (gt L i) (gt L i)).2 rfl]
        simp
      rw [e2, hw i hi]
      simp [sharesB]
    have e2 : farB L i i = false := by simp [farB]
    rw [diagB, e1, e2]; rfl
  · by_cases hf : farB L i k = true
    · rw [diagB, hf, Bool.true_and]
      have e1 : atEndsB L i k = (List.range L.length).all (sideB L i k) := by
        rw [Bool.eq_iff_iff]
        simp only [atEndsB, List.all_eq_true, List.mem_range, beq_iff_eq]
        refine forall_congr' fun j => forall_congr' fun hj => ?_
        rw [hv j hj hik, hw j hj, sideB]
        cases hsh : sharesB L i k j
        · simp
        · have hc : gt L j = gt L i ∨ gt L j = gt L k ∨ gt L (nx L j) = gt L i ∨ gt L (nx L j) = gt L k := by
            simp only [sharesB, Bool.or_eq_true, beq_iff_eq] at hsh
            rcases hsh with ((e | e) | e) | e <;> simp [e]
          obtain ⟨x, hx⟩ := Mid.ends_shared hc
          rcases Mid.has_shared hx with e | e
          · rw [show sideM L i k j = 1 from e]; simp
          · rw [show sideM L i k j = 3 from e]; simp
      rw [e1]
      cases hs : (List.range L.length).all (sideB L i k)
      · rfl
      · rw [Bool.true_and, Bool.true_and, insideB, dbl_rim h hi hk hik (fun j hj => List.all_eq_true.1 hs j (List.mem_range.2 hj)), Bool.false_or]
        rfl
    · have hf' : farB L i k = false := by simpa using hf
      rw [diagB, hf', Bool.false_and]
      have e1 : atEndsB L i k = false := by
        have key : ∀ j, j < L.length → ((j = i ∧ nx L j = k) ∨ (j = k ∧ nx L j = i)) → atEndsB L i k = false := fun j hj hh => by
          simp only [atEndsB, List.all_eq_false, List.mem_range]
          refine ⟨j, hj, ?_⟩
          rw [hv j hj hik, hw j hj]
          have hab := good_far h hi hk hik
          have e3 : sideM L i k j = 3 := by
            have i1 : gt L i ∈ sharedS (gt L i) (gt L k) (gt L j) (gt L (nx L j)) := by
              rcases hh with ⟨e1, e2⟩ | ⟨e1, e2⟩
              · rw [e1]; exact mem_shared.2 (.inl ⟨.inl rfl, on_left _ _⟩)
              · rw [e2]; exact mem_shared.2 (.inl ⟨.inl rfl, on_right _ _⟩)
            have i2 : gt L k ∈ sharedS (gt L i) (gt L k) (gt L j) (gt L (nx L j)) := by
              rcases hh with ⟨e1, e2⟩ | ⟨e1, e2⟩
              · rw [e2]; exact mem_shared.2 (.inl ⟨.inr rfl, on_right _ _⟩)
              · rw [e1]; exact mem_shared.2 (.inl ⟨.inr rfl, on_left _ _⟩)
            rcases Mid.has_shared i1 with e | e
            · exact absurd (meet_one e _ _ i1 i2) hab
            · exact e
          rw [e3]
          cases sharesB L i k j <;> simp
        simp only [farB, Bool.not_eq_false', Bool.or_eq_true, beq_iff_eq] at hf'
        rcases hf' with (e | e) | e
        · exact key i hi (.inl ⟨rfl, e⟩)
        · exact key k hk (.inr ⟨rfl, e⟩)
        · exact absurd e hik
      rw [e1]; rfl
end Go.Proofs.Ytbmeemmihkedoaa

/-! DiagI -/
namespace Go.Proofs.Ytbmeemmihkedoaa
open Go.RowKit Go.Shelf Go.Sort
attribute [local go_sem] Oper.semAt_some

def dblTill (L : List (Int × Int)) (k : Nat) : List (Int × Int) := (List.range k).map fun i => dbQ (gt L i)
theorem dblTill_all (L : List (Int × Int)) : dblTill L L.length = dblL L := by
  apply List.ext_getElem (by simp [dblTill, dblL])
  intro i h1 h2
  have hi : i < L.length := by simpa [dblTill] using h1
  simp [dblTill, dblL, gt_at hi]
theorem dblTill_step (L : List (Int × Int)) (k : Nat) : dblTill L (k + 1) = dblTill L k ++ [((gt L k).1 + (gt L k).1, (gt L k).2 + (gt L k).2)] := by
  simp [dblTill, List.range_succ, dbQ]
theorem dblTill_len (L : List (Int × Int)) (k : Nat) : (dblTill L k).length = k := by simp [dblTill]
theorem okP_add {a b : Int × Int} (ha : okP a.1 a.2 = true) (hb : okP b.1 b.2 = true) : smP (a.1 + b.1) (a.2 + b.2) = true := by
  have h1 := okP_bounds ha; have h2 := okP_bounds hb
  simp only [smP, Bool.and_eq_true, decide_eq_true_eq]
  omega
theorem dbl_sm {L : List (Int × Int)} (hok : allOk L = true) (i : Nat) : smP (gt (dblL L) i).1 (gt (dblL L) i).2 = true := by
  rw [dbl_gt]
  exact okP_add (a := gt L i) (b := gt L i) (gt_ok hok i) (gt_ok hok i)
theorem plus_any (ax ay bx by' : Int) (w : World) :
    Calls Try.prog 107 #[(.agg #[.int .i64 ax, .int .i64 ay]), (.agg #[.int .i64 bx, .int .i64 by'])] w fun e w' => e = .returned (.agg #[.int .i64 (wrap64 (ax + bx)), .int .i64 (wrap64 (ay + by'))]) ∧ Below w.heap.size w w' := by
  go_enter Try.func107, Try.ntmps107
  go_wp2_with fail
  go_returns
  exact ⟨rfl, below3 _ _ _ _⟩
theorem plus_ok {ax ay bx by' : Int} (ha : okP ax ay = true) (hb : okP bx by' = true) (w : World) :
    Calls Try.prog 107 #[(.agg #[.int .i64 ax, .int .i64 ay]), (.agg #[.int .i64 bx, .int .i64 by'])] w fun e w' => e = .returned (.agg #[.int .i64 (ax + bx), .int .i64 (ay + by')]) ∧ Below w.heap.size w w' := by
  have h1 := okP_bounds ha; have h2 := okP_bounds hb
  have h := plus_any ax ay bx by' w
  rw [IntWalk.wrap64_in (ax + bx) (by omega), IntWalk.wrap64_in (ay + by') (by omega)] at h
  exact h
theorem ends_at (ax ay bx by' px py : Int) (w : World) :
    Calls Try.prog 211 #[.agg #[.int .i64 ax, .int .i64 ay, .int .i64 bx, .int .i64 by'], (.agg #[.int .i64 px, .int .i64 py])] w fun e w' => e = .returned (.bool (eqQ (ax, ay) (px, py) || eqQ (bx, by') (px, py))) ∧ Below w.heap.size w w' := by
  have GP := guard_pt
  have EP := fun w x y x' y' => eql_pt w x y x' y'
  cases h : (ax == px && ay == py)
  all_goals
    have HV : Hid ((eqQ (ax, ay) (px, py) || eqQ (bx, by') (px, py)) = ((ax == px && ay == py) || (bx == px && by' == py))) := rfl
    rw [h] at HV
    go_enter Try.func211, Try.ntmps211
    go_wp2_with fail
    go_ret
    exact ⟨ret_bool (by rw [HV.out]; rfl), below2 _ _ _⟩
theorem ends_pt (a b p : Int × Int) (w : World) :
    Calls Try.prog 211 #[.agg #[.int .i64 a.1, .int .i64 a.2, .int .i64 b.1, .int .i64 b.2], (.agg #[.int .i64 p.1, .int .i64 p.2])] w fun e w' => e = .returned (.bool (eqQ a p || eqQ b p)) ∧ Below w.heap.size w w' := ends_at a.1 a.2 b.1 b.2 p.1 p.2 w

def wantQ (a b c d : Int × Int) : Int := bif (eqQ c a || eqQ d a) || (eqQ c b || eqQ d b) then 1 else 0
def stepQ (L : List (Int × Int)) (a b : Int × Int) (j : Nat) : Bool := meetV a b (gt L j) (gt L (nx L j)) == wantQ a b (gt L j) (gt L (nx L j))
set_option maxRecDepth 100000 in
set_option maxHeartbeats 4000000 in
theorem at_ends (A : Option Addr) (c : Nat) (L : List (Int × Int)) (a b : Int × Int) (w : World) (hA : PtsA w A L) (h1 : 1 ≤ L.length) (h2 : L.length ≤ 10) :
    Calls Try.prog 192 #[.slice A L.length c, (.agg #[.int .i64 a.1, .int .i64 a.2]), (.agg #[.int .i64 b.1, .int .i64 b.2])] w fun e w' => e = .returned (.bool ((List.range L.length).all (stepQ L a b))) ∧ Below w.heap.size w w' := by
  refine (callsIn_wide (n := 8)).1 ?_
  refine callsIn_of_wp_marks Try.func192 rfl trivial ?_ rfl
  simp only [Try.ntmps192, List.size_toArray, List.length_cons, List.length_nil, Nat.reduceAdd, Nat.reduceSub, Array.replicate_succ, Array.replicate_zero, List.push_toArray, List.append_toArray, List.nil_append, List.cons_append]
  gi_wp2
  refine ⟨trivial, (wide0.calls (sides_any A L.length c _)).mono ?_⟩
  rintro e w3 ⟨rfl, rfl⟩
  gi_wp2
  have bA := (((at_new w a.1 a.2 27).alloc (.cells #[.int .i64 b.1, .int .i64 b.2] 27)).alloc (.cells #[.bool false] 4)).alloc (.cells #[.slice A L.length c] 35)
  have bB := ((at_new (w.alloc (.cells #[.int .i64 a.1, .int .i64 a.2] 27)) b.1 b.2 27).alloc (.cells #[.bool false] 4)).alloc (.cells #[.slice A L.length c] 35)
  have bR := (Boxed.new ((w.alloc (.cells #[.int .i64 a.1, .int .i64 a.2] 27)).alloc (.cells #[.int .i64 b.1, .int .i64 b.2] 27)) 4 (.bool false)).alloc (.cells #[.slice A L.length c] 35)
  have bN := Boxed.new (((w.alloc (.cells #[.int .i64 a.1, .int .i64 a.2] 27)).alloc (.cells #[.int .i64 b.1, .int .i64 b.2] 27)).alloc (.cells #[.bool false] 4)) 35 (.slice A L.length c)
  simp only [World.size_alloc] at bB bR bN
  have hB0 : Below w.heap.size w ((((w.alloc (.cells #[.int .i64 a.1, .int .i64 a.2] 27)).alloc (.cells #[.int .i64 b.1, .int .i64 b.2] 27)).alloc (.cells #[.bool false] 4)).alloc (.cells #[.slice A L.length c] 35)) := (below3 _ _ _ _).alloc (by simp; omega) _
  have hsz : ((((w.alloc (.cells #[.int .i64 a.1, .int .i64 a.2] 27)).alloc (.cells #[.int .i64 b.1, .int .i64 b.2] 27)).alloc (.cells #[.bool false] 4)).alloc (.cells #[.slice A L.length c] 35)).heap.size = w.heap.size + 4 := by simp
  obtain ⟨W0, hW0⟩ : ∃ W0, (((w.alloc (.cells #[.int .i64 a.1, .int .i64 a.2] 27)).alloc (.cells #[.int .i64 b.1, .int .i64 b.2] 27)).alloc (.cells #[.bool false] 4)).alloc (.cells #[.slice A L.length c] 35) = W0 := ⟨_, rfl⟩
  rw [hW0] at bA bB bR bN hB0 hsz ⊢
  clear hW0
  refine wpIn_rangeFunc_ownH rfl (by decide) (gf := 160) (lb := #[.pointer (some ⟨w.heap.size + 1 + 1 + 1, 0, none⟩)]) rfl trivial (enters_of Try.func160 (by kernel_rfl) rfl)
    (sides_stops 7 (w.heap.size + 1 + 1 + 1) A c L w W0 (by omega) (by omega) hA hB0 (by omega) bN.cell) keepP_t (keepP_b (by omega) (by omega)) (Below.refl _ _) (fun _ => rfl)
    (fun pre W => (((((∀ i ∈ pre, stepQ L a b i = true) ∧ Boxed W (w.heap.size + 1 + 1) 4 (.bool false)) ∧ Boxed W (w.heap.size + 1 + 1 + 1) 35 (.slice A L.length c)) ∧ At W w.heap.size a.1 a.2 27) ∧ At W (w.heap.size + 1) b.1 b.2 27) ∧ Below w.heap.size w W)
    (fun co pre W => ((co = .ret ∧ ∃ i ∈ pre, stepQ L a b i = false) ∧ Boxed W (w.heap.size + 1 + 1) 4 (.bool false)) ∧ Below w.heap.size w W)
    (OwnFrom.and (OwnFrom.and (OwnFrom.and (OwnFrom.and (OwnFrom.and (ownFrom_pure _ _) (Own.from (boxed_own _ _ _) _)) (Own.from (boxed_own _ _ _) _)) (fun s X Y row hs hg hr => at_own _ _ _ _ _ () X Y row hs hg hr)) (fun s X Y row hs hg hr => at_own _ _ _ _ _ () X Y row hs hg hr)) (ownFrom_below (Nat.le_refl _) (by omega)))
    (fun co => OwnFrom.and (OwnFrom.and (ownFrom_pure _ _) (Own.from (boxed_own _ _ _) _)) (ownFrom_below (Nat.le_refl _) (by omega)))
    ⟨⟨⟨⟨⟨by simp, bR⟩, bN⟩, bA⟩, bB⟩, hB0⟩
    (fun x a' W => ∃ Bx, w.heap.size + 1 + 1 + 1 < Bx ∧ SideAt W Bx L x ∧ a' = { tmps := #[.slice A L.length c, .agg #[.int .i64 a.1, .int .i64 a.2], .agg #[.int .i64 b.1, .int .i64 b.2], undef, .pointer (some ⟨w.heap.size, 0, none⟩), .pointer (some ⟨w.heap.size + 1, 0, none⟩), .pointer (some ⟨w.heap.size + 1 + 1, 0, none⟩), undef, .pointer (some ⟨Bx, 0, none⟩), undef, .slice A L.length c, .func (.func 160) #[] #[.pointer (some ⟨w.heap.size + 1 + 1 + 1, 0, none⟩)], .int .i64 (x : Int), .agg #[.int .i64 (gt L x).1, .int .i64 (gt L x).2, .int .i64 (gt L (nx L x)).1, .int .i64 (gt L (nx L x)).2], undef, undef, undef, undef, undef, undef, undef, undef, undef, undef, undef, undef, undef, undef, undef, undef, undef], defers := [] })
    (fun x a' _ X Y row hs hg hr => by obtain ⟨Bx, e1, e2, e3⟩ := hs; exact ⟨Bx, e1, sideAt_own Bx L x _ () X Y row e2 hg hr, e3⟩)
    ?assign ?body ?done ?stop
  case assign =>
    rintro l pre x W K ⟨⟨⟨⟨⟨hq1, bR4⟩, bN4⟩, bA4⟩, bB4⟩, hB4⟩ hK
    simp only [sideV]
    gi_wp2
    have hs4 := hB4.size
    have hb := below1 W (.cells #[.int .i64 (gt L x).1, .int .i64 (gt L x).2, .int .i64 (gt L (nx L x)).1, .int .i64 (gt L (nx L x)).2] 77)
    exact hK _ _ (keepsFrom_below hb) (KeepP.of_below hb hs4 bN4.lt) ⟨⟨⟨⟨⟨hq1, boxed_on bR4 hb⟩, boxed_on bN4 hb⟩, bA4.step hb⟩, bB4.step hb⟩, hB4.trans (hb.mono hs4)⟩ ⟨W.heap.size, bN4.lt, sideAt_new W L x, rfl⟩
  case body =>
    rintro l pre x a' W4 hl - ⟨⟨⟨⟨⟨hq1, bR4⟩, bN4⟩, bA4⟩, bB4⟩, hB4⟩ ⟨Bx, hBx, sX4, rfl⟩ hlt
    have hs4 := hB4.size
    have HE1 := Lib.hid (fun W => ends_pt (gt L x) (gt L (nx L x)) a W)
    have HE2 := Lib.hid (fun W => ends_pt (gt L x) (gt L (nx L x)) b W)
    have HM := Lib.hid (fun W => meet_pt a b (gt L x) (gt L (nx L x)) W)
    have HS : Hid (stepQ L a b x = (meetV a b (gt L x) (gt L (nx L x)) == bif (eqQ (gt L x) a || eqQ (gt L (nx L x)) a) || (eqQ (gt L x) b || eqQ (gt L (nx L x)) b) then 1 else 0)) := rfl
    generalize meetV a b (gt L x) (gt L (nx L x)) = mv at *
    generalize (eqQ (gt L x) a || eqQ (gt L (nx L x)) a) = E1 at *
    generalize (eqQ (gt L x) b || eqQ (gt L (nx L x)) b) = E2 at *
    have hk4 : KeepP w.heap.size (w.heap.size + 1 + 1 + 1) W4 W4 := KeepP.of_below (Below.refl _ _) hs4 bN4.lt
    have hf4 : KeepsFrom W0.heap.size W4 W4 := keepsFrom_below (Below.refl _ _)
    obtain ⟨x0, x1, x2, x3⟩ := sX4.cells
    have c0 := bA4.c0; have c1 := bA4.c1; have c2 := bB4.c0; have c3 := bB4.c1
    cases E1
    case true =>
      simp only [Bool.true_or, cond_true] at HS
      gi_wp2
      refine ⟨trivial, ((wideR l).calls (HE1.out _)).mono ?_⟩
      rintro e W5 ⟨rfl, hb5⟩
      have hB5 := hB4.trans (hb5.mono hs4)
      have hs5 := hB5.size
      have bR5 := boxed_on bR4 hb5
      have bN5 := boxed_on bN4 hb5
      have bA5 := bA4.step hb5
      have bB5 := bB4.step hb5
      have sX5 := boxed_side sX4 hb5
      have hk5 := keepP_t hk4 (KeepP.of_below hb5 hs4 bN4.lt)
      have hf5 := hf4.trans (keepsFrom_below (B := W0.heap.size) hb5)
      clear hb5 hB4 bR4 bN4 bA4 bB4 sX4 hk4 hf4 hs4 x0 x1 x2 x3 c0 c1 c2 c3
      obtain ⟨x0, x1, x2, x3⟩ := sX5.cells
      have c0 := bA5.c0; have c1 := bA5.c1; have c2 := bB5.c0; have c3 := bB5.c1
      by_cases hm : mv = 1
      · have hT : stepQ L a b x = true := by rw [HS.out, hm]; rfl
        subst hm
        gi_wp2
        refine ⟨trivial, ?_⟩
        gi_wp2
        refine ⟨trivial, ((wideR l).calls (HM.out _)).mono ?_⟩
        rintro e W6 ⟨rfl, hb6⟩
        have hB6 := hB5.trans (hb6.mono hs5)
        have hs6 := hB6.size
        have bR6 := boxed_on bR5 hb6
        have bN6 := boxed_on bN5 hb6
        have bA6 := bA5.step hb6
        have bB6 := bB5.step hb6
        have sX6 := boxed_side sX5 hb6
        have hk6 := keepP_t hk5 (KeepP.of_below hb6 hs5 bN5.lt)
        have hf6 := hf5.trans (keepsFrom_below (B := W0.heap.size) hb6)
        clear hb6 hB5 bR5 bN5 bA5 bB5 sX5 hk5 hf5 hs5 x0 x1 x2 x3 c0 c1 c2 c3
        obtain ⟨x0, x1, x2, x3⟩ := sX6.cells
        have c0 := bA6.c0; have c1 := bA6.c1; have c2 := bB6.c0; have c3 := bB6.c1
        have HN : Hid (∀ i ∈ pre ++ [x], stepQ L a b i = true) := fun z hz => (List.mem_append.1 hz).elim (hq1 z) (fun e => by simp at e; subst e; exact hT)
        clear hT hq1
        gi_wp2
        exact ⟨hf6, hk6, ⟨⟨⟨⟨HN.out, bR6⟩, bN6⟩, bA6⟩, bB6⟩, hB6⟩
      · have HT : Hid (stepQ L a b x = false) := by show _ = _; rw [HS.out]; simpa using hm
        have hne : (mv != 1) = true := by simpa using hm
        gi_wp2
        refine ⟨trivial, ?_⟩
        gi_wp2
        refine ⟨trivial, ((wideR l).calls (HM.out _)).mono ?_⟩
        rintro e W6 ⟨rfl, hb6⟩
        have hB6 := hB5.trans (hb6.mono hs5)
        have hs6 := hB6.size
        have bR6 := boxed_on bR5 hb6
        have bN6 := boxed_on bN5 hb6
        have bA6 := bA5.step hb6
        have bB6 := bB5.step hb6
        have sX6 := boxed_side sX5 hb6
        have hk6 := keepP_t hk5 (KeepP.of_below hb6 hs5 bN5.lt)
        have hf6 := hf5.trans (keepsFrom_below (B := W0.heap.size) hb6)
        clear hb6 hB5 bR5 bN5 bA5 bB5 sX5 hk5 hf5 hs5 x0 x1 x2 x3 c0 c1 c2 c3
        obtain ⟨x0, x1, x2, x3⟩ := sX6.cells
        have c0 := bA6.c0; have c1 := bA6.c1; have c2 := bB6.c0; have c3 := bB6.c1
        have cR := bR6.cell
        have fR := bR6.frozen
        gi_wp2
        exact ⟨hf6.trans ((KeepsOthers.setCell _ _ _).from _), ⟨⟨rfl, x, List.mem_append.2 (.inr (by simp)), HT.out⟩, bR6.set _⟩, hB6.setCell (p := ⟨w.heap.size + 1 + 1, 0, none⟩) (by simp; omega) _⟩
    case false =>
      simp only [Bool.false_or] at HS
      gi_wp2
      refine ⟨trivial, ((wideR l).calls (HE1.out _)).mono ?_⟩
      rintro e W5 ⟨rfl, hb5⟩
      have hB5 := hB4.trans (hb5.mono hs4)
      have hs5 := hB5.size
      have bR5 := boxed_on bR4 hb5
      have bN5 := boxed_on bN4 hb5
      have bA5 := bA4.step hb5
      have bB5 := bB4.step hb5
      have sX5 := boxed_side sX4 hb5
      have hk5 := keepP_t hk4 (KeepP.of_below hb5 hs4 bN4.lt)
      have hf5 := hf4.trans (keepsFrom_below (B := W0.heap.size) hb5)
      clear hb5 hB4 bR4 bN4 bA4 bB4 sX4 hk4 hf4 hs4 x0 x1 x2 x3 c0 c1 c2 c3
      obtain ⟨x0, x1, x2, x3⟩ := sX5.cells
      have c0 := bA5.c0; have c1 := bA5.c1; have c2 := bB5.c0; have c3 := bB5.c1
      gi_wp2
      refine ⟨trivial, ((wideR l).calls (HE2.out _)).mono ?_⟩
      rintro e W6 ⟨rfl, hb6⟩
      have hB6 := hB5.trans (hb6.mono hs5)
      have hs6 := hB6.size
      have bR6 := boxed_on bR5 hb6
      have bN6 := boxed_on bN5 hb6
      have bA6 := bA5.step hb6
      have bB6 := bB5.step hb6
      have sX6 := boxed_side sX5 hb6
      have hk6 := keepP_t hk5 (KeepP.of_below hb6 hs5 bN5.lt)
      have hf6 := hf5.trans (keepsFrom_below (B := W0.heap.size) hb6)
      clear hb6 hB5 bR5 bN5 bA5 bB5 sX5 hk5 hf5 hs5 x0 x1 x2 x3 c0 c1 c2 c3
      obtain ⟨x0, x1, x2, x3⟩ := sX6.cells
      have c0 := bA6.c0; have c1 := bA6.c1; have c2 := bB6.c0; have c3 := bB6.c1
      cases E2
      case true =>
        simp only [cond_true] at HS
        by_cases hm : mv = 1
        · have hT : stepQ L a b x = true := by rw [HS.out, hm]; rfl
          subst hm
          gi_wp2
          refine ⟨trivial, ((wideR l).calls (HM.out _)).mono ?_⟩
          rintro e W7 ⟨rfl, hb7⟩
          have hB7 := hB6.trans (hb7.mono hs6)
          have hs7 := hB7.size
          have bR7 := boxed_on bR6 hb7
          have bN7 := boxed_on bN6 hb7
          have bA7 := bA6.step hb7
          have bB7 := bB6.step hb7
          have sX7 := boxed_side sX6 hb7
          have hk7 := keepP_t hk6 (KeepP.of_below hb7 hs6 bN6.lt)
          have hf7 := hf6.trans (keepsFrom_below (B := W0.heap.size) hb7)
          clear hb7 hB6 bR6 bN6 bA6 bB6 sX6 hk6 hf6 hs6 x0 x1 x2 x3 c0 c1 c2 c3
          obtain ⟨x0, x1, x2, x3⟩ := sX7.cells
          have c0 := bA7.c0; have c1 := bA7.c1; have c2 := bB7.c0; have c3 := bB7.c1
          have HN : Hid (∀ i ∈ pre ++ [x], stepQ L a b i = true) := fun z hz => (List.mem_append.1 hz).elim (hq1 z) (fun e => by simp at e; subst e; exact hT)
          clear hT hq1
          gi_wp2
          exact ⟨hf7, hk7, ⟨⟨⟨⟨HN.out, bR7⟩, bN7⟩, bA7⟩, bB7⟩, hB7⟩
        · have HT : Hid (stepQ L a b x = false) := by show _ = _; rw [HS.out]; simpa using hm
          have hne : (mv != 1) = true := by simpa using hm
          gi_wp2
          refine ⟨trivial, ((wideR l).calls (HM.out _)).mono ?_⟩
          rintro e W7 ⟨rfl, hb7⟩
          have hB7 := hB6.trans (hb7.mono hs6)
          have hs7 := hB7.size
          have bR7 := boxed_on bR6 hb7
          have bN7 := boxed_on bN6 hb7
          have bA7 := bA6.step hb7
          have bB7 := bB6.step hb7
          have sX7 := boxed_side sX6 hb7
          have hk7 := keepP_t hk6 (KeepP.of_below hb7 hs6 bN6.lt)
          have hf7 := hf6.trans (keepsFrom_below (B := W0.heap.size) hb7)
          clear hb7 hB6 bR6 bN6 bA6 bB6 sX6 hk6 hf6 hs6 x0 x1 x2 x3 c0 c1 c2 c3
          obtain ⟨x0, x1, x2, x3⟩ := sX7.cells
          have c0 := bA7.c0; have c1 := bA7.c1; have c2 := bB7.c0; have c3 := bB7.c1
          have cR := bR7.cell
          have fR := bR7.frozen
          gi_wp2
          exact ⟨hf7.trans ((KeepsOthers.setCell _ _ _).from _), ⟨⟨rfl, x, List.mem_append.2 (.inr (by simp)), HT.out⟩, bR7.set _⟩, hB7.setCell (p := ⟨w.heap.size + 1 + 1, 0, none⟩) (by simp; omega) _⟩
      case false =>
        simp only [cond_false] at HS
        by_cases hm : mv = 0
        · have hT : stepQ L a b x = true := by rw [HS.out, hm]; rfl
          subst hm
          gi_wp2
          refine ⟨trivial, ((wideR l).calls (HM.out _)).mono ?_⟩
          rintro e W7 ⟨rfl, hb7⟩
          have hB7 := hB6.trans (hb7.mono hs6)
          have hs7 := hB7.size
          have bR7 := boxed_on bR6 hb7
          have bN7 := boxed_on bN6 hb7
          have bA7 := bA6.step hb7
          have bB7 := bB6.step hb7
          have sX7 := boxed_side sX6 hb7
          have hk7 := keepP_t hk6 (KeepP.of_below hb7 hs6 bN6.lt)
          have hf7 := hf6.trans (keepsFrom_below (B := W0.heap.size) hb7)
          clear hb7 hB6 bR6 bN6 bA6 bB6 sX6 hk6 hf6 hs6 x0 x1 x2 x3 c0 c1 c2 c3
          obtain ⟨x0, x1, x2, x3⟩ := sX7.cells
          have c0 := bA7.c0; have c1 := bA7.c1; have c2 := bB7.c0; have c3 := bB7.c1
          have HN : Hid (∀ i ∈ pre ++ [x], stepQ L a b i = true) := fun z hz => (List.mem_append.1 hz).elim (hq1 z) (fun e => by simp at e; subst e; exact hT)
          clear hT hq1
          gi_wp2
          exact ⟨hf7, hk7, ⟨⟨⟨⟨HN.out, bR7⟩, bN7⟩, bA7⟩, bB7⟩, hB7⟩
        · have HT : Hid (stepQ L a b x = false) := by show _ = _; rw [HS.out]; simpa using hm
          have hne : (mv != 0) = true := by simpa using hm
          gi_wp2
          refine ⟨trivial, ((wideR l).calls (HM.out _)).mono ?_⟩
          rintro e W7 ⟨rfl, hb7⟩
          have hB7 := hB6.trans (hb7.mono hs6)
          have hs7 := hB7.size
          have bR7 := boxed_on bR6 hb7
          have bN7 := boxed_on bN6 hb7
          have bA7 := bA6.step hb7
          have bB7 := bB6.step hb7
          have sX7 := boxed_side sX6 hb7
          have hk7 := keepP_t hk6 (KeepP.of_below hb7 hs6 bN6.lt)
          have hf7 := hf6.trans (keepsFrom_below (B := W0.heap.size) hb7)
          clear hb7 hB6 bR6 bN6 bA6 bB6 sX6 hk6 hf6 hs6 x0 x1 x2 x3 c0 c1 c2 c3
          obtain ⟨x0, x1, x2, x3⟩ := sX7.cells
          have c0 := bA7.c0; have c1 := bA7.c1; have c2 := bB7.c0; have c3 := bB7.c1
          have cR := bR7.cell
          have fR := bR7.frozen
          gi_wp2
          exact ⟨hf7.trans ((KeepsOthers.setCell _ _ _).from _), ⟨⟨rfl, x, List.mem_append.2 (.inr (by simp)), HT.out⟩, bR7.set _⟩, hB7.setCell (p := ⟨w.heap.size + 1 + 1, 0, none⟩) (by simp; omega) _⟩
  case done =>
    rintro D zs W hD rfl ⟨⟨⟨⟨⟨hq1, bR4⟩, bN4⟩, bA4⟩, bB4⟩, hB4⟩ hK
    have cR := bR4.cell
    have fR := bR4.frozen
    gi_wp2
    have hK' := (KeepsOthers.setCell W ⟨w.heap.size + 1 + 1, 0, none⟩ (.bool true)).same D _ hK rfl
    refine ⟨by simp, .inl ⟨_, _, rfl, run_takeDeferred hK', ?_⟩⟩
    have hc5 := cell_kept (bR4.set (.bool true)).cell (grownBy_putObj' _ D (.deferred none)) (fun r e => by cases e; exact ⟨_, hK', rfl⟩)
    have hall : (List.range L.length).all (stepQ L a b) = true := List.all_eq_true.2 hq1
    refine ⟨.bool true, ?_, by rw [hall], (hB4.setCell (p := ⟨w.heap.size + 1 + 1, 0, none⟩) (by simp; omega) _).trans (belowK_b (w := w) (Nat.le_refl _) _ D _ _ (by omega) hK' rfl rfl)⟩
    simp [results, Try.f192, go_sem, hc5]
  case stop =>
    rintro D co pre W hD ⟨k, hk, rfl⟩ ⟨⟨⟨rfl, j, hj, hjb⟩, bR1⟩, hB1⟩ hK
    gi_wp2
    refine ⟨by simp, .inl ⟨_, _, rfl, run_takeDeferred hK, ?_⟩⟩
    have hc5 := cell_kept bR1.cell (grownBy_putObj' _ D (.deferred none)) (fun r e => by cases e; exact ⟨_, hK, rfl⟩)
    have hall : (List.range L.length).all (stepQ L a b) = false := by
      simp only [List.all_eq_false]
      exact ⟨j, by simp only [List.mem_range] at hj ⊢; omega, by rw [hjb]; exact Bool.false_ne_true⟩
    refine ⟨.bool false, ?_, by rw [hall], hB1.trans (belowK_b (w := w) (Nat.le_refl _) _ D _ _ (by omega) hK rfl rfl)⟩
    simp [results, Try.f192, go_sem, hc5]
end Go.Proofs.Ytbmeemmihkedoaa

/-! DiagJ -/
namespace Go.Proofs.Ytbmeemmihkedoaa
open Go.RowKit

set_option maxRecDepth 100000 in
set_option maxHeartbeats 2000000 in
theorem middle_any (A : Option Addr) (c : Nat) (L : List (Int × Int)) (a b : Int × Int) (w : World) (hA : PtsA w A L) (h1 : 1 ≤ L.length) (h2 : L.length ≤ 10) (hok : allOk L = true) (ha : okP a.1 a.2 = true) (hb : okP b.1 b.2 = true) :
    Calls Try.prog 193 #[.slice A L.length c, (.agg #[.int .i64 a.1, .int .i64 a.2]), (.agg #[.int .i64 b.1, .int .i64 b.2])] w fun e w' => e = .returned (.bool (aroundB (dblL L) (addQ a b))) ∧ Below w.heap.size w w' := by
  obtain ⟨i0, hi0, hz0, hz1, hz2⟩ := info_parts infoPt
  obtain ⟨g, rfl, -⟩ := hA 0 h1
  have HP := Lib.hid (fun w => plus_ok (ax := a.1) (ay := a.2) (bx := b.1) (by' := b.2) ha hb w)
  have HPL := Lib.hid (fun k w => plus_ok (ax := (gt L k).1) (ay := (gt L k).2) (bx := (gt L k).1) (by' := (gt L k).2) (gt_ok hok k) (gt_ok hok k) w)
  have HS := Lib.hid (okP_add ha hb)
  have HD := Lib.hid (dbl_sm hok)
  have HA := Lib.hid hA
  have HV : Hid (addQ a b = (a.1 + b.1, a.2 + b.2)) := rfl
  clear hA hok ha hb
  obtain ⟨ax, ay⟩ := a
  obtain ⟨bx, by'⟩ := b
  simp only at *
  have n4 := (at_new w ax ay 27).alloc (.cells #[.int .i64 bx, .int .i64 by'] 27)
  have m4 := at_new (w.alloc (.cells #[.int .i64 ax, .int .i64 ay] 27)) bx by' 27
  rw [size_alloc] at m4
  have b4 := below2 w (.cells #[.int .i64 ax, .int .i64 ay] 27) (.cells #[.int .i64 bx, .int .i64 by'] 27)
  go_enter Try.func193, Try.ntmps193
  go_wp2_with fail
  generalize ((w.alloc (.cells #[.int .i64 ax, .int .i64 ay] 27)).alloc (.cells #[.int .i64 bx, .int .i64 by'] 27)) = w4 at *
  have HA4 := Lib.hid (ptsA_on HA.out b4)
  go_loopw [7, 9, 12] (fun s _ i wr => ∃ (k : Nat) (M : List (Int × Int)), k ≤ L.length ∧ i = .int .i64 k ∧ Hid (M = dblTill L k) ∧ wr.ownsRow w4.heap.size 27 2 s M.length (flat M) ∧ Below w4.heap.size w4 wr) (fun _ _ i _ => L.length - (intOf i).toNat)
  case atStart => exact ⟨0, [], Nat.zero_le _, rfl, rfl, World.ownsRow_nil _ _ _ _, Below.refl _ _⟩
  case round =>
    obtain ⟨wo, rfl⟩ : ∃ wo : World, wo = wr := ⟨_, rfl⟩
    obtain ⟨k, M, hk, rfl, HM, own, hb⟩ := hrel
    by_cases hlt : k < L.length
    · have HC := Lib.hid (HPL.out k)
      have HM2 : Hid (M ++ [((gt L k).1 + (gt L k).1, (gt L k).2 + (gt L k).2)] = dblTill L (k + 1)) := by
        show _ = _
        rw [dblTill_step, HM.out]
      have hML : M.length ≤ 10 := by rw [HM.out, dblTill_len]; omega
      clear HM
      obtain ⟨d5, d6⟩ := gt_cells (ptsA_on HA4.out hb) hlt
      generalize (gt L k).1 = x at *
      generalize (gt L k).2 = y at *
      have n6 := at_new wo x y 27
      have c5 := n6.c0; have c6 := n6.c1
      have b5 := hb.alloc hb.size (.cells #[.int .i64 x, .int .i64 y] 27)
      have own5 := own.alloc (.cells #[.int .i64 x, .int .i64 y] 27)
      clear hb own
      go_wp2_with fail
      refine (HC.out _).mono ?_
      rintro e w6 ⟨rfl, hb6⟩
      have b6 := below_on b5 hb6
      have own6 := own_below own5 hb6
      have hs6 := b6.size
      clear b5 hb6 c5 c6 d5 d6 own5 n6
      go_wp2_with (at_builtin; refine wpList_append_own _ rfl _ _ 35 rfl w4.heap.size 27 i0 (.agg #[.int .i64 0, .int .i64 0]) 2 16 Try.underlying35 hi0 hz0 hz1 hz2 rfl (by decide) _ _ _ rfl (own6.alloc _) ⟨w6.heap.size, 0, none⟩ 1 1 [.int .i64 (x + x), .int .i64 (y + y)] rfl rfl ?d1 ?d2 ?d3 ?d4 ?d5 ?_)
      case d1 => exact World.news_of_block (cs := #[.int .i64 (x + x), .int .i64 (y + y)]) (t := 27) (fr := (0, 0)) (heap_alloc_new w6 _)
      case d2 => simp [Value.oneCell']
      case d3 => unfold maxLen; omega
      case d4 => omega
      case d5 => simp; omega
      intro v' w7 own7 hgrow _
      have hrw := fun k hk => (own6.lt k hk).1
      have R : Hid (w7.ownsRow w4.heap.size 27 2 v' (M ++ [(x + x, y + y)]).length (flat (M ++ [(x + x, y + y)])) ∧ Below w4.heap.size w4 w7) :=
        ⟨by rw [flat_append, List.length_append]; exact own7, (b6.alloc hs6 _).grown hgrow (by simp; omega) hrw⟩
      clear own6 own7 hgrow b6 hrw
      go_wp2_with fail
      go_roundw
      case rel => exact ⟨k + 1, M ++ [(x + x, y + y)], by omega, by go_num, HM2, R.out.1, R.out.2⟩
      case measure => simp [intOf]; omega
    · have e : k = L.length := by omega
      have HQ : Hid (M = dblL L) := by
        show _ = _
        rw [HM.out, e, dblTill_all]
      have b5 := below_on b4 hb
      obtain ⟨_, A2, c2, rfl, p2⟩ := own_pts own
      have n5 := n4.step hb
      have m5 := m4.step hb
      have c0 := n5.c0; have c1 := n5.c1; have c2' := m5.c0; have c3 := m5.c1
      have HL : Hid (M.length = L.length) := by show _ = _; rw [HQ.out, dbl_len]
      have HP2 := Lib.hid p2
      clear e hb b4 HM own p2 n4 m4 n5 m5
      go_wp2_with fail
      refine (HP.out _).mono ?_
      rintro e w6 ⟨rfl, hb6⟩
      have HH := Lib.hid (around_sm A2 c2 M (ax + bx, ay + by') w6 (ptsA_on HP2.out hb6) (by rw [HL.out]; exact h1) (by rw [HL.out]; exact h2) (by rw [HQ.out]; exact HD.out) HS.out)
      have b6 := below_on b5 hb6
      clear hb6 b5
      go_wp2_with fail
      refine HH.out.mono ?_
      rintro e w7 ⟨rfl, hb7⟩
      have b7 := below_on b6 hb7
      go_wp2_with fail
      go_ret
      exact ⟨ret_bool (by rw [HV.out, HQ.out]), b7⟩

theorem corner_any (A : Option Addr) (c : Nat) (L : List (Int × Int)) (k : Int) (w : World) (hA : PtsA w A L) (hL : L.length ≤ 1048576) :
    Calls Try.prog 191 #[.slice A L.length c, .int .i64 k] w fun e w' => e = .returned (.bool (polyB L && inB k 0 ((L.length : Int) - 1))) ∧ Below w.heap.size w w' := by
  have PC := Lib.hid (impl_poly A c L w hA hL)
  have HI := Lib.hid (fun w => from_any k 0 ((L.length : Int) - 1) w)
  cases hp : polyB L
  · rw [hp] at PC
    clear hA
    go_enter Try.func191, Try.ntmps191
    go_wp2_with fail
    refine PC.out.mono ?_
    rintro e w1 ⟨rfl, hb1⟩
    go_wp2_with fail
    go_ret
    exact ⟨ret_bool rfl, hb1⟩
  · obtain ⟨h3, h10, hok⟩ := polyB_all hp
    rw [hp] at PC
    clear hA
    go_enter Try.func191, Try.ntmps191
    go_wp2_with fail
    refine PC.out.mono ?_
    rintro e w1 ⟨rfl, hb1⟩
    go_wp2_with fail
    refine (HI.out _).mono ?_
    rintro e w2 ⟨rfl, rfl⟩
    go_wp2_with fail
    go_ret
    exact ⟨ret_bool rfl, hb1⟩

def diagV (L : List (Int × Int)) (i k : Int) : Bool := polyB L && (inB i 0 ((L.length : Int) - 1) && (inB k 0 ((L.length : Int) - 1) && diagB L i.toNat k.toNat))
set_option maxRecDepth 100000 in
set_option maxHeartbeats 2000000 in
theorem impl_diag (A : Option Addr) (c : Nat) (L : List (Int × Int)) (i k : Int) (w : World) (hA : PtsA w A L) (hL : L.length ≤ 1048576) :
    Calls Try.prog 171 #[.slice A L.length c, .int .i64 i, .int .i64 k] w fun e w' => e = .returned (.bool (diagV L i k)) ∧ Below w.heap.size w w' := by
  have CI := Lib.hid (corner_any A c L i w hA hL)
  have CK := Lib.hid (fun W (hb : Below w.heap.size w W) => corner_any A c L k W (ptsA_on hA hb) hL)
  cases hi : (polyB L && inB i 0 ((L.length : Int) - 1))
  · have HV : Hid (diagV L i k = false) := by
      show _ = _
      rw [diagV, ← Bool.and_assoc, hi]; rfl
    rw [hi] at CI
    clear hA
    go_enter Try.func171, Try.ntmps171
    go_wp2_with fail
    refine CI.out.mono ?_
    rintro e w1 ⟨rfl, hb1⟩
    go_wp2_with fail
    go_ret
    exact ⟨ret_bool HV.out.symm, hb1⟩
  obtain ⟨hp, hi2⟩ := (Bool.and_eq_true _ _).mp hi
  cases hk : inB k 0 ((L.length : Int) - 1)
  · have HV : Hid (diagV L i k = false) := by
      show _ = _
      rw [diagV, hk, Bool.false_and, Bool.and_false, Bool.and_false]
    rw [hi] at CI
    rw [hp, hk] at CK
    clear hA
    go_enter Try.func171, Try.ntmps171
    go_wp2_with fail
    refine CI.out.mono ?_
    rintro e w1 ⟨rfl, hb1⟩
    go_wp2_with fail
    refine (CK.out _ hb1).mono ?_
    rintro e w2 ⟨rfl, hb2⟩
    have b2 := below_on hb1 hb2
    go_wp2_with fail
    go_ret
    exact ⟨ret_bool HV.out.symm, b2⟩
  obtain ⟨h3, h10, hok⟩ := polyB_all hp
  have hib := inB_spec.1 hi2
  have hkb := inB_spec.1 hk
  obtain ⟨p, rfl⟩ : ∃ p : Nat, i = (p : Int) := ⟨i.toNat, by omega⟩
  obtain ⟨q, rfl⟩ : ∃ q : Nat, k = (q : Int) := ⟨k.toNat, by omega⟩
  have hpl : p < L.length := by omega
  have hql : q < L.length := by omega
  have HV : Hid (diagV L p q = ((List.range L.length).all (stepQ L (gt L p) (gt L q)) && aroundB (dblL L) (addQ (gt L p) (gt L q)))) := by
    show _ = _
    rw [diagV, hp, hi2, hk, Bool.true_and, Bool.true_and, Bool.true_and]
    exact (diag_eq ((poly_iff L).1 hp) hpl hql).symm
  rw [hi] at CI
  rw [hp, hk] at CK
  obtain ⟨g, rfl, -⟩ := hA 0 (by omega)
  have HM := Lib.hid (fun W (hb : Below w.heap.size w W) => at_ends (some ⟨g, 0, none⟩) c L (gt L p) (gt L q) W (ptsA_on hA hb) (by omega) (by omega))
  have HA := Lib.hid (fun W (hb : Below w.heap.size w W) => middle_any (some ⟨g, 0, none⟩) c L (gt L p) (gt L q) W (ptsA_on hA hb) (by omega) (by omega) hok (gt_ok hok p) (gt_ok hok q))
  have HC := Lib.hid hA
  clear hA hi hi2 hk
  generalize (List.range L.length).all (stepQ L (gt L p) (gt L q)) = E at *
  generalize aroundB (dblL L) (addQ (gt L p) (gt L q)) = R at *
  go_enter Try.func171, Try.ntmps171
  go_wp2_with fail
  refine CI.out.mono ?_
  rintro e w1 ⟨rfl, hb1⟩
  go_wp2_with fail
  refine (CK.out _ hb1).mono ?_
  rintro e w2 ⟨rfl, hb2⟩
  have b2 := below_on hb1 hb2
  clear hb1 hb2 CI CK
  obtain ⟨d1, d2⟩ := gt_cells (ptsA_on HC.out b2) hpl
  obtain ⟨d3, d4⟩ := gt_cells (ptsA_on HC.out b2) hql
  have HM2 := Lib.hid (fun d os => HM.out _ (below_on b2 (below_regrown w2 d os)))
  have HA2 := Lib.hid (fun d os => HA.out _ (below_on b2 (below_regrown w2 d os)))
  generalize (gt L p).1 = x at *
  generalize (gt L p).2 = y at *
  generalize (gt L q).1 = x' at *
  generalize (gt L q).2 = y' at *
  have hp1 : (p : Int) < (L.length : Int) := by omega
  have hp2 : (0 : Int) ≤ (p : Int) := by omega
  have hp3 : (q : Int) < (L.length : Int) := by omega
  have hp4 : (0 : Int) ≤ (q : Int) := by omega
  have k1 := cell_regrown d1; have k2 := cell_regrown d2; have k3 := cell_regrown d3; have k4 := cell_regrown d4
  clear HM HA HC d1 d2 d3 d4
  cases E
  all_goals
    go_upto_region 3 with (fail)
    refine wp_region_quiet_below (by kernel_rfl) (by kernel_rfl) ?_
    repeat (first
      | go_big_quiet_step (first | exact Calls.regrown_of (HM2.out _ _) | exact Calls.regrown_of (HA2.out _ _))
      | quiet_step (first | exact Calls.regrown_of (HM2.out _ _) | exact Calls.regrown_of (HA2.out _ _)))
    refine wpQuiet_nil ?_
    rintro _ ⟨⟨dq, osq⟩, rfl⟩
    have b3 := below_on b2 (below_regrown w2 dq osq)
    go_wp2_with fail
    go_ret
    exact ⟨ret_bool HV.out.symm, b3⟩
end Go.Proofs.Ytbmeemmihkedoaa

/-! Diags -/
namespace Go.Proofs.Ytbmeemmihkedoaa
open Go.RowKit
open Go.Maps (Keyed)

/-- Block b is a map with just the keys R, each with the value true. -/
def MapB (w : World) (b : Nat) (R : List (Int × Int)) : Prop :=
  ∃ D : DataW Unit, w.ownsMap Try.prog 139 (plainElem Try.prog 4) b R.length D ∧ (∀ a c, wf64 a → wf64 c → (Maps.has D (kl a c) = true ↔ (a, c) ∈ R)) ∧ (∀ z ∈ R, wf64 z.1 ∧ wf64 z.2) ∧ (∀ l zd, Maps.has D l = true → D.atKey l zd = .lit (.bool true))
theorem mapB_made (w : World) : MapB (w.alloc (.map #[] 0)) w.heap.size [] :=
  ⟨.map [], World.ownsMap_made _ _ _ _, fun a c _ _ => (by simp [Maps.has]), fun z hz => (by cases hz), fun l zd h => (by cases h)⟩
theorem below_grown {w w' : World} (hb : Below w.heap.size w w') : w.grownBy w' none := ⟨hb.os, hb.tape, hb.output, hb.size, fun k hk _ => hb.block k hk⟩
theorem MapB.on {w w' : World} {b : Nat} {R : List (Int × Int)} (h : MapB w b R) (hb : Below w.heap.size w w') : MapB w' b R := by
  obtain ⟨D, h1, h2⟩ := h
  exact ⟨D, h1.kept (below_grown hb) (by simp), h2⟩
theorem mapB_put {w' : World} {b : Nat} {R : List (Int × Int)} {D : DataW Unit} {n : Nat} {x y : Int} (hD : Maps.IsMap D) (hx : wf64 x) (hy : wf64 y) (hn : n ≤ R.length + 1)
    (h2 : ∀ a c, wf64 a → wf64 c → (Maps.has D (kl a c) = true ↔ (a, c) ∈ R)) (h3 : ∀ z ∈ R, wf64 z.1 ∧ wf64 z.2) (h4 : ∀ l zd, Maps.has D l = true → D.atKey l zd = .lit (.bool true))
    (h : w'.ownsMap Try.prog 139 (plainElem Try.prog 4) b n (D.put (kl x y) (.lit (.bool true)))) : MapB w' b (R ++ [(x, y)]) := by
  have hk := pr_keyed.key (pr_key hx hy)
  refine ⟨_, h.mono (by simp; omega), ?_, ?_, ?_⟩
  · intro a c ha hc
    rw [List.mem_append, List.mem_singleton]
    by_cases e : (a, c) = (x, y)
    · simp only [Prod.mk.injEq] at e
      obtain ⟨rfl, rfl⟩ := e
      rw [Maps.has_put_same hD hk]
      simp
    · have e2 : kl a c ≠ kl x y := fun q => e (by obtain ⟨rfl, rfl⟩ := kl_inj ha hc hx hy q; rfl)
      rw [Maps.has_put_other e2, h2 a c ha hc]
      simp only [e, or_false]
  · intro z hz
    rcases List.mem_append.1 hz with hz | hz
    · exact h3 z hz
    · rw [List.mem_singleton.1 hz]; exact ⟨hx, hy⟩
  · intro l zd hl
    by_cases e : l = kl x y
    · subst e
      exact Maps.atKey_put_same hD hk _ _
    · rw [Maps.atKey_put_other e]
      rw [Maps.has_put_other e] at hl
      exact h4 l zd hl
/-- The diagonals from corner a to corners before k; those from corners before i. -/
def rowD (L : List (Int × Int)) (a k : Nat) : List (Int × Int) := ((List.range k).filter fun (c : Nat) => decide (a < c) && diagB L a c).map fun (c : Nat) => ((a : Int), (c : Int))
def allD (L : List (Int × Int)) (i : Nat) : List (Int × Int) := (List.range i).flatMap fun (a : Nat) => rowD L a L.length
theorem rowD_step (L : List (Int × Int)) (a k : Nat) : rowD L a (k + 1) = bif decide (a < k) && diagB L a k then rowD L a k ++ [((a : Int), (k : Int))] else rowD L a k := by
  unfold rowD
  rw [List.range_succ, List.filter_append, List.map_append]
  cases h : (decide (a < k) && diagB L a k) <;> simp [h]
theorem allD_step (L : List (Int × Int)) (i : Nat) : allD L (i + 1) = allD L i ++ rowD L i L.length := by
  unfold allD
  rw [List.range_succ, List.flatMap_append]
  simp
theorem rowD_start (L : List (Int × Int)) (a : Nat) : rowD L a (a + 1) = [] := by
  unfold rowD
  rw [List.map_eq_nil_iff, List.filter_eq_nil_iff]
  intro c hc
  rw [List.mem_range] at hc
  simp; omega
theorem rowD_mem (L : List (Int × Int)) (a k : Nat) (x y : Int) : (x, y) ∈ rowD L a k ↔ x = (a : Int) ∧ ∃ c : Nat, y = (c : Int) ∧ c < k ∧ a < c ∧ diagB L a c = true := by
  simp only [rowD, List.mem_map, List.mem_filter, List.mem_range, Bool.and_eq_true, decide_eq_true_eq, Prod.mk.injEq]
  constructor
  · rintro ⟨c, ⟨h1, h2, h3⟩, rfl, rfl⟩; exact ⟨rfl, c, rfl, h1, h2, h3⟩
  · rintro ⟨rfl, c, rfl, h1, h2, h3⟩; exact ⟨c, ⟨h1, h2, h3⟩, rfl, rfl⟩
theorem allD_mem (L : List (Int × Int)) (i : Nat) (x y : Int) : (x, y) ∈ allD L i ↔ ∃ a c : Nat, x = (a : Int) ∧ y = (c : Int) ∧ a < i ∧ c < L.length ∧ a < c ∧ diagB L a c = true := by
  simp only [allD, List.mem_flatMap, List.mem_range, rowD_mem]
  constructor
  · rintro ⟨a, h0, rfl, c, rfl, h1, h2, h3⟩; exact ⟨a, c, rfl, rfl, h0, h1, h2, h3⟩
  · rintro ⟨a, c, rfl, rfl, h0, h1, h2, h3⟩; exact ⟨a, h0, rfl, c, rfl, h1, h2, h3⟩
theorem rowD_len (L : List (Int × Int)) (a k : Nat) : (rowD L a k).length ≤ k := by
  unfold rowD
  rw [List.length_map]
  exact Nat.le_trans (List.length_filter_le _ _) (by simp)
theorem allD_len (L : List (Int × Int)) : ∀ i, (allD L i).length ≤ i * L.length
  | 0 => by simp [allD]
  | i + 1 => by
    have h1 := allD_len L i
    have h2 := rowD_len L i L.length
    rw [allD_step, List.length_append, Nat.succ_mul]; omega
theorem diag_at {L : List (Int × Int)} {i k : Nat} {A : Option Addr} {c : Nat} {w : World} (hp : polyB L = true) (hi : i < L.length) (hk : k < L.length)
    (h : Calls Try.prog 171 #[.slice A L.length c, .int .i64 i, .int .i64 k] w fun e w' => e = .returned (.bool (diagV L i k)) ∧ Below w.heap.size w w') :
    Calls Try.prog 171 #[.slice A L.length c, .int .i64 i, .int .i64 k] w fun e w' => e = .returned (.bool (diagB L i k)) ∧ Below w.heap.size w w' := by
  have e : diagV L i k = diagB L i k := by
    rw [diagV, hp, inB_spec.2 (by omega), inB_spec.2 (by omega)]; rfl
  rw [e] at h
  exact h
set_option maxRecDepth 100000 in
set_option maxHeartbeats 2000000 in
theorem impl_diags (A : Option Addr) (c : Nat) (L : List (Int × Int)) (w : World) (hA : PtsA w A L) (hp : polyB L = true) :
    Calls Try.prog 129 #[.slice A L.length c] w fun e w' => ∃ b, e = .returned (.map (some b)) ∧ w.heap.size ≤ b ∧ MapB w' b (allD L L.length) ∧ Below w.heap.size w w' := by
  obtain ⟨h3, h10, hok⟩ := polyB_all hp
  have HE := Lib.hid (fun (i k : Nat) (hi : i < L.length) (hk : k < L.length) W (hb : Below w.heap.size w W) => diag_at hp hi hk (impl_diag A c L i k W (ptsA_on hA hb) (by omega)))
  clear hA
  have hmm := @run_makeMap Try.prog
  go_enter Try.func129, Try.ntmps129
  go_wp2_with fail
  go_loopw [4, 5, 9] (fun _ _ i wr => ∃ (k : Nat) (R : List (Int × Int)), k ≤ L.length ∧ i = .int .i64 k ∧ Hid (R = allD L k) ∧ Hid (MapB wr w.heap.size R) ∧ Hid (Below w.heap.size w wr)) (fun _ _ i _ => L.length - (intOf i).toNat)
  case atStart => exact ⟨0, [], Nat.zero_le _, rfl, rfl, mapB_made _, (Below.refl _ _).alloc (Nat.le_refl _) _⟩
  case round =>
    obtain ⟨wo, rfl⟩ : ∃ wo : World, wo = wr := ⟨_, rfl⟩
    obtain ⟨i, R, hi, rfl, HR, HM, HB⟩ := hrel
    by_cases hlt : i < L.length
    · have f5 : wrap64 ((i : Int) + 1) = (i : Int) + 1 := IntWalk.wrap64_in _ (by omega)
      go_wp2_with fail
      go_loopw [5] (fun i2 wr => ∃ (k : Nat) (kv : Int) (R2 : List (Int × Int)), k ≤ L.length ∧ i < k ∧ Hid (kv = (k : Int)) ∧ i2 = .int .i64 kv ∧ Hid (R2 = R ++ rowD L i k) ∧ Hid (MapB wr w.heap.size R2) ∧ Hid (Below w.heap.size w wr)) (fun i2 _ => L.length - (intOf i2).toNat)
      case atStart => exact ⟨i + 1, (i : Int) + 1, R, by omega, by omega, by show (i : Int) + 1 = ((i + 1 : Nat) : Int); omega, rfl, by show R = _; rw [rowD_start, List.append_nil], HM, HB⟩
      case round =>
        obtain ⟨wi, rfl⟩ : ∃ wi : World, wi = wr := ⟨_, rfl⟩
        obtain ⟨k, kv, R2, hk, hik, HK, rfl, HR2, HM2, HB2⟩ := hrel
        by_cases hlk : k < L.length
        · have HC := HE.out i k hlt hlk _ HB2.out
          have HS : Hid (R ++ rowD L i (k + 1) = bif diagB L i k then R2 ++ [((i : Int), kv)] else R2) := by
            show _ = _
            rw [HR2.out, rowD_step, decide_eq_true hik, Bool.true_and, HK.out]
            cases diagB L i k <;> simp
          rw [← HK.out] at HC
          have f6 : wrap64 (kv + 1) = kv + 1 := IntWalk.wrap64_in _ (by have := HK.out; omega)
          have f7 : kv < (L.length : Int) := by have := HK.out; omega
          have f8 : 0 ≤ kv := by have := HK.out; omega
          have HC' := Lib.hid HC
          have hRL : R2.length ≤ 1000 := by
            rw [HR2.out, HR.out, List.length_append]
            have q1 := allD_len L i; have q2 := rowD_len L i k
            have q3 : i * L.length ≤ 10 * 10 := Nat.mul_le_mul (by omega) (by omega)
            omega
          clear HC HM HB
          go_wp2_with fail
          refine HC'.out.mono ?_
          rintro e w6 ⟨rfl, hb6⟩
          have HM6 := Lib.hid (HM2.out.on hb6)
          have HB6 := Lib.hid (below_on HB2.out hb6)
          clear hb6 HM2 HB2 HC'
          cases hd : diagB L i k
          · have HT : Hid (R2 = R ++ rowD L i (k + 1)) := by show _ = _; rw [HS.out, hd]; rfl
            clear HS
            go_wp2_with fail
            go_roundw
            case rel => exact ⟨k + 1, kv + 1, R2, by omega, by omega, by show kv + 1 = ((k + 1 : Nat) : Int); have := HK.out; omega, rfl, HT, HM6, HB6⟩
            case measure => simp [intOf]; have := HK.out; omega
          · have HT : Hid (R2 ++ [((i : Int), kv)] = R ++ rowD L i (k + 1)) := by show _ = _; rw [HS.out, hd]; rfl
            have wi1 : wf64 (i : Int) := WalkArith.wf_i64 (by omega)
            have wk1 : wf64 kv := WalkArith.wf_i64 (by omega)
            obtain ⟨D, hown, hh, hw, hv⟩ := HM6.out
            have HH := Lib.hid (And.intro hh (And.intro hw hv))
            clear HS hh hw hv HM6
            go_wp2_with (first
              | (at_mapUpdate; refine wpList_mapUpdate_own _ rfl _ _ _ 117 rfl 139 4 pr_keyed Try.underlying117 _ w.heap.size R2.length D rfl hown (by unfold maxLen; omega) _ _ _ rfl rfl (pr_key wi1 wk1) _ [] (plainElem_bool Try.underlying4 true) ?_; intro w7 hown1 hgrow1)
              | go_in)
            have R' : Hid (MapB w7 w.heap.size (R2 ++ [((i : Int), kv)])) := mapB_put hown.isMap wi1 wk1 (Nat.le_refl _) HH.out.1 HH.out.2.1 HH.out.2.2 hown1
            have B' : Hid (Below w.heap.size w w7) := HB6.out.grown hgrow1 HB6.out.size (fun j hj => by cases hj; exact Nat.le_refl _)
            clear hown hown1 hgrow1 HH HB6
            go_wp2_with fail
            go_roundw
            case rel => exact ⟨k + 1, kv + 1, R2 ++ [((i : Int), kv)], by omega, by omega, by show kv + 1 = ((k + 1 : Nat) : Int); have := HK.out; omega, rfl, HT, R', B'⟩
            case measure => simp [intOf]; have := HK.out; omega
        · have f7 : ¬ kv < (L.length : Int) := by have := HK.out; omega
          have HT : Hid (R2 = allD L (i + 1)) := by
            show _ = _
            rw [HR2.out, allD_step, HR.out, show k = L.length from by omega]
          clear HR HM HB HR2
          go_wp2_with fail
          go_roundw
          case rel => exact ⟨i + 1, R2, by omega, by go_num, HT, HM2, HB2⟩
          case measure => simp [intOf]; omega
    · have e : i = L.length := by omega
      have HQ : Hid (MapB wo w.heap.size (allD L L.length)) := by
        have q := HM.out
        rw [HR.out, e] at q
        exact q
      clear HR HM e
      go_wp2_with fail
      go_ret
      exact ⟨_, rfl, Nat.le_refl _, HQ.out, HB.out⟩
end Go.Proofs.Ytbmeemmihkedoaa

/-! Tri -/
namespace Go.Proofs.Ytbmeemmihkedoaa

/-- Whether two chords cross. -/
def crB (d e : Int × Int) : Bool := (decide (d.1 < e.1) && (decide (e.1 < d.2) && decide (d.2 < e.2))) || (decide (e.1 < d.1) && (decide (d.1 < e.2) && decide (e.2 < d.2)))
theorem crB_iff (d e : Int × Int) : crB d e = true ↔ (d.1 < e.1 ∧ e.1 < d.2 ∧ d.2 < e.2) ∨ (e.1 < d.1 ∧ d.1 < e.2 ∧ e.2 < d.2) := by simp [crB]
theorem crB_symm (d e : Int × Int) : crB d e = crB e d := by
  rw [Bool.eq_iff_iff, crB_iff, crB_iff]; omega
def ncL (d : Int × Int) (R : List (Int × Int)) : List (Int × Int) := R.filter fun e => !crB d e
def sumN (f : List (Int × Int) → Nat) : List (Int × Int) → Nat
  | [] => 0
  | d :: R => f (ncL d R) + sumN f R
/-- How many sets of m of the chords there are, no two of which cross. -/
def setN : Nat → List (Int × Int) → Nat
  | 0 => fun _ => 1
  | m + 1 => sumN (setN m)
theorem setN_nil (m : Nat) : setN (m + 1) [] = 0 := rfl
theorem setN_cons (m : Nat) (d : Int × Int) (R : List (Int × Int)) : setN (m + 1) (d :: R) = setN m (ncL d R) + setN (m + 1) R := rfl
theorem ncL_comm (a b : Int × Int) (R : List (Int × Int)) : ncL a (ncL b R) = ncL b (ncL a R) := by
  unfold ncL
  rw [List.filter_filter, List.filter_filter]
  exact List.filter_congr fun x _ => Bool.and_comm _ _
theorem ncL_cons (a b : Int × Int) (R : List (Int × Int)) : ncL a (b :: R) = bif crB a b then ncL a R else b :: ncL a R := by
  unfold ncL
  rw [List.filter_cons]
  cases crB a b <;> rfl
theorem sum_swap (m : Nat) (a b : Int × Int) (R : List (Int × Int)) : setN m (ncL a (b :: R)) + setN m (ncL b R) = setN m (ncL b (a :: R)) + setN m (ncL a R) := by
  cases m with
  | zero => rfl
  | succ m =>
    rw [ncL_cons, ncL_cons, crB_symm b a]
    cases h : crB a b
    · simp only [cond_false, setN_cons]
      rw [ncL_comm b a]; omega
    · simp only [cond_true]; omega
theorem setN_perm (m : Nat) {R R' : List (Int × Int)} (h : R.Perm R') : setN m R = setN m R' := by
  induction m generalizing R R' with
  | zero => rfl
  | succ m ih =>
    induction h with
    | nil => rfl
    | cons d h ih2 =>
      rw [setN_cons, setN_cons, ih2]
      exact congrArg (· + _) (ih (h.filter _))
    | swap a b R =>
      rw [setN_cons, setN_cons, setN_cons, setN_cons]
      have := sum_swap m b a R
      omega
    | trans _ _ h1 h2 => exact h1.trans h2
/-- No set of more than p. -/
def Cap (A : List (Int × Int)) (p : Nat) : Prop := ∀ s, p < s → setN s A = 0
theorem cap_nil (p : Nat) : Cap [] p := fun s h => by
  obtain ⟨s, rfl⟩ : ∃ t, s = t + 1 := ⟨s - 1, by omega⟩
  rfl
theorem cap_cons {d : Int × Int} {A : List (Int × Int)} {p : Nat} (h : Cap (d :: A) p) : ∃ q, p = q + 1 ∧ Cap (ncL d A) q ∧ Cap A p := by
  cases p with
  | zero =>
    have := h 1 (by omega)
    rw [setN_cons] at this
    have e : setN 0 (ncL d A) = 1 := rfl
    omega
  | succ q =>
    refine ⟨q, rfl, fun s hs => ?_, fun s hs => ?_⟩
    · have := h (s + 1) (by omega)
      rw [setN_cons] at this; omega
    · obtain ⟨t, rfl⟩ : ∃ t, s = t + 1 := ⟨s - 1, by omega⟩
      have := h (t + 1) hs
      rw [setN_cons] at this; omega
theorem cap_mk {d : Int × Int} {A : List (Int × Int)} {q : Nat} (h1 : Cap (ncL d A) q) (h2 : Cap A (q + 1)) : Cap (d :: A) (q + 1) := fun s hs => by
  obtain ⟨t, rfl⟩ : ∃ t, s = t + 1 := ⟨s - 1, by omega⟩
  rw [setN_cons, h1 t (by omega), h2 (t + 1) hs]
theorem cap_perm {A B : List (Int × Int)} {p : Nat} (h : A.Perm B) (hc : Cap A p) : Cap B p := fun s hs => by rw [← setN_perm s h]; exact hc s hs
theorem cap_more {A : List (Int × Int)} {p q : Nat} (h : Cap A p) (hq : p ≤ q) : Cap A q := fun s hs => h s (by omega)
def NoCr (A B : List (Int × Int)) : Prop := ∀ a ∈ A, ∀ b ∈ B, crB a b = false
theorem ncL_apart {d : Int × Int} {A B : List (Int × Int)} (h : ∀ b ∈ B, crB d b = false) : ncL d (A ++ B) = ncL d A ++ B := by
  unfold ncL
  rw [List.filter_append]
  congr 1
  exact List.filter_eq_self.2 fun b hb => by rw [h b hb]; rfl
theorem ncL_all {d : Int × Int} {B : List (Int × Int)} (h : ∀ b ∈ B, crB d b = false) : ncL d B = B := by
  have := ncL_apart (A := []) h
  simpa [ncL] using this
theorem ncL_len (d : Int × Int) (A : List (Int × Int)) : (ncL d A).length ≤ A.length := List.length_filter_le _ _
theorem product : ∀ (n : Nat) (A : List (Int × Int)), A.length ≤ n → ∀ (B : List (Int × Int)) (p q : Nat), NoCr A B → Cap A p → Cap B q → setN (p + q) (A ++ B) = setN p A * setN q B ∧ Cap (A ++ B) (p + q)
  | _, [], _, B, p, q, _, _, hB => by
    refine ⟨?_, fun s hs => hB s (by omega)⟩
    cases p with
    | zero => rw [Nat.zero_add]; show setN q B = 1 * _; omega
    | succ p => rw [setN_nil, Nat.zero_mul]; exact hB _ (by omega)
  | 0, d :: A, hn, _, _, _, _, _, _ => by simp at hn
  | n + 1, d :: A, hn, B, p, q, hx, hA, hB => by
    obtain ⟨r, rfl, h1, h2⟩ := cap_cons hA
    have hl := ncL_len d A
    simp only [List.length_cons] at hn
    have hd : ∀ b ∈ B, crB d b = false := hx d (by simp)
    obtain ⟨k1, k2⟩ := product n (ncL d A) (by omega) B r q (fun a ha => hx a (by simp [(List.mem_filter.1 ha).1])) h1 hB
    obtain ⟨k3, k4⟩ := product n A (by omega) B (r + 1) q (fun a ha => hx a (by simp [ha])) h2 hB
    rw [← ncL_apart hd] at k1 k2
    have e : r + 1 + q = (r + q) + 1 := by omega
    rw [e] at k3 k4 ⊢
    refine ⟨?_, cap_mk k2 k4⟩
    rw [List.cons_append, setN_cons, k1, k3, setN_cons, Nat.add_mul]
/-! ### chords within a part of the polygon -/
def inO (i k : Nat) (e : Int × Int) : Bool := decide ((i : Int) ≤ e.1) && (decide (e.2 ≤ (k : Int)) && !(decide (e.1 = (i : Int)) && decide (e.2 = (k : Int))))
def inC (i k : Nat) (e : Int × Int) : Bool := decide ((i : Int) ≤ e.1) && decide (e.2 ≤ (k : Int))
def inX (i k j : Nat) (e : Int × Int) : Bool := decide ((i : Int) ≤ e.1) && (decide (e.2 ≤ (k : Int)) && (!decide (e.1 = (i : Int)) || decide (e.2 < (j : Int))))
/-- Chords with at least one corner between their ends, each once. -/
def Chords (S : List (Int × Int)) : Prop := S.Nodup ∧ ∀ e ∈ S, e.1 + 2 ≤ e.2
def seesB (S : List (Int × Int)) (i k : Nat) : Bool := k == i + 1 || S.contains ((i : Int), (k : Int))
def sumT' (f : Nat → Nat) : Nat → Nat
  | 0 => 0
  | t + 1 => sumT' f t + f t
def triN (S : List (Int × Int)) : Nat → Nat → Nat → Nat
  | 0, _, _ => 1
  | d + 1, i, k => bif k == i + 1 then 1 else sumT' (fun t => bif seesB S i (i + 1 + t) && seesB S (i + 1 + t) k then triN S d i (i + 1 + t) * triN S d (i + 1 + t) k else 0) (k - i - 1)
theorem perm_of {S T : List (Int × Int)} (hS : S.Nodup) (hT : T.Nodup) (h : ∀ e, e ∈ S ↔ e ∈ T) : S.Perm T := (List.perm_ext_iff_of_nodup hS hT).2 h
def OpenOk (S : List (Int × Int)) (d i k : Nat) : Prop := Cap (S.filter (inO i k)) (k - i - 2) ∧ setN (k - i - 2) (S.filter (inO i k)) = triN S d i k
def ShutOk (S : List (Int × Int)) (d i k : Nat) : Prop := Cap (S.filter (inC i k)) (k - i - 1) ∧ setN (k - i - 1) (S.filter (inC i k)) = bif seesB S i k then triN S d i k else 0
theorem shut_of {S : List (Int × Int)} (hS : Chords S) {d i k : Nat} (hik : i < k) (h : OpenOk S d i k) : ShutOk S d i k := by
  obtain ⟨h1, h2⟩ := h
  by_cases hm : ((i : Int), (k : Int)) ∈ S
  · have hk : i + 2 ≤ k := by have := hS.2 _ hm; simp only at this; omega
    have hp : (S.filter (inC i k)).Perm (((i : Int), (k : Int)) :: S.filter (inO i k)) := by
      refine perm_of (hS.1.filter _) (List.nodup_cons.2 ⟨by simp [inO], hS.1.filter _⟩) fun e => ?_
      simp only [List.mem_filter, List.mem_cons, inC, inO, Bool.and_eq_true, decide_eq_true_eq, Bool.not_eq_true', Bool.and_eq_false_imp, decide_eq_false_iff_not]
      constructor
      · rintro ⟨a, b, c⟩
        by_cases q : e = ((i : Int), (k : Int))
        · exact Or.inl q
        · exact Or.inr ⟨a, b, c, fun q1 q2 => q (Prod.ext q1 q2)⟩
      · rintro (rfl | ⟨a, b, c, -⟩)
        · exact ⟨hm, Int.le_refl _, Int.le_refl _⟩
        · exact ⟨a, b, c⟩
    have hnc : ncL ((i : Int), (k : Int)) (S.filter (inO i k)) = S.filter (inO i k) := ncL_all fun b hb => by
      simp only [List.mem_filter, inO, Bool.and_eq_true, decide_eq_true_eq] at hb
      rw [← Bool.not_eq_true, crB_iff]; simp only; omega
    have e : k - i - 1 = (k - i - 2) + 1 := by omega
    have hs : seesB S i k = true := by simp [seesB, hm]
    rw [ShutOk, e, hs, cond_true]
    refine ⟨cap_perm hp.symm (cap_mk (by rw [hnc]; exact h1) (cap_more h1 (by omega))), ?_⟩
    rw [setN_perm _ hp, setN_cons, hnc, h2, h1 (k - i - 2 + 1) (by omega)]
    rfl
  · have hp : S.filter (inC i k) = S.filter (inO i k) := List.filter_congr fun e he => by
      by_cases q1 : e.1 = (i : Int) <;> by_cases q2 : e.2 = (k : Int)
      · exact absurd (show ((i : Int), (k : Int)) ∈ S by rw [← q1, ← q2]; exact he) hm
      all_goals simp [inC, inO, q1, q2]
    have hc : S.contains ((i : Int), (k : Int)) = false := by simp [hm]
    rw [ShutOk, hp]
    refine ⟨cap_more h1 (by omega), ?_⟩
    rw [seesB, hc, Bool.or_false]
    cases hq : (k == i + 1)
    · have hne : k ≠ i + 1 := by simpa using hq
      exact h1 _ (by omega)
    · have he : k = i + 1 := by simpa using hq
      subst he
      have e1 : i + 1 - i - 1 = 0 := by omega
      have e2 : i + 1 - i - 2 = 0 := by omega
      rw [e2] at h2
      rw [e1, h2]; rfl
theorem sum_step (S : List (Int × Int)) (hS : Chords S) (d i k : Nat) (hik : i + 2 ≤ k) (hO : ∀ j, i < j → j < k → OpenOk S d i j) (hC : ∀ j, i < j → j < k → ShutOk S d j k) :
    ∀ t, t + i + 2 ≤ k → Cap (S.filter (inX i k (i + 2 + t))) (k - i - 2) ∧ setN (k - i - 2) (S.filter (inX i k (i + 2 + t))) = sumT' (fun t => bif seesB S i (i + 1 + t) && seesB S (i + 1 + t) k then triN S d i (i + 1 + t) * triN S d (i + 1 + t) k else 0) (t + 1)
  | 0, ht => by
    have hp : S.filter (inX i k (i + 2 + 0)) = S.filter (inC (i + 1) k) := List.filter_congr fun e he => by
      have := hS.2 e he
      rw [Bool.eq_iff_iff]
      simp only [inX, inC, Bool.and_eq_true, Bool.or_eq_true, decide_eq_true_eq, Bool.not_eq_true', decide_eq_false_iff_not]
      omega
    obtain ⟨c1, c2⟩ := hC (i + 1) (by omega) (by omega)
    have e : k - (i + 1) - 1 = k - i - 2 := by omega
    rw [e] at c1 c2
    rw [hp]
    refine ⟨c1, c2.trans ?_⟩
    show _ = 0 + _
    have o := (hO (i + 1) (by omega) (by omega)).2
    have e2 : i + 1 - i - 2 = 0 := by omega
    rw [e2] at o
    have s1 : seesB S i (i + 1) = true := by simp [seesB]
    have o' : triN S d i (i + 1) = 1 := o.symm
    simp only [Nat.add_zero, s1, Bool.true_and, o', Nat.one_mul, Nat.zero_add]
  | t + 1, ht => by
    obtain ⟨c1, c2⟩ := sum_step S hS d i k hik hO hC t (by omega)
    have ej : i + 1 + (t + 1) = i + 2 + t := by omega
    show _ ∧ _ = sumT' _ (t + 1) + _
    rw [← c2]
    simp only [ej]
    generalize hj : i + 2 + t = j at *
    have e2 : i + 2 + (t + 1) = j + 1 := by omega
    rw [e2]
    obtain ⟨o1, o2⟩ := hO j (by omega) (by omega)
    obtain ⟨s1, s2⟩ := hC j (by omega) (by omega)
    by_cases hm : ((i : Int), (j : Int)) ∈ S
    · have hp : (S.filter (inX i k (j + 1))).Perm (((i : Int), (j : Int)) :: S.filter (inX i k j)) := by
        refine perm_of (hS.1.filter _) (List.nodup_cons.2 ⟨by simp [inX], hS.1.filter _⟩) fun e => ?_
        simp only [List.mem_filter, List.mem_cons, inX, Bool.and_eq_true, Bool.or_eq_true, decide_eq_true_eq, Bool.not_eq_true', decide_eq_false_iff_not]
        constructor
        · rintro ⟨a, b, c, x⟩
          by_cases q : e = ((i : Int), (j : Int))
          · exact Or.inl q
          · refine Or.inr ⟨a, b, c, ?_⟩
            have q' : e.1 = (i : Int) → e.2 ≠ (j : Int) := fun q1 q2 => q (Prod.ext q1 q2)
            omega
        · rintro (rfl | ⟨a, b, c, x⟩)
          · exact ⟨hm, by simp only; omega, by simp only; omega, by simp only; omega⟩
          · exact ⟨a, b, c, by omega⟩
      have hnc : (ncL ((i : Int), (j : Int)) (S.filter (inX i k j))).Perm (S.filter (inO i j) ++ S.filter (inC j k)) := by
        refine perm_of ((hS.1.filter _).filter _) (List.nodup_append.2 ⟨hS.1.filter _, hS.1.filter _, ?_⟩) fun e => ?_
        · intro a ha b hb
          simp only [List.mem_filter, inO, inC, Bool.and_eq_true, decide_eq_true_eq] at ha hb
          have h1 := hS.2 a ha.1
          rintro rfl
          omega
        · simp only [ncL, List.mem_filter, List.mem_append, inX, inO, inC, Bool.and_eq_true, Bool.or_eq_true, decide_eq_true_eq, Bool.not_eq_true', decide_eq_false_iff_not, Bool.and_eq_false_imp]
          have cr : (crB ((i : Int), (j : Int)) e = false) ↔ ¬ (((i : Int) < e.1 ∧ e.1 < (j : Int) ∧ (j : Int) < e.2) ∨ (e.1 < (i : Int) ∧ (i : Int) < e.2 ∧ e.2 < (j : Int))) := by
            rw [← Bool.not_eq_true, crB_iff]
          rw [cr]
          constructor
          · rintro ⟨⟨a, b, c, x⟩, y⟩
            have := hS.2 e a
            by_cases z : e.2 ≤ (j : Int)
            · exact Or.inl ⟨a, b, z, fun q => by omega⟩
            · exact Or.inr ⟨a, by omega, c⟩
          · rintro (⟨a, b, c, x⟩ | ⟨a, b, c⟩)
            · have := hS.2 e a
              refine ⟨⟨a, b, by omega, ?_⟩, by omega⟩
              by_cases q : e.1 = (i : Int)
              · have := x q; omega
              · exact Or.inl q
            · have := hS.2 e a
              exact ⟨⟨a, by omega, c, by omega⟩, by omega⟩
      have hap : NoCr (S.filter (inO i j)) (S.filter (inC j k)) := fun a ha b hb => by
        simp only [List.mem_filter, inO, inC, Bool.and_eq_true, decide_eq_true_eq] at ha hb
        have h1 := hS.2 a ha.1; have h2 := hS.2 b hb.1
        rw [← Bool.not_eq_true, crB_iff]; omega
      obtain ⟨p1, p2⟩ := product _ _ (Nat.le_refl _) _ _ _ hap o1 s1
      have e3 : j - i - 2 + (k - j - 1) = k - i - 3 := by omega
      rw [e3] at p1 p2
      have e4 : k - i - 2 = (k - i - 3) + 1 := by omega
      have hs : seesB S i j = true := by simp [seesB, hm]
      rw [e4] at c1 ⊢
      refine ⟨cap_perm hp.symm (cap_mk (cap_perm hnc.symm p2) c1), ?_⟩
      rw [setN_perm _ hp, setN_cons, setN_perm _ hnc, p1, o2, s2, hs, Bool.true_and, Nat.add_comm]
      cases seesB S j k <;> rfl
    · have hp : S.filter (inX i k (j + 1)) = S.filter (inX i k j) := List.filter_congr fun e he => by
        rw [Bool.eq_iff_iff]
        simp only [inX, Bool.and_eq_true, Bool.or_eq_true, decide_eq_true_eq, Bool.not_eq_true', decide_eq_false_iff_not]
        have q' : e.1 = (i : Int) → e.2 ≠ (j : Int) := fun q1 q2 => hm (by rw [← q1, ← q2]; exact he)
        omega
      have hs : seesB S i j = false := by
        simp only [seesB, Bool.or_eq_false_iff]
        exact ⟨by simp; omega, by simp [hm]⟩
      rw [hp, hs]
      exact ⟨c1, rfl⟩
theorem tri_ok (S : List (Int × Int)) (hS : Chords S) : ∀ d i k, i < k → k - i ≤ d → OpenOk S d i k
  | 0, i, k, hik, hd => by omega
  | d + 1, i, k, hik, hd => by
    cases hq : (k == i + 1)
    · have hne : k ≠ i + 1 := by simpa using hq
      have hO : ∀ j, i < j → j < k → OpenOk S d i j := fun j h1 h2 => tri_ok S hS d i j h1 (by omega)
      have hC : ∀ j, i < j → j < k → ShutOk S d j k := fun j h1 h2 => shut_of hS h2 (tri_ok S hS d j k h2 (by omega))
      obtain ⟨c1, c2⟩ := sum_step S hS d i k (by omega) hO hC (k - i - 2) (by omega)
      have e1 : i + 2 + (k - i - 2) = k := by omega
      have e2 : k - i - 2 + 1 = k - i - 1 := by omega
      rw [e1] at c1 c2
      rw [e2] at c2
      have hp : S.filter (inX i k k) = S.filter (inO i k) := List.filter_congr fun e he => by
        rw [Bool.eq_iff_iff]
        simp only [inX, inO, Bool.and_eq_true, Bool.or_eq_true, decide_eq_true_eq, Bool.not_eq_true', decide_eq_false_iff_not, Bool.and_eq_false_imp]
        constructor
        · rintro ⟨a, b, c⟩; exact ⟨a, b, fun q => by omega⟩
        · rintro ⟨a, b, c⟩
          refine ⟨a, b, ?_⟩
          by_cases q : e.1 = (i : Int)
          · have := c q; omega
          · exact Or.inl q
      rw [hp] at c1 c2
      refine ⟨c1, c2.trans ?_⟩
      rw [triN, hq]; rfl
    · have he : k = i + 1 := by simpa using hq
      have hp : S.filter (inO i k) = [] := List.filter_eq_nil_iff.2 fun e h => by
        have := hS.2 e h
        simp only [inO, Bool.and_eq_true, decide_eq_true_eq]; omega
      rw [OpenOk, hp]
      refine ⟨cap_nil _, ?_⟩
      have e2 : k - i - 2 = 0 := by omega
      rw [e2, triN, hq]; rfl
/-- As many sets of n - 3 chords as triangulations counted part by part. -/
theorem sets_tri {S : List (Int × Int)} (hS : Chords S) {n : Nat} (hn : 3 ≤ n) (hb : ∀ e ∈ S, 0 ≤ e.1 ∧ e.2 < (n : Int) ∧ ¬ (e.1 = 0 ∧ e.2 = (n : Int) - 1)) : setN (n - 3) S = triN S (n - 1) 0 (n - 1) := by
  have h := (tri_ok S hS (n - 1) 0 (n - 1) (by omega) (by omega)).2
  have hp : S.filter (inO 0 (n - 1)) = S := List.filter_eq_self.2 fun e he => by
    have := hb e he
    simp only [inO, Bool.and_eq_true, decide_eq_true_eq, Bool.not_eq_true', Bool.and_eq_false_imp, decide_eq_false_iff_not]
    exact ⟨by omega, by omega, fun q => by omega⟩
  rw [hp] at h
  have e : n - 1 - 0 - 2 = n - 3 := by omega
  rwa [e] at h
end Go.Proofs.Ytbmeemmihkedoaa

/-! TriGeo -/
namespace Go.Proofs.Ytbmeemmihkedoaa
open Go.RowKit

theorem side_clear {L : List Pt} (h : Good L) {a j : Nat} (ha : a < L.length) (hj : j < L.length) (h1 : j ≠ a) (h2 : j ≠ nx L a) : onP (gt L a) (gt L (nx L a)) (gt L j) = false := by
  have hl := h.1
  have hna := nx_lt (L := L) (by omega) a
  have hnj := nx_lt (L := L) (by omega) j
  have hs : (gt L a, gt L (nx L a)) ∈ sidesL L := mem_sides.2 ⟨a, ha, rfl⟩
  have ht : (gt L j, gt L (nx L j)) ∈ sidesL L := mem_sides.2 ⟨j, hj, rfl⟩
  have hne : gt L j ≠ gt L a := good_far h hj ha h1
  have hne2 : gt L j ≠ gt L (nx L a) := good_far h hj hna h2
  by_cases e : nx L j = a
  · have k := (h.2.2.2 _ ht _ hs (fun q => hne (congrArg Prod.fst q))).1
    simp only at k
    exact (k (by rw [e])).1
  · have hne3 : gt L (nx L j) ≠ gt L a := good_far h hnj ha e
    have k := (h.2.2.2 _ hs _ ht (fun q => hne (congrArg Prod.fst q).symm)).2
    simp only at k
    have m := k (fun q => hne2 q.symm) hne3
    cases ho : onP (gt L a) (gt L (nx L a)) (gt L j)
    · rfl
    · have := Mid.has_shared (a := gt L a) (b := gt L (nx L a)) (c := gt L j) (d := gt L (nx L j)) (p := gt L j) (mem_shared.2 (.inr ⟨.inl rfl, ho⟩))
      rw [m] at this
      rcases this with q | q <;> cases q
theorem diag_clear {L : List Pt} (h : Good L) {a b j : Nat} (_ : a < L.length) (_ : b < L.length) (hj : j < L.length) (h1 : j ≠ a) (h2 : j ≠ b) (hd : diagB L a b = true) : onP (gt L a) (gt L b) (gt L j) = false := by
  have hl := h.1
  have hnj := nx_lt (L := L) (by omega) j
  have hjn : j ≠ nx L j := by rw [nx_eq hj]; split <;> omega
  have hs : sideB L a b j = true := by
    simp only [diagB, Bool.and_eq_true, List.all_eq_true, List.mem_range] at hd
    exact hd.2.1 j hj
  cases ho : onP (gt L a) (gt L b) (gt L j)
  · rfl
  · exfalso
    have m1 : gt L j ∈ sharedS (gt L a) (gt L b) (gt L j) (gt L (nx L j)) := mem_shared.2 (.inr ⟨.inl rfl, ho⟩)
    have hm := Mid.has_shared m1
    unfold sideB at hs
    cases hsh : sharesB L a b j
    · rw [hsh] at hs
      simp only [cond_false, beq_iff_eq] at hs
      rw [show meetI (gt L a) (gt L b) (gt L j) (gt L (nx L j)) = 0 from hs] at hm
      rcases hm with q | q <;> cases q
    · rw [hsh] at hs
      have he : nx L j = a ∨ nx L j = b := by
        simp only [sharesB, Bool.or_eq_true, beq_iff_eq] at hsh
        rcases hsh with ((e | e) | e) | e
        · exact absurd e h1
        · exact absurd e h2
        · exact .inl e
        · exact .inr e
      have m2 : gt L (nx L j) ∈ sharedS (gt L a) (gt L b) (gt L j) (gt L (nx L j)) := mem_shared.2 (.inl ⟨by rcases he with e | e <;> simp [e], on_right _ _⟩)
      rcases hm with e | e
      · exact good_far h hj hnj hjn (meet_one e _ _ m1 m2)
      · rw [show sideM L a b j = 3 from e] at hs; cases hs
/-- Corners that are joined by a side or a diagonal. -/
def Sees (L : List Pt) (a b : Nat) : Prop := nx L a = b ∨ nx L b = a ∨ diagB L a b = true
theorem sees_clear {L : List Pt} (h : Good L) {a b j : Nat} (ha : a < L.length) (hb : b < L.length) (hj : j < L.length) (h1 : j ≠ a) (h2 : j ≠ b) (hs : Sees L a b) : onP (gt L a) (gt L b) (gt L j) = false := by
  rcases hs with rfl | rfl | hd
  · exact side_clear h ha hj h1 h2
  · rw [onP_flip]; exact side_clear h hb hj h2 h1
  · exact diag_clear h ha hb hj h1 h2 hd
theorem sees_cross {L : List Pt} (h : Good L) {i j k : Nat} (hij : i < j) (hjk : j < k) (hk : k < L.length) (s1 : Sees L i j) (s2 : Sees L j k) (s3 : Sees L i k) : crossP (gt L i) (gt L j) (gt L k) ≠ 0 := fun hc => by
  rcases on_line hc with q | q | q
  · rw [sees_clear h (by omega) hk (by omega) (by omega) (by omega) s3] at q; cases q
  · rw [sees_clear h (by omega) hk (by omega) (by omega) (by omega) s2] at q; cases q
  · rw [sees_clear h (by omega) (by omega) hk (by omega) (by omega) s1] at q; cases q
theorem rowD_nodup (L : List (Int × Int)) (a k : Nat) : (rowD L a k).Nodup := by
  unfold rowD
  refine List.Pairwise.map _ (fun x y hxy => ?_) ((List.nodup_range (n := k)).filter _)
  intro e
  simp only [Prod.mk.injEq] at e
  omega
theorem allD_nodup (L : List (Int × Int)) : ∀ i, (allD L i).Nodup
  | 0 => by simp [allD]
  | i + 1 => by
    rw [allD_step]
    refine List.nodup_append.2 ⟨allD_nodup L i, rowD_nodup L i _, ?_⟩
    rintro ⟨x, y⟩ h1 ⟨x', y'⟩ h2 e
    simp only [Prod.mk.injEq] at e
    obtain ⟨a, c, rfl, -, ha, -⟩ := (allD_mem L i x y).1 h1
    have := (rowD_mem L i L.length x' y').1 h2
    omega
theorem far_of {L : List (Int × Int)} {a c : Nat} (h : diagB L a c = true) : nx L a ≠ c ∧ nx L c ≠ a := by
  simp only [diagB, farB, Bool.and_eq_true, Bool.not_eq_true', Bool.or_eq_false_iff, beq_eq_false_iff_ne] at h
  exact ⟨h.1.1.1, h.1.1.2⟩
theorem allD_chords (L : List (Int × Int)) : Chords (allD L L.length) := by
  refine ⟨allD_nodup L _, ?_⟩
  rintro ⟨x, y⟩ h
  obtain ⟨a, c, rfl, rfl, ha, hc, hac, hd⟩ := (allD_mem L _ x y).1 h
  have := (far_of hd).1
  rw [nx_eq ha] at this
  simp only
  split at this <;> omega
theorem allD_ends (L : List (Int × Int)) (h3 : 3 ≤ L.length) : ∀ e ∈ allD L L.length, 0 ≤ e.1 ∧ e.2 < (L.length : Int) ∧ ¬ (e.1 = 0 ∧ e.2 = (L.length : Int) - 1) := by
  rintro ⟨x, y⟩ h
  obtain ⟨a, c, rfl, rfl, ha, hc, hac, hd⟩ := (allD_mem L _ x y).1 h
  have := (far_of hd).2
  rw [nx_eq hc] at this
  simp only
  split at this <;> omega
theorem sees_all (L : List (Int × Int)) {i k : Nat} (hik : i < k) (hk : k < L.length) : seesB (allD L L.length) i k = (k == i + 1 || diagB L i k) := by
  rw [seesB]
  congr 1
  rw [Bool.eq_iff_iff, List.contains_iff_mem, allD_mem]
  constructor
  · rintro ⟨a, c, e1, e2, -, -, -, hd⟩
    rw [show i = a from by omega, show k = c from by omega]
    exact hd
  · exact fun hd => ⟨i, k, rfl, rfl, by omega, hk, hik, hd⟩
theorem sees_of {L : List (Int × Int)} {i k : Nat} (hik : i < k) (hk : k < L.length) (h : seesB (allD L L.length) i k = true) : Sees L i k := by
  rw [sees_all L hik hk, Bool.or_eq_true, beq_iff_eq] at h
  rcases h with rfl | h
  · left
    rw [nx_eq (by omega), if_neg (by omega)]
  · exact .inr (.inr h)
theorem allD_64 (L : List (Int × Int)) (h : L.length ≤ 8) : (allD L L.length).length ≤ 64 := by
  have h1 := allD_len L L.length
  have h2 : L.length * L.length ≤ 8 * 8 := Nat.mul_le_mul h h
  omega
end Go.Proofs.Ytbmeemmihkedoaa

/-! DiagS -/
namespace Go.Proofs.Ytbmeemmihkedoaa
open Go.RowKit

set_option maxRecDepth 100000 in
set_option maxHeartbeats 2000000 in
theorem double_any (A : Option Addr) (c : Nat) (L : List (Int × Int)) (w : World) (hA : PtsA w A L) (h1 : 1 ≤ L.length) (h2 : L.length ≤ 10) (hok : allOk L = true) :
    Calls Try.prog 190 #[.slice A L.length c] w (Lists w (dblL L)) := by
  obtain ⟨i0, hi0, hz0, hz1, hz2⟩ := info_parts infoPt
  obtain ⟨g, rfl, -⟩ := hA 0 h1
  have HA := Lib.hid hA
  have HOK := Lib.hid (fun k => gt_ok hok k)
  have own0 := World.ownsRow_lit (base := w.heap.size) (e := 27) (size := 2) w #[] 0 (Nat.le_refl _) (by unfold maxLen; omega) (by rfl)
  have b0 := below1 w (.cells #[] 27)
  clear hA hok
  go_enter Try.func190, Try.ntmps190
  go_wp2_with fail
  go_loopw [3, 5, 9] (fun s _ i wr => ∃ (k : Nat) (M : List (Int × Int)), k ≤ L.length ∧ i = .int .i64 k ∧ Hid (M = dblTill L k) ∧ wr.ownsRow w.heap.size 27 2 s M.length (flat M) ∧ Below w.heap.size w wr) (fun _ _ i _ => L.length - (intOf i).toNat)
  case atStart => exact ⟨0, [], Nat.zero_le _, rfl, rfl, own0, b0⟩
  case round =>
    clear own0 b0
    obtain ⟨wo, rfl⟩ : ∃ wo : World, wo = wr := ⟨_, rfl⟩
    obtain ⟨k, M, hk, rfl, HM, own, hb⟩ := hrel
    by_cases hlt : k < L.length
    · have HM2 : Hid (M ++ [((gt L k).1 + (gt L k).1, (gt L k).2 + (gt L k).2)] = dblTill L (k + 1)) := by
        show _ = _
        rw [dblTill_step, HM.out]
      have hML : M.length ≤ 10 := by rw [HM.out, dblTill_len]; omega
      clear HM
      obtain ⟨d5, d6⟩ := gt_cells (ptsA_on HA.out hb) hlt
      have hbd := okP_bounds (HOK.out k)
      generalize (gt L k).1 = x at *
      generalize (gt L k).2 = y at *
      have f1 : wrap64 (x + x) = x + x := IntWalk.wrap64_in _ (by omega)
      have f2 : wrap64 (y + y) = y + y := IntWalk.wrap64_in _ (by omega)
      have f3 : 2 * x = x + x := by omega
      have f4 : 2 * y = y + y := by omega
      have n6 := at_new wo x y 27
      have c5 := n6.c0; have c6 := n6.c1
      have b6 := hb.alloc hb.size (.cells #[.int .i64 x, .int .i64 y] 27)
      have own6 := own.alloc (.cells #[.int .i64 x, .int .i64 y] 27)
      have hs6 := hb.size
      clear hb own hbd n6
      go_wp2_with (at_builtin; refine wpList_append_own _ rfl _ _ 35 rfl w.heap.size 27 i0 (.agg #[.int .i64 0, .int .i64 0]) 2 16 Try.underlying35 hi0 hz0 hz1 hz2 rfl (by decide) _ _ _ rfl (own6.alloc _) ⟨wo.heap.size + 1, 0, none⟩ 1 1 [.int .i64 (x + x), .int .i64 (y + y)] rfl rfl ?d1 ?d2 ?d3 ?d4 ?d5 ?_)
      case d1 => exact World.news_of_block (cs := #[.int .i64 (x + x), .int .i64 (y + y)]) (t := 27) (fr := (0, 0)) (by have := heap_alloc_new (wo.alloc (.cells #[.int .i64 x, .int .i64 y] 27)) (.cells #[.int .i64 (x + x), .int .i64 (y + y)] 27); rwa [size_alloc] at this)
      case d2 => simp [Value.oneCell']
      case d3 => unfold maxLen; omega
      case d4 => omega
      case d5 => simp; omega
      intro v' w7 own7 hgrow _
      have hrw := fun k hk => (own6.lt k hk).1
      have R : Hid (w7.ownsRow w.heap.size 27 2 v' (M ++ [(x + x, y + y)]).length (flat (M ++ [(x + x, y + y)])) ∧ Below w.heap.size w w7) :=
        ⟨by rw [flat_append, List.length_append]; exact own7, (b6.alloc b6.size _).grown hgrow (by simp; omega) hrw⟩
      clear own6 own7 hgrow b6 hrw c5 c6 d5 d6 f1 f2 f3 f4
      go_wp2_with fail
      go_roundw
      case rel => exact ⟨k + 1, M ++ [(x + x, y + y)], by omega, by go_num, HM2, R.out.1, R.out.2⟩
      case measure => simp [intOf]; omega
    · have e : k = L.length := by omega
      have HQ : Hid (M = dblL L) := by
        show _ = _
        rw [HM.out, e, dblTill_all]
      clear HM e
      go_wp2_with fail
      go_ret
      rw [← HQ.out]
      exact ⟨_, rfl, own, hb⟩
theorem sideB_bif (L : List (Int × Int)) (p q j r : Nat) (mv : Int) (hr : nx L j = r) (hm : sideM L p q j = mv) :
    sideB L p q j = bif (((j : Int) == (p : Int)) || ((j : Int) == (q : Int)) || ((r : Int) == (p : Int)) || ((r : Int) == (q : Int))) then !(mv == 3 || mv == 2) else mv == 0 := by
  have e : ∀ a b : Nat, ((a : Int) == (b : Int)) = (a == b) := fun a b => by
    rw [Bool.eq_iff_iff]; simp only [beq_iff_eq]; omega
  unfold sideB sharesB
  rw [hr, hm, e, e, e, e]
set_option maxRecDepth 100000 in
set_option maxHeartbeats 4000000 in
theorem diagS_any (A : Option Addr) (c : Nat) (L : List (Int × Int)) (p q : Nat) (w : World) (hA : PtsA w A L) (h1 : 3 ≤ L.length) (h2 : L.length ≤ 10) (hok : allOk L = true) (hp : p < L.length) (hq : q < L.length) :
    Calls Try.prog 170 #[.slice A L.length c, .int .i64 (p : Int), .int .i64 (q : Int)] w fun e w' => e = .returned (.bool (diagB L p q)) ∧ Below w.heap.size w w' := by
  have e : ∀ a b : Nat, ((a : Int) == (b : Int)) = (a == b) := fun a b => by
    rw [Bool.eq_iff_iff]; simp only [beq_iff_eq]; omega
  have HFAR : Hid (farB L p q = !((((nx L p : Nat) : Int) == (q : Int)) || (((nx L q : Nat) : Int) == (p : Int)) || ((p : Int) == (q : Int)))) := by
    show _ = _
    rw [e, e, e]; rfl
  clear e
  have HDB : Hid (diagB L p q = (farB L p q && ((List.range L.length).all (sideB L p q) && insideB (dblL L) (addQ (gt L p) (gt L q))))) := rfl
  obtain ⟨hrp, hrpl⟩ := next_int (i := p) (n := L.length) (by omega)
  obtain ⟨hrq, hrql⟩ := next_int (i := q) (n := L.length) (by omega)
  rw [show (p + 1) % L.length = nx L p from rfl] at hrp hrpl
  rw [show (q + 1) % L.length = nx L q from rfl] at hrq hrql
  have f1 : wrap64 ((p : Int) + 1) = (p : Int) + 1 := IntWalk.wrap64_in _ (by omega)
  have f2 : wrap64 ((q : Int) + 1) = (q : Int) + 1 := IntWalk.wrap64_in _ (by omega)
  have hne : ¬ L.length = 0 := by omega
  generalize nx L p = rp at *
  generalize nx L q = rq at *
  cases hfar : farB L p q
  · have HV : Hid (diagB L p q = false) := by
      show _ = _
      rw [HDB.out, hfar]; rfl
    rw [hfar] at HFAR
    have HF := HFAR.out
    clear HDB hA HFAR
    cases g1 : ((rp : Int) == (q : Int))
    case true =>
      clear HF
      go_enter Try.func170, Try.ntmps170
      go_wp2_with fail
      go_ret
      exact ⟨ret_bool HV.out.symm, Below.refl _ _⟩
    case false =>
      cases g2 : ((rq : Int) == (p : Int))
      case true =>
        clear HF
        go_enter Try.func170, Try.ntmps170
        go_wp2_with fail
        go_ret
        exact ⟨ret_bool HV.out.symm, Below.refl _ _⟩
      case false =>
        have g3 : ((p : Int) == (q : Int)) = true := by
          rw [g1, g2] at HF
          cases h : ((p : Int) == (q : Int))
          · rw [h] at HF; cases HF
          · rfl
        clear HF
        go_enter Try.func170, Try.ntmps170
        go_wp2_with fail
        go_ret
        exact ⟨ret_bool HV.out.symm, Below.refl _ _⟩
  have HV : Hid (diagB L p q = ((List.range L.length).all (sideB L p q) && insideB (dblL L) (addQ (gt L p) (gt L q)))) := by
    show _ = _
    rw [HDB.out, hfar]; rfl
  rw [hfar] at HFAR
  have HF := HFAR.out
  have g1 : ((rp : Int) == (q : Int)) = false := by
    cases h : ((rp : Int) == (q : Int))
    · rfl
    · rw [h] at HF; cases HF
  have g2 : ((rq : Int) == (p : Int)) = false := by
    cases h : ((rq : Int) == (p : Int))
    · rfl
    · rw [g1, h] at HF; cases HF
  have g3 : ((p : Int) == (q : Int)) = false := by
    cases h : ((p : Int) == (q : Int))
    · rfl
    · rw [g1, g2, h] at HF; cases HF
  clear HF HFAR HDB hfar
  have HNO : Hid (∀ j, j < L.length → sideB L p q j = false → diagB L p q = false) := fun j hj hs => by
    rw [HV.out]
    have : (List.range L.length).all (sideB L p q) = false := by
      simp only [List.all_eq_false, List.mem_range]
      exact ⟨j, hj, by rw [hs]; exact Bool.false_ne_true⟩
    rw [this]; rfl
  obtain ⟨g, rfl, -⟩ := hA 0 (by omega)
  obtain ⟨d1, d2⟩ := gt_cells hA hp
  obtain ⟨d3, d4⟩ := gt_cells hA hq
  have HPP := Lib.hid (gt_ok hok p)
  have HQQ := Lib.hid (gt_ok hok q)
  have HOK := Lib.hid (gt_ok hok)
  have HAL := Lib.hid hok
  have HA0 := Lib.hid hA
  have HM0 := Lib.hid (fun j w => meet_any (gt L p).1 (gt L p).2 (gt L q).1 (gt L q).2 (gt L j).1 (gt L j).2 (gt L (nx L j)).1 (gt L (nx L j)).2 w HPP.out HQQ.out (HOK.out _) (HOK.out _))
  have HSM : Hid (∀ j, sideM L p q j = meetI ((gt L p).1, (gt L p).2) ((gt L q).1, (gt L q).2) ((gt L j).1, (gt L j).2) ((gt L (nx L j)).1, (gt L (nx L j)).2)) := fun _ => rfl
  have HAD : Hid (addQ (gt L p) (gt L q) = ((gt L p).1 + (gt L q).1, (gt L p).2 + (gt L q).2)) := rfl
  have HSS := Lib.hid (okP_add (a := gt L p) (b := gt L q) (gt_ok hok p) (gt_ok hok q))
  have hbp := okP_bounds (gt_ok hok p)
  have hbq := okP_bounds (gt_ok hok q)
  clear hA hok
  generalize (gt L p).1 = ax at *
  generalize (gt L p).2 = ay at *
  generalize (gt L q).1 = bx at *
  generalize (gt L q).2 = by' at *
  have s1 : Hid (IntKind.i64.wrap (ax + bx) = ax + bx) := IntWalk.i64_in _ (by omega)
  have s2 : Hid (IntKind.i64.wrap (ay + by') = ay + by') := IntWalk.i64_in _ (by omega)
  have hp1 : (p : Int) < (L.length : Int) := by omega
  have hp2 : (0 : Int) ≤ (p : Int) := by omega
  have hp3 : (q : Int) < (L.length : Int) := by omega
  have hp4 : (0 : Int) ≤ (q : Int) := by omega
  have hal := below1 w (.cells #[.int .i64 ax, .int .i64 ay] 27)
  have d5 := cell_on hal rfl d3; have d6 := cell_on hal rfl d4
  have n4 := (at_new w ax ay 27).alloc (.cells #[.int .i64 bx, .int .i64 by'] 27)
  have m4 := at_new (w.alloc (.cells #[.int .i64 ax, .int .i64 ay] 27)) bx by' 27
  rw [size_alloc] at m4
  have b4 := below2 w (.cells #[.int .i64 ax, .int .i64 ay] 27) (.cells #[.int .i64 bx, .int .i64 by'] 27)
  clear hal hbp hbq hrpl hrql
  go_enter Try.func170, Try.ntmps170
  go_wp2_with fail
  clear d1 d2 d3 d4 d5 d6 hp1 hp2 hp3 hp4 f1 f2 hrp hrq g1 g2 g3
  generalize ((w.alloc (.cells #[.int .i64 ax, .int .i64 ay] 27)).alloc (.cells #[.int .i64 bx, .int .i64 by'] 27)) = w4 at *
  have HA4 := Lib.hid (ptsA_on HA0.out b4)
  have HB2 := Lib.hid b4
  have HN4 := Lib.hid n4
  have HM4 := Lib.hid m4
  clear b4 n4 m4
  go_loopw [10, 11, 12, 13, 45] (fun _ _ _ _ i wr => ∃ j : Nat, j ≤ L.length ∧ i = .int .i64 j ∧ Hid (∀ t, t < j → sideB L p q t = true) ∧ Below w4.heap.size w4 wr) (fun _ _ _ _ i _ => L.length - (intOf i).toNat)
  case atStart => exact ⟨0, Nat.zero_le _, rfl, fun t h => by omega, Below.refl _ _⟩
  case round =>
    obtain ⟨wo, rfl⟩ : ∃ wo : World, wo = wr := ⟨_, rfl⟩
    obtain ⟨j, hj, rfl, HAll, hb⟩ := hrel
    by_cases hlt : j < L.length
    · obtain ⟨hr, hrl⟩ := next_int (i := j) (n := L.length) (by omega)
      rw [show (j + 1) % L.length = nx L j from rfl] at hr hrl
      have hap := ptsA_on HA4.out hb
      obtain ⟨c1, c2⟩ := gt_cells hap hlt
      obtain ⟨c3, c4⟩ := gt_cells hap hrl
      have n5 := HN4.out.step hb
      have m5 := HM4.out.step hb
      have HMM := Lib.hid (fun w => HM0.out j w)
      have HSB := Lib.hid (sideB_bif L p q j (nx L j) _ rfl (HSM.out j))
      have HST : Hid (sideB L p q j = true → ∀ t, t < j + 1 → sideB L p q t = true) := fun h t ht => by
        rcases Nat.lt_or_ge t j with h3 | h3
        · exact HAll.out t h3
        · obtain rfl : t = j := by omega
          exact h
      clear hap HAll
      generalize nx L j = r at *
      generalize (gt L j).1 = x at *
      generalize (gt L j).2 = y at *
      generalize (gt L r).1 = x' at *
      generalize (gt L r).2 = y' at *
      generalize meetI (ax, ay) (bx, by') (x, y) (x', y') = mv at *
      have f5 : wrap64 ((j : Int) + 1) = (j : Int) + 1 := IntWalk.wrap64_in _ (by omega)
      have hp1 : (r : Int) < (L.length : Int) := by omega
      have hp2 : (0 : Int) ≤ (r : Int) := by omega
      have hal := (Below.refl wo.heap.size wo).alloc (Nat.le_refl _) (.cells #[.int .i64 x, .int .i64 y] 27)
      have d3 := cell_on hal rfl c3; have d4 := cell_on hal rfl c4
      have hal2 := hal.alloc (by simp) (.cells #[.int .i64 x', .int .i64 y'] 27)
      have n6 := n5.step hal2
      have m6 := m5.step hal2
      have k1 := (at_new wo x y 27).alloc (.cells #[.int .i64 x', .int .i64 y'] 27)
      have k2 := at_new (wo.alloc (.cells #[.int .i64 x, .int .i64 y] 27)) x' y' 27
      rw [size_alloc] at k2
      have u1 := n6.c0; have u2 := n6.c1; have u3 := m6.c0; have u4 := m6.c1
      have v1 := k1.c0; have v2 := k1.c1; have v3 := k2.c0; have v4 := k2.c1
      have b7 := below_on hb hal2
      clear hal hal2 n5 m5 n6 m6 k1 k2 hb
      go_wp2_with fail
      refine (HMM.out _).mono ?_
      rintro e w8 ⟨rfl, hb8⟩
      have b8 := below_on b7 hb8
      clear hb8 b7 u1 u2 u3 u4 v1 v2 v3 v4 c1 c2 c3 c4 d3 d4
      cases g1 : ((j : Int) == (p : Int))
      case true =>
        cases h3 : (mv == 3)
        case true =>
          have HF : Hid (sideB L p q j = false) := by
            show _ = _
            rw [HSB.out, g1, h3]; rfl
          go_wp2_with fail
          go_ret
          exact ⟨ret_bool (HNO.out _ hlt HF.out).symm, below_on HB2.out b8⟩
        case false =>
          cases h2' : (mv == 2)
          case true =>
            have HF : Hid (sideB L p q j = false) := by
              show _ = _
              rw [HSB.out, g1, h3, h2']; rfl
            go_wp2_with fail
            go_ret
            exact ⟨ret_bool (HNO.out _ hlt HF.out).symm, below_on HB2.out b8⟩
          case false =>
            have HT : Hid (sideB L p q j = true) := by
              show _ = _
              rw [HSB.out, g1, h3, h2']; rfl
            have R := Lib.hid b8
            clear b8
            go_wp2_with fail
            go_roundw
            case rel => exact ⟨j + 1, by omega, by go_num, HST.out HT.out, R.out⟩
            case measure => simp [intOf]; omega
      case false =>
        cases g2 : ((j : Int) == (q : Int))
        case true =>
          cases h3 : (mv == 3)
          case true =>
            have HF : Hid (sideB L p q j = false) := by
              show _ = _
              rw [HSB.out, g1, g2, h3]; rfl
            go_wp2_with fail
            go_ret
            exact ⟨ret_bool (HNO.out _ hlt HF.out).symm, below_on HB2.out b8⟩
          case false =>
            cases h2' : (mv == 2)
            case true =>
              have HF : Hid (sideB L p q j = false) := by
                show _ = _
                rw [HSB.out, g1, g2, h3, h2']; rfl
              go_wp2_with fail
              go_ret
              exact ⟨ret_bool (HNO.out _ hlt HF.out).symm, below_on HB2.out b8⟩
            case false =>
              have HT : Hid (sideB L p q j = true) := by
                show _ = _
                rw [HSB.out, g1, g2, h3, h2']; rfl
              have R := Lib.hid b8
              clear b8
              go_wp2_with fail
              go_roundw
              case rel => exact ⟨j + 1, by omega, by go_num, HST.out HT.out, R.out⟩
              case measure => simp [intOf]; omega
        case false =>
          cases g3 : ((r : Int) == (p : Int))
          case true =>
            cases h3 : (mv == 3)
            case true =>
              have HF : Hid (sideB L p q j = false) := by
                show _ = _
                rw [HSB.out, g1, g2, g3, h3]; rfl
              go_wp2_with fail
              go_ret
              exact ⟨ret_bool (HNO.out _ hlt HF.out).symm, below_on HB2.out b8⟩
            case false =>
              cases h2' : (mv == 2)
              case true =>
                have HF : Hid (sideB L p q j = false) := by
                  show _ = _
                  rw [HSB.out, g1, g2, g3, h3, h2']; rfl
                go_wp2_with fail
                go_ret
                exact ⟨ret_bool (HNO.out _ hlt HF.out).symm, below_on HB2.out b8⟩
              case false =>
                have HT : Hid (sideB L p q j = true) := by
                  show _ = _
                  rw [HSB.out, g1, g2, g3, h3, h2']; rfl
                have R := Lib.hid b8
                clear b8
                go_wp2_with fail
                go_roundw
                case rel => exact ⟨j + 1, by omega, by go_num, HST.out HT.out, R.out⟩
                case measure => simp [intOf]; omega
          case false =>
            cases g4 : ((r : Int) == (q : Int))
            case true =>
              cases h3 : (mv == 3)
              case true =>
                have HF : Hid (sideB L p q j = false) := by
                  show _ = _
                  rw [HSB.out, g1, g2, g3, g4, h3]; rfl
                go_wp2_with fail
                go_ret
                exact ⟨ret_bool (HNO.out _ hlt HF.out).symm, below_on HB2.out b8⟩
              case false =>
                cases h2' : (mv == 2)
                case true =>
                  have HF : Hid (sideB L p q j = false) := by
                    show _ = _
                    rw [HSB.out, g1, g2, g3, g4, h3, h2']; rfl
                  go_wp2_with fail
                  go_ret
                  exact ⟨ret_bool (HNO.out _ hlt HF.out).symm, below_on HB2.out b8⟩
                case false =>
                  have HT : Hid (sideB L p q j = true) := by
                    show _ = _
                    rw [HSB.out, g1, g2, g3, g4, h3, h2']; rfl
                  have R := Lib.hid b8
                  clear b8
                  go_wp2_with fail
                  go_roundw
                  case rel => exact ⟨j + 1, by omega, by go_num, HST.out HT.out, R.out⟩
                  case measure => simp [intOf]; omega
            case false =>
              cases h0 : (mv == 0)
              case false =>
                have hne0 : (mv != 0) = true := by simp [bne, h0]
                have HF : Hid (sideB L p q j = false) := by
                  show _ = _
                  rw [HSB.out, g1, g2, g3, g4, h0]; rfl
                go_wp2_with fail
                go_ret
                exact ⟨ret_bool (HNO.out _ hlt HF.out).symm, below_on HB2.out b8⟩
              case true =>
                have hne0 : (mv != 0) = false := by simp [bne, h0]
                have HT : Hid (sideB L p q j = true) := by
                  show _ = _
                  rw [HSB.out, g1, g2, g3, g4, h0]; rfl
                have R := Lib.hid b8
                clear b8
                go_wp2_with fail
                go_roundw
                case rel => exact ⟨j + 1, by omega, by go_num, HST.out HT.out, R.out⟩
                case measure => simp [intOf]; omega
    · obtain rfl : j = L.length := by omega
      have HVV : Hid (diagB L p q = insideB (dblL L) (ax + bx, ay + by')) := by
        show _ = _
        rw [HV.out, List.all_eq_true.2 (fun t ht => HAll.out t (List.mem_range.1 ht)), HAD.out]; rfl
      have n5 := HN4.out.step hb
      have m5 := HM4.out.step hb
      have c1 := n5.c0; have c2 := n5.c1; have c3 := m5.c0; have c4 := m5.c1
      have b5 := below_on HB2.out hb
      have bd : Below w.heap.size w wo.drew := b5.drew
      have HD := Lib.hid (fun W (hb : Below w.heap.size w W) => double_any (some ⟨g, 0, none⟩) c L W (ptsA_on HA0.out hb) (by omega) h2 HAL.out)
      have HI := Lib.hid (fun A c W (hp : PtsA W A (dblL L)) => inside_sm A c (dblL L) (ax + bx) (ay + by') W hp (by rw [dbl_len]; omega) (by rw [dbl_len]; exact h2) (fun i _ => dbl_sm HAL.out i) HSS.out)
      have t1 : IntKind.i64.wrap (ax + bx) = ax + bx := s1.out
      have t2 : IntKind.i64.wrap (ay + by') = ay + by' := s2.out
      have e1 : wo.drew.cell? ⟨w.heap.size, 0, none⟩ = some (.int .i64 ax) := c1
      have e2 : wo.drew.cell? ⟨w.heap.size, 1, none⟩ = some (.int .i64 ay) := c2
      have e3 : wo.drew.cell? ⟨w.heap.size + 1, 0, none⟩ = some (.int .i64 bx) := c3
      have e4 : wo.drew.cell? ⟨w.heap.size + 1, 1, none⟩ = some (.int .i64 by') := c4
      clear n5 m5 hb b5 c1 c2 c3 c4 s1 s2 HNO HSM HM0 HOK HPP HQQ HAD
      go_upto_region 17 with (fail)
      go_region_held3 (fun w' => w'.cell? ⟨w.heap.size, 0, none⟩ = some (.int .i64 ax) ∧ w'.cell? ⟨w.heap.size, 1, none⟩ = some (.int .i64 ay) ∧ w'.cell? ⟨w.heap.size + 1, 0, none⟩ = some (.int .i64 bx) ∧ w'.cell? ⟨w.heap.size + 1, 1, none⟩ = some (.int .i64 by') ∧ Below w.heap.size w w')
        (first
          | go_keep
          | (go_split_ands
             exact ⟨cell_on hq rfl (by assumption), cell_on hq rfl (by assumption), cell_on hq rfl (by assumption), cell_on hq rfl (by assumption), below_on (by assumption) hq⟩))
        (first
          | (go_at_call 190; refine (HD.out _ (by assumption)).mono ?_; rintro e wq ⟨v1, rfl, own1, hq⟩; obtain ⟨_, A1, k1, rfl, p1⟩ := own_pts own1)
          | (go_at_call 189; refine (HI.out A1 k1 _ p1).mono ?_; rintro e wq ⟨rfl, hq⟩))
      rename_i hH
      obtain ⟨-, -, -, -, bz⟩ := hH
      clear hq p1 own1 e1 e2 e3 e4 t1 t2 bd HD HI
      go_wp2_with fail
      go_ret
      exact ⟨ret_bool HVV.out.symm, bz⟩
end Go.Proofs.Ytbmeemmihkedoaa

/-! RowsD -/
namespace Go.Proofs.Ytbmeemmihkedoaa
open Go.RowKit

theorem infoR : (Try.prog.info? 24).map (fun i => (i.zero, i.size, i.bytes)) = some (some (.slice none 0 0), 1, 24) := by kernel_rfl
/-- One row more. -/
theorem RowsR.snoc {w w1 w2 w3 : World} {B : Nat} {v v' : Value} {Rs : List Rw} {r : Rw} (h : RowsR w B v Rs) (h1 : w.grownBy w1 none) (hr : w1.ownsRow B 3 1 (hdr r) r.M.length (ints r.M)) (hlo : w.heap.size ≤ r.g)
    (h2 : w1.grownBy w2 none) (ho : w3.ownsRow B 24 1 v' (Rs.length + 1) (Rs.map hdr ++ [hdr r])) (h3 : w2.grownBy w3 v.ownBlock) (hl : v'.ownBlock = v.ownBlock ∨ v'.ownBlock = some w2.heap.size) : RowsR w3 B v' (Rs ++ [r]) := by
  have hrl := (hr.lt r.g rfl).2
  have hvl : ∀ b, v.ownBlock = some b → b < w.heap.size := fun b hb => (h.out.lt b hb).2
  have hs1 := h1.size; have hs2 := h2.size
  refine ⟨by simpa using ho, ?_, ?_, ?_⟩
  · intro x hx
    rcases List.mem_append.1 hx with hx | hx
    · exact (((h.row x hx).kept h1 (.inr (by simp [hdr_own]))).kept h2 (.inr (by simp [hdr_own]))).kept h3 (.inr (fun e => h.far x hx (by rw [← e, hdr_own])))
    · rw [List.mem_singleton.1 hx]
      refine (hr.kept h2 (.inr (by simp [hdr_own]))).kept h3 (.inr (fun e => ?_))
      have := hvl r.g (by rw [← e, hdr_own])
      omega
  · intro x hx e
    rcases hl with q | q
    · rw [q] at e
      rcases List.mem_append.1 hx with hx | hx
      · exact h.far x hx e
      · rw [List.mem_singleton.1 hx] at e
        have := hvl _ e
        omega
    · rw [q] at e
      have e := Option.some.inj e
      rcases List.mem_append.1 hx with hx | hx
      · have := (h.lt hx).2; omega
      · rw [List.mem_singleton.1 hx] at e; omega
  · rw [List.map_append]
    refine List.nodup_append.2 ⟨h.nodup, by simp, ?_⟩
    intro a ha b hb e
    obtain ⟨x, hx, rfl⟩ := List.mem_map.1 ha
    simp only [List.map_cons, List.map_nil, List.mem_singleton] at hb
    have := (h.lt hx).2
    omega
theorem nx_w {j : Int} (h : 0 ≤ j) (h2 : j ≤ 100) : wrap64 (j + 1) = j + 1 ∧ IntKind.i64.wrap (j + 1) = j + 1 := ⟨IntWalk.wrap64_in _ (by omega), IntWalk.i64_in _ (by omega)⟩
def pairsL (R : List (Int × Int)) : List (List Int) := R.map fun z => [z.1, z.2]
theorem pairs_snoc (R : List (Int × Int)) (z : Int × Int) : pairsL (R ++ [z]) = pairsL R ++ [[z.1, z.2]] := by simp [pairsL]
def diagsV (L : List (Int × Int)) : List (List Int) := bif polyB L then pairsL (allD L L.length) else []
/-- The answer is a list of rows that the call owns. -/
def ListsR (w : World) (M : List (List Int)) (e : Ending) (w' : World) : Prop := ∃ v Rs, e = .returned v ∧ RowsR w' w.heap.size v Rs ∧ Rs.map Rw.M = M ∧ Below w.heap.size w w'
end Go.Proofs.Ytbmeemmihkedoaa

/-! Float -/
namespace Go.Proofs.Ytbmeemmihkedoaa
open Go.Sort Go.RowKit

/-- Nothing that was there has changed. -/
def Now (w w' : World) : Prop := Below w.heap.size w w'
theorem Calls.now {P : Program} {f : FuncId} {args : Array Value} {w : World} {v : Value} (h : Calls P f args w fun e w' => e = .returned v ∧ Below w.heap.size w w') : Calls P f args w fun e w' => e = .returned v ∧ Now w w' := h
def uponB (P : Program) (w : World) (v : Value) : Result Next → Prop
  | .ok (.value u) w' => w' = w ∧ u = v
  | .ok .skip w' => w' = w ∧ v = undef
  | .ok (.enter f args) w' => w' = w ∧ Calls P f args w fun e w'' => e = .returned v ∧ Now w w''
  | _ => False
def quietB (P : Program) (C : World → Prop) (o : Oper) (a : Act) (K : Act → Prop) : Prop := ∃ v, (∀ w, C w → uponB P w v ((execOp a.eval o).run P w)) ∧ K (a.put o.dst v)
def wpQuietB (P : Program) (ops : Array Oper) (C : World → Prop) (Q : Act → Prop) : List Oper → Act → Prop
  | [], a => Q a
  | o :: rest, a => if Region.wanted o (yielded ops a.tmps) = true then quietB P C o a (wpQuietB P ops C Q rest) else wpQuietB P ops C Q rest (a.put o.dst undef)

section
variable {P : Program} {ops : Array Oper} {md : Region.Mode} {C : World → Prop}

theorem quietB_mono {o : Oper} {a : Act} {K K' : Act → Prop} (h : ∀ a, K a → K' a) (hh : quietB P C o a K) : quietB P C o a K' :=
  let ⟨v, h1, h2⟩ := hh
  ⟨v, h1, h _ h2⟩
theorem wpQuietB_step {Q : Act → Prop} {a : Act} {o : Oper} {rest : List Oper}
    (h : ∀ K : Act → Prop, (∀ a, wpQuietB P ops C Q rest a → K a) → if Region.wanted o (yielded ops a.tmps) = true then quietB P C o a K else K (a.put o.dst undef)) : wpQuietB P ops C Q (o :: rest) a := by
  have := h (wpQuietB P ops C Q rest) (fun _ h => h)
  exact this
theorem wpQuietB_nil {Q : Act → Prop} {a : Act} (h : Q a) : wpQuietB P ops C Q [] a := h

/-- What an operation yields, in every world of the class. -/
def YieldsB (P : Program) (ops : Array Oper) (C : World → Prop) (o : Oper) (v : Value) (a : Act) : Prop :=
  (Region.wanted o (yielded ops a.tmps) = true ∧ ∀ w, C w → uponB P w v ((execOp a.eval o).run P w)) ∨ (Region.wanted o (yielded ops a.tmps) = false ∧ v = undef)
theorem YieldsB.of_same {o : Oper} {v : Value} {a a' : Act} (hy : YieldsB P ops C o v a) (he : execOp a'.eval o = execOp a.eval o)
    (hw : Region.wanted o (yielded ops a'.tmps) = Region.wanted o (yielded ops a.tmps)) : YieldsB P ops C o v a' := by
  unfold YieldsB at *
  rw [he, hw]; exact hy
theorem YieldsB.put {o : Oper} {v : Value} {a : Act} (hy : YieldsB P ops C o v a) (hs : ∀ cs b, o.op ≠ .select cs b) {d : Option Tmp} {u : Value} (h : ∀ e, d = some e → e ∉ o.looksAt ops) : YieldsB P ops C o v (a.put d u) :=
  hy.of_same (execOp_put o hs a d u h) (wanted_put o a d u h)
/-- One operation, by what it yields. -/
def opB (P : Program) (ops : Array Oper) (C : World → Prop) (i : Nat) (K : Act → Prop) (a : Act) : Prop := ∃ o v, ops[i]? = some o ∧ YieldsB P ops C o v a ∧ K (a.put o.dst v)

theorem wpOp_of_opB {i : Nat} {a : Act} {K : Act → Prop} {K' : Act → World → Prop} {Q' : Exit → Act → World → Prop} {w : World} (hC : C w)
    (h : ∀ a w', Below w.heap.size w w' → K a → K' a w') (hh : opB P ops C i K a) : wpOp P ops Q' i K' a w := by
  obtain ⟨o, v, ho, hy, hK⟩ := hh
  unfold wpOp
  simp only [ho]
  rcases hy with ⟨hw, h1⟩ | ⟨hw, rfl⟩
  · rw [if_pos hw]
    left
    have h3 := h1 w hC
    unfold Oper.wp
    generalize (execOp a.eval o).run P w = r at *
    cases r with
    | ok nx w' =>
      cases nx <;> simp only [uponB] at h3 <;> simp only [Oper.upon]
      case value u =>
        obtain ⟨e1, e2⟩ := h3
        rw [e1, e2]
        exact h _ _ (Below.refl _ _) hK
      case skip =>
        obtain ⟨e1, e2⟩ := h3
        rw [e1, ← e2]
        exact h _ _ (Below.refl _ _) hK
      case enter f args =>
        obtain ⟨e1, hc⟩ := h3
        rw [e1]
        exact hc.mono fun e w'' ⟨he, hw''⟩ => by subst he; exact h _ _ hw'' hK
    | halt x w' => simp only [uponB] at h3
  · rw [if_neg (by rw [hw]; exact Bool.false_ne_true)]
    exact h _ _ (Below.refl _ _) hK

def upd (G : Nat → Nat) (i g : Nat) : Nat → Nat := fun k => if k = i then g else G k
theorem upd_comm (G : Nat → Nat) {i j : Nat} (g h : Nat) (hne : i ≠ j) : upd (upd G i g) j h = upd (upd G j h) i g := by
  funext k
  unfold upd
  by_cases h1 : k = i
  · subst h1
    rw [if_neg hne, if_pos rfl, if_pos rfl]
  · by_cases h2 : k = j
    · subst h2
      rw [if_pos rfl, if_neg h1, if_pos rfl]
    · rw [if_neg h2, if_neg h1, if_neg h1, if_neg h2]
abbrev ptrV (g : Nat) : Value := .pointer (some ⟨g, 0, none⟩)
def dstOf (ops : Array Oper) (i : Nat) : Option Tmp := (ops[i]?).bind (·.dst)

/-- Every order of the head and of the floats; L behind them. -/
def wpX (P : Program) (md : Region.Mode) (ops : Array Oper) (C : World → Prop) (m q : Nat) (L : Array Bool → Act → (Nat → Nat) → Prop) : Nat → Array Bool → Act → (Nat → Nat) → Prop
  | 0, listed, a, G => L listed a G
  | f + 1, listed, a, G => Region.ready md ops listed ≠ [] ∧ ∀ i ∈ Region.ready md ops listed, i < q ∧
      (i < m → opB P ops C i (fun a' => wpX P md ops C m q L f (listed.setIfInBounds i true) a' G) a) ∧
      (m ≤ i → ∀ g, wpX P md ops C m q L f (listed.setIfInBounds i true) (a.put (dstOf ops i) (ptrV g)) (upd G i g))

structure Floats (P : Program) (md : Region.Mode) (ops : Array Oper) (m q : Nat) (obj : Nat → Obj) : Prop where
  op : ∀ i, m ≤ i → i < q → ∃ o, ops[i]? = some o ∧ o.guard = none ∧ (∀ e ∈ o.after, Region.binds md e = false) ∧ (∀ a w, (execOp (Act.eval a) o).run P w = .ok (.value (ptrV w.heap.size)) (w.alloc (obj i)))
  ne : ∀ i j, m ≤ i → i < q → m ≤ j → j < q → i ≠ j → ∀ d, dstOf ops i = some d → dstOf ops j ≠ some d

def Fresh (base m q : Nat) (obj : Nat → Obj) (listed : Array Bool) (G : Nat → Nat) (w : World) : Prop :=
  ∀ i, m ≤ i → i < q → listed.getD i false = true → base ≤ G i ∧ w.heap[G i]? = some (obj i) ∧ ∀ j, m ≤ j → j < q → listed.getD j false = true → j ≠ i → G j ≠ G i
theorem Fresh.lt {base m q : Nat} {obj : Nat → Obj} {listed : Array Bool} {G : Nat → Nat} {w : World} (h : Fresh base m q obj listed G w) {i : Nat} (h1 : m ≤ i) (h2 : i < q) (h3 : listed.getD i false = true) : G i < w.heap.size :=
  (Array.getElem?_eq_some_iff.1 (h i h1 h2 h3).2.1).1
theorem Fresh.step {base m q : Nat} {obj : Nat → Obj} {listed : Array Bool} {G : Nat → Nat} {w w' : World} (h : Fresh base m q obj listed G w) (hb : Below w.heap.size w w') : Fresh base m q obj listed G w' :=
  fun i h1 h2 h3 => ⟨(h i h1 h2 h3).1, (hb.block _ (h.lt h1 h2 h3)).trans (h i h1 h2 h3).2.1, (h i h1 h2 h3).2.2⟩
theorem Fresh.head {base m q : Nat} {obj : Nat → Obj} {listed : Array Bool} {G : Nat → Nat} {w : World} (h : Fresh base m q obj listed G w) {k : Nat} (hk : k < m) : Fresh base m q obj (listed.setIfInBounds k true) G w :=
  fun i h1 h2 h3 => by
    rw [getD_set_ne false (by omega)] at h3
    refine ⟨(h i h1 h2 h3).1, (h i h1 h2 h3).2.1, fun j h4 h5 h6 => ?_⟩
    rw [getD_set_ne false (by omega)] at h6
    exact (h i h1 h2 h3).2.2 j h4 h5 h6
theorem Fresh.float {base m q : Nat} {obj : Nat → Obj} {listed : Array Bool} {G : Nat → Nat} {w : World} (h : Fresh base m q obj listed G w) (hb : base ≤ w.heap.size) (k : Nat) : Fresh base m q obj (listed.setIfInBounds k true) (upd G k w.heap.size) (w.alloc (obj k)) := by
  intro i h1 h2 h3
  by_cases hik : i = k
  · subst hik
    have e : upd G i w.heap.size i = w.heap.size := by simp [upd]
    refine ⟨by rw [e]; exact hb, by rw [e]; exact heap_alloc_new w _, fun j h4 h5 h6 h7 => ?_⟩
    rw [getD_set_ne false (Ne.symm h7)] at h6
    have := h.lt h4 h5 h6
    rw [e]
    simp only [upd, if_neg h7]
    omega
  · rw [getD_set_ne false (Ne.symm hik)] at h3
    have e : upd G k w.heap.size i = G i := by simp [upd, hik]
    have hl := h.lt h1 h2 h3
    refine ⟨by rw [e]; exact (h i h1 h2 h3).1, by rw [e]; exact (Below.heap_alloc w _ _ hl).trans (h i h1 h2 h3).2.1, fun j h4 h5 h6 h7 => ?_⟩
    rw [e]
    by_cases hjk : j = k
    · subst hjk
      simp only [upd, if_true]; omega
    · rw [getD_set_ne false (Ne.symm hjk)] at h6
      simp only [upd, if_neg hjk]
      exact (h i h1 h2 h3).2.2 j h4 h5 h6 h7

theorem wpAny_of_X {m q g base : Nat} {obj : Nat → Obj} {L : Array Bool → Act → (Nat → Nat) → Prop} {Q' : Exit → Act → World → Prop} (hF : Floats P md ops m q obj) (hCB : ∀ w w', C w → Below w.heap.size w w' → C w') (hbase : ∀ w, C w → base ≤ w.heap.size)
    (hL : ∀ listed a G w, C w → Fresh base m q obj listed G w → L listed a G → wpAny P md ops Q' g listed a w) :
    ∀ (f : Nat) (listed : Array Bool) (a : Act) (G : Nat → Nat) (w : World), C w → Fresh base m q obj listed G w → wpX P md ops C m q L f listed a G → wpAny P md ops Q' (f + g) listed a w
  | 0, listed, a, G, w, hw, hf, h => by rw [Nat.zero_add]; exact hL _ _ _ _ hw hf h
  | f + 1, listed, a, G, w, hw, hf, h => by
    rw [show f + 1 + g = (f + g) + 1 by omega]
    refine ⟨fun h0 => absurd h0 h.1, fun i hi => ?_⟩
    obtain ⟨hq, h1, h2⟩ := h.2 i hi
    rcases Nat.lt_or_ge i m with him | him
    · exact wpOp_of_opB hw (fun a' w' hb h' => wpAny_of_X hF hCB hbase hL f _ a' G w' (hCB _ _ hw hb) ((hf.head him).step hb) h') (h1 him)
    · obtain ⟨o, ho, hg, _, hr⟩ := hF.op i him hq
      unfold wpOp
      simp only [ho]
      have hwant : Region.wanted o (yielded ops a.tmps) = true := by simp [Region.wanted, hg]
      rw [if_pos hwant]
      left
      unfold Oper.wp
      rw [hr]
      simp only [Oper.upon]
      have hd : dstOf ops i = o.dst := by simp [dstOf, ho]
      have := h2 him w.heap.size
      rw [hd] at this
      exact wpAny_of_X hF hCB hbase hL f _ _ _ _ (hCB _ _ hw (Below.alloc (Below.refl _ _) (Nat.le_refl _) _)) (hf.float (hbase w hw) i) this

/-- While an operation ahead of q is not yet carried out, none behind it is ready ('pre': carried out from the start). -/
def TW (md : Region.Mode) (ops : Array Oper) (q : Nat) (pre : Nat → Bool) : Prop :=
  ∀ listed, HeadInv md ops q listed → (∀ i, pre i = true → listed.getD i false = true) → ∀ i, i < q → listed.getD i true = false → ∀ t, q ≤ t → t ∉ Region.ready md ops listed
theorem tw_none {q : Nat} (hs : Region.sinkB md ops q = true) (hc : Region.chainB md ops q = true) (hn : q < ops.size) : TW md ops q (fun _ => false) :=
  fun _ inv _ i hi hun t ht => tail_waits hs hc hn inv _ i rfl hi hun t ht
theorem wpX_first {m q i : Nat} {oi : Oper} {v : Value} {L : Array Bool → Act → (Nat → Nat) → Prop} (hi : ops[i]? = some oi) (hsel : ∀ (j : Nat) (o : Oper) cs b, ops[j]? = some o → o.op ≠ .select cs b)
    {pre : Nat → Bool} (htw : TW md ops q pre) (hmq : m ≤ q) (hin : i < m)
    (hdone : ∀ listed a G, L listed a G → ∀ j ∈ Region.ready md ops listed, q ≤ j) :
    ∀ (f : Nat) (listed : Array Bool) (a : Act) (G : Nat → Nat), HeadInv md ops q listed → (∀ k, pre k = true → listed.getD k false = true) →
      (∀ j oj, ops[j]? = some oj → j ≠ i → listed.getD j true = false → (∀ e ∈ oj.after, Region.binds md e = true → e.on ≠ i) → oi.apart ops oj = true) →
      i ∈ Region.ready md ops listed → YieldsB P ops C oi v a →
      wpX P md ops C m q L f (listed.setIfInBounds i true) (a.put oi.dst v) G → wpX P md ops C m q L (f + 1) listed a G := by
  intro f
  induction f with
  | zero =>
    intro listed a G inv hpre _ hr hy H
    have hun := (mem_ready.1 hr).1
    refine ⟨fun h => (by rw [h] at hr; cases hr), fun j hj => ?_⟩
    have hjn : j < q := by
      rcases Nat.lt_or_ge j q with h | h
      · exact h
      · exact absurd hj (htw listed inv hpre i (by omega) hun j h)
    by_cases hji : j = i
    · subst hji
      exact ⟨hjn, fun _ => ⟨oi, v, hi, hy, H⟩, fun h => by omega⟩
    · have := hdone _ _ _ H j (ready_mono hj hji)
      omega
  | succ f ih =>
    intro listed a G inv hpre hfree hr hy H
    have hun := (mem_ready.1 hr).1
    refine ⟨fun h => (by rw [h] at hr; cases hr), fun j hj => ?_⟩
    have hjn : j < q := by
      rcases Nat.lt_or_ge j q with h | h
      · exact h
      · exact absurd hj (htw listed inv hpre i (by omega) hun j h)
    refine ⟨hjn, ?_⟩
    by_cases hji : j = i
    · subst hji
      exact ⟨fun _ => ⟨oi, v, hi, hy, H⟩, fun h => by omega⟩
    · obtain ⟨_, h1, h2⟩ := H.2 j (ready_mono hj hji)
      obtain ⟨hjun, oj, hoj, hall⟩ := mem_ready.1 hj
      have hnot : ∀ e ∈ oj.after, Region.binds md e = true → e.on ≠ i := fun e he hb heq => by
        have h1 := hall e he hb
        rw [heq, getD_both hun] at h1
        cases h1
      obtain ⟨p1, p2, p3⟩ := Oper.apart_spec (hfree j oj hoj hji hjun hnot)
      have hfree' : ∀ k ok, ops[k]? = some ok → k ≠ i → (listed.setIfInBounds j true).getD k true = false →
          (∀ e ∈ ok.after, Region.binds md e = true → e.on ≠ i) → oi.apart ops ok = true := fun k ok hk hki hun hno => by
        refine hfree k ok hk hki ?_ hno
        by_cases hjk : j = k
        · subst hjk; exact hjun
        · rw [getD_set_ne true hjk] at hun; exact hun
      have hsi := fun cs b => hsel i oi cs b hi
      have hsj := fun cs b => hsel j oj cs b hoj
      refine ⟨fun hjm => ?_, fun hjm g => ?_⟩
      · obtain ⟨o', u, ho', hy', hK⟩ := h1 hjm
        obtain rfl : o' = oj := Option.some.inj (ho'.symm.trans hoj)
        refine ⟨o', u, hoj, ?_, ?_⟩
        · exact hy'.of_same (execOp_put o' hsj a oi.dst v p1).symm (wanted_put o' a oi.dst v p1).symm
        · refine ih (listed.setIfInBounds j true) _ G (inv.set hj hjn) (fun k hk => getD_set_true (hpre k hk)) hfree' (ready_mono hr (Ne.symm hji)) (hy.put hsi p3) ?_
          rw [Array.setIfInBounds_comm _ _ hji, ← Act.put_comm a v u p2]
          exact hK
      · have hd : dstOf ops j = oj.dst := by simp [dstOf, hoj]
        have h3 := h2 hjm g
        rw [hd] at h3 ⊢
        refine ih (listed.setIfInBounds j true) _ _ (inv.set hj hjn) (fun k hk => getD_set_true (hpre k hk)) hfree' (ready_mono hr (Ne.symm hji)) (hy.put hsi p3) ?_
        rw [Array.setIfInBounds_comm _ _ hji, ← Act.put_comm a v (ptrV g) p2]
        exact h3

theorem wpX_float {m q i : Nat} {obj : Nat → Obj} {L : Array Bool → Act → (Nat → Nat) → Prop} (hF : Floats P md ops m q obj)
    {pre : Nat → Bool} (htw : TW md ops q pre) (him : m ≤ i) (hin : i < q)
    (hdone : ∀ listed a G, L listed a G → ∀ j ∈ Region.ready md ops listed, q ≤ j) :
    ∀ (f : Nat) (listed : Array Bool) (a : Act) (G : Nat → Nat), HeadInv md ops q listed → (∀ k, pre k = true → listed.getD k false = true) → (∀ j, j < m → listed.getD j false = true) → listed.getD i true = false →
      (∀ g, wpX P md ops C m q L f (listed.setIfInBounds i true) (a.put (dstOf ops i) (ptrV g)) (upd G i g)) → wpX P md ops C m q L (f + 1) listed a G := by
  obtain ⟨oi, hoi, _, hdep, _⟩ := hF.op i him hin
  have rdy : ∀ listed : Array Bool, listed.getD i true = false → i ∈ Region.ready md ops listed := fun listed h => mem_ready.2 ⟨h, oi, hoi, fun e he hb => by rw [hdep e he] at hb; cases hb⟩
  intro f
  induction f with
  | zero =>
    intro listed a G inv hpre hh hun H
    have hr := rdy listed hun
    refine ⟨fun h => (by rw [h] at hr; cases hr), fun j hj => ?_⟩
    have hjn : j < q := by
      rcases Nat.lt_or_ge j q with h | h
      · exact h
      · exact absurd hj (htw listed inv hpre i hin hun j h)
    by_cases hji : j = i
    · subst hji
      exact ⟨hjn, fun h => by omega, fun _ g => H g⟩
    · have := hdone _ _ _ (H 0) j (ready_mono hj hji)
      omega
  | succ f ih =>
    intro listed a G inv hpre hh hun H
    have hr := rdy listed hun
    refine ⟨fun h => (by rw [h] at hr; cases hr), fun j hj => ?_⟩
    have hjn : j < q := by
      rcases Nat.lt_or_ge j q with h | h
      · exact h
      · exact absurd hj (htw listed inv hpre i hin hun j h)
    refine ⟨hjn, ?_⟩
    by_cases hji : j = i
    · subst hji
      exact ⟨fun h => by omega, fun _ g => H g⟩
    · have hjm : m ≤ j := by
        rcases Nat.lt_or_ge j m with h | h
        · have h1 := (mem_ready.1 hj).1
          have := hh j h
          rw [getD_both h1] at this
          cases this
        · exact h
      refine ⟨fun h => by omega, fun _ gj => ?_⟩
      refine ih _ _ _ (inv.set hj hjn) (fun k hk => getD_set_true (hpre k hk)) (fun k hk => getD_set_true (hh k hk)) (by rw [getD_set_ne true hji]; exact hun) fun gi => ?_
      have h2 := ((H gi).2 j (ready_mono hj hji)).2.2 hjm gj
      rw [Array.setIfInBounds_comm _ _ hji, upd_comm G gj gi hji, Act.put_comm a (ptrV gj) (ptrV gi) (hF.ne j i hjm hjn him hin hji)]
      exact h2

def lexHeadX (md : Region.Mode) (ops : Array Oper) (fin : Array Bool → Bool) : Nat → Nat → Array Bool → Bool
  | 0, _, listed => fin listed
  | f + 1, k, listed => (Region.ready md ops listed).contains k && Region.free md ops listed k && lexHeadX md ops fin f (k + 1) (listed.setIfInBounds k true)

theorem opB_of_quietB {Q : Act → Prop} {i : Nat} {a : Act} {o : Oper} {rest : List Oper} (hi : ops[i]? = some o) (h : wpQuietB P ops C Q (o :: rest) a) : opB P ops C i (wpQuietB P ops C Q rest) a := by
  unfold wpQuietB at h
  cases hw : Region.wanted o (yielded ops a.tmps)
  · rw [hw] at h
    exact ⟨o, undef, hi, .inr ⟨hw, rfl⟩, by simpa using h⟩
  · rw [hw] at h
    simp only [if_true] at h
    obtain ⟨v, hv, hK⟩ := h
    exact ⟨o, v, hi, .inl ⟨hw, hv⟩, hK⟩
theorem wpX_lex {m q r : Nat} {fin : Array Bool → Bool} {L : Array Bool → Act → (Nat → Nat) → Prop} {Lq : Act → Prop} (hsel : Region.noSelect ops = true) {pre : Nat → Bool} (htw : TW md ops q pre) (hn : q < ops.size) (hmq : m ≤ q)
    (hdone : ∀ listed a G, L listed a G → ∀ j ∈ Region.ready md ops listed, q ≤ j)
    (hfin : ∀ listed a G, HeadInv md ops q listed → (∀ k, pre k = true → listed.getD k false = true) → (∀ j, j < m → listed.getD j false = true) → (∀ j, m ≤ j → j < q → listed.getD j true = false) → fin listed = true → Lq a → wpX P md ops C m q L r listed a G) :
    ∀ (l : List Oper) (k : Nat) (listed : Array Bool) (a : Act) (G : Nat → Nat), (∀ j, j < l.length → l[j]? = ops[k + j]?) → k + l.length = m → HeadInv md ops q listed → (∀ k, pre k = true → listed.getD k false = true) →
    (∀ j, j < k → listed.getD j false = true) → (∀ j, m ≤ j → j < q → listed.getD j true = false) →
    lexHeadX md ops fin l.length k listed = true → wpQuietB P ops C Lq l a → wpX P md ops C m q L (l.length + r) listed a G
  | [], k, listed, a, G, _, hk, inv, hpre, hh, hf, hB, h => by
    have : k = m := by simpa using hk
    subst this
    rw [List.length_nil, Nat.zero_add]
    exact hfin _ _ _ inv hpre hh hf (by simpa [lexHeadX] using hB) h
  | o :: l, k, listed, a, G, hl, hk, inv, hpre, hh, hf, hB, h => by
    have h0 : ops[k]? = some o := by simpa using (hl 0 (by simp)).symm
    simp only [List.length_cons, lexHeadX, Bool.and_eq_true] at hB
    obtain ⟨⟨hr, hfr⟩, hB'⟩ := hB
    have hkn : k < m := by simp only [List.length_cons] at hk; omega
    have hr' : k ∈ Region.ready md ops listed := by simpa using hr
    obtain ⟨o', v, ho', hy, hK⟩ := opB_of_quietB h0 h
    obtain rfl : o' = o := Option.some.inj (ho'.symm.trans h0)
    rw [List.length_cons, show l.length + 1 + r = (l.length + r) + 1 by omega]
    refine wpX_first h0 (Region.noSelect_spec hsel) htw hmq hkn hdone _ listed a G inv hpre (Region.free_spec h0 hfr) hr' hy ?_
    refine wpX_lex hsel htw hn hmq hdone hfin l (k + 1) _ _ _ (fun j hj => by have := hl (j + 1) (by simp; omega); simpa [Nat.add_assoc, Nat.add_comm 1 j] using this) (by simp only [List.length_cons] at hk; omega) (inv.set hr' (by omega)) (fun k hk => getD_set_true (hpre k hk)) ?_ ?_ hB' hK
    · intro j hj
      by_cases hjk : j = k
      · subst hjk
        have hlt : j < listed.size := by rw [inv.size]; exact (Array.getElem?_eq_some_iff.1 h0).1
        simp [hlt]
      · exact getD_set_true (hh j (by omega))
    · intro j h1 h2
      rw [getD_set_ne true (by omega)]; exact hf j h1 h2

/-- No operation waits for a float but behind q, and floats wait for nothing. -/
def floatOp (md : Region.Mode) (o : Oper) : Bool := o.guard.isNone && o.after.all (fun e => !Region.binds md e) && o.dst.isSome
def float1B (md : Region.Mode) (ops : Array Oper) (m : Nat) : Bool :=
  Region.noSelect ops && decide (m + 1 < ops.size) && Region.sinkB md ops (m + 1) && Region.chainB md ops (m + 1) && (ops[m]?).any (floatOp md)
    && lexHeadX md ops (fun listed => Region.seqB md ops (ops.size - (m + 1)) (m + 1) (listed.setIfInBounds m true)) m 0 (Array.replicate ops.size false)
def float2B (md : Region.Mode) (ops : Array Oper) (m : Nat) : Bool :=
  Region.noSelect ops && decide (m + 2 < ops.size) && Region.sinkB md ops (m + 2) && Region.chainB md ops (m + 2) && (ops[m]?).any (floatOp md) && (ops[m + 1]?).any (floatOp md) && dstOf ops m != dstOf ops (m + 1)
    && lexHeadX md ops (fun listed => Region.seqB md ops (ops.size - (m + 2)) (m + 2) ((listed.setIfInBounds m true).setIfInBounds (m + 1) true)) m 0 (Array.replicate ops.size false)
theorem floatOp_spec {o : Oper} (h : floatOp md o = true) : o.guard = none ∧ (∀ e ∈ o.after, Region.binds md e = false) ∧ o.dst.isSome = true := by
  simp only [floatOp, Bool.and_eq_true, Option.isNone_iff_eq_none] at h
  refine ⟨h.1.1, fun e he => ?_, h.2⟩
  have := Array.all_eq_true'.1 h.1.2 e he
  simpa using this
theorem below_class {w w1 w2 : World} (h : ∃ p : Regrown, w1 = grow (redrawn w p.d) p.os) (hb : Below w1.heap.size w1 w2) : ∃ p : Regrown, w2 = grow (redrawn w p.d) p.os := by
  obtain ⟨p, rfl⟩ := h
  exact regrown_of_below ((below_regrown w p.d p.os).trans (hb.mono (below_regrown w p.d p.os).size))
theorem any_some {o : Option Oper} {p : Oper → Bool} (h : o.any p = true) : ∃ x, o = some x ∧ p x = true := by
  cases o with
  | none => cases h
  | some x => exact ⟨x, rfl, h⟩

def allocAtB (ops : Array Oper) (i : Nat) (T : TypeId) : Bool := (ops[i]?).any fun o => match o.op with
  | .alloc t => t == T
  | _ => false
theorem alloc_run {i : Nat} {T : TypeId} {ob : Obj} (h : allocAtB ops i T = true) (hz : ∀ w, (Instr.alloc T true (.tuple #[])).run P w = .ok (ptrV w.heap.size) (w.alloc ob)) :
    ∀ o, ops[i]? = some o → ∀ a w, (execOp (Act.eval a) o).run P w = .ok (.value (ptrV w.heap.size)) (w.alloc ob) := by
  intro o ho a w
  obtain ⟨o', ho', hb⟩ := any_some h
  obtain rfl : o' = o := Option.some.inj (ho'.symm.trans ho)
  have hop : o'.op = .alloc T := by
    revert hb
    cases o'.op <;> simp
  unfold execOp
  simp only [hop, Sem.run_bind, hz, Result.andThen, Sem.run_pure]
/-- **A head of m operations, an alloc at any time, a tail.** -/
theorem region_float1 {id : Nat} {Q : Exit → Act → World → Prop} {a : Act} {w : World} {l : List Oper} (m : Nat) (ob : Obj) (s : Tmp) (hsl : dstOf l.toArray m = some s) (hm : P.follows .mixedOrders = true) (hB : float1B .any l.toArray m = true)
    (hal : ∀ o, l.toArray[m]? = some o → ∀ a w, (execOp (Act.eval a) o).run P w = .ok (.value (ptrV w.heap.size)) (w.alloc ob))
    (h : wpQuietB P l.toArray (fun w' => ∃ p : Regrown, w' = grow (redrawn w p.d) p.os) (fun a' => ∀ g w', Below w.heap.size w w' → w.heap.size ≤ g → w'.heap[g]? = some ob → wpList P l.toArray Q (l.drop (m + 1)) (a'.put (some s) (ptrV g)) w') (l.take m) a) :
    (Code.region id l.toArray true).wp P Q a w := by
  simp only [float1B, Bool.and_eq_true, decide_eq_true_eq] at hB
  obtain ⟨⟨⟨⟨⟨hsel, hn⟩, hs⟩, hc⟩, hfl⟩, hlex⟩ := hB
  obtain ⟨o1, ho1, hf1⟩ := any_some hfl
  obtain ⟨g1, g2, g3⟩ := floatOp_spec hf1
  have hF : Floats P .any l.toArray m (m + 1) (fun _ => ob) := ⟨fun i h1 h2 => by
      obtain rfl : i = m := by omega
      exact ⟨o1, ho1, g1, g2, fun a w => hal o1 ho1 a w⟩, fun i j h1 h2 h3 h4 h5 => by omega⟩
  have hn' : m + 1 < l.length := by simpa using hn
  have htl : (l.take m).length = m := by simp; omega
  have hdl : (l.drop (m + 1)).length = l.toArray.size - (m + 1) := by simp
  have inv0 : HeadInv .any l.toArray (m + 1) (Array.replicate l.toArray.size false) :=
    ⟨by simp, fun j oj _ hl => (by rw [getD_replicate_false] at hl; cases hl), fun t _ ht => getD_in (by simpa using ht) (getD_replicate_false _ _)⟩
  have hdone : ∀ (listed : Array Bool) (a : Act) (G : Nat → Nat), (Region.seqB .any l.toArray (l.toArray.size - (m + 1)) (m + 1) listed = true ∧ listed.getD m false = true ∧ ∀ w', Below w.heap.size w w' → w.heap.size ≤ G m → w'.heap[G m]? = some ob → wpList P l.toArray Q (l.drop (m + 1)) a w') → ∀ j ∈ Region.ready .any l.toArray listed, m + 1 ≤ j := fun listed a G h => seqB_ready h.1
  have H := wpX_lex (P := P) (C := fun w' => ∃ p : Regrown, w' = grow (redrawn w p.d) p.os) (md := .any) (m := m) (q := m + 1) (r := 1)
    (fin := fun listed => Region.seqB .any l.toArray (l.toArray.size - (m + 1)) (m + 1) (listed.setIfInBounds m true)) hsel (tw_none hs hc hn) hn (by omega) hdone
    (fun listed a G inv hpre hh hf hfin hLq => wpX_float hF (tw_none hs hc hn) (Nat.le_refl m) (by omega) hdone 0 listed a G inv hpre hh (hf m (Nat.le_refl _) (by omega)) fun g =>
      ⟨hfin, (by have hlt : m < listed.size := by rw [inv.size]; omega
                 simp [hlt]), fun w' hb h1 h2 => by
        have e : upd G m g m = g := by simp [upd]
        rw [e] at h1 h2
        rw [hsl]
        exact hLq g w' hb h1 h2⟩)
    (l.take m) 0 _ a (fun _ => 0) (fun j hj => by
      have hj' : j < m := by rw [htl] at hj; exact hj
      simp [hj']) (by simpa using htl) inv0 (fun _ h => by cases h) (fun j hj => by omega) (fun j h1 h2 => getD_in (by simp; omega) (getD_replicate_false _ _)) (by rw [htl]; exact hlex) h
  have hC : ∃ p : Regrown, ({ w with drawn := w.drawn + 1 } : World) = grow (redrawn w p.d) p.os := ⟨⟨w.drawn + 1, #[]⟩, by rw [grow_empty]; rfl⟩
  refine wp_region_any hm ?_
  have := wpAny_of_X (Q' := Q) (g := l.toArray.size - (m + 1)) (base := w.heap.size) hF (fun _ _ => below_class) (fun w' ⟨p, hp⟩ => by rw [hp]; exact (below_regrown w p.d p.os).size)
    (fun listed a' G w' hw' hfr hL => by
      have hb : Below w.heap.size w w' := by obtain ⟨p, hp⟩ := hw'; rw [hp]; exact below_regrown w p.d p.os
      have hf := hfr m (Nat.le_refl _) (by omega) hL.2.1
      have := wpAny_of_seq (md := .any) (Q' := Q) (l.drop (m + 1)) (m + 1) listed a' w' (fun j => by simp [List.getElem?_drop]) (by rw [hdl]; exact hL.1) (hL.2.2 w' hb hf.1 hf.2.1)
      rwa [hdl] at this) _ _ _ _ _ hC (fun i h1 h2 h3 => by rw [getD_replicate_false] at h3; cases h3) H
  rw [htl, show m + 1 + (l.toArray.size - (m + 1)) = l.toArray.size by omega] at this
  exact this

/-- **A head of m operations, two allocs at any time, a tail.** -/
theorem region_float2 {id : Nat} {Q : Exit → Act → World → Prop} {a : Act} {w : World} {l : List Oper} (m : Nat) (ob : Obj) (s1 s2 : Tmp) (hs1 : dstOf l.toArray m = some s1) (hs2 : dstOf l.toArray (m + 1) = some s2) (hm : P.follows .mixedOrders = true) (hB : float2B .any l.toArray m = true)
    (hal : ∀ i o, m ≤ i → i < m + 2 → l.toArray[i]? = some o → ∀ a w, (execOp (Act.eval a) o).run P w = .ok (.value (ptrV w.heap.size)) (w.alloc ob))
    (h : wpQuietB P l.toArray (fun w' => ∃ p : Regrown, w' = grow (redrawn w p.d) p.os) (fun a' => ∀ g1 g2 w', Below w.heap.size w w' → w.heap.size ≤ g1 → w.heap.size ≤ g2 → g1 ≠ g2 → w'.heap[g1]? = some ob → w'.heap[g2]? = some ob →
      wpList P l.toArray Q (l.drop (m + 2)) ((a'.put (some s1) (ptrV g1)).put (some s2) (ptrV g2)) w') (l.take m) a) :
    (Code.region id l.toArray true).wp P Q a w := by
  simp only [float2B, Bool.and_eq_true, decide_eq_true_eq] at hB
  obtain ⟨⟨⟨⟨⟨⟨⟨hsel, hn⟩, hs⟩, hc⟩, hfl1⟩, hfl2⟩, hne⟩, hlex⟩ := hB
  obtain ⟨o1, ho1, hf1⟩ := any_some hfl1
  obtain ⟨g1, g2, g3⟩ := floatOp_spec hf1
  obtain ⟨o2, ho2, hf2⟩ := any_some hfl2
  obtain ⟨k1, k2, k3⟩ := floatOp_spec hf2
  have hne' : dstOf l.toArray m ≠ dstOf l.toArray (m + 1) := by simpa using hne
  have hF : Floats P .any l.toArray m (m + 2) (fun _ => ob) := ⟨fun i h1 h2 => by
      by_cases him : i = m
      · subst him; exact ⟨o1, ho1, g1, g2, fun a w => hal i o1 h1 h2 ho1 a w⟩
      · obtain rfl : i = m + 1 := by omega
        exact ⟨o2, ho2, k1, k2, fun a w => hal (m + 1) o2 h1 h2 ho2 a w⟩, fun i j h1 h2 h3 h4 h5 d hd hd' => by
      by_cases him : i = m
      · subst him
        obtain rfl : j = i + 1 := by omega
        exact hne' (hd.trans hd'.symm)
      · obtain rfl : i = m + 1 := by omega
        obtain rfl : j = m := by omega
        exact hne' (hd'.trans hd.symm)⟩
  have hn' : m + 2 < l.length := by simpa using hn
  have htl : (l.take m).length = m := by simp; omega
  have hdl : (l.drop (m + 2)).length = l.toArray.size - (m + 2) := by simp
  have inv0 : HeadInv .any l.toArray (m + 2) (Array.replicate l.toArray.size false) :=
    ⟨by simp, fun j oj _ hl => (by rw [getD_replicate_false] at hl; cases hl), fun t _ ht => getD_in (by simpa using ht) (getD_replicate_false _ _)⟩
  have hdone : ∀ (listed : Array Bool) (a : Act) (G : Nat → Nat), (Region.seqB .any l.toArray (l.toArray.size - (m + 2)) (m + 2) listed = true ∧ listed.getD m false = true ∧ listed.getD (m + 1) false = true ∧ ∀ w', Below w.heap.size w w' → w.heap.size ≤ G m → w.heap.size ≤ G (m + 1) → G m ≠ G (m + 1) → w'.heap[G m]? = some ob → w'.heap[G (m + 1)]? = some ob → wpList P l.toArray Q (l.drop (m + 2)) a w') → ∀ j ∈ Region.ready .any l.toArray listed, m + 2 ≤ j := fun listed a G h => seqB_ready h.1
  have H := wpX_lex (P := P) (C := fun w' => ∃ p : Regrown, w' = grow (redrawn w p.d) p.os) (md := .any) (m := m) (q := m + 2) (r := 2)
    (fin := fun listed => Region.seqB .any l.toArray (l.toArray.size - (m + 2)) (m + 2) ((listed.setIfInBounds m true).setIfInBounds (m + 1) true)) hsel (tw_none hs hc hn) hn (by omega) hdone
    (fun listed a G inv hpre hh hf hfin hLq => by
      have hlt1 : m < listed.size := by rw [inv.size]; omega
      have hlt2 : m + 1 < listed.size := by rw [inv.size]; omega
      have hr : m ∈ Region.ready .any l.toArray listed := mem_ready.2 ⟨hf m (Nat.le_refl _) (by omega), o1, ho1, fun e he hb => by rw [g2 e he] at hb; cases hb⟩
      refine wpX_float hF (tw_none hs hc hn) (Nat.le_refl m) (by omega) hdone 1 listed a G inv hpre hh (hf m (Nat.le_refl _) (by omega)) fun ga => ?_
      refine wpX_float hF (tw_none hs hc hn) (i := m + 1) (by omega) (by omega) hdone 0 _ _ _ (inv.set hr (by omega)) (fun k hk => getD_set_true (hpre k hk)) (fun j hj => getD_set_true (hh j hj)) (by rw [getD_set_ne true (by omega)]; exact hf (m + 1) (by omega) (by omega)) fun gb => ?_
      refine ⟨hfin, getD_set_true (by simp [hlt1]), by simp [hlt2], fun w' hb h1 h2 h3 h4 h5 => ?_⟩
      have e1 : upd (upd G m ga) (m + 1) gb m = ga := by simp [upd]
      have e2 : upd (upd G m ga) (m + 1) gb (m + 1) = gb := by simp [upd]
      rw [e1] at h1 h3 h4
      rw [e2] at h2 h3 h5
      rw [hs1, hs2]
      exact hLq ga gb w' hb h1 h2 h3 h4 h5)
    (l.take m) 0 _ a (fun _ => 0) (fun j hj => by
      have hj' : j < m := by rw [htl] at hj; exact hj
      simp [hj']) (by simpa using htl) inv0 (fun _ h => by cases h) (fun j hj => by omega) (fun j h1 h2 => getD_in (by simp; omega) (getD_replicate_false _ _)) (by rw [htl]; exact hlex) h
  have hC : ∃ p : Regrown, ({ w with drawn := w.drawn + 1 } : World) = grow (redrawn w p.d) p.os := ⟨⟨w.drawn + 1, #[]⟩, by rw [grow_empty]; rfl⟩
  refine wp_region_any hm ?_
  have := wpAny_of_X (Q' := Q) (g := l.toArray.size - (m + 2)) (base := w.heap.size) hF (fun _ _ => below_class) (fun w' ⟨p, hp⟩ => by rw [hp]; exact (below_regrown w p.d p.os).size)
    (fun listed a' G w' hw' hfr hL => by
      have hb : Below w.heap.size w w' := by obtain ⟨p, hp⟩ := hw'; rw [hp]; exact below_regrown w p.d p.os
      have hf := hfr m (Nat.le_refl _) (by omega) hL.2.1
      have hf2 := hfr (m + 1) (by omega) (by omega) hL.2.2.1
      have := wpAny_of_seq (md := .any) (Q' := Q) (l.drop (m + 2)) (m + 2) listed a' w' (fun j => by simp [List.getElem?_drop]) (by rw [hdl]; exact hL.1) (hL.2.2.2 w' hb hf.1 hf2.1 (hf2.2.2 m (Nat.le_refl _) (by omega) hL.2.1 (by omega)) hf.2.1 hf2.2.1)
      rwa [hdl] at this) _ _ _ _ _ hC (fun i h1 h2 h3 => by rw [getD_replicate_false] at h3; cases h3) H
  rw [htl, show m + 2 + (l.toArray.size - (m + 2)) = l.toArray.size by omega] at this
  exact this

/-! ### A move that may come at any time, a head, a tail -/
def sink1B (md : Region.Mode) (ops : Array Oper) (n : Nat) : Bool :=
  (List.range n).all fun i => i == 0 || (List.range (n + 1)).any fun j => decide (i < j) && Region.waitsFor md ops j i
theorem tw_one {q : Nat} (hs : sink1B md ops q = true) (hc : Region.chainB md ops q = true) (hn : q < ops.size) : TW md ops q (fun i => i == 0) := by
  intro listed inv hpre
  have h0 : listed.getD 0 false = true := hpre 0 rfl
  suffices H : ∀ (d i : Nat), q - i = d → i < q → listed.getD i true = false → ∀ t, q ≤ t → t ∉ Region.ready md ops listed from fun i hi hun t ht => H _ i rfl hi hun t ht
  intro d
  induction d using Nat.strongRecOn with
  | _ d ih =>
    intro i hd hi hun t ht hr
    obtain ⟨_, ot, hot, hall⟩ := mem_ready.1 hr
    have htlt : t < ops.size := (Array.getElem?_eq_some_iff.1 hot).1
    by_cases htn : t = q
    · subst htn
      have h1 := List.all_eq_true.1 hs i (List.mem_range.2 hi)
      simp only [Bool.or_eq_true, beq_iff_eq] at h1
      rcases h1 with rfl | h1
      · rw [getD_both hun] at h0; cases h0
      obtain ⟨j, hj, hj2⟩ := List.any_eq_true.1 h1
      simp only [Bool.and_eq_true, decide_eq_true_eq] at hj2
      obtain ⟨oj, hoj, e, he, hb, hon⟩ := Region.waitsFor_spec hj2.2
      have hjle : j ≤ t := by have := List.mem_range.1 hj; omega
      by_cases hjt : j = t
      · subst hjt
        have : oj = ot := Option.some.inj (hoj.symm.trans hot)
        subst this
        have h2 := hall e he hb
        rw [hon, getD_both hun] at h2
        cases h2
      · cases hl : listed.getD j false with
        | true =>
          have h2 := inv.closed j oj hoj hl e he hb
          rw [hon, getD_both hun] at h2
          cases h2
        | false =>
          have hjs : j < listed.size := by rw [inv.size]; omega
          exact ih (t - j) (by omega) j rfl (by omega) (getD_in hjs hl) t (Nat.le_refl _) hr
    · have h1 := List.all_eq_true.1 hc t (List.mem_range.2 htlt)
      simp only [Bool.or_eq_true, decide_eq_true_eq] at h1
      rcases h1 with h1 | h1
      · omega
      · obtain ⟨o', ho', e, he, hb, hon⟩ := Region.waitsFor_spec h1
        have : o' = ot := Option.some.inj (ho'.symm.trans hot)
        subst this
        have h2 := hall e he hb
        rw [hon, getD_both (inv.tail (t - 1) (by omega) (by omega))] at h2
        cases h2

def move1B (md : Region.Mode) (ops : Array Oper) (m : Nat) : Bool :=
  Region.noSelect ops && decide (m < ops.size) && decide (1 ≤ m) && sink1B md ops m && Region.chainB md ops m && (Region.ready md ops (Array.replicate ops.size false)).contains 0 && Region.free md ops (Array.replicate ops.size false) 0
    && lexHeadX md ops (fun listed => Region.seqB md ops (ops.size - m) m listed) (m - 1) 1 ((Array.replicate ops.size false).setIfInBounds 0 true)
/-- **A move that may come at any time, then operations 1 to m - 1 that read or call, then a tail.** -/
theorem region_move1 {id : Nat} {Q : Exit → Act → World → Prop} {a : Act} {w : World} {l : List Oper} (m : Nat) (o : Oper) (x : Operand) (h0 : l.toArray[0]? = some o) (hop : o.op = .move x) (hg : o.guard = none)
    (hQ : ∀ c a d v w, Q (.panic c) (a.put d v) w → Q (.panic c) a w) (hm : P.follows .mixedOrders = true) (hB : move1B .any l.toArray m = true)
    (h : wpQuietB P l.toArray (fun w' => ∃ p : Regrown, w' = grow (redrawn w p.d) p.os) (fun a' => ∀ w', Below w.heap.size w w' → wpList P l.toArray Q (l.drop m) a' w') ((l.take m).drop 1) (a.put o.dst (a.eval x))) :
    (Code.region id l.toArray true).wp P Q a w := by
  simp only [move1B, Bool.and_eq_true, decide_eq_true_eq] at hB
  obtain ⟨⟨⟨⟨⟨⟨⟨hsel, hn⟩, h1m⟩, hs⟩, hc⟩, hr0⟩, hf0⟩, hlex⟩ := hB
  have hn' : m < l.length := by simpa using hn
  have htl : ((l.take m).drop 1).length = m - 1 := by simp; omega
  have hdl : (l.drop m).length = l.toArray.size - m := by simp
  have inv0 : HeadInv .any l.toArray m (Array.replicate l.toArray.size false) :=
    ⟨by simp, fun j oj _ hl => (by rw [getD_replicate_false] at hl; cases hl), fun t _ ht => getD_in (by simpa using ht) (getD_replicate_false _ _)⟩
  have hr0' : 0 ∈ Region.ready .any l.toArray (Array.replicate l.toArray.size false) := by simpa using hr0
  have hF : Floats P .any l.toArray m m (fun _ => Obj.cells #[] 0) := ⟨fun i h1 h2 => by omega, fun i j h1 h2 h3 h4 h5 => by omega⟩
  have hdone : ∀ (listed : Array Bool) (a : Act) (G : Nat → Nat), (Region.seqB .any l.toArray (l.toArray.size - m) m listed = true ∧ ∀ w', Below w.heap.size w w' → wpList P l.toArray Q (l.drop m) a w') → ∀ j ∈ Region.ready .any l.toArray listed, m ≤ j := fun listed a G h => seqB_ready h.1
  have hset0 : ((Array.replicate l.toArray.size false).setIfInBounds 0 true).getD 0 false = true := by
    have : 0 < l.toArray.size := by omega
    simp
    omega
  have H := wpX_lex (P := P) (C := fun w' => ∃ p : Regrown, w' = grow (redrawn w p.d) p.os) (md := .any) (m := m) (q := m) (r := 0)
    (fin := fun listed => Region.seqB .any l.toArray (l.toArray.size - m) m listed) hsel (tw_one hs hc hn) hn (Nat.le_refl m) hdone
    (fun listed a G inv hpre hh hf hfin hLq => ⟨hfin, hLq⟩)
    ((l.take m).drop 1) 1 _ _ (fun _ => 0) (fun j hj => by
      have hj' : j < m - 1 := by rw [htl] at hj; exact hj
      have e1 : ((l.take m).drop 1)[j]? = l[1 + j]? := by
        rw [List.getElem?_drop, List.getElem?_take, if_pos (by omega)]
      rw [e1]; simp) (by rw [htl]; omega) (inv0.set hr0' (by omega))
    (fun i hi => by
      obtain rfl : i = 0 := by simpa using hi
      exact hset0) (fun j hj => by
      obtain rfl : j = 0 := by omega
      exact hset0) (fun j h1 h2 => by omega) (by rw [htl]; exact hlex) h
  have hC : ∃ p : Regrown, ({ w with drawn := w.drawn + 1 } : World) = grow (redrawn w p.d) p.os := ⟨⟨w.drawn + 1, #[]⟩, by rw [grow_empty]; rfl⟩
  refine wp_region_any hm ?_
  have hx := wpAny_of_X (Q' := Q) (g := l.toArray.size - m) (base := w.heap.size) hF (fun _ _ => below_class) (fun w' ⟨p, hp⟩ => by rw [hp]; exact (below_regrown w p.d p.os).size)
    (fun listed a' G w' hw' hfr hL => by
      have hb : Below w.heap.size w w' := by obtain ⟨p, hp⟩ := hw'; rw [hp]; exact below_regrown w p.d p.os
      have := wpAny_of_seq (md := .any) (Q' := Q) (l.drop m) m listed a' w' (fun j => by simp [List.getElem?_drop]) (by rw [hdl]; exact hL.1) (hL.2 w' hb)
      rwa [hdl] at this) _ _ _ _ _ hC (fun i h1 h2 h3 => by omega) H
  rw [htl, show m - 1 + 0 + (l.toArray.size - m) = l.toArray.size - 1 by omega] at hx
  have hy : Yields P l.toArray o (a.eval x) a := .inl ⟨by simp [Region.wanted, hg], fun w => by unfold execOp; rw [hop]; rfl⟩
  have := wpAny_first (md := .any) h0 (Region.noSelect_spec hsel) (fun c a w => hQ c a _ _ w) (l.toArray.size - 1) _ a _ (Region.free_spec h0 hf0) hr0' hy hx
  rwa [show l.toArray.size - 1 + 1 = l.toArray.size by omega] at this
end
end Go.Proofs.Ytbmeemmihkedoaa
