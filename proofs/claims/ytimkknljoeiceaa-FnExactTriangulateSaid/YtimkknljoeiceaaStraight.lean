/-
  A walk for Straightened of the program.
-/
import Derived.Test.YtimkknljoeiceaaInside
namespace Go.Proofs.Ytimkknljoeiceaa
open Go.RowKit Go.Shelf Go.Sort
attribute [local go_sem] Oper.semAt_some

theorem at_frozen {W : World} {g : Nat} {x y : Int} {t : TypeId} (h : At W g x y t) (o : Nat) : W.frozen? ⟨g, o, none⟩ = false := by simp [World.frozen?, show W.heap[g]? = _ from h]
theorem side_kept {W W' : World} {g B k : Nat} {L : List (Int × Int)} {i : Nat} {v : Value} {xs : List Value} (h : SideAt W g L i) (hg : W.grownBy W' v.ownBlock) (hr : W.ownsRow B 54 2 v k xs) : SideAt W' g L i := by
  refine (hg.block g h.lt ?_).trans h
  rcases hr.2 with ⟨rfl, _⟩ | ⟨g', cap, cur, rfl, _, hgb, _⟩
  · simp [Value.ownBlock]
  · intro e
    obtain rfl : g = g' := by simpa [Value.ownBlock] using e
    have := (show W.heap[g]? = _ from h).symm.trans hgb
    simp at this
theorem side_set {W : World} {b G : Nat} {L : List (Int × Int)} {i : Nat} (h : SideAt W G L i) (hne : G ≠ b) (o : Nat) (v : Value) : SideAt (W.setCell ⟨b, o, none⟩ v) G L i := (Below.heap_setCell W ⟨b, o, none⟩ v G hne).trans h
theorem hrow_other {W : World} {B b k : Nat} {e : TypeId} {size : Nat} {v : Value} {xs : List Value} (h : W.ownsRow B e size v k xs) (o : Nat) (hb : b < B) (u : Value) : (W.setCell ⟨b, o, none⟩ u).ownsRow B e size v k xs :=
  h.kept (only_set (World.grownBy.refl W (some b)) o u) (by
    cases hv : v.ownBlock with
    | none => exact .inl rfl
    | some q => exact .inr (fun e => by simp only [Option.some.injEq] at e; have := (h.lt q hv).1; omega))
theorem box_set {W : World} {B b : Nat} {t : TypeId} {v : Value} (h : Boxed W B t v) (o : Nat) (hne : B ≠ b) (u : Value) : Boxed (W.setCell ⟨b, o, none⟩ u) B t v := (Below.heap_setCell W ⟨b, o, none⟩ u B hne).trans h
theorem at_store {W : World} {g : Nat} {x y : Int} {t : TypeId} (h : At W g x y t) (a : Int) (o : Nat) (ho : o = 0 := by rfl) : At (W.setCell ⟨g, o, none⟩ (.int .i64 a)) g a y t := by
  subst ho
  obtain ⟨hlt, hk⟩ := Array.getElem?_eq_some_iff.1 h
  show (W.heap.modify g _)[g]? = _
  rw [Array.getElem?_eq_getElem (by rw [Array.size_modify]; exact hlt), Array.getElem_modify_self, hk]
  rfl
theorem at_store1 {W : World} {g : Nat} {x y : Int} {t : TypeId} (h : At W g x y t) (a : Int) : At (W.setCell ⟨g, 1, none⟩ (.int .i64 a)) g x a t := by
  obtain ⟨hlt, hk⟩ := Array.getElem?_eq_some_iff.1 h
  show (W.heap.modify g _)[g]? = _
  rw [Array.getElem?_eq_getElem (by rw [Array.size_modify]; exact hlt), Array.getElem_modify_self, hk]
  rfl
def stStep (L : List (Int × Int)) (s : Nat × List (Int × Int)) (i : Nat) : Nat × List (Int × Int) := (i, bif onQ (gt L s.1) (gt L (nx L i)) (gt L i) then s.2 else s.2 ++ [gt L i])
def stP (L : List (Int × Int)) (l : List Nat) : Nat × List (Int × Int) := l.foldl (stStep L) (L.length - 1, [])
theorem stP_snoc (L : List (Int × Int)) (l : List Nat) (x : Nat) : stP L (l ++ [x]) = stStep L (stP L l) x := by simp [stP]
theorem stP_len (L : List (Int × Int)) (l : List Nat) : (stP L l).2.length ≤ l.length := by
  have key : ∀ (l : List Nat) (s : Nat × List (Int × Int)), (l.foldl (stStep L) s).2.length ≤ s.2.length + l.length := by
    intro l
    induction l with
    | nil => intro s; simp
    | cons x l ih =>
      intro s
      have h1 := ih (stStep L s x)
      have h2 : (stStep L s x).2.length ≤ s.2.length + 1 := by
        unfold stStep
        cases onQ (gt L s.1) (gt L (nx L x)) (gt L x) <;> simp
      rw [List.foldl_cons, List.length_cons]
      omega
  have := key l (L.length - 1, [])
  simpa [stP] using this

set_option maxRecDepth 100000 in
set_option maxHeartbeats 8000000 in
theorem impl_straight_yes (A : Option Addr) (c : Nat) (L : List (Int × Int)) (w : World) (hA : PtsA w A L) (hp : polyB L = true) :
    Calls Try.prog 109 #[.slice A L.length c] w (Lists w (stP L (List.range L.length)).2) := by
  obtain ⟨i0, hi0, hz0, hz1, hz2⟩ := info_parts infoPt
  obtain ⟨h3, h10, hok⟩ := polyB_all hp
  obtain ⟨g, rfl, -⟩ := hA 0 (by omega)
  have HU : Hid (Lists w (stP L (List.range L.length)).2 = fun e w' => ∃ v, e = .returned v ∧ w'.ownsRow w.heap.size 54 2 v (stP L (List.range L.length)).2.length (flat (stP L (List.range L.length)).2) ∧ Below w.heap.size w w') := rfl
  refine (callsIn_wide (n := 6)).1 ?_
  refine callsIn_of_wp_marks Try.func109 rfl trivial ?_ rfl
  simp only [Try.ntmps109, List.size_toArray, List.length_cons, List.length_nil, Nat.reduceAdd, Nat.reduceSub, Array.replicate_succ, Array.replicate_zero, List.push_toArray, List.append_toArray, List.nil_append, List.cons_append]
  have PC := Lib.hid (impl_poly _ c L w hA (by omega))
  rw [hp] at PC
  gi_wp2
  refine ⟨trivial, (wide0.calls PC.out).mono ?_⟩
  rintro e w1 ⟨rfl, hb1⟩
  have hA1 := ptsA_on hA hb1
  obtain ⟨m, hm⟩ : ∃ m, m = L.length - 1 := ⟨_, rfl⟩
  obtain ⟨c0, c1⟩ := gt_cells hA1 (i := m) (by omega)
  have hm1 : (L.length : Int) - 1 = (m : Int) := by omega
  have HM := Lib.hid hm
  have hn1 := below1 w1 (.cells #[.slice none 0 0] 27)
  have d0 := cell_on hn1 rfl c0
  have d1 := cell_on hn1 rfl c1
  obtain ⟨bx, hbx⟩ : ∃ bx, bx = (gt L m).1 := ⟨_, rfl⟩
  obtain ⟨by', hby⟩ : ∃ by', by' = (gt L m).2 := ⟨_, rfl⟩
  have HBX := Lib.hid hbx
  have HBY := Lib.hid hby
  rw [← hbx] at d0
  rw [← hby] at d1
  have hm3 : (m : Int) < (L.length : Int) := by omega
  clear hm c0 c1 hn1 hbx hby
  gi_wp2
  refine ⟨trivial, (wide0.calls (sides_any _ L.length c _)).mono ?_⟩
  rintro e w3 ⟨rfl, rfl⟩
  gi_wp2
  have hs1 := hb1.size
  have bB := ((Boxed.new w1 27 (.slice none 0 0)).alloc (.cells #[.int .i64 bx, .int .i64 by'] 54)).alloc (.cells #[.slice (some ⟨g, 0, none⟩) L.length c] 27)
  have bF := (at_new (w1.alloc (.cells #[.slice none 0 0] 27)) bx by' 54).alloc (.cells #[.slice (some ⟨g, 0, none⟩) L.length c] 27)
  have bN := Boxed.new ((w1.alloc (.cells #[.slice none 0 0] 27)).alloc (.cells #[.int .i64 bx, .int .i64 by'] 54)) 27 (.slice (some ⟨g, 0, none⟩) L.length c)
  simp only [World.size_alloc] at bF bN
  have hB0 : Below w.heap.size w (((w1.alloc (.cells #[.slice none 0 0] 27)).alloc (.cells #[.int .i64 bx, .int .i64 by'] 54)).alloc (.cells #[.slice (some ⟨g, 0, none⟩) L.length c] 27)) := hb1.trans ((below3 w1 _ _ _).mono hs1)
  have hsz : (((w1.alloc (.cells #[.slice none 0 0] 27)).alloc (.cells #[.int .i64 bx, .int .i64 by'] 54)).alloc (.cells #[.slice (some ⟨g, 0, none⟩) L.length c] 27)).heap.size = w1.heap.size + 3 := by simp
  obtain ⟨W0, hW0⟩ : ∃ W0, ((w1.alloc (.cells #[.slice none 0 0] 27)).alloc (.cells #[.int .i64 bx, .int .i64 by'] 54)).alloc (.cells #[.slice (some ⟨g, 0, none⟩) L.length c] 27) = W0 := ⟨_, rfl⟩
  rw [hW0] at bB bF bN hB0 hsz ⊢
  have bF0 : At W0 (w1.heap.size + 1) (gt L (stP L []).1).1 (gt L (stP L []).1).2 54 := by
    have e1 : (stP L []).1 = m := HM.out.symm
    rw [e1, ← HBX.out, ← HBY.out]; exact bF
  clear hW0 bF
  refine wpIn_rangeFunc_ownH rfl (by decide) (gf := 154) (lb := #[.pointer (some ⟨w1.heap.size + 1 + 1, 0, none⟩)]) rfl trivial (enters_of Try.func154 (by kernel_rfl) rfl)
    (sides_stops 5 (w1.heap.size + 1 + 1) _ c L w W0 (by omega) (by omega) hA hB0 (by omega) bN.cell) keepP_t (keepP_b (by omega) (by omega)) (Below.refl _ _) (fun _ => rfl)
    (fun pre W => (((∃ v, Boxed W w1.heap.size 27 v ∧ W.ownsRow (w1.heap.size + 3) 54 2 v (stP L pre).2.length (flat (stP L pre).2) ∧ True) ∧ At W (w1.heap.size + 1) (gt L (stP L pre).1).1 (gt L (stP L pre).1).2 54) ∧ Boxed W (w1.heap.size + 1 + 1) 27 (.slice (some ⟨g, 0, none⟩) L.length c)) ∧ Below w.heap.size w W)
    (fun _ _ _ => False)
    (OwnFrom.and (OwnFrom.and (OwnFrom.and (Own.from (holdsRow_own (w1.heap.size + 3) w1.heap.size 27 54 2 (fun pre => (stP L pre).2.length) (fun pre => flat (stP L pre).2) (fun _ _ => True)) _) (fun s X Y row hs hg hr => at_own _ _ _ _ _ () X Y row hs hg hr)) (Own.from (boxed_own _ _ _) _)) (ownFrom_below (Nat.le_refl _) (by omega)))
    (fun _ => ownFrom_pure _ (fun _ => False))
    ⟨⟨⟨⟨_, bB, World.ownsRow_nil _ _ _ _, trivial⟩, bF0⟩, bN⟩, hB0⟩
    (fun x a' W => ∃ Bx, w1.heap.size + 1 + 1 < Bx ∧ SideAt W Bx L x ∧ a' = { tmps := #[.slice (some ⟨g, 0, none⟩) L.length c, undef, .slice none 0 0, .pointer (some ⟨w1.heap.size, 0, none⟩), .pointer (some ⟨w1.heap.size + 1, 0, none⟩), undef, .pointer (some ⟨Bx, 0, none⟩), .slice (some ⟨g, 0, none⟩) L.length c, .bool true, .bool false, .slice (some ⟨g, 0, none⟩) L.length c, .slice (some ⟨g, 0, none⟩) L.length c, .int .i64 (L.length : Int), .int .i64 (m : Int), .pointer (some ⟨g, m * 2, none⟩), .agg #[.int .i64 bx, .int .i64 by'], .slice (some ⟨g, 0, none⟩) L.length c, .func (.func 154) #[] #[.pointer (some ⟨w1.heap.size + 1 + 1, 0, none⟩)], .int .i64 (x : Int), .agg #[.int .i64 (gt L x).1, .int .i64 (gt L x).2, .int .i64 (gt L (nx L x)).1, .int .i64 (gt L (nx L x)).2], undef, undef, undef, undef, undef, undef, undef, undef, undef, undef, undef, undef, undef, undef, undef], defers := [] })
    (fun x a' _ X Y row hs hg hr => by obtain ⟨Bx, e1, e2, e3⟩ := hs; exact ⟨Bx, e1, sideAt_own Bx L x _ () X Y row e2 hg hr, e3⟩)
    ?assign ?body ?done ?stop
  case assign =>
    rintro l pre x W K ⟨⟨⟨⟨v, bB4, own4, -⟩, bF4⟩, bN4⟩, hB4⟩ hK
    simp only [sideV]
    gi_wp2
    have hs4 := hB4.size
    have hb := below1 W (.cells #[.int .i64 (gt L x).1, .int .i64 (gt L x).2, .int .i64 (gt L (nx L x)).1, .int .i64 (gt L (nx L x)).2] 114)
    exact hK _ _ (keepsFrom_below hb) (KeepP.of_below hb hs4 bN4.lt) ⟨⟨⟨⟨v, boxed_on bB4 hb, own_below own4 hb, trivial⟩, bF4.step hb⟩, boxed_on bN4 hb⟩, hB4.trans (hb.mono hs4)⟩ ⟨W.heap.size, bN4.lt, sideAt_new W L x, rfl⟩
  case body =>
    rintro l pre x a' W hl - ⟨⟨⟨⟨v, bB4, own4, -⟩, bF4⟩, bN4⟩, hB4⟩ ⟨Bx, hBx, sX, rfl⟩ hlt
    have hs4 := hB4.size
    have HO := Lib.hid (fun W => on_pt (gt L (stP L pre).1) (gt L (nx L x)) (gt L x) W)
    have HST := Lib.hid (stP_snoc L pre x)
    have hlen := stP_len L pre
    obtain ⟨x0, x1, x2, x3⟩ := sX.cells
    have c0 := bF4.c0; have c1 := bF4.c1
    obtain ⟨j, hj⟩ : ∃ j, j = (stP L pre).1 := ⟨_, rfl⟩
    obtain ⟨M, hM⟩ : ∃ M, M = (stP L pre).2 := ⟨_, rfl⟩
    have HSS : Hid (stP L (pre ++ [x]) = (x, bif onQ (gt L j) (gt L (nx L x)) (gt L x) then M else M ++ [gt L x])) := by
      show _ = _
      rw [HST.out, hj, hM]; rfl
    rw [← hj] at HO c0 c1 bF4
    rw [← hM] at own4 hlen
    clear hj hM HST
    gi_wp2
    refine ⟨trivial, ((wideR l).calls (HO.out _)).mono ?_⟩
    rintro e W5 ⟨rfl, hb5⟩
    have hB5 := hB4.trans (hb5.mono hs4)
    have bB5 := boxed_on bB4 hb5
    have bN5 := boxed_on bN4 hb5
    have bF5 := bF4.step hb5
    have sX5 := boxed_side sX hb5
    have own5 := own_below own4 hb5
    have hK5 := KeepP.of_below hb5 hs4 bN4.lt
    have hF5 := keepsFrom_below (B := W0.heap.size) hb5
    have hs5 := hB5.size
    clear hb5 hB4 bB4 bN4 bF4 sX x0 x1 x2 x3 c0 c1 HO own4 hs4
    obtain ⟨x0, x1, x2, x3⟩ := sX5.cells
    have c0 := bF5.c0; have c1 := bF5.c1
    have cB := bB5.cell
    have fB := bB5.frozen
    have f0 := at_frozen bF5 0
    have f1 := at_frozen bF5 1
    cases hon : onQ (gt L j) (gt L (nx L x)) (gt L x)
    · rw [hon] at HSS
      have hrw := fun k hk => (own5.lt k hk).1
      obtain ⟨px, hpx⟩ : ∃ px, px = (gt L x).1 := ⟨_, rfl⟩
      obtain ⟨py, hpy⟩ : ∃ py, py = (gt L x).2 := ⟨_, rfl⟩
      have HP : Hid (gt L x = (px, py)) := by
        show _ = _
        rw [hpx, hpy]
      simp only [← hpx, ← hpy] at x0 x1 ⊢
      clear hpx hpy
      have hl10 : M.length ≤ 9 := by omega
      have hs6 := hB5.size
      have hlt3 : w1.heap.size + 3 ≤ W5.heap.size := by have := sX5.lt; omega
      gi_wp2_with (gi_at_builtin; refine wpListIn_append_own _ rfl _ _ 27 rfl (w1.heap.size + 3) 54 i0 (.agg #[.int .i64 0, .int .i64 0]) 2 16 Try.underlying27 hi0 hz0 hz1 hz2 rfl (by decide) _ _ _ rfl (own5.alloc _) ⟨W5.heap.size, 0, none⟩ 1 1 [.int .i64 px, .int .i64 py] rfl rfl ?d1 ?d2 ?d3 ?d4 ?d5 ?_)
      case d1 => exact World.news_of_block (cs := #[.int .i64 px, .int .i64 py]) (t := 54) (fr := (0, 0)) (heap_alloc_new W5 _)
      case d2 => simp [Value.oneCell']
      case d3 => unfold maxLen; omega
      case d4 => omega
      case d5 => simp; omega
      intro v' w6 own6 hgrow _
      obtain ⟨g6, cp6, rfl⟩ := ownsRow_succ own6
      obtain ⟨hv1, hv2, hr2, hk2, hb2⟩ := bB5.appended (by decide) (own_base own5 (show w.heap.size ≤ w1.heap.size + 3 by omega)) hs6 hs1 (own_base own6 (show w.heap.size ≤ w1.heap.size + 3 by omega)) hgrow
      have hc6 := hv1.cell
      have hf6 := hv1.frozen
      have bF6 := (bF5.alloc (.cells #[.int .i64 px, .int .i64 py] 54)).grown hgrow (fun e => by have := hrw _ e.symm; omega)
      have bN6 := (bN5.alloc (.cells #[.int .i64 px, .int .i64 py] 54)).kept hgrow (fun e => by have := hrw _ e.symm; omega)
      have sX6 := side_kept (boxed_side sX5 (below1 W5 (.cells #[.int .i64 px, .int .i64 py] 54))) hgrow (own5.alloc _)
      have hv3 := hrow_other own6 0 (show w1.heap.size < w1.heap.size + 3 by omega) (.slice (some ⟨g6, 0, none⟩) (M.length + 1) cp6)
      have bF7 := at_set bF6 (b := w1.heap.size) (by omega) 0 (.slice (some ⟨g6, 0, none⟩) (M.length + 1) cp6)
      have bN7 := bN6.other (B' := w1.heap.size) (by omega) (.slice (some ⟨g6, 0, none⟩) (M.length + 1) cp6)
      have sX7 := side_set sX6 (b := w1.heap.size) (by omega) 0 (.slice (some ⟨g6, 0, none⟩) (M.length + 1) cp6)
      have hB7 := hB5.trans hb2
      have hlN : w1.heap.size + 1 + 1 ≠ w1.heap.size := by omega
      have hKB : w6.heap[w1.heap.size + 1 + 1]? = W5.heap[w1.heap.size + 1 + 1]? := ((hgrow.block _ (by simp; omega) (fun e => by have := hrw _ e.symm; omega))).trans (Below.heap_alloc _ _ _ (by omega))
      have hK7 : KeepP w.heap.size (w1.heap.size + 1 + 1) W (w6.setCell ⟨w1.heap.size, 0, none⟩ (.slice (some ⟨g6, 0, none⟩) (M.length + 1) cp6)) := keepP_t hK5 ⟨hb2, (Below.heap_setCell w6 ⟨w1.heap.size, 0, none⟩ _ _ hlN).trans hKB⟩
      have hF7 := hF5.trans (hk2.from W0.heap.size)
      have R := Lib.hid (And.intro hv2 (And.intro hv3 (And.intro bN7 (And.intro hB7 (And.intro hK7 hF7)))))
      clear x0 x1 x2 x3 c0 c1 f0 f1 hv2 hr2 hk2 hb2 hv3 bN7 hB7 hK7 hF7 hKB hgrow own6 own5 bF6 bN6 sX6 bF5 bN5 bB5 sX5 cB fB hK5 hF5 hB5 hv1
      obtain ⟨x0, x1, x2, x3⟩ := sX7.cells
      simp only [HP.out] at x0 x1
      have c0 := bF7.c0; have c1 := bF7.c1
      have f0 := at_frozen bF7 0
      have f1 := at_frozen bF7 1
      have c2 : ((w6.setCell ⟨w1.heap.size, 0, none⟩ (.slice (some ⟨g6, 0, none⟩) (M.length + 1) cp6)).setCell ⟨w1.heap.size + 1, 0, none⟩ (.int .i64 px)).cell? ⟨w1.heap.size + 1, 1, none⟩ = some (.int .i64 (gt L j).2) := (at_store bF7 px 0).c1
      clear sX7
      gi_wp2
      obtain ⟨r1, r2, r3, r4, r5, r6⟩ := R.out
      refine ⟨(r6.trans ((KeepsOthers.setCell _ _ _).from _)).trans ((KeepsOthers.setCell _ _ _).from _), (r5.setCell (by omega) (by omega) _ _).setCell (by omega) (by omega) _ _, ?_⟩
      simp only [HSS.out, cond_false, HP.out, List.length_append, List.length_cons, List.length_nil, flat_append]
      exact ⟨⟨⟨⟨_, box_set (box_set r1 0 (by omega) _) 1 (by omega) _, hrow_other (hrow_other r2 0 (by omega) _) 1 (by omega) _, trivial⟩, at_store1 (at_store bF7 px 0) py⟩, box_set (box_set r3 0 (by omega) _) 1 (by omega) _⟩, (r4.setCell (p := ⟨w1.heap.size + 1, 0, none⟩) (Nat.le_trans hs1 (Nat.le_succ _)) _).setCell (p := ⟨w1.heap.size + 1, 1, none⟩) (Nat.le_trans hs1 (Nat.le_succ _)) _⟩
    · rw [hon] at HSS
      obtain ⟨px, hpx⟩ : ∃ px, px = (gt L x).1 := ⟨_, rfl⟩
      obtain ⟨py, hpy⟩ : ∃ py, py = (gt L x).2 := ⟨_, rfl⟩
      have HP : Hid (gt L x = (px, py)) := by
        show _ = _
        rw [hpx, hpy]
      simp only [← hpx, ← hpy] at x0 x1 ⊢
      clear hpx hpy
      have c2 : (W5.setCell ⟨w1.heap.size + 1, 0, none⟩ (.int .i64 px)).cell? ⟨w1.heap.size + 1, 1, none⟩ = some (.int .i64 (gt L j).2) := (at_store bF5 px 0).c1
      have hs7 : w.heap.size ≤ w1.heap.size + 1 := Nat.le_trans hs1 (Nat.le_succ _)
      have R := Lib.hid (And.intro bB5 (And.intro own5 (And.intro bN5 (And.intro hB5 (And.intro hK5 hF5)))))
      clear bB5 own5 bN5 hB5 hK5 hF5
      gi_wp2
      obtain ⟨r1, r2, r3, r4, r5, r6⟩ := R.out
      refine ⟨(r6.trans ((KeepsOthers.setCell _ _ _).from _)).trans ((KeepsOthers.setCell _ _ _).from _), (r5.setCell hs7 (by omega) _ _).setCell hs7 (by omega) _ _, ?_⟩
      simp only [HSS.out, cond_true, HP.out]
      exact ⟨⟨⟨⟨_, box_set (box_set r1 0 (by omega) _) 1 (by omega) _, hrow_other (hrow_other r2 0 (by omega) _) 1 (by omega) _, trivial⟩, at_store1 (at_store bF5 px 0) py⟩, box_set (box_set r3 0 (by omega) _) 1 (by omega) _⟩, (r4.setCell (p := ⟨w1.heap.size + 1, 0, none⟩) hs7 _).setCell (p := ⟨w1.heap.size + 1, 1, none⟩) hs7 _⟩
  case done =>
    rintro D zs W hD rfl ⟨⟨⟨⟨v, bB4, own4, -⟩, bF4⟩, bN4⟩, hB4⟩ hK
    have cB := bB4.cell
    have hs9 := hB0.size
    gi_wp2
    refine ⟨by simp, .inl ⟨_, _, rfl, run_takeDeferred hK, ?_⟩⟩
    rw [HU.out]
    exact ⟨_, results_tmp rfl _ _ _, v, rfl, ownsRow_putObj (own_base own4 (show w.heap.size ≤ w1.heap.size + 3 by omega)) _ hK rfl, hB4.trans (belowK_b (w := w) (Nat.le_refl _) W D _ _ (by omega) hK rfl rfl)⟩
  case stop =>
    rintro D k pre W hD hpre h hK
    exact h.elim
end Go.Proofs.Ytimkknljoeiceaa
