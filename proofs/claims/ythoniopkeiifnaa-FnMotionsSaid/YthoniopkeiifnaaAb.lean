/-
  Walks and facts of this seat, part Ab (merged by a script of this repo out of smaller texts).
-/
import Derived.Test.YthoniopkeiifnaaAa
import Derived.RangeFuncNested
import Derived.RangeFuncLeaves
import Derived.Shelf.Abstract
import Derived.Maps.AppendAt
import Derived.WalkKit
import Derived.OwnWalkIn
import Derived.TacticsInMore
import Derived.LoopNIn
import Derived.LoopIn
import Derived.WalkSpells
import Derived.RegionTactic
import Derived.Laws.MakeOwn
import Derived.ProofKit
import Derived.OpenShut
/-! Straight -/
namespace Go.Proofs.Ythoniopkeiifnaa
open Go.RowKit Go.Shelf Go.Sort
attribute [local go_sem] Oper.semAt_some

theorem at_frozen {W : World} {g : Nat} {x y : Int} {t : TypeId} (h : At W g x y t) (o : Nat) : W.frozen? ⟨g, o, none⟩ = false := by simp [World.frozen?, show W.heap[g]? = _ from h]
theorem side_kept {W W' : World} {g B k : Nat} {L : List (Int × Int)} {i : Nat} {v : Value} {xs : List Value} (h : SideAt W g L i) (hg : W.grownBy W' v.ownBlock) (hr : W.ownsRow B 45 2 v k xs) : SideAt W' g L i := by
  refine (hg.block g h.lt ?_).trans h
  rcases hr.2 with ⟨rfl, _⟩ | ⟨g', cap, cur, rfl, _, hgb, _⟩
  · simp [Value.ownBlock]
  · intro e
    obtain rfl : g = g' := by simpa [Value.ownBlock] using e
    have := (show W.heap[g]? = _ from h).symm.trans hgb
    simp at this
theorem side_set {W : World} {b G : Nat} {L : List (Int × Int)} {i : Nat} (h : SideAt W G L i) (hne : G ≠ b) (o : Nat) (v : Value) : SideAt (W.setCell ⟨b, o, none⟩ v) G L i := (Below.heap_setCell W ⟨b, o, none⟩ v G hne).trans h
theorem hrow_other {W : World} {B b k : Nat} {e : TypeId} {size : Nat} {v : Value} {xs : List Value} (h : W.ownsRow B e size v k xs) (o : Nat) (hb : b < B) (u : Value) : (W.setCell ⟨b, o, none⟩ u).ownsRow B e size v k xs :=
  h.kept (only_set (World.grownBy.refl W (some b)) o u) (by
    cases hv : v.ownBlock with
    | none => exact .inl rfl
    | some q => exact .inr (fun e => by simp only [Option.some.injEq] at e; have := (h.lt q hv).1; omega))
theorem box_set {W : World} {B b : Nat} {t : TypeId} {v : Value} (h : Boxed W B t v) (o : Nat) (hne : B ≠ b) (u : Value) : Boxed (W.setCell ⟨b, o, none⟩ u) B t v := (Below.heap_setCell W ⟨b, o, none⟩ u B hne).trans h
theorem at_store {W : World} {g : Nat} {x y : Int} {t : TypeId} (h : At W g x y t) (a : Int) (o : Nat) (ho : o = 0 := by rfl) : At (W.setCell ⟨g, o, none⟩ (.int .i64 a)) g a y t := by
  subst ho
  obtain ⟨hlt, hk⟩ := Array.getElem?_eq_some_iff.1 h
  show (W.heap.modify g _)[g]? = _
  rw [Array.getElem?_eq_getElem (by rw [Array.size_modify]; exact hlt), Array.getElem_modify_self, hk]
  rfl
theorem at_store1 {W : World} {g : Nat} {x y : Int} {t : TypeId} (h : At W g x y t) (a : Int) : At (W.setCell ⟨g, 1, none⟩ (.int .i64 a)) g x a t := by
  obtain ⟨hlt, hk⟩ := Array.getElem?_eq_some_iff.1 h
  show (W.heap.modify g _)[g]? = _
  rw [Array.getElem?_eq_getElem (by rw [Array.size_modify]; exact hlt), Array.getElem_modify_self, hk]
  rfl
def stStep (L : List (Int × Int)) (s : Nat × List (Int × Int)) (i : Nat) : Nat × List (Int × Int) := (i, bif onQ (gt L s.1) (gt L (nx L i)) (gt L i) then s.2 else s.2 ++ [gt L i])
def stP (L : List (Int × Int)) (l : List Nat) : Nat × List (Int × Int) := l.foldl (stStep L) (L.length - 1, [])
theorem stP_snoc (L : List (Int × Int)) (l : List Nat) (x : Nat) : stP L (l ++ [x]) = stStep L (stP L l) x := by simp [stP]
theorem stP_len (L : List (Int × Int)) (l : List Nat) : (stP L l).2.length ≤ l.length := by
  have key : ∀ (l : List Nat) (s : Nat × List (Int × Int)), (l.foldl (stStep L) s).2.length ≤ s.2.length + l.length := by
    intro l
    induction l with
    | nil => intro s; simp
    | cons x l ih =>
      intro s
      have h1 := ih (stStep L s x)
      have h2 : (stStep L s x).2.length ≤ s.2.length + 1 := by
        unfold stStep
        cases onQ (gt L s.1) (gt L (nx L x)) (gt L x) <;> simp
      rw [List.foldl_cons, List.length_cons]
      omega
  have := key l (L.length - 1, [])
  simpa [stP] using this

set_option maxRecDepth 100000 in
set_option maxHeartbeats 8000000 in
theorem impl_straight_yes (A : Option Addr) (c : Nat) (L : List (Int × Int)) (w : World) (hA : PtsA w A L) (hp : polyB L = true) :
    Calls Try.prog 112 #[.slice A L.length c] w (Lists w (stP L (List.range L.length)).2) := by
  obtain ⟨i0, hi0, hz0, hz1, hz2⟩ := info_parts infoPt
  obtain ⟨h3, h10, hok⟩ := polyB_all hp
  obtain ⟨g, rfl, -⟩ := hA 0 (by omega)
  have HU : Hid (Lists w (stP L (List.range L.length)).2 = fun e w' => ∃ v, e = .returned v ∧ w'.ownsRow w.heap.size 45 2 v (stP L (List.range L.length)).2.length (flat (stP L (List.range L.length)).2) ∧ Below w.heap.size w w') := rfl
  refine (callsIn_wide (n := 6)).1 ?_
  refine callsIn_of_wp_marks Try.func112 rfl trivial ?_ rfl
  simp only [Try.ntmps112, List.size_toArray, List.length_cons, List.length_nil, Nat.reduceAdd, Nat.reduceSub, Array.replicate_succ, Array.replicate_zero, List.push_toArray, List.append_toArray, List.nil_append, List.cons_append]
  have PC := Lib.hid (impl_poly _ c L w hA (by omega))
  rw [hp] at PC
  gi_wp2
  refine ⟨trivial, (wide0.calls PC.out).mono ?_⟩
  rintro e w1 ⟨rfl, hb1⟩
  have hA1 := ptsA_on hA hb1
  obtain ⟨m, hm⟩ : ∃ m, m = L.length - 1 := ⟨_, rfl⟩
  obtain ⟨c0, c1⟩ := gt_cells hA1 (i := m) (by omega)
  have hm1 : (L.length : Int) - 1 = (m : Int) := by omega
  have HM := Lib.hid hm
  have hn1 := below1 w1 (.cells #[.slice none 0 0] 34)
  have d0 := cell_on hn1 rfl c0
  have d1 := cell_on hn1 rfl c1
  obtain ⟨bx, hbx⟩ : ∃ bx, bx = (gt L m).1 := ⟨_, rfl⟩
  obtain ⟨by', hby⟩ : ∃ by', by' = (gt L m).2 := ⟨_, rfl⟩
  have HBX := Lib.hid hbx
  have HBY := Lib.hid hby
  rw [← hbx] at d0
  rw [← hby] at d1
  have hm3 : (m : Int) < (L.length : Int) := by omega
  clear hm c0 c1 hn1 hbx hby
  gi_wp2
  refine ⟨trivial, (wide0.calls (sides_any _ L.length c _)).mono ?_⟩
  rintro e w3 ⟨rfl, rfl⟩
  gi_wp2
  have hs1 := hb1.size
  have bB := ((Boxed.new w1 34 (.slice none 0 0)).alloc (.cells #[.int .i64 bx, .int .i64 by'] 45)).alloc (.cells #[.slice (some ⟨g, 0, none⟩) L.length c] 34)
  have bF := (at_new (w1.alloc (.cells #[.slice none 0 0] 34)) bx by' 45).alloc (.cells #[.slice (some ⟨g, 0, none⟩) L.length c] 34)
  have bN := Boxed.new ((w1.alloc (.cells #[.slice none 0 0] 34)).alloc (.cells #[.int .i64 bx, .int .i64 by'] 45)) 34 (.slice (some ⟨g, 0, none⟩) L.length c)
  simp only [World.size_alloc] at bF bN
  have hB0 : Below w.heap.size w (((w1.alloc (.cells #[.slice none 0 0] 34)).alloc (.cells #[.int .i64 bx, .int .i64 by'] 45)).alloc (.cells #[.slice (some ⟨g, 0, none⟩) L.length c] 34)) := hb1.trans ((below3 w1 _ _ _).mono hs1)
  have hsz : (((w1.alloc (.cells #[.slice none 0 0] 34)).alloc (.cells #[.int .i64 bx, .int .i64 by'] 45)).alloc (.cells #[.slice (some ⟨g, 0, none⟩) L.length c] 34)).heap.size = w1.heap.size + 3 := by simp
  obtain ⟨W0, hW0⟩ : ∃ W0, ((w1.alloc (.cells #[.slice none 0 0] 34)).alloc (.cells #[.int .i64 bx, .int .i64 by'] 45)).alloc (.cells #[.slice (some ⟨g, 0, none⟩) L.length c] 34) = W0 := ⟨_, rfl⟩
  rw [hW0] at bB bF bN hB0 hsz ⊢
  have bF0 : At W0 (w1.heap.size + 1) (gt L (stP L []).1).1 (gt L (stP L []).1).2 45 := by
    have e1 : (stP L []).1 = m := HM.out.symm
    rw [e1, ← HBX.out, ← HBY.out]; exact bF
  clear hW0 bF
  refine wpIn_rangeFunc_ownH rfl (by decide) (gf := 153) (lb := #[.pointer (some ⟨w1.heap.size + 1 + 1, 0, none⟩)]) rfl trivial (enters_of Try.func153 (by kernel_rfl) rfl)
    (sides_stops 5 (w1.heap.size + 1 + 1) _ c L w W0 (by omega) (by omega) hA hB0 (by omega) bN.cell) keepP_t (keepP_b (by omega) (by omega)) (Below.refl _ _) (fun _ => rfl)
    (fun pre W => (((∃ v, Boxed W w1.heap.size 34 v ∧ W.ownsRow (w1.heap.size + 3) 45 2 v (stP L pre).2.length (flat (stP L pre).2) ∧ True) ∧ At W (w1.heap.size + 1) (gt L (stP L pre).1).1 (gt L (stP L pre).1).2 45) ∧ Boxed W (w1.heap.size + 1 + 1) 34 (.slice (some ⟨g, 0, none⟩) L.length c)) ∧ Below w.heap.size w W)
    (fun _ _ _ => False)
    (OwnFrom.and (OwnFrom.and (OwnFrom.and (Own.from (holdsRow_own (w1.heap.size + 3) w1.heap.size 34 45 2 (fun pre => (stP L pre).2.length) (fun pre => flat (stP L pre).2) (fun _ _ => True)) _) (fun s X Y row hs hg hr => at_own _ _ _ _ _ () X Y row hs hg hr)) (Own.from (boxed_own _ _ _) _)) (ownFrom_below (Nat.le_refl _) (by omega)))
    (fun _ => ownFrom_pure _ (fun _ => False))
    ⟨⟨⟨⟨_, bB, World.ownsRow_nil _ _ _ _, trivial⟩, bF0⟩, bN⟩, hB0⟩
    (fun x a' W => ∃ Bx, w1.heap.size + 1 + 1 < Bx ∧ SideAt W Bx L x ∧ a' = { tmps := #[.slice (some ⟨g, 0, none⟩) L.length c, undef, .slice none 0 0, .pointer (some ⟨w1.heap.size, 0, none⟩), .pointer (some ⟨w1.heap.size + 1, 0, none⟩), undef, .pointer (some ⟨Bx, 0, none⟩), .slice (some ⟨g, 0, none⟩) L.length c, .bool true, .bool false, .slice (some ⟨g, 0, none⟩) L.length c, .slice (some ⟨g, 0, none⟩) L.length c, .int .i64 (L.length : Int), .int .i64 (m : Int), .pointer (some ⟨g, m * 2, none⟩), .agg #[.int .i64 bx, .int .i64 by'], .slice (some ⟨g, 0, none⟩) L.length c, .func (.func 153) #[] #[.pointer (some ⟨w1.heap.size + 1 + 1, 0, none⟩)], .int .i64 (x : Int), .agg #[.int .i64 (gt L x).1, .int .i64 (gt L x).2, .int .i64 (gt L (nx L x)).1, .int .i64 (gt L (nx L x)).2], undef, undef, undef, undef, undef, undef, undef, undef, undef, undef, undef, undef, undef, undef, undef], defers := [] })
    (fun x a' _ X Y row hs hg hr => by obtain ⟨Bx, e1, e2, e3⟩ := hs; exact ⟨Bx, e1, sideAt_own Bx L x _ () X Y row e2 hg hr, e3⟩)
    ?assign ?body ?done ?stop
  case assign =>
    rintro l pre x W K ⟨⟨⟨⟨v, bB4, own4, -⟩, bF4⟩, bN4⟩, hB4⟩ hK
    simp only [sideV]
    gi_wp2
    have hs4 := hB4.size
    have hb := below1 W (.cells #[.int .i64 (gt L x).1, .int .i64 (gt L x).2, .int .i64 (gt L (nx L x)).1, .int .i64 (gt L (nx L x)).2] 99)
    exact hK _ _ (keepsFrom_below hb) (KeepP.of_below hb hs4 bN4.lt) ⟨⟨⟨⟨v, boxed_on bB4 hb, own_below own4 hb, trivial⟩, bF4.step hb⟩, boxed_on bN4 hb⟩, hB4.trans (hb.mono hs4)⟩ ⟨W.heap.size, bN4.lt, sideAt_new W L x, rfl⟩
  case body =>
    rintro l pre x a' W hl - ⟨⟨⟨⟨v, bB4, own4, -⟩, bF4⟩, bN4⟩, hB4⟩ ⟨Bx, hBx, sX, rfl⟩ hlt
    have hs4 := hB4.size
    have HO := Lib.hid (fun W => on_pt (gt L (stP L pre).1) (gt L (nx L x)) (gt L x) W)
    have HST := Lib.hid (stP_snoc L pre x)
    have hlen := stP_len L pre
    obtain ⟨x0, x1, x2, x3⟩ := sX.cells
    have c0 := bF4.c0; have c1 := bF4.c1
    obtain ⟨j, hj⟩ : ∃ j, j = (stP L pre).1 := ⟨_, rfl⟩
    obtain ⟨M, hM⟩ : ∃ M, M = (stP L pre).2 := ⟨_, rfl⟩
    have HSS : Hid (stP L (pre ++ [x]) = (x, bif onQ (gt L j) (gt L (nx L x)) (gt L x) then M else M ++ [gt L x])) := by
      show _ = _
      rw [HST.out, hj, hM]; rfl
    rw [← hj] at HO c0 c1 bF4
    rw [← hM] at own4 hlen
    clear hj hM HST
    gi_wp2
    refine ⟨trivial, ((wideR l).calls (HO.out _)).mono ?_⟩
    rintro e W5 ⟨rfl, hb5⟩
    have hB5 := hB4.trans (hb5.mono hs4)
    have bB5 := boxed_on bB4 hb5
    have bN5 := boxed_on bN4 hb5
    have bF5 := bF4.step hb5
    have sX5 := boxed_side sX hb5
    have own5 := own_below own4 hb5
    have hK5 := KeepP.of_below hb5 hs4 bN4.lt
    have hF5 := keepsFrom_below (B := W0.heap.size) hb5
    have hs5 := hB5.size
    clear hb5 hB4 bB4 bN4 bF4 sX x0 x1 x2 x3 c0 c1 HO own4 hs4
    obtain ⟨x0, x1, x2, x3⟩ := sX5.cells
    have c0 := bF5.c0; have c1 := bF5.c1
    have cB := bB5.cell
    have fB := bB5.frozen
    have f0 := at_frozen bF5 0
    have f1 := at_frozen bF5 1
    cases hon : onQ (gt L j) (gt L (nx L x)) (gt L x)
    · rw [hon] at HSS
      have hrw := fun k hk => (own5.lt k hk).1
      obtain ⟨px, hpx⟩ : ∃ px, px = (gt L x).1 := ⟨_, rfl⟩
      obtain ⟨py, hpy⟩ : ∃ py, py = (gt L x).2 := ⟨_, rfl⟩
      have HP : Hid (gt L x = (px, py)) := by
        show _ = _
        rw [hpx, hpy]
      simp only [← hpx, ← hpy] at x0 x1 ⊢
      clear hpx hpy
      have hl10 : M.length ≤ 9 := by omega
      have hs6 := hB5.size
      have hlt3 : w1.heap.size + 3 ≤ W5.heap.size := by have := sX5.lt; omega
      gi_wp2_with (gi_at_builtin; refine wpListIn_append_own _ rfl _ _ 34 rfl (w1.heap.size + 3) 45 i0 (.agg #[.int .i64 0, .int .i64 0]) 2 16 Try.underlying34 hi0 hz0 hz1 hz2 rfl (by decide) _ _ _ rfl (own5.alloc _) ⟨W5.heap.size, 0, none⟩ 1 1 [.int .i64 px, .int .i64 py] rfl rfl ?d1 ?d2 ?d3 ?d4 ?d5 ?_)
      case d1 => exact World.news_of_block (cs := #[.int .i64 px, .int .i64 py]) (t := 45) (fr := (0, 0)) (heap_alloc_new W5 _)
      case d2 => simp [Value.oneCell']
      case d3 => unfold maxLen; omega
      case d4 => omega
      case d5 => simp; omega
      intro v' w6 own6 hgrow _
      obtain ⟨g6, cp6, rfl⟩ := ownsRow_succ own6
      obtain ⟨hv1, hv2, hr2, hk2, hb2⟩ := bB5.appended (by decide) (own_base own5 (show w.heap.size ≤ w1.heap.size + 3 by omega)) hs6 hs1 (own_base own6 (show w.heap.size ≤ w1.heap.size + 3 by omega)) hgrow
      have hc6 := hv1.cell
      have hf6 := hv1.frozen
      have bF6 := (bF5.alloc (.cells #[.int .i64 px, .int .i64 py] 45)).grown hgrow (fun e => by have := hrw _ e.symm; omega)
      have bN6 := (bN5.alloc (.cells #[.int .i64 px, .int .i64 py] 45)).kept hgrow (fun e => by have := hrw _ e.symm; omega)
      have sX6 := side_kept (boxed_side sX5 (below1 W5 (.cells #[.int .i64 px, .int .i64 py] 45))) hgrow (own5.alloc _)
      have hv3 := hrow_other own6 0 (show w1.heap.size < w1.heap.size + 3 by omega) (.slice (some ⟨g6, 0, none⟩) (M.length + 1) cp6)
      have bF7 := at_set bF6 (b := w1.heap.size) (by omega) 0 (.slice (some ⟨g6, 0, none⟩) (M.length + 1) cp6)
      have bN7 := bN6.other (B' := w1.heap.size) (by omega) (.slice (some ⟨g6, 0, none⟩) (M.length + 1) cp6)
      have sX7 := side_set sX6 (b := w1.heap.size) (by omega) 0 (.slice (some ⟨g6, 0, none⟩) (M.length + 1) cp6)
      have hB7 := hB5.trans hb2
      have hlN : w1.heap.size + 1 + 1 ≠ w1.heap.size := by omega
      have hKB : w6.heap[w1.heap.size + 1 + 1]? = W5.heap[w1.heap.size + 1 + 1]? := ((hgrow.block _ (by simp; omega) (fun e => by have := hrw _ e.symm; omega))).trans (Below.heap_alloc _ _ _ (by omega))
      have hK7 : KeepP w.heap.size (w1.heap.size + 1 + 1) W (w6.setCell ⟨w1.heap.size, 0, none⟩ (.slice (some ⟨g6, 0, none⟩) (M.length + 1) cp6)) := keepP_t hK5 ⟨hb2, (Below.heap_setCell w6 ⟨w1.heap.size, 0, none⟩ _ _ hlN).trans hKB⟩
      have hF7 := hF5.trans (hk2.from W0.heap.size)
      have R := Lib.hid (And.intro hv2 (And.intro hv3 (And.intro bN7 (And.intro hB7 (And.intro hK7 hF7)))))
      clear x0 x1 x2 x3 c0 c1 f0 f1 hv2 hr2 hk2 hb2 hv3 bN7 hB7 hK7 hF7 hKB hgrow own6 own5 bF6 bN6 sX6 bF5 bN5 bB5 sX5 cB fB hK5 hF5 hB5 hv1
      obtain ⟨x0, x1, x2, x3⟩ := sX7.cells
      simp only [HP.out] at x0 x1
      have c0 := bF7.c0; have c1 := bF7.c1
      have f0 := at_frozen bF7 0
      have f1 := at_frozen bF7 1
      have c2 : ((w6.setCell ⟨w1.heap.size, 0, none⟩ (.slice (some ⟨g6, 0, none⟩) (M.length + 1) cp6)).setCell ⟨w1.heap.size + 1, 0, none⟩ (.int .i64 px)).cell? ⟨w1.heap.size + 1, 1, none⟩ = some (.int .i64 (gt L j).2) := (at_store bF7 px 0).c1
      clear sX7
      gi_wp2
      obtain ⟨r1, r2, r3, r4, r5, r6⟩ := R.out
      refine ⟨(r6.trans ((KeepsOthers.setCell _ _ _).from _)).trans ((KeepsOthers.setCell _ _ _).from _), (r5.setCell (by omega) (by omega) _ _).setCell (by omega) (by omega) _ _, ?_⟩
      simp only [HSS.out, cond_false, HP.out, List.length_append, List.length_cons, List.length_nil, flat_append]
      exact ⟨⟨⟨⟨_, box_set (box_set r1 0 (by omega) _) 1 (by omega) _, hrow_other (hrow_other r2 0 (by omega) _) 1 (by omega) _, trivial⟩, at_store1 (at_store bF7 px 0) py⟩, box_set (box_set r3 0 (by omega) _) 1 (by omega) _⟩, (r4.setCell (p := ⟨w1.heap.size + 1, 0, none⟩) (Nat.le_trans hs1 (Nat.le_succ _)) _).setCell (p := ⟨w1.heap.size + 1, 1, none⟩) (Nat.le_trans hs1 (Nat.le_succ _)) _⟩
    · rw [hon] at HSS
      obtain ⟨px, hpx⟩ : ∃ px, px = (gt L x).1 := ⟨_, rfl⟩
      obtain ⟨py, hpy⟩ : ∃ py, py = (gt L x).2 := ⟨_, rfl⟩
      have HP : Hid (gt L x = (px, py)) := by
        show _ = _
        rw [hpx, hpy]
      simp only [← hpx, ← hpy] at x0 x1 ⊢
      clear hpx hpy
      have c2 : (W5.setCell ⟨w1.heap.size + 1, 0, none⟩ (.int .i64 px)).cell? ⟨w1.heap.size + 1, 1, none⟩ = some (.int .i64 (gt L j).2) := (at_store bF5 px 0).c1
      have hs7 : w.heap.size ≤ w1.heap.size + 1 := Nat.le_trans hs1 (Nat.le_succ _)
      have R := Lib.hid (And.intro bB5 (And.intro own5 (And.intro bN5 (And.intro hB5 (And.intro hK5 hF5)))))
      clear bB5 own5 bN5 hB5 hK5 hF5
      gi_wp2
      obtain ⟨r1, r2, r3, r4, r5, r6⟩ := R.out
      refine ⟨(r6.trans ((KeepsOthers.setCell _ _ _).from _)).trans ((KeepsOthers.setCell _ _ _).from _), (r5.setCell hs7 (by omega) _ _).setCell hs7 (by omega) _ _, ?_⟩
      simp only [HSS.out, cond_true, HP.out]
      exact ⟨⟨⟨⟨_, box_set (box_set r1 0 (by omega) _) 1 (by omega) _, hrow_other (hrow_other r2 0 (by omega) _) 1 (by omega) _, trivial⟩, at_store1 (at_store bF5 px 0) py⟩, box_set (box_set r3 0 (by omega) _) 1 (by omega) _⟩, (r4.setCell (p := ⟨w1.heap.size + 1, 0, none⟩) hs7 _).setCell (p := ⟨w1.heap.size + 1, 1, none⟩) hs7 _⟩
  case done =>
    rintro D zs W hD rfl ⟨⟨⟨⟨v, bB4, own4, -⟩, bF4⟩, bN4⟩, hB4⟩ hK
    have cB := bB4.cell
    have hs9 := hB0.size
    gi_wp2
    refine ⟨by simp, .inl ⟨_, _, rfl, run_takeDeferred hK, ?_⟩⟩
    rw [HU.out]
    exact ⟨_, results_tmp rfl _ _ _, v, rfl, ownsRow_putObj (own_base own4 (show w.heap.size ≤ w1.heap.size + 3 by omega)) _ hK rfl, hB4.trans (belowK_b (w := w) (Nat.le_refl _) W D _ _ (by omega) hK rfl rfl)⟩
  case stop =>
    rintro D k pre W hD hpre h hK
    exact h.elim
end Go.Proofs.Ythoniopkeiifnaa

/-! Ints -/
namespace Go.Proofs.Ythoniopkeiifnaa
open Go.RowKit

/-- The cells of a slice of ints. -/
def ints (M : List Int) : List Value := M.map fun n => .int .i64 n
theorem ints_len (M : List Int) : (ints M).length = M.length := by simp [ints]
theorem ints_snoc (M : List Int) (n : Int) : ints (M ++ [n]) = ints M ++ [.int .i64 n] := by simp [ints]
def IntsA (w : World) (A : Option Addr) (M : List Int) : Prop := ∀ k (h : k < M.length), ∃ g, A = some ⟨g, 0, none⟩ ∧ w.cell? ⟨g, k, none⟩ = some (.int .i64 M[k])
theorem intsA_on {w w' : World} {A : Option Addr} {M : List Int} (h : IntsA w A M) (hb : Below w.heap.size w w') : IntsA w' A M := fun k hk => by
  obtain ⟨g, hA, h1⟩ := h k hk
  exact ⟨g, hA, cell_on hb rfl h1⟩
theorem own_ints {w : World} {B : Nat} {e : TypeId} {v : Value} {n : Nat} {M : List Int} (h : w.ownsRow B e 1 v n (ints M)) :
    n = M.length ∧ ∃ A c, v = .slice A M.length c ∧ IntsA w A M := by
  have hl : M.length = n := by have := h.1; rw [ints_len] at this; omega
  refine ⟨hl.symm, ?_⟩
  subst hl
  rcases h.2 with ⟨rfl, h0⟩ | ⟨g, cap, cur, rfl, hg, hh, _⟩
  · exact ⟨none, 0, by rw [h0], fun k hk => by omega⟩
  · refine ⟨some ⟨g, 0, none⟩, cap, rfl, fun k hk => ⟨g, rfl, ?_⟩⟩
    rw [h.cellAt k (by omega)]
    simp [ints, hk]
def IxAt (M : List Int) (x z : Int) : Prop := (z = -1 ∧ x ∉ M) ∨ ∃ k : Nat, k < M.length ∧ z = k ∧ x ∈ M
set_option maxRecDepth 100000 in
set_option maxHeartbeats 1000000 in
theorem ix_any (A : Option Addr) (c : Nat) (M : List Int) (x : Int) (w : World) (hP : IntsA w A M) (hL : M.length ≤ 1048576) :
    Calls Try.prog 125 #[.slice A M.length c, .int .i64 x] w fun e w' => (∃ z : Int, e = .returned (.int .i64 z) ∧ IxAt M x z) ∧ w' = w := by
  have HP := Lib.hid hP; clear hP
  have HID : Hid (∀ z, IxAt M x z ↔ ((z = -1 ∧ x ∉ M) ∨ ∃ k : Nat, k < M.length ∧ z = k ∧ x ∈ M)) := fun _ => Iff.rfl
  go_enter Try.func125, Try.ntmps125
  go_wp2_with fail
  go_loop [5, 8] (fun _ i => ∃ k : Nat, k ≤ M.length ∧ i = .int .i64 k ∧ Hid (∀ j (h : j < M.length), j < k → M[j] ≠ x)) (fun _ i => M.length - (intOf i).toNat)
  case atStart => exact ⟨0, Nat.zero_le _, rfl, fun j _ hj => by omega⟩
  case round =>
    obtain ⟨k, hk, rfl, HN⟩ := hrel
    by_cases hlt : k < M.length
    · obtain ⟨g1, rfl, hc⟩ := HP.out k hlt
      obtain ⟨p, hp⟩ : ∃ p, p = M[k] := ⟨_, rfl⟩
      rw [← hp] at hc
      have HPQ := Lib.hid hp
      clear hp
      by_cases he : x = p
      · have HY : Hid (IxAt M x k) := .inr ⟨k, hlt, rfl, by rw [he, HPQ.out]; exact List.getElem_mem hlt⟩
        subst he
        go_wp2_with fail
        go_ret
        exact ⟨⟨_, rfl, HY.out⟩, rfl⟩
      · have HN2 : Hid (∀ j (h : j < M.length), j < k + 1 → M[j] ≠ x) := fun j h hj => by
          rcases Nat.lt_or_ge j k with h1 | h1
          · exact HN.out j h h1
          · obtain rfl : j = k := by omega
            intro e
            exact he (by rw [HPQ.out, e])
        have he2 : (x == p) = false := by simpa using he
        go_wp2_with fail
        go_round
        case rel => exact ⟨k + 1, by omega, by go_num, HN2⟩
        case measure => simp [intOf]; omega
    · have HY : Hid (IxAt M x (-1)) := .inl ⟨rfl, fun h => by
        obtain ⟨j, hj, e⟩ := List.getElem_of_mem h
        exact HN.out j hj (by omega) e⟩
      go_wp2_with fail
      go_ret
      exact ⟨⟨_, rfl, HY.out⟩, rfl⟩
theorem hasI_any (A : Option Addr) (c : Nat) (M : List Int) (x : Int) (w : World) (hP : IntsA w A M) (hL : M.length ≤ 1048576) :
    Calls Try.prog 156 #[.slice A M.length c, .int .i64 x] w fun e w' => e = .returned (.bool (decide (x ∈ M))) ∧ w' = w := by
  have HX := Lib.hid (fun w hP => ix_any A c M x w hP hL)
  have HP := Lib.hid hP; clear hP
  go_enter Try.func156, Try.ntmps156
  go_wp2_with fail
  refine (HX.out w HP.out).mono ?_
  rintro e w1 ⟨⟨z, rfl, hz⟩, rfl⟩
  have HD : Hid (decide (0 ≤ z) = decide (x ∈ M)) := by
    show _ = _
    rcases hz with ⟨rfl, h⟩ | ⟨k, _, rfl, h⟩
    · simp [h]
    · simp [h]
  clear hz
  go_wp2_with fail
  go_ret
  exact ⟨ret_bool HD.out, rfl⟩
def bothB (M : List Int) : Bool := decide ((1 : Int) ∈ M) && decide ((-1 : Int) ∈ M)
theorem both_any (A : Option Addr) (c : Nat) (M : List Int) (w : World) (hP : IntsA w A M) (hL : M.length ≤ 1048576) :
    Calls Try.prog 110 #[.slice A M.length c] w fun e w' => e = .returned (.bool (bothB M)) ∧ w' = w := by
  have HX := Lib.hid (fun x w hP => hasI_any A c M x w hP hL)
  have HP := Lib.hid hP; clear hP
  have HB : Hid (bothB M = (decide ((1 : Int) ∈ M) && decide ((-1 : Int) ∈ M))) := rfl
  cases h1 : decide ((1 : Int) ∈ M)
  all_goals (
    rw [h1] at HB
    have H1 := HX.out 1 w HP.out
    rw [h1] at H1
    have H1 := Lib.hid H1
    go_enter Try.func110, Try.ntmps110
    go_wp2_with fail
    refine H1.out.mono ?_
    rintro e w1 ⟨rfl, rfl⟩
    go_wp2_with fail)
  · go_ret
    exact ⟨ret_bool HB.out.symm, rfl⟩
  · refine (HX.out (-1) _ HP.out).mono ?_
    rintro e w1 ⟨rfl, rfl⟩
    go_wp2_with fail
    go_ret
    exact ⟨ret_bool HB.out.symm, rfl⟩

/-! ### The least and the greatest of signs -/
def loT (f : Nat → Int) : Nat → Int
  | 0 => 0
  | k + 1 => if f k < loT f k then f k else loT f k
def hiT (f : Nat → Int) : Nat → Int
  | 0 => 0
  | k + 1 => if hiT f k < f k then f k else hiT f k
theorem lohi_aux {f : Nat → Int} (hf : ∀ i, f i = 1 ∨ f i = -1 ∨ f i = 0) : ∀ k, (loT f k = if ∃ j, j < k ∧ f j = -1 then -1 else 0) ∧ (hiT f k = if ∃ j, j < k ∧ f j = 1 then 1 else 0) := by
  intro k
  induction k with
  | zero => simp [loT, hiT]
  | succ k ih =>
    obtain ⟨h1, h2⟩ := ih
    have hs : ∀ c : Int, (∃ j, j < k + 1 ∧ f j = c) ↔ (∃ j, j < k ∧ f j = c) ∨ f k = c := by
      intro c
      constructor
      · rintro ⟨j, hj, e⟩
        rcases Nat.lt_or_ge j k with h | h
        · exact .inl ⟨j, h, e⟩
        · obtain rfl : j = k := by omega
          exact .inr e
      · rintro (⟨j, hj, e⟩ | e)
        · exact ⟨j, by omega, e⟩
        · exact ⟨k, by omega, e⟩
    simp only [loT, hiT, h1, h2, hs]
    constructor
    · by_cases h : ∃ j, j < k ∧ f j = -1
      · rcases hf k with e | e | e <;> simp [h, e]
      · rcases hf k with e | e | e <;> simp [h, e]
    · by_cases h : ∃ j, j < k ∧ f j = 1
      · rcases hf k with e | e | e <;> simp [h, e]
      · rcases hf k with e | e | e <;> simp [h, e]
theorem lohi {f : Nat → Int} (hf : ∀ i, f i = 1 ∨ f i = -1 ∨ f i = 0) (k : Nat) : (loT f k == 0 || hiT f k == 0) = !(bothB ((List.range k).map f)) := by
  obtain ⟨h1, h2⟩ := lohi_aux hf k
  have m1 : ∀ c : Int, c ∈ (List.range k).map f ↔ ∃ j, j < k ∧ f j = c := by intro c; simp
  unfold bothB
  rw [h1, h2]
  simp only [m1]
  by_cases a : ∃ j, j < k ∧ f j = -1 <;> by_cases b : ∃ j, j < k ∧ f j = 1 <;> simp [a, b]
theorem lohi_le {f : Nat → Int} (hf : ∀ i, f i = 1 ∨ f i = -1 ∨ f i = 0) (k : Nat) : (loT f k).natAbs ≤ 1 ∧ (hiT f k).natAbs ≤ 1 := by
  obtain ⟨h1, h2⟩ := lohi_aux hf k
  rw [h1, h2]
  constructor <;> split <;> decide
theorem sgn_three (n : Int) : sgn n = 1 ∨ sgn n = -1 ∨ sgn n = 0 := by
  rcases sgn_cases n with h | h | h
  · exact .inl h.2
  · exact .inr (.inl h.2)
  · exact .inr (.inr h.2)
/-- A function that hands back a new list of ints. -/
def ListsI (w : World) (M : List Int) (e : Ending) (w' : World) : Prop := ∃ v, e = .returned v ∧ w'.ownsRow w.heap.size 3 1 v M.length (ints M) ∧ Below w.heap.size w w'
theorem infoI : (Try.prog.info? 3).map (fun i => (i.zero, i.size, i.bytes)) = some (some (.int .i64 0), 1, 8) := by kernel_rfl
end Go.Proofs.Ythoniopkeiifnaa

/-! Val10 -/
namespace Go.Proofs.Ythoniopkeiifnaa
open Go.RowKit Go.Shelf Go.Sort
attribute [local go_sem] Oper.semAt_some

theorem infoI10 : (Try.prog.info? 3).map (fun i => (i.zero, i.size, i.bytes)) = some (some (.int .i64 0), 1, 8) := by kernel_rfl
theorem kF_below {B : Nat} {W W' : World} (h : Below W.heap.size W W') : KeepsFrom B W W' := ⟨h.size, fun k _ _ h0 _ => (h.block k (Array.getElem?_eq_some_iff.1 h0).1).trans h0⟩
theorem boxed_below {W W' : World} {B : Nat} {t : TypeId} {v : Value} (h : Boxed W B t v) (hb : Below W.heap.size W W') : Boxed W' B t v := (hb.block B h.lt).trans h
theorem setCell_only (W : World) (b o : Nat) (u : Value) : W.grownBy (W.setCell ⟨b, o, none⟩ u) (some b) :=
  ⟨rfl, rfl, rfl, by simp [World.setCell], fun k hk hne => Below.heap_setCell W ⟨b, o, none⟩ u k (fun e => hne (by rw [e]))⟩
theorem row_other {W : World} {B b k : Nat} {e : TypeId} {size : Nat} {v : Value} {xs : List Value} (h : W.ownsRow B e size v k xs) (hb : b < B) (o : Nat) (u : Value) : (W.setCell ⟨b, o, none⟩ u).ownsRow B e size v k xs :=
  h.kept (setCell_only W b o u) (by
    cases hv : v.ownBlock with
    | none => exact .inl rfl
    | some q => exact .inr (fun e => by simp only [Option.some.injEq] at e; have := (h.lt q hv).1; omega))
/-- What lay below m and block B lie as they lay. -/
def KeepB (m B : Nat) (W W' : World) : Prop := Below m W W' ∧ W'.heap[B]? = W.heap[B]?
theorem KeepB.refl (m B : Nat) (W : World) : KeepB m B W W := ⟨Below.refl _ _, rfl⟩
theorem keepB_t {m B : Nat} {X Y Z : World} (h : KeepB m B X Y) (k : KeepB m B Y Z) : KeepB m B X Z := ⟨h.1.trans k.1, k.2.trans h.2⟩
theorem keepB_b {m B : Nat} {w : World} (hn : m ≤ w.heap.size) (hB : B < w.heap.size) (W : World) (l : Nat) (o o' : Obj) (hl : w.heap.size ≤ l) (h : W.heap[l]? = some o) (h1 : o.isCells = false) (h2 : o.isWalk = false) : KeepB m B W (W.putObj l o') :=
  ⟨belowK_b hn W l o o' hl h h1 h2, World.putObj_heap_other (by omega)⟩
theorem KeepB.of_below {m B : Nat} {W W' : World} (h : Below W.heap.size W W') (hm : m ≤ W.heap.size) (hB : B < W.heap.size) : KeepB m B W W' := ⟨h.mono hm, h.block B hB⟩
theorem cell_sameB {X Y : World} {B o : Nat} {v : Value} (h : Y.heap[B]? = X.heap[B]?) (hc : X.cell? ⟨B, o, none⟩ = some v) : Y.cell? ⟨B, o, none⟩ = some v := by
  have : Y.cell? ⟨B, o, none⟩ = X.cell? ⟨B, o, none⟩ := by simp only [World.cell?, h]
  rw [this]; exact hc
def gI (X : List Int) (k : Nat) : Int := X.getD k 0
theorem gI_at {X : List Int} {k : Nat} (h : k < X.length) : gI X k = X[k] := by simp [gI, h]
theorem values_any (A : Option Addr) (n c : Nat) (w : World) :
    Calls Try.prog 84 #[.slice A n c] w fun e w' => e = .returned (.func (.func 128) #[] #[.pointer (some ⟨w.heap.size, 0, none⟩)]) ∧ w.alloc (.cells #[.slice A n c] 22) = w' := by
  go_enter Try.func84, Try.ntmps84
  go_wp2_with fail
  go_ret
  exact ⟨rfl, rfl⟩
set_option maxRecDepth 100000 in
set_option maxHeartbeats 4000000 in
theorem values1 (n l Bs : Nat) (A : Option Addr) (c : Nat) (L : List Int) (w0 : World) (h1 : 1 ≤ L.length) (h2 : L.length ≤ 1048576) (hA : IntsA w0 A L) (J Jx : List Nat → World → Prop) (W : World) (_ : AbidesFrom W.heap.size J)
    (hY : ∀ (pre : List Nat) (x : Nat) (W1 : World), J pre W1 → pre.length < L.length → YieldAt Fence.wide (n - 1) Try.prog l #[.int .i64 (gI L x)] W1 fun e W' =>
      (e = .returned (.bool true) ∧ J (pre ++ [x]) W' ∧ KeepB w0.heap.size Bs W1 W') ∨ (e = .returned (.bool false) ∧ Jx (pre ++ [x]) W'))
    (_ : Bs < W.heap.size) (hBs : W.cell? ⟨Bs, 0, none⟩ = some (.slice A L.length c)) (hW : Below w0.heap.size w0 W) (h0 : J [] W) :
    CallsIn Fence.wide n Try.prog 128 #[.func (.yield l) #[] #[], .pointer (some ⟨Bs, 0, none⟩)] W fun e W' => (∃ v, e = .returned v) ∧
      ((∃ ys, ys = List.range L.length ∧ J ys W') ∨ (∃ pre, (∃ k, k ≤ L.length ∧ pre = List.range k) ∧ Jx pre W')) := by
  obtain ⟨g, rfl, -⟩ := hA 0 h1
  have HA := Lib.hid hA; clear hA
  refine callsIn_of_wp Try.func128 rfl trivial ?_ rfl
  simp only [Try.ntmps128, List.size_toArray, List.length_cons, List.length_nil, Nat.reduceAdd, Nat.reduceSub, Array.replicate_succ, Array.replicate_zero, List.push_toArray, List.append_toArray, List.nil_append, List.cons_append]
  gi_wp2
  gi_loopw [4, 7] (fun _ i wr => ∃ k : Nat, k ≤ L.length ∧ i = .int .i64 k ∧ J (List.range k) wr ∧ KeepB w0.heap.size Bs W wr)
    (fun _ i _ => L.length - (intOf i).toNat)
  case atStart => exact ⟨0, Nat.zero_le _, rfl, h0, KeepB.refl _ _ _⟩
  case round =>
    obtain ⟨k, hk, rfl, hJs, hnx⟩ := hrel
    by_cases hlt : k < L.length
    · obtain ⟨g', hg', c1⟩ := intsA_on HA.out (hW.trans hnx.1) k hlt
      simp only [Option.some.injEq, Addr.mk.injEq, and_true] at hg'
      subst hg'
      rw [← gI_at hlt] at c1
      have hp1 : (k : Int) < (L.length : Int) := by omega
      obtain ⟨fn, tmps, assign, body, hy, hR⟩ := hY _ k wr hJs (by rw [List.length_range]; exact hlt)
      generalize gI L k = z at *
      gi_wp2
      refine ⟨fun e => (by cases e), hR.mono ?_⟩
      rintro e W3 (⟨rfl, hJ3, hk3⟩ | ⟨rfl, hJx3⟩)
      · gi_wp2
        go_roundw
        case rel => exact ⟨k + 1, by omega, by go_num, by rw [List.range_succ]; exact hJ3, keepB_t hnx hk3⟩
        case measure => simp [intOf]; omega
      · gi_wp2
        refine bodyPost_ret (results_none rfl _ _ _) rfl ?_
        exact ⟨⟨_, rfl⟩, .inr ⟨_, ⟨k + 1, by omega, List.range_succ.symm⟩, hJx3⟩⟩
    · obtain rfl : k = L.length := by omega
      gi_wp2
      go_end0
      exact ⟨⟨_, rfl⟩, .inl ⟨_, rfl, hJs⟩⟩
theorem values_stops10 (n Bs : Nat) (A : Option Addr) (c : Nat) (L : List Int) (w0 w : World) (h1 : 1 ≤ L.length) (h2 : L.length ≤ 1048576) (hA : IntsA w0 A L) (hB : Below w0.heap.size w0 w) (hBl : Bs < w.heap.size) (hBs : w.cell? ⟨Bs, 0, none⟩ = some (.slice A L.length c)) :
    SeqStopsK Fence.wide n Try.prog 128 #[.pointer (some ⟨Bs, 0, none⟩)] (fun i : Nat => #[.int .i64 (gI L i)]) (KeepB w0.heap.size Bs) (fun ys => ys = List.range L.length) (fun pre => ∃ k, k ≤ L.length ∧ pre = List.range k) L.length w := fun l J Jx W hW hJ _ hY h0 =>
  values1 n l Bs A c L w0 h1 h2 hA J Jx W hJ hY (Nat.lt_of_lt_of_le hBl hW.size) ((hW.cell (p := ⟨Bs, 0, none⟩) hBl).trans hBs) (hB.trans (hW.mono hB.size)) h0
def took (X : List Int) (pre : List Nat) : List Int := pre.map (gI X)
theorem took_snoc (X : List Int) (pre : List Nat) (x : Nat) : took X (pre ++ [x]) = took X pre ++ [gI X x] := by simp [took]
theorem took_all (X : List Int) : took X (List.range X.length) = X := by
  apply List.ext_getElem (by simp [took])
  intro k h1 h2
  simp [took, gI, h2]
theorem took_len (X : List Int) (pre : List Nat) : (took X pre).length = pre.length := by simp [took]
set_option maxRecDepth 100000 in
set_option maxHeartbeats 8000000 in
theorem appendSeq_any (A : Option Addr) (c Bs : Nat) (X : List Int) (w : World) (hA : IntsA w A X) (h1 : 1 ≤ X.length) (h2 : X.length ≤ 1048576) (hBl : Bs < w.heap.size) (hBs : w.cell? ⟨Bs, 0, none⟩ = some (.slice A X.length c)) :
    Calls Try.prog 165 #[.slice none 0 0, .func (.func 128) #[] #[.pointer (some ⟨Bs, 0, none⟩)]] w (ListsI w X) := by
  obtain ⟨i0, hi0, hz0, hz1, hz2⟩ := info_parts infoI10
  have HT := Lib.hid (took_all X)
  refine (callsIn_wide (n := 6)).1 ?_
  refine callsIn_of_wp_marks Try.func165 rfl trivial ?_ rfl
  simp only [Try.ntmps165, List.size_toArray, List.length_cons, List.length_nil, Nat.reduceAdd, Nat.reduceSub, Array.replicate_succ, Array.replicate_zero, List.push_toArray, List.append_toArray, List.nil_append, List.cons_append]
  gi_wp2
  have bB := Boxed.new w 22 (.slice none 0 0)
  have hB0 : Below w.heap.size w (w.alloc (.cells #[.slice none 0 0] 22)) := below1 w _
  have hsz : (w.alloc (.cells #[.slice none 0 0] 22)).heap.size = w.heap.size + 1 := by simp
  have d0 := cell_on hB0 rfl hBs
  obtain ⟨W0, hW0⟩ : ∃ W0, w.alloc (.cells #[.slice none 0 0] 22) = W0 := ⟨_, rfl⟩
  rw [hW0] at bB hB0 hsz d0 ⊢
  clear hW0 hBs
  refine wpIn_rangeFunc_ownH rfl (by decide) (gf := 128) (lb := #[.pointer (some ⟨Bs, 0, none⟩)]) rfl trivial (enters_of Try.func128 (by kernel_rfl) rfl)
    (values_stops10 5 Bs A c X w W0 h1 h2 hA hB0 (by omega) d0) keepB_t (keepB_b (by omega) (by omega)) (Below.refl _ _) (fun _ => rfl)
    (fun pre W => (∃ v, Boxed W w.heap.size 22 v ∧ W.ownsRow (w.heap.size + 1) 3 1 v (took X pre).length (ints (took X pre)) ∧ True) ∧ Below w.heap.size w W)
    (fun _ _ _ => False)
    (OwnFrom.and (Own.from (holdsRow_own (w.heap.size + 1) w.heap.size 22 3 1 (fun pre => (took X pre).length) (fun pre => ints (took X pre)) (fun _ _ => True)) _) (ownFrom_below (Nat.le_refl _) (by omega)))
    (fun _ => ownFrom_pure _ (fun _ => False))
    ⟨⟨_, bB, World.ownsRow_nil _ _ _ _, trivial⟩, hB0⟩
    (fun x a' W => a' = { tmps := #[.slice none 0 0, .func (.func 128) #[] #[.pointer (some ⟨Bs, 0, none⟩)], .pointer (some ⟨w.heap.size, 0, none⟩), undef, .slice none 0 0, .int .i64 (gI X x), .func (.func 128) #[] #[.pointer (some ⟨Bs, 0, none⟩)], .int .i64 (gI X x), undef, undef, undef, undef, undef], defers := [] })
    (fun x a' => ownFrom_pure _ (fun _ => _))
    ?assign ?body ?done ?stop
  case assign =>
    rintro l pre x W K ⟨⟨v, bB4, own4, -⟩, hB4⟩ hK
    gi_wp2
    exact hK _ _ (kF_below (Below.refl _ _)) (KeepB.refl _ _ _) ⟨⟨v, bB4, own4, trivial⟩, hB4⟩ rfl
  case body =>
    rintro l pre x a' W hl hpl ⟨⟨v, bB4, own4, -⟩, hB4⟩ rfl hlt
    have hs4 := hB4.size
    have hlen := took_len X pre
    have HST := Lib.hid (took_snoc X pre x)
    have hplt : pre.length < X.length := hlt
    generalize took X pre = M at *
    generalize gI X x = z at *
    have hml : M.length < X.length := by omega
    clear hlen hplt hlt
    have cB := bB4.cell
    have fB := bB4.frozen
    have hrw := fun k hk => (own4.lt k hk).1
    have hs1 : w.heap.size ≤ w.heap.size := Nat.le_refl _
    have hlt1 : w.heap.size < W.heap.size := bB4.lt
    gi_wp2_with (gi_at_builtin; refine wpListIn_append_own _ rfl _ _ 22 rfl (w.heap.size + 1) 3 i0 (.int .i64 0) 1 8 Try.underlying22 hi0 hz0 hz1 hz2 rfl (by decide) _ _ _ rfl (own4.alloc _) ⟨W.heap.size, 0, none⟩ 1 1 [.int .i64 z] rfl rfl ?d1 ?d2 ?d3 ?d4 ?d5 ?_)
    case d1 => exact World.news_of_block (cs := #[.int .i64 z]) (t := 3) (fr := (0, 0)) (heap_alloc_new W _)
    case d2 => simp [Value.oneCell']
    case d3 => unfold maxLen; omega
    case d4 => omega
    case d5 => simp; omega
    intro v' w6 own6 hgrow _
    obtain ⟨g6, cp6, rfl⟩ := ownsRow_succ own6
    obtain ⟨hv1, hv2, hr2, hk2, hb2⟩ := bB4.appended (by decide) (own_base own4 (show w.heap.size ≤ w.heap.size + 1 by omega)) hs4 hs1 (own_base own6 (show w.heap.size ≤ w.heap.size + 1 by omega)) hgrow
    have hc6 := hv1.cell
    have hf6 := hv1.frozen
    have hv3 := row_other own6 (show w.heap.size < w.heap.size + 1 by omega) 0 (.slice (some ⟨g6, 0, none⟩) (M.length + 1) cp6)
    have hB7 := hB4.trans hb2
    have hKB : w6.heap[Bs]? = W.heap[Bs]? := ((hgrow.block _ (by simp; omega) (fun e => by have := hrw _ e.symm; omega))).trans (Below.heap_alloc _ _ _ (by omega))
    have hK7 : KeepB w.heap.size Bs W (w6.setCell ⟨w.heap.size, 0, none⟩ (.slice (some ⟨g6, 0, none⟩) (M.length + 1) cp6)) := ⟨hb2, (Below.heap_setCell w6 ⟨w.heap.size, 0, none⟩ _ _ (by simp; omega)).trans hKB⟩
    have hF7 := hk2.from W0.heap.size
    have R := Lib.hid (And.intro hv2 (And.intro hv3 (And.intro hB7 (And.intro hK7 hF7))))
    clear hv2 hr2 hk2 hb2 hv3 hB7 hK7 hF7 hKB hgrow own6 own4 hv1 bB4 hB4
    gi_wp2
    obtain ⟨r1, r2, r3, r4, r5⟩ := R.out
    refine ⟨r5, r4, ?_⟩
    simp only [HST.out, List.length_append, List.length_cons, List.length_nil, ints_snoc]
    exact ⟨⟨_, r1, r2, trivial⟩, r3⟩
  case done =>
    rintro D zs W hD rfl ⟨⟨v, bB4, own4, -⟩, hB4⟩ hK
    have cB := bB4.cell
    have hs9 := hB0.size
    rw [HT.out] at own4
    gi_wp2
    refine ⟨by simp, .inl ⟨_, _, rfl, run_takeDeferred hK, ?_⟩⟩
    exact ⟨_, results_tmp rfl _ _ _, v, rfl, ownsRow_putObj (own_base own4 (show w.heap.size ≤ w.heap.size + 1 by omega)) _ hK rfl, hB4.trans (belowK_b (w := w) (Nat.le_refl _) W D _ _ (by omega) hK rfl rfl)⟩
  case stop =>
    rintro D k pre W hD hpre h hK
    exact h.elim
theorem collect_any (A : Option Addr) (c Bs : Nat) (X : List Int) (w : World) (hA : IntsA w A X) (h1 : 1 ≤ X.length) (h2 : X.length ≤ 1048576) (hBl : Bs < w.heap.size) (hBs : w.cell? ⟨Bs, 0, none⟩ = some (.slice A X.length c)) :
    Calls Try.prog 126 #[.func (.func 128) #[] #[.pointer (some ⟨Bs, 0, none⟩)]] w (ListsI w X) := by
  have H := Lib.hid (appendSeq_any A c Bs X w hA h1 h2 hBl hBs)
  unfold ListsI at H
  clear hBs hA
  go_enter Try.func126, Try.ntmps126
  go_wp2_with fail
  refine H.out.mono ?_
  rintro e w1 ⟨v, rfl, own, hb⟩
  have R := Lib.hid (And.intro own hb)
  clear own hb
  go_wp2_with fail
  go_ret
  exact ⟨_, rfl, R.out.1, R.out.2⟩
end Go.Proofs.Ythoniopkeiifnaa

/-! PtFacts -/
namespace Go.Proofs.Ythoniopkeiifnaa
open Go.RowKit

theorem cross_flip (ax ay bx by' cx cy : Int) : crossI ax ay bx by' cx cy = -crossI bx by' ax ay cx cy := by
  unfold crossI
  simp only [Int.mul_sub, Int.mul_comm]
  omega
theorem cross_turn (ax ay bx by' cx cy : Int) : crossI ax ay bx by' cx cy = crossI bx by' cx cy ax ay := by
  unfold crossI
  simp only [Int.mul_sub, Int.mul_comm]
  omega
theorem cross_swap (ax ay bx by' cx cy : Int) : crossI ax ay bx by' cx cy = -crossI ax ay cx cy bx by' := by
  unfold crossI
  simp only [Int.mul_sub, Int.mul_comm]
  omega
theorem steps_flip (ax ay bx by' : Int) : stepsN bx by' ax ay = stepsN ax ay bx by' := by
  unfold stepsN
  have h1 : (ax - bx).natAbs = (bx - ax).natAbs := by omega
  have h2 : (ay - by').natAbs = (by' - ay).natAbs := by omega
  rw [h1, h2]
theorem steps_zero (ax ay bx by' : Int) : stepsN ax ay bx by' = 0 ↔ ax = bx ∧ ay = by' := by
  unfold stepsN
  rw [Nat.gcd_eq_zero_iff]
  omega
/-- The steps divide both differences. -/
theorem steps_div (ax ay bx by' : Int) : (stepsN ax ay bx by' : Int) * Int.tdiv (bx - ax) (stepsN ax ay bx by') = bx - ax ∧ (stepsN ax ay bx by' : Int) * Int.tdiv (by' - ay) (stepsN ax ay bx by') = by' - ay := by
  have h1 : (stepsN ax ay bx by' : Int) ∣ bx - ax := Int.ofNat_dvd_left.2 (Nat.gcd_dvd_left _ _)
  have h2 : (stepsN ax ay bx by' : Int) ∣ by' - ay := Int.ofNat_dvd_left.2 (Nat.gcd_dvd_right _ _)
  exact ⟨Int.mul_tdiv_cancel' h1, Int.mul_tdiv_cancel' h2⟩
/-- One step is no multiple. -/
theorem step_one {ax ay bx by' qx qy : Int} {n : Nat} (hn : 0 < n) (e : stepsN ax ay bx by' = n) (hx : (n : Int) * qx = bx - ax) (hy : (n : Int) * qy = by' - ay) : Nat.gcd qx.natAbs qy.natAbs = 1 := by
  have h : Nat.gcd (n * qx.natAbs) (n * qy.natAbs) = n := by
    have e1 : n * qx.natAbs = (bx - ax).natAbs := by rw [← hx, Int.natAbs_mul]; rfl
    have e2 : n * qy.natAbs = (by' - ay).natAbs := by rw [← hy, Int.natAbs_mul]; rfl
    rw [e1, e2]; exact e
  rw [Nat.gcd_mul_left] at h
  exact Nat.eq_of_mul_eq_mul_left hn (by omega)
/-- A point on the way lies on the line, and in the box. -/
theorem cross_way (ax ay qx qy : Int) (n i : Int) : crossI ax ay (ax + n * qx) (ay + n * qy) (ax + qx * i) (ay + qy * i) = 0 := by
  unfold crossI
  have e1 : ax + n * qx - ax = n * qx := by omega
  have e2 : ay + qy * i - ay = qy * i := by omega
  have e3 : ay + n * qy - ay = n * qy := by omega
  have e4 : ax + qx * i - ax = qx * i := by omega
  rw [e1, e2, e3, e4]
  have : n * qx * (qy * i) = n * qy * (qx * i) := by
    rw [Int.mul_assoc, Int.mul_assoc, ← Int.mul_assoc qx, ← Int.mul_assoc qy, Int.mul_comm qx qy]
  omega
theorem box_way (a q : Int) (n i : Nat) (h : i ≤ n) : min a (a + n * q) ≤ a + q * i ∧ a + q * i ≤ max a (a + n * q) := by
  have hi : (i : Int) ≤ n := by omega
  rcases Int.le_total 0 q with hq | hq
  · have h1 : 0 ≤ q * (i : Int) := Int.mul_nonneg hq (by omega)
    have h2 : q * (i : Int) ≤ q * n := Int.mul_le_mul_of_nonneg_left hi hq
    rw [Int.mul_comm q n] at h2
    generalize q * (i : Int) = u at *
    generalize (n : Int) * q = v at *
    omega
  · have h1 : q * (i : Int) ≤ 0 := Int.mul_nonpos_of_nonpos_of_nonneg hq (by omega)
    have h2 : q * (n : Int) ≤ q * i := Int.mul_le_mul_of_nonpos_left hq hi
    rw [Int.mul_comm q n] at h2
    generalize q * (i : Int) = u at *
    generalize (n : Int) * q = v at *
    omega
theorem square_zero (x y : Int) : x * x + y * y = 0 ↔ x = 0 ∧ y = 0 := by
  have h1 : 0 ≤ x * x := by rw [← Int.natAbs_mul_self (a := x)]; omega
  have h2 : 0 ≤ y * y := by rw [← Int.natAbs_mul_self (a := y)]; omega
  constructor
  · intro h
    have e1 : x * x = 0 := by omega
    have e2 : y * y = 0 := by omega
    exact ⟨(Int.mul_eq_zero.1 e1).elim id id, (Int.mul_eq_zero.1 e2).elim id id⟩
  · rintro ⟨rfl, rfl⟩; rfl
theorem sgn_minus (n : Int) : sgn (-n) = -sgn n := by
  rcases sgn_cases n with ⟨h, e⟩ | ⟨h, e⟩ | ⟨h, e⟩
  · rw [e, sgn_neg (by omega)]
  · rw [e, sgn_pos (by omega)]; rfl
  · rw [h]; rfl
theorem sgn_mul_neg (p q : Int) : sgn p * sgn q < 0 ↔ p * q < 0 := by
  rcases sgn_cases p with ⟨h, e⟩ | ⟨h, e⟩ | ⟨h, e⟩ <;> rcases sgn_cases q with ⟨h2, e2⟩ | ⟨h2, e2⟩ | ⟨h2, e2⟩ <;> rw [e, e2]
  · have := Int.mul_pos h h2; constructor <;> omega
  · have := Int.mul_neg_of_pos_of_neg h h2; constructor <;> omega
  · rw [h2]; simp
  · have := Int.mul_neg_of_neg_of_pos h h2; constructor <;> omega
  · have := Int.mul_pos_of_neg_of_neg h h2; constructor <;> omega
  · rw [h2]; simp
  · rw [h]; simp
  · rw [h]; simp
  · rw [h]; simp
/-- What meets depends on the shared ends as a set. -/
theorem same_set {M N : List (Int × Int)} (h : ∀ p, p ∈ M ↔ p ∈ N) : M.isEmpty = N.isEmpty ∧ sameAll M = sameAll N := by
  have key : ∀ M : List (Int × Int), sameAll M = true ↔ ∀ p ∈ M, ∀ q ∈ M, p = q := by
    intro M
    cases M with
    | nil => simp [sameAll]
    | cons x t =>
      simp only [sameAll, List.all_eq_true, Bool.and_eq_true, beq_iff_eq]
      constructor
      · intro h p hp q hq
        have e : ∀ r ∈ x :: t, r = x := fun r hr => by
          rcases List.mem_cons.1 hr with rfl | hr
          · rfl
          · exact Prod.ext (h r hr).1 (h r hr).2
        rw [e p hp, e q hq]
      · intro h y hy
        have := h y (List.mem_cons_of_mem _ hy) x (List.mem_cons_self)
        rw [this]; exact ⟨rfl, rfl⟩
  constructor
  · cases M with
    | nil =>
      cases N with
      | nil => rfl
      | cons y t => exact absurd ((h y).2 (List.mem_cons_self)) (by simp)
    | cons x t =>
      cases N with
      | nil => exact absurd ((h x).1 (List.mem_cons_self)) (by simp)
      | cons y u => rfl
  · have : sameAll M = true ↔ sameAll N = true := by
      rw [key, key]
      constructor
      · intro g p hp q hq; exact g p ((h p).2 hp) q ((h q).2 hq)
      · intro g p hp q hq; exact g p ((h p).1 hp) q ((h q).1 hq)
    cases h1 : sameAll M <;> cases h2 : sameAll N <;> simp_all
theorem meetI_of {a b c d a' b' c' d' : Int × Int} (ho : (opp a b c d && opp c d a b) = (opp a' b' c' d' && opp c' d' a' b')) (h : ∀ p, p ∈ sharedS a b c d ↔ p ∈ sharedS a' b' c' d') : meetI a b c d = meetI a' b' c' d' := by
  unfold meetI
  rw [ho, (same_set h).1, (same_set h).2]
theorem meetI_swap (a b c d : Int × Int) : meetI a b c d = meetI c d a b :=
  meetI_of (Bool.and_comm _ _) fun p => by
    unfold sharedS
    rw [List.mem_append, List.mem_append]
    exact Or.comm
theorem crossP_flip (a b p : Int × Int) : crossP b a p = -crossP a b p := by
  unfold crossP
  rw [cross_flip b.1]
theorem onP_flip (a b p : Int × Int) : onP b a p = onP a b p := by
  have hz : (crossI b.1 b.2 a.1 a.2 p.1 p.2 == 0) = (crossI a.1 a.2 b.1 b.2 p.1 p.2 == 0) := by
    rw [cross_flip b.1]
    cases h : (crossI a.1 a.2 b.1 b.2 p.1 p.2 == 0) <;> simp_all <;> omega
  unfold onP onI boxB
  rw [hz, Int.min_comm b.1, Int.max_comm b.1, Int.min_comm b.2, Int.max_comm b.2]
theorem opp_flip (a b c d : Int × Int) : opp b a d c = opp a b c d := by
  unfold opp
  rw [crossP_flip a b d, crossP_flip a b c, sgn_minus, sgn_minus, Int.neg_mul_neg, Int.mul_comm]
theorem meetI_flip (a b c d : Int × Int) : meetI b a d c = meetI a b c d :=
  meetI_of (by rw [opp_flip a b, opp_flip c d]) fun p => by
    simp only [sharedS, List.mem_append, List.mem_filter, List.mem_cons, List.not_mem_nil, or_false, onP_flip]
    constructor
    · rintro (⟨h1 | h1, h2⟩ | ⟨h1 | h1, h2⟩)
      · exact .inl ⟨.inr h1, h2⟩
      · exact .inl ⟨.inl h1, h2⟩
      · exact .inr ⟨.inr h1, h2⟩
      · exact .inr ⟨.inl h1, h2⟩
    · rintro (⟨h1 | h1, h2⟩ | ⟨h1 | h1, h2⟩)
      · exact .inl ⟨.inr h1, h2⟩
      · exact .inl ⟨.inl h1, h2⟩
      · exact .inr ⟨.inr h1, h2⟩
      · exact .inr ⟨.inl h1, h2⟩
theorem eqQ_comm (a b : Int × Int) : eqQ b a = eqQ a b := by
  unfold eqQ
  rw [Bool.beq_comm (a := b.1), Bool.beq_comm (a := b.2)]
theorem meetV_swap (a b c d : Int × Int) : meetV c d a b = meetV a b c d := by
  unfold meetV
  rw [meetI_swap a b c d]
  cases okQ a <;> cases okQ b <;> cases okQ c <;> cases okQ d <;> cases eqQ a b <;> cases eqQ c d <;> rfl
theorem meetV_flip (a b c d : Int × Int) : meetV b a d c = meetV a b c d := by
  unfold meetV
  rw [meetI_flip a b c d, eqQ_comm a b, eqQ_comm c d]
  cases okQ a <;> cases okQ b <;> cases okQ c <;> cases okQ d <;> cases eqQ a b <;> cases eqQ c d <;> rfl
theorem meetV_along {a b : Int × Int} (ha : okQ a = true) (hb : okQ b = true) (h : eqQ a b = false) : meetV a b b a = 3 := by
  have hn : ¬ a = b := fun e => by rw [e] at h; simp [eqQ] at h
  have h1 : opp a b b a = false := by
    have : crossP a b b = 0 := by simp [crossP, crossI, Int.mul_comm]
    simp [opp, this, sgn]
  have hS : sharedS a b b a = [a, b, b, a] := by
    simp [sharedS, on_left, on_right]
  have hs : sameAll [a, b, b, a] = false := by
    simp only [eqQ] at h
    simp only [sameAll, List.all_cons, List.all_nil]
    rw [Bool.beq_comm (a := b.1), Bool.beq_comm (a := b.2), h]; rfl
  unfold meetV meetI
  rw [ha, hb, h, eqQ_comm a b, h, h1, hS, hs]; rfl
/-- A crossing, by the four cross products. -/
theorem meetV_cross {a b c d : Int × Int} (ha : okQ a = true) (hb : okQ b = true) (hc : okQ c = true) (hd : okQ d = true) :
    (meetV a b c d == 2) = (decide (crossP a b c * crossP a b d < 0) && decide (crossP c d a * crossP c d b < 0)) := by
  have e1 : ∀ a b c d : Int × Int, opp a b c d = decide (crossP a b c * crossP a b d < 0) := fun a b c d => by
    unfold opp; simp only [sgn_mul_neg]
  rw [← e1, ← e1]
  have hz : ∀ a b c d : Int × Int, eqQ a b = true → opp a b c d = false := fun a b c d h => by
    simp only [eqQ, Bool.and_eq_true, beq_iff_eq] at h
    have : ∀ p, crossP a b p = 0 := fun p => by simp [crossP, crossI, h.1, h.2]
    simp [opp, this, sgn]
  unfold meetV
  rw [ha, hb, hc, hd]
  cases h1 : eqQ a b
  · cases h2 : eqQ c d
    · unfold meetI
      cases opp a b c d && opp c d a b <;> cases (sharedS a b c d).isEmpty <;> cases sameAll (sharedS a b c d) <;> rfl
    · rw [hz c d a b h2]; cases opp a b c d <;> rfl
  · rw [hz a b c d h1]; rfl
end Go.Proofs.Ythoniopkeiifnaa

/-! Geo -/
namespace Go.Proofs.Ythoniopkeiifnaa
open Go.RowKit

theorem mul_signs (x y : Int) : (0 < x → 0 < y → 0 < x * y) ∧ (x < 0 → y < 0 → 0 < x * y) ∧ (0 < x → y < 0 → x * y < 0) ∧ (x < 0 → 0 < y → x * y < 0) ∧ (x = 0 → x * y = 0) ∧ (y = 0 → x * y = 0) := by
  refine ⟨Int.mul_pos, Int.mul_pos_of_neg_of_neg, Int.mul_neg_of_pos_of_neg, Int.mul_neg_of_neg_of_pos, fun h => by rw [h, Int.zero_mul], fun h => by rw [h, Int.mul_zero]⟩
theorem prop_le {p q r s : Nat} (h : p * s = q * r) (hp : 0 < p) (hr : p ≤ r) : q ≤ s := by
  rcases Nat.lt_or_ge s q with h1 | h1
  · exfalso
    have h2 : p * s < p * q := Nat.mul_lt_mul_of_pos_left h1 hp
    have h3 : q * p ≤ q * r := Nat.mul_le_mul_left q hr
    rw [Nat.mul_comm q p] at h3
    omega
  · exact h1
theorem prop_ge {p q r s : Nat} (h : p * s = q * r) (hp : 0 < p) (hr : r ≤ p) : s ≤ q := by
  rcases Nat.lt_or_ge q s with h1 | h1
  · exfalso
    have h2 : p * q < p * s := Nat.mul_lt_mul_of_pos_left h1 hp
    have h3 : q * r ≤ q * p := Nat.mul_le_mul_left q hr
    rw [Nat.mul_comm q p] at h3
    omega
  · exact h1
theorem opp_x {ux uy vx vy : Int} (h : ux * vy = uy * vx) (hx : (0 < ux ∧ vx < 0) ∨ (ux < 0 ∧ 0 < vx)) :
    (0 < uy → vy < 0) ∧ (uy < 0 → 0 < vy) ∧ (uy = 0 → vy = 0) ∧ (ux.natAbs ≤ vx.natAbs → uy.natAbs ≤ vy.natAbs) ∧ (vx.natAbs ≤ ux.natAbs → vy.natAbs ≤ uy.natAbs) := by
  have hn : ux.natAbs * vy.natAbs = uy.natAbs * vx.natAbs := by rw [← Int.natAbs_mul, ← Int.natAbs_mul, h]
  have hp : 0 < ux.natAbs := by omega
  have m1 := mul_signs ux vy
  have m2 := mul_signs uy vx
  rw [h] at m1
  generalize uy * vx = z at *
  refine ⟨?_, ?_, ?_, prop_le hn hp, prop_ge hn hp⟩
  · intro hu
    rcases Int.lt_trichotomy vy 0 with hz | hz | hz
    · exact hz
    · exfalso
      rcases hx with hx | hx
      · have := m2.2.2.1 hu hx.2; have := m1.2.2.2.2.2 hz; omega
      · have := m2.1 hu hx.2; have := m1.2.2.2.2.2 hz; omega
    · exfalso
      rcases hx with hx | hx
      · have := m2.2.2.1 hu hx.2; have := m1.1 hx.1 hz; omega
      · have := m2.1 hu hx.2; have := m1.2.2.2.1 hx.1 hz; omega
  · intro hu
    rcases Int.lt_trichotomy vy 0 with hz | hz | hz
    · exfalso
      rcases hx with hx | hx
      · have := m2.2.1 hu hx.2; have := m1.2.2.1 hx.1 hz; omega
      · have := m2.2.2.2.1 hu hx.2; have := m1.2.1 hx.1 hz; omega
    · exfalso
      rcases hx with hx | hx
      · have := m2.2.1 hu hx.2; have := m1.2.2.2.2.2 hz; omega
      · have := m2.2.2.2.1 hu hx.2; have := m1.2.2.2.2.2 hz; omega
    · exact hz
  · intro hu
    have := m2.2.2.2.2.1 hu
    rcases Int.lt_trichotomy vy 0 with hz | hz | hz
    · exfalso
      rcases hx with hx | hx
      · have := m1.2.2.1 hx.1 hz; omega
      · have := m1.2.1 hx.1 hz; omega
    · exact hz
    · exfalso
      rcases hx with hx | hx
      · have := m1.1 hx.1 hz; omega
      · have := m1.2.2.2.1 hx.1 hz; omega
/-- x is between a and b. -/
def bt (a b x : Int) : Prop := (a ≤ x ∧ x ≤ b) ∨ (b ≤ x ∧ x ≤ a)
/-- Three points 0, u, u + v on a line: one is between the others. -/
theorem between3 {ux uy vx vy : Int} (h : ux * vy = uy * vx) :
    (bt 0 (ux + vx) ux ∧ bt 0 (uy + vy) uy) ∨ (bt ux (ux + vx) 0 ∧ bt uy (uy + vy) 0) ∨ (bt 0 ux (ux + vx) ∧ bt 0 uy (uy + vy)) := by
  unfold bt
  by_cases hx : (0 < ux ∧ vx < 0) ∨ (ux < 0 ∧ 0 < vx)
  · obtain ⟨k1, k2, k3, k4, k5⟩ := opp_x h hx
    right
    rcases Nat.le_total ux.natAbs vx.natAbs with hm | hm
    · have := k4 hm
      left
      constructor
      · omega
      · rcases Int.lt_trichotomy uy 0 with hu | hu | hu
        · have := k2 hu; omega
        · have := k3 hu; omega
        · have := k1 hu; omega
    · have := k5 hm
      right
      constructor
      · omega
      · rcases Int.lt_trichotomy uy 0 with hu | hu | hu
        · have := k2 hu; omega
        · have := k3 hu; omega
        · have := k1 hu; omega
  · by_cases hy : (0 < uy ∧ vy < 0) ∨ (uy < 0 ∧ 0 < vy)
    · obtain ⟨k1, k2, k3, k4, k5⟩ := opp_x h.symm hy
      right
      rcases Nat.le_total uy.natAbs vy.natAbs with hm | hm
      · have := k4 hm
        left
        constructor
        · rcases Int.lt_trichotomy ux 0 with hu | hu | hu
          · have := k2 hu; omega
          · have := k3 hu; omega
          · have := k1 hu; omega
        · omega
      · have := k5 hm
        right
        constructor
        · rcases Int.lt_trichotomy ux 0 with hu | hu | hu
          · have := k2 hu; omega
          · have := k3 hu; omega
          · have := k1 hu; omega
        · omega
    · left
      constructor <;> omega
theorem boxB_iff (ax ay bx by' px py : Int) : boxB ax ay bx by' px py = true ↔ bt ax bx px ∧ bt ay by' py := by
  unfold bt boxB
  simp only [Bool.and_eq_true, inB_spec]
  omega
theorem onP_iff (a b p : Int × Int) : onP a b p = true ↔ crossP a b p = 0 ∧ bt a.1 b.1 p.1 ∧ bt a.2 b.2 p.2 := by
  unfold onP onI crossP
  rw [Bool.and_eq_true, beq_iff_eq, boxB_iff]
/-- One of three points on a line is between the others. -/
theorem on_line {a b c : Int × Int} (h : crossP a b c = 0) : onP a c b = true ∨ onP b c a = true ∨ onP a b c = true := by
  have h' : (b.1 - a.1) * (c.2 - b.2) = (b.2 - a.2) * (c.1 - b.1) := by
    unfold crossP crossI at h
    have e1 : c.2 - a.2 = (b.2 - a.2) + (c.2 - b.2) := by omega
    have e2 : c.1 - a.1 = (b.1 - a.1) + (c.1 - b.1) := by omega
    rw [e1, e2, Int.mul_add, Int.mul_add, Int.mul_comm (b.2 - a.2) (b.1 - a.1)] at h
    omega
  have f1 : crossP a c b = 0 := by
    have := h
    unfold crossP at this ⊢
    rw [cross_swap] at this; omega
  have f2 : crossP b c a = 0 := by
    have := h
    unfold crossP at this ⊢
    rw [cross_turn] at this; exact this
  simp only [onP_iff]
  have := between3 h'
  unfold bt at *
  rcases this with h1 | h1 | h1
  · exact .inl ⟨f1, by omega, by omega⟩
  · exact .inr (.inl ⟨f2, by omega, by omega⟩)
  · exact .inr (.inr ⟨h, by omega, by omega⟩)
theorem eqQ_iff (p q : Int × Int) : eqQ p q = true ↔ p = q := by
  unfold eqQ
  rw [Bool.and_eq_true, beq_iff_eq, beq_iff_eq, Prod.ext_iff]
theorem sameAll_iff (x : Int × Int) (t : List (Int × Int)) : sameAll (x :: t) = true ↔ ∀ y ∈ x :: t, y = x := by
  simp only [sameAll, List.all_eq_true, Bool.and_eq_true, beq_iff_eq]
  constructor
  · intro h y hy
    rcases List.mem_cons.1 hy with rfl | hy
    · rfl
    · exact Prod.ext (h y hy).1 (h y hy).2
  · intro h y hy
    rw [h y (List.mem_cons_of_mem _ hy)]
    exact ⟨rfl, rfl⟩
theorem meet_one {a b c d : Int × Int} (h : meetI a b c d = 1) : ∀ p q, p ∈ sharedS a b c d → q ∈ sharedS a b c d → p = q := by
  unfold meetI at h
  cases h1 : (opp a b c d && opp c d a b)
  · rw [h1] at h
    cases hS : sharedS a b c d with
    | nil => intro p q hp; simp at hp
    | cons x t =>
      rw [hS] at h
      cases h2 : sameAll (x :: t)
      · rw [h2] at h; simp at h
      · have := (sameAll_iff x t).1 h2
        intro p q hp hq
        rw [this p hp, this q hq]
  · rw [h1] at h; simp at h
theorem mem_shared {a b c d p : Int × Int} : p ∈ sharedS a b c d ↔ ((p = a ∨ p = b) ∧ onP c d p = true) ∨ ((p = c ∨ p = d) ∧ onP a b p = true) := by
  simp [sharedS, List.mem_filter]
/-- Two sides that touch at their common corner: on a line only if the corner is between the others. -/
theorem touch_between {a b c : Int × Int} (hab : a ≠ b) (hbc : b ≠ c) (h : meetI a b b c = 1) (hc : crossP a b c = 0) : onP a c b = true := by
  have hb : b ∈ sharedS a b b c := mem_shared.2 (.inl ⟨.inr rfl, on_left b c⟩)
  rcases on_line hc with h1 | h1 | h1
  · exact h1
  · exact absurd (meet_one h a b (mem_shared.2 (.inl ⟨.inl rfl, h1⟩)) hb) hab
  · exact absurd (meet_one h b c hb (mem_shared.2 (.inr ⟨.inr rfl, h1⟩))) hbc

/-! ### A polygon's sides -/
theorem polyB_spec {L : List (Int × Int)} (h : polyB L = true) : (3 ≤ L.length ∧ L.length ≤ 10) ∧ allOk L = true ∧ (∀ i, i < L.length → gt L i ≠ gt L (nx L i)) ∧
    (∀ i k, i < k → k < L.length → pairM L i k = bif adjB L.length i k then 1 else 0) := by
  simp only [polyB, Bool.and_eq_true] at h
  obtain ⟨⟨⟨h1, h2⟩, h3⟩, h4⟩ := h
  have hn := inB_spec.1 h1
  refine ⟨by omega, h2, fun i hi he => ?_, fun i k hi hk => ?_⟩
  · have := List.all_eq_true.1 h3 i (List.mem_range.2 hi)
    rw [show eqQ (gt L i) (gt L ((i + 1) % L.length)) = true from (eqQ_iff _ _).2 he] at this
    simp at this
  · have h5 := List.all_eq_true.1 (List.all_eq_true.1 h4 i (List.mem_range.2 (by omega))) k (List.mem_range.2 hk)
    simp only [Bool.or_eq_true, decide_eq_true_eq] at h5
    rcases h5 with h5 | h5
    · omega
    · unfold pairOk at h5
      cases ha : adjB L.length i k
      · rw [ha] at h5; simpa using h5
      · rw [ha] at h5; simpa using h5
theorem nx_lt {L : List (Int × Int)} (h : 0 < L.length) (i : Nat) : nx L i < L.length := Nat.mod_lt _ h
theorem pv_lt {L : List (Int × Int)} (h : 0 < L.length) (i : Nat) : pv L i < L.length := Nat.mod_lt _ h
theorem nx_eq {L : List (Int × Int)} {i : Nat} (hi : i < L.length) : nx L i = if i + 1 = L.length then 0 else i + 1 := by
  unfold nx
  by_cases h : i + 1 = L.length
  · rw [if_pos h, h, Nat.mod_self]
  · rw [if_neg h, Nat.mod_eq_of_lt (by omega)]
theorem pv_eq {L : List (Int × Int)} {i : Nat} (hi : i < L.length) : pv L i = if i = 0 then L.length - 1 else i - 1 := by
  unfold pv
  by_cases h : i = 0
  · rw [if_pos h, h, Nat.zero_add, Nat.mod_eq_of_lt (by omega)]
  · rw [if_neg h, show i + L.length - 1 = (i - 1) + L.length by omega, Nat.add_mod_right, Nat.mod_eq_of_lt (by omega)]
theorem nx_pv {L : List (Int × Int)} {i : Nat} (hi : i < L.length) : nx L (pv L i) = i := by
  rw [nx_eq (pv_lt (by omega) i), pv_eq hi]
  by_cases h : i = 0
  · rw [if_pos h]; rw [if_pos (by omega)]; omega
  · rw [if_neg h]; rw [if_neg (by omega)]; omega
/-- The side to a corner and the side from it touch. -/
theorem meet_next {L : List (Int × Int)} (h : polyB L = true) {i : Nat} (hi : i < L.length) : meetI (gt L (pv L i)) (gt L i) (gt L i) (gt L (nx L i)) = 1 := by
  obtain ⟨hn, _, _, hp⟩ := polyB_spec h
  by_cases h0 : i = 0
  · subst h0
    have h1 := hp 0 (L.length - 1) (by omega) (by omega)
    have e : adjB L.length 0 (L.length - 1) = true := by simp [adjB]
    rw [e] at h1
    have h2 : nx L (L.length - 1) = 0 := by rw [nx_eq (by omega), if_pos (by omega)]
    have h3 : pv L 0 = L.length - 1 := by rw [pv_eq hi, if_pos rfl]
    rw [h3, meetI_swap]
    unfold pairM at h1
    rw [show (L.length - 1 + 1) % L.length = nx L (L.length - 1) from rfl, h2] at h1
    exact h1
  · have h1 := hp (i - 1) i (by omega) hi
    have e : adjB L.length (i - 1) i = true := by simp [adjB]; omega
    rw [e] at h1
    have h3 : pv L i = i - 1 := by rw [pv_eq hi, if_neg h0]
    rw [h3]
    unfold pairM at h1
    rw [show (i - 1 + 1) % L.length = nx L (i - 1) from rfl, nx_eq (by omega), if_neg (by omega), show i - 1 + 1 = i by omega] at h1
    exact h1
theorem on_bent {L : List (Int × Int)} (h : polyB L = true) {i : Nat} (hi : i < L.length) : onQ (gt L (pv L i)) (gt L (nx L i)) (gt L i) = !(bentB L i) := by
  obtain ⟨hn, hok, hne, _⟩ := polyB_spec h
  rw [onQ_ok (gt_ok hok _) (gt_ok hok _) (gt_ok hok _), bentB, Bool.not_not]
  have h1 := hne (pv L i) (pv_lt (by omega) i)
  rw [nx_pv hi] at h1
  rw [Bool.eq_iff_iff, beq_iff_eq]
  constructor
  · intro h2
    have := ((onP_iff _ _ _).1 h2).1
    unfold crossP at this ⊢
    rw [cross_swap, this]; rfl
  · exact touch_between h1 (hne i hi) (meet_next h hi)
theorem stP_range {L : List (Int × Int)} (h : polyB L = true) : ∀ k, k ≤ L.length → stP L (List.range k) = (if k = 0 then L.length - 1 else k - 1, straightTill L k) := by
  intro k
  induction k with
  | zero => intro _; rfl
  | succ k ih =>
    intro hk
    rw [List.range_succ, stP_snoc, ih (by omega)]
    unfold stStep
    have e : (if k = 0 then L.length - 1 else k - 1) = pv L k := (pv_eq (by omega)).symm
    simp only [e, on_bent h (show k < L.length by omega)]
    rw [if_neg (by omega), show k + 1 - 1 = k by omega, straightTill]
    cases bentB L k <;> rfl
theorem stP_straight {L : List (Int × Int)} (h : polyB L = true) : (stP L (List.range L.length)).2 = straightL L := by
  rw [stP_range h _ (Nat.le_refl _)]; rfl

theorem impl_straight (A : Option Addr) (c : Nat) (L : List (Int × Int)) (w : World) (hA : PtsA w A L) (hL : L.length ≤ 1048576) :
    Calls Try.prog 112 #[.slice A L.length c] w (Lists w (straightV L)) := by
  cases hp : polyB L
  · have HU : Hid (Lists w (straightV L) = fun e w' => ∃ v, e = .returned v ∧ w'.ownsRow w.heap.size 45 2 v 0 [] ∧ Below w.heap.size w w') := by
      show _ = _
      unfold straightV
      rw [hp]; rfl
    have PC := Lib.hid (impl_poly A c L w hA hL)
    rw [hp] at PC
    go_enter Try.func112, Try.ntmps112
    go_wp2_with fail
    refine PC.out.mono ?_
    rintro e w1 ⟨rfl, hb1⟩
    go_wp2_with fail
    go_ret
    rw [HU.out]
    exact ⟨_, rfl, World.ownsRow_nil _ _ _ _, hb1⟩
  · have := impl_straight_yes A c L w hA hp
    rw [stP_straight hp] at this
    unfold straightV
    rw [hp]
    exact this
end Go.Proofs.Ythoniopkeiifnaa

/-! Clone -/
namespace Go.Proofs.Ythoniopkeiifnaa
open Go.RowKit

theorem ptsA_news {w : World} {g : Nat} {L : List (Int × Int)} (h : PtsA w (some ⟨g, 0, none⟩) L) (k : Nat) : ∀ j u, (flat (L.drop k))[j]? = some u → w.cell? (Addr.add ⟨g, k * 2, none⟩ j) = some u := by
  intro j u hu
  have hj : j < (flat (L.drop k)).length := by
    rcases Nat.lt_or_ge j (flat (L.drop k)).length with h1 | h1
    · exact h1
    · rw [List.getElem?_eq_none h1] at hu; cases hu
  rw [flat_len, List.length_drop] at hj
  have hq : k + j / 2 < L.length := by omega
  obtain ⟨g', hg', h1, h2⟩ := h (k + j / 2) hq
  cases hg'
  have hf := flat_at (L.drop k) (j / 2) (by rw [List.length_drop]; omega)
  have hadd : Addr.add ⟨g, k * 2, none⟩ j = ⟨g, k * 2 + j, none⟩ := by
    unfold Addr.add
    split
    · rename_i h0; subst h0; rfl
    · rfl
  rw [hadd]
  have hd : (L.drop k)[j / 2]'(by rw [List.length_drop]; omega) = L[k + j / 2] := List.getElem_drop ..
  rw [hd] at hf
  rcases Nat.mod_two_eq_zero_or_one j with hm | hm
  · have e : j = j / 2 * 2 := by omega
    have e2 : k * 2 + j = (k + j / 2) * 2 := by omega
    rw [e2, h1, ← hu]
    rw [show (flat (L.drop k))[j]? = (flat (L.drop k))[j / 2 * 2]? from by rw [← e]]
    exact hf.1.symm
  · have e : j = j / 2 * 2 + 1 := by omega
    have e2 : k * 2 + j = (k + j / 2) * 2 + 1 := by omega
    rw [e2, h2, ← hu]
    rw [show (flat (L.drop k))[j]? = (flat (L.drop k))[j / 2 * 2 + 1]? from by rw [← e]]
    exact hf.2.symm
theorem flat_one (L : List (Int × Int)) : ∀ u ∈ flat L, u.oneCell' = true := by
  intro u hu
  simp only [flat, List.mem_flatMap, List.mem_cons, List.not_mem_nil, or_false] at hu
  obtain ⟨p, -, h | h⟩ := hu <;> subst h <;> rfl

set_option maxRecDepth 100000 in
set_option maxHeartbeats 1000000 in
theorem clone_any (A : Option Addr) (c : Nat) (L : List (Int × Int)) (w : World) (hA : PtsA w A L) (h1 : 1 ≤ L.length) (h2 : L.length ≤ 1048576) :
    Calls Try.prog 172 #[.slice A L.length c] w (Lists w L) := by
  obtain ⟨i0, hi0, hz0, hz1, hz2⟩ := info_parts infoPt
  obtain ⟨g, rfl, -⟩ := hA 0 h1
  have HU : Hid (Lists w L = fun e w' => ∃ v, e = .returned v ∧ w'.ownsRow w.heap.size 45 2 v L.length (flat L) ∧ Below w.heap.size w w') := rfl
  have hn := Lib.run_eql_slice_nil (P := Try.prog)
  have own0 := World.ownsRow_lit (base := w.heap.size) (e := 45) (size := 2) w #[] 0 (Nat.le_refl _) (by unfold maxLen; omega) (by rfl)
  have hb0 := below1 w (.cells #[] 45)
  have hA1 := ptsA_on hA hb0
  go_enter Try.func172, Try.ntmps172
  have HN := Lib.hid (ptsA_news hA1 0)
  rw [List.drop_zero, Nat.zero_mul] at HN
  clear hA hA1
  go_wp2_with (at_builtin; refine wpList_append_own _ rfl _ _ 34 rfl w.heap.size 45 i0 (.agg #[.int .i64 0, .int .i64 0]) 2 16 Try.underlying34 hi0 hz0 hz1 hz2 rfl (by decide) _ _ _ rfl own0 ⟨g, 0, none⟩ L.length c (flat L) rfl (flat_len L) HN.out (flat_one L) ?d3 ?d4 (by simp) ?_)
  case d3 => unfold maxLen; omega
  case d4 => omega
  intro v' w6 own6 hgrow _
  have R : Hid (w6.ownsRow w.heap.size 45 2 v' L.length (flat L) ∧ Below w.heap.size w w6) :=
    ⟨by simpa using own6, hb0.grown hgrow (by simp) (fun k hk => (own0.lt k hk).1)⟩
  clear own0 own6 hgrow hb0
  go_wp2_with fail
  go_ret
  rw [HU.out]
  exact ⟨_, rfl, R.out.1, R.out.2⟩

/-! ### slices.Reverse behind the first element -/
/-- After k rounds. -/
def revAt (M : List (Int × Int)) (k t : Nat) : Int × Int := if 1 ≤ t ∧ (t ≤ k ∨ M.length - k ≤ t) then gt M (M.length - t) else gt M t
def revK (M : List (Int × Int)) (k : Nat) : List (Int × Int) := (List.range M.length).map (revAt M k)
theorem revK_len (M : List (Int × Int)) (k : Nat) : (revK M k).length = M.length := by simp [revK]
theorem revK_zero (M : List (Int × Int)) : revK M 0 = M := by
  apply List.ext_getElem (by simp [revK])
  intro t h1 h2
  simp only [revK, List.getElem_map, List.getElem_range, revAt]
  rw [if_neg (by omega), gt_at h2]
theorem revK_all (M : List (Int × Int)) {k : Nat} (h : M.length ≤ 2 * k + 2) (h0 : 1 ≤ M.length) : revK M k = turnL M := by
  apply List.ext_getElem (by simp [revK, turnL, turnTill]; omega)
  intro t h1 h2
  have ht : t < M.length := by simpa [revK] using h1
  simp only [revK, List.getElem_map, List.getElem_range, revAt]
  cases t with
  | zero => rw [if_neg (by omega)]; rfl
  | succ t =>
    have e : (turnL M)[t + 1]'h2 = gt M (M.length - 1 - t) := by simp [turnL, turnTill]
    rw [e]
    by_cases hc : t + 1 ≤ k ∨ M.length - k ≤ t + 1
    · rw [if_pos ⟨by omega, hc⟩]; congr 1; omega
    · rw [if_neg (by omega)]; congr 1; omega
theorem gt_revK (M : List (Int × Int)) (k t : Nat) (ht : t < M.length) : gt (revK M k) t = revAt M k t := by
  rw [gt_at (by rw [revK_len]; exact ht)]
  simp [revK]
theorem revK_step (M : List (Int × Int)) (k : Nat) (h : 2 * k + 2 < M.length) :
    revK M (k + 1) = ((revK M k).set (1 + k) (gt (revK M k) (M.length - 1 - k))).set (M.length - 1 - k) (gt (revK M k) (1 + k)) := by
  rw [gt_revK _ _ _ (by omega), gt_revK _ _ _ (by omega)]
  apply List.ext_getElem (by simp [revK])
  intro t h1 h2
  have ht : t < M.length := by simpa [revK] using h1
  rw [List.getElem_set, List.getElem_set]
  simp only [revK, List.getElem_map, List.getElem_range, revAt]
  by_cases e1 : M.length - 1 - k = t
  · rw [if_pos e1, if_pos (by omega), if_neg (by omega)]; congr 1; omega
  · rw [if_neg e1]
    by_cases e2 : 1 + k = t
    · rw [if_pos e2, if_pos (by omega), if_neg (by omega)]; congr 1; omega
    · rw [if_neg e2]
      by_cases hc : 1 ≤ t ∧ (t ≤ k ∨ M.length - k ≤ t)
      · rw [if_pos (by omega), if_pos hc]
      · rw [if_neg (by omega), if_neg hc]
theorem flat_set1 (M : List (Int × Int)) : ∀ i (p : Int × Int), i < M.length → flat (M.set i p) = ((flat M).set (i * 2) (.int .i64 p.1)).set (i * 2 + 1) (.int .i64 p.2) := by
  induction M with
  | nil => intro i p h; simp at h
  | cons q M ih =>
    intro i p h
    have e : ∀ (r : Int × Int) (N : List (Int × Int)), flat (r :: N) = .int .i64 r.1 :: .int .i64 r.2 :: flat N := fun _ _ => rfl
    cases i with
    | zero => rw [List.set_cons_zero, e, e]; rfl
    | succ i =>
      rw [List.set_cons_succ, e, e, ih i p (by simpa using h)]
      have h1 : (i + 1) * 2 = i * 2 + 1 + 1 := by omega
      have h2 : (i + 1) * 2 + 1 = i * 2 + 1 + 1 + 1 := by omega
      rw [h2, h1]
      simp

theorem pts_own {w : World} {B g n cap : Nat} {L : List (Int × Int)} (h : w.ownsRow B 45 2 (.slice (some ⟨g, 0, none⟩) n cap) n (flat L)) (hn : L.length = n) : ∀ k, k < n → w.cell? ⟨g, k * 2, none⟩ = some (.int .i64 (gt L k).1) ∧ w.cell? ⟨g, k * 2 + 1, none⟩ = some (.int .i64 (gt L k).2) := by
  intro k hk
  have hk' : k < L.length := by omega
  rw [h.cellAt (k * 2) (by omega), h.cellAt (k * 2 + 1) (by omega), gt_at hk']
  exact flat_at L k hk'

theorem grown_drew {w w' : World} {r : Option Nat} (h : w.grownBy w' r) : w.grownBy w'.drew r := ⟨h.os, h.tape, h.output, h.size, h.block⟩
set_option maxRecDepth 100000 in
set_option maxHeartbeats 4000000 in
theorem rev_any (B g cap : Nat) (M : List (Int × Int)) (w : World) (hown : w.ownsRow B 45 2 (.slice (some ⟨g, 0, none⟩) M.length cap) M.length (flat M)) (h1 : 2 ≤ M.length) (h2 : M.length ≤ 1048576) :
    Calls Try.prog 108 #[.slice (some ⟨g, 2, none⟩) (M.length - 1) (cap - 1)] w fun e w' => (∃ v, e = .returned v) ∧ w'.ownsRow B 45 2 (.slice (some ⟨g, 0, none⟩) M.length cap) M.length (flat (turnL M)) ∧ w.grownBy w' (some g) := by
  obtain ⟨n, hn⟩ : ∃ n, n = M.length := ⟨_, rfl⟩
  have HN := Lib.hid hn
  rw [← hn] at hown h1 h2 ⊢
  clear hn
  have f1 : ((n - 1 : Nat) : Int) - 1 = ((n - 2 : Nat) : Int) := by omega
  go_enter Try.func108, Try.ntmps108
  go_wp2_with fail
  go_loopw [2, 3] (fun i j wr => ∃ k q : Nat, i = .int .i64 k ∧ j = .int .i64 q ∧ Hid (k + q + 2 = n ∧ k ≤ q + 1) ∧ wr.ownsRow B 45 2 (.slice (some ⟨g, 0, none⟩) n cap) n (flat (revK M k)) ∧ w.grownBy wr (some g)) (fun i j _ => n - (intOf i).toNat)
  case atStart => exact ⟨0, n - 2, rfl, rfl, ⟨by omega, by omega⟩, by rw [revK_zero]; exact hown, World.grownBy.refl _ _⟩
  case round =>
    obtain ⟨k, q, rfl, rfl, HK, own, hgr⟩ := hrel
    have hk1 := HK.out.1
    by_cases hlt : k < q
    · obtain ⟨x, hx⟩ : ∃ x, x = (gt (revK M k) (1 + k)).1 := ⟨_, rfl⟩
      obtain ⟨y, hy⟩ : ∃ y, y = (gt (revK M k) (1 + k)).2 := ⟨_, rfl⟩
      obtain ⟨x', hx'⟩ : ∃ x', x' = (gt (revK M k) (1 + q)).1 := ⟨_, rfl⟩
      obtain ⟨y', hy'⟩ : ∃ y', y' = (gt (revK M k) (1 + q)).2 := ⟨_, rfl⟩
      have hP := pts_own own (by rw [revK_len]; exact HN.out.symm)
      have p1 := hP (1 + k) (by omega)
      have p2 := hP (1 + q) (by omega)
      rw [← hx, ← hy] at p1
      rw [← hx', ← hy'] at p2
      have e1 : (1 + k) * 2 = 2 + k * 2 := by omega
      have e2 : (1 + q) * 2 = 2 + q * 2 := by omega
      rw [e1] at p1
      rw [e2] at p2
      obtain ⟨c1, c2⟩ := p1
      obtain ⟨c3, c4⟩ := p2
      have f2 := own.frozenAt (2 + k * 2)
      have f3 := own.frozenAt (2 + k * 2 + 1)
      have f4 := own.frozenAt (2 + q * 2)
      have f5 := own.frozenAt (2 + q * 2 + 1)
      have hk2 : (k : Int) < ((n - 1 : Nat) : Int) := by omega
      have hq2 : (q : Int) < ((n - 1 : Nat) : Int) := by omega
      have hml : (revK M k).length = n := by rw [revK_len]; exact HN.out.symm
      have own4 := ((((own.stored (2 + k * 2) (.int .i64 x')).1.stored (2 + k * 2 + 1) (.int .i64 y')).1.stored (2 + q * 2) (.int .i64 x)).1.stored (2 + q * 2 + 1) (.int .i64 y)).1
      have hq1 : M.length - 1 - k = 1 + q := by have := HN.out; omega
      have hstep : revK M (k + 1) = ((revK M k).set (1 + k) (x', y')).set (1 + q) (x, y) := by
        rw [revK_step M k (by have := HN.out; omega), hq1, hx, hy, hx', hy']
      have hflat : ((((flat (revK M k)).set (2 + k * 2) (.int .i64 x')).set (2 + k * 2 + 1) (.int .i64 y')).set (2 + q * 2) (.int .i64 x)).set (2 + q * 2 + 1) (.int .i64 y) = flat (revK M (k + 1)) := by
        rw [hstep, flat_set1 _ _ _ (by rw [List.length_set]; omega), flat_set1 _ _ _ (by omega), e1, e2]
      rw [hflat] at own4
      have hgr4 := only_set (only_set (only_set (only_set hgr (2 + k * 2) (.int .i64 x')) (2 + k * 2 + 1) (.int .i64 y')) (2 + q * 2) (.int .i64 x)) (2 + q * 2 + 1) (.int .i64 y)
      have R := Lib.hid (And.intro own4 hgr4)
      clear own own4 hgr hgr4 hP e1 e2 hx hy hx' hy' hk1 hown hflat hstep hq1 hml
      have hq0 : (0 : Int) ≤ (q : Int) - 1 := by omega
      have g1 : (q : Int) - 1 = ((q - 1 : Nat) : Int) := by omega
      go_wp2_with fail
      go_region
      go_wp2_with fail
      go_roundw
      case rel => exact ⟨k + 1, q - 1, by go_num, by first | rfl | go_num | exact congrArg _ g1, ⟨by have := HK.out.1; omega, by omega⟩, own_drew R.out.1, grown_drew R.out.2⟩
      case measure => simp [intOf]; omega
    · have e : revK M k = turnL M := revK_all M (by have := HN.out; have := HK.out; omega) (by have := HN.out; omega)
      rw [e] at own
      have R := Lib.hid (And.intro own hgr)
      clear own hgr hown hk1 e
      go_wp2_with fail
      go_end0
      exact ⟨⟨_, rfl⟩, R.out.1, R.out.2⟩

theorem own_cap {w : World} {B g n cap : Nat} {e : TypeId} {size : Nat} {xs : List Value} (h : w.ownsRow B e size (.slice (some ⟨g, 0, none⟩) n cap) n xs) : n ≤ cap := by
  rcases h.2 with ⟨h1, _⟩ | ⟨g', cap', cur, hv, hB, hg, h3⟩
  · cases h1
  · simp only [Value.slice.injEq] at hv
    obtain ⟨-, -, rfl⟩ := hv
    exact h3.1

set_option maxRecDepth 100000 in
set_option maxHeartbeats 2000000 in
theorem impl_turn (A : Option Addr) (c : Nat) (L : List (Int × Int)) (w : World) (hA : PtsA w A L) (hL : L.length ≤ 1048576) :
    Calls Try.prog 145 #[.slice A L.length c] w (Lists w (turnV L)) := by
  cases hp : polyB L
  · have HU : Hid (Lists w (turnV L) = fun e w' => ∃ v, e = .returned v ∧ w'.ownsRow w.heap.size 45 2 v 0 [] ∧ Below w.heap.size w w') := by
      show _ = _
      unfold turnV
      rw [hp]; rfl
    have PC := Lib.hid (impl_poly A c L w hA hL)
    rw [hp] at PC
    go_enter Try.func145, Try.ntmps145
    go_wp2_with fail
    refine PC.out.mono ?_
    rintro e w1 ⟨rfl, hb1⟩
    go_wp2_with fail
    go_ret
    rw [HU.out]
    exact ⟨_, rfl, World.ownsRow_nil _ _ _ _, hb1⟩
  · obtain ⟨h3, h10, hok⟩ := polyB_all hp
    have hlen : (turnL L).length = L.length := by simp [turnL, turnTill]; omega
    have HU : Hid (Lists w (turnV L) = fun e w' => ∃ v, e = .returned v ∧ w'.ownsRow w.heap.size 45 2 v L.length (flat (turnL L)) ∧ Below w.heap.size w w') := by
      show _ = _
      unfold turnV
      rw [hp, ← hlen]; rfl
    have PC := Lib.hid (impl_poly A c L w hA hL)
    rw [hp] at PC
    have HC := Lib.hid (fun (W : World) (hb : Below w.heap.size w W) => clone_any A c L W (ptsA_on hA hb) (by omega) hL)
    unfold Lists at HC
    clear hA hlen
    go_enter Try.func145, Try.ntmps145
    go_wp2_with fail
    refine PC.out.mono ?_
    rintro e w1 ⟨rfl, hb1⟩
    go_wp2_with fail
    refine (HC.out _ hb1).mono ?_
    rintro e w2 ⟨v, rfl, own, hb2⟩
    have hb12 := hb1.trans (hb2.mono hb1.size)
    replace own := own_base own hb1.size
    have hv : ∃ g cap, v = .slice (some ⟨g, 0, none⟩) L.length cap := by
      rcases own.2 with ⟨_, h0⟩ | ⟨g, cap, _, rfl, _⟩
      · omega
      · exact ⟨g, cap, rfl⟩
    obtain ⟨g, cap, rfl⟩ := hv
    have hcap := own_cap own
    have hgl := (own.lt g rfl).1
    have HR := Lib.hid (rev_any w.heap.size g cap L w2 own (by omega) hL)
    have hc1 : ¬ cap = 1 := by omega
    have hc2 : ¬ 1 = cap := by omega
    have hl1 : (1 : Int) ≤ (L.length : Int) := by omega
    have hl2 : 1 ≤ L.length := by omega
    clear hb1 hb2 own
    go_wp2_with fail
    refine HR.out.mono ?_
    rintro e w3 ⟨⟨u, rfl⟩, own3, hg3⟩
    have hb3 := hb12.grown hg3 hb12.size (fun k e => by cases e; exact hgl)
    have R := Lib.hid own3
    clear own3 hg3 hb12
    go_wp2_with fail
    go_ret
    rw [HU.out]
    exact ⟨_, rfl, R.out, hb3⟩
end Go.Proofs.Ythoniopkeiifnaa

/-! Box -/
namespace Go.Proofs.Ythoniopkeiifnaa
open Go.RowKit

def minI (x y : Int) : Int := if y < x then y else x
def maxI (x y : Int) : Int := if x < y then y else x
theorem run_minI (w : World) (x y : Int) (ts : Array TypeId) (t : TypeId) : (Builtin.min_ ts t #[.int .i64 x, .int .i64 y]).run Try.prog w = .ok (.int .i64 (minI x y)) w := by
  simp [go_sem, minI]
theorem run_maxI (w : World) (x y : Int) (ts : Array TypeId) (t : TypeId) : (Builtin.max_ ts t #[.int .i64 x, .int .i64 y]).run Try.prog w = .ok (.int .i64 (maxI x y)) w := by
  simp [go_sem, maxI]
def boxStep (s : (Int × Int) × (Int × Int)) (p : Int × Int) : (Int × Int) × (Int × Int) := ((minI s.1.1 p.1, minI s.1.2 p.2), (maxI s.2.1 p.1, maxI s.2.2 p.2))
def boxTill (L : List (Int × Int)) : Nat → (Int × Int) × (Int × Int)
  | 0 => (gt L 0, gt L 0)
  | k + 1 => boxStep (boxTill L k) (gt L k)
def ptV (p : Int × Int) : Value := .agg #[.int .i64 p.1, .int .i64 p.2]
def boxR (L : List (Int × Int)) : Value := bif polyB L then .tuple #[ptV (boxTill L L.length).1, ptV (boxTill L L.length).2, .bool true] else .tuple #[ptV (0, 0), ptV (0, 0), .bool false]


set_option maxRecDepth 100000 in
set_option maxHeartbeats 4000000 in
theorem impl_box (A : Option Addr) (c : Nat) (L : List (Int × Int)) (w : World) (hA : PtsA w A L) (hL : L.length ≤ 1048576) :
    Calls Try.prog 93 #[.slice A L.length c] w fun e w' => e = .returned (boxR L) ∧ Below w.heap.size w w' := by
  have hb0 := below2 w (.cells #[.int .i64 0, .int .i64 0] 45) (.cells #[.int .i64 0, .int .i64 0] 45)
  have PC := Lib.hid (fun (W : World) (hb : Below w.heap.size w W) => impl_poly A c L W (ptsA_on hA hb) hL)
  have a1 := (at_new w 0 0 45).alloc (.cells #[.int .i64 0, .int .i64 0] 45)
  have a2 := at_new (w.alloc (.cells #[.int .i64 0, .int .i64 0] 45)) 0 0 45
  rw [size_alloc] at a2
  cases hp : polyB L
  · have HR : Hid (boxR L = .tuple #[.agg #[.int .i64 0, .int .i64 0], .agg #[.int .i64 0, .int .i64 0], .bool false]) := by
      show _ = _
      rw [boxR, hp]; rfl
    rw [hp] at PC
    clear hA
    go_enter Try.func93, Try.ntmps93
    go_wp2_with fail
    refine (PC.out _ hb0).mono ?_
    rintro e w1 ⟨rfl, hb1⟩
    have b1 := hb0.trans (hb1.mono hb0.size)
    have r1 := a1.step hb1
    have r2 := a2.step hb1
    have c1 := r1.c0; have c2 := r1.c1; have c3 := r2.c0; have c4 := r2.c1
    have f1 := at_frozen r1 0; have f2 := at_frozen r1 1; have f3 := at_frozen r2 0; have f4 := at_frozen r2 1
    have e1 := at_store1 (at_store r1 0 0) 0
    have e2 := at_set (at_set r2 (b := w.heap.size) (by omega) 0 (.int .i64 0)) (b := w.heap.size) (by omega) 1 (.int .i64 0)
    have e3 := at_store1 (at_store e2 0 0) 0
    have e4 := at_set (at_set e1 (b := w.heap.size + 1) (by omega) 0 (.int .i64 0)) (b := w.heap.size + 1) (by omega) 1 (.int .i64 0)
    have q1 := e2.c0; have q2 := e2.c1; have q3 := at_frozen e2 0; have q4 := at_frozen e2 1
    have d1 := e4.c0; have d2 := e4.c1; have d3 := e3.c0; have d4 := e3.c1
    have hsw : w.heap.size ≤ w.heap.size + 1 := Nat.le_succ _
    have bE := (((b1.setCell (p := ⟨w.heap.size, 0, none⟩) (Nat.le_refl _) (.int .i64 0)).setCell (p := ⟨w.heap.size, 1, none⟩) (Nat.le_refl _) (.int .i64 0)).setCell (p := ⟨w.heap.size + 1, 0, none⟩) hsw (.int .i64 0)).setCell (p := ⟨w.heap.size + 1, 1, none⟩) hsw (.int .i64 0)
    clear hb1 b1 r1 r2 e1 e2 e3 e4
    go_wp2_with fail
    exact bodyPost_ret (v := .tuple #[.agg #[.int .i64 0, .int .i64 0], .agg #[.int .i64 0, .int .i64 0], .bool false]) (by simp [results, Try.results93, go_sem, d1, d2, d3, d4]) rfl ⟨by rw [HR.out], bE⟩
  · obtain ⟨h3, h10, hok⟩ := polyB_all hp
    obtain ⟨g, rfl, -⟩ := hA 0 (by omega)
    have hmin : ∀ (w : World) (x y : Int) (ts : Array TypeId) (t : TypeId), (Builtin.min_ ts t #[.int .i64 x, .int .i64 y]).run Try.prog w = .ok (.int .i64 (minI x y)) w := run_minI
    have hmax : ∀ (w : World) (x y : Int) (ts : Array TypeId) (t : TypeId), (Builtin.max_ ts t #[.int .i64 x, .int .i64 y]).run Try.prog w = .ok (.int .i64 (maxI x y)) w := run_maxI
    have HR : Hid (boxR L = .tuple #[ptV (boxTill L L.length).1, ptV (boxTill L L.length).2, .bool true]) := by
      show _ = _
      rw [boxR, hp]; rfl
    rw [hp] at PC
    go_enter Try.func93, Try.ntmps93
    go_wp2_with fail
    refine (PC.out _ hb0).mono ?_
    rintro e w1 ⟨rfl, hb1⟩
    have b1 := hb0.trans (hb1.mono hb0.size)
    have hs1 : w.heap.size + 2 ≤ w1.heap.size := by have := hb1.size; simp at this; omega
    have r1 := a1.step hb1
    have r2 := a2.step hb1
    have HA := Lib.hid (ptsA_on hA b1)
    obtain ⟨c1, c2⟩ := gt_cells HA.out (i := 0) (by omega)
    simp only [Nat.zero_mul, Nat.zero_add] at c1 c2
    obtain ⟨X, hX⟩ : ∃ X, X = (gt L 0).1 := ⟨_, rfl⟩
    obtain ⟨Y, hY⟩ : ∃ Y, Y = (gt L 0).2 := ⟨_, rfl⟩
    have H0 : Hid (boxTill L 0 = ((X, Y), (X, Y))) := by
      show _ = _
      rw [hX, hY]; rfl
    rw [← hX] at c1; rw [← hY] at c2
    have d1 := cell_on (below1 w1 (.cells #[.int .i64 X, .int .i64 Y] 45)) rfl c1
    have d2 := cell_on (below1 w1 (.cells #[.int .i64 X, .int .i64 Y] 45)) rfl c2
    have hn1 : (0 : Int) < (L.length : Int) := by omega
    have m1 := fun o => cell_on (below1 w1 o) rfl c1
    have m2 := fun o => cell_on (below1 w1 o) rfl c2
    have m3 := fun o p => cell_on (below2 w1 o p) rfl c1
    have m4 := fun o p => cell_on (below2 w1 o p) rfl c2
    clear hX hY hA hb1 hb0 a1 a2 PC d1 d2
    go_wp2_with fail
    go_region
    · go_wp2_with fail
      obtain ⟨W, hW⟩ : ∃ W, W = ((w1.alloc (.cells #[.int .i64 X, .int .i64 Y] 45)).alloc (.cells #[.int .i64 X, .int .i64 Y] 45)).drew := ⟨_, rfl⟩
      have aL : At W (w1.heap.size) X Y 45 := by rw [hW]; exact (at_new w1 X Y 45).alloc _
      have aH : At W (w1.heap.size + 1) X Y 45 := by rw [hW]; have := at_new (w1.alloc (.cells #[.int .i64 X, .int .i64 Y] 45)) X Y 45; rwa [size_alloc] at this
      have z3 : At W w.heap.size 0 0 45 := by rw [hW]; exact (r1.alloc _).alloc _
      have z4 : At W (w.heap.size + 1) 0 0 45 := by rw [hW]; exact (r2.alloc _).alloc _
      have b3 : Below w.heap.size w W := by rw [hW]; exact (b1.trans ((below2 w1 _ _).mono (by omega))).drew
      have b13 : Below w1.heap.size w1 W := by rw [hW]; exact (below2 w1 _ _).drew
      rw [← hW]
      clear hW c1 c2 r1 r2 b1 m1 m2 m3 m4
      go_loopw [22] (fun i wr => ∃ k : Nat, k ≤ L.length ∧ i = .int .i64 k ∧ At wr (w1.heap.size) (boxTill L k).1.1 (boxTill L k).1.2 45 ∧ At wr (w1.heap.size + 1) (boxTill L k).2.1 (boxTill L k).2.2 45 ∧ At wr w.heap.size 0 0 45 ∧ At wr (w.heap.size + 1) 0 0 45 ∧ Below w.heap.size w wr ∧ Below w1.heap.size w1 wr) (fun i _ => L.length - (intOf i).toNat)
      case atStart => exact ⟨0, Nat.zero_le _, rfl, by rw [H0.out]; exact aL, by rw [H0.out]; exact aH, z3, z4, b3, b13⟩
      case round =>
        clear aL aH z3 z4 b3 b13
        obtain ⟨k, hk, rfl, aL, aH, z3, z4, b3, b13⟩ := hrel
        by_cases hlt : k < L.length
        · obtain ⟨c1, c2⟩ := gt_cells (ptsA_on HA.out b13) hlt
          have HS : Hid (boxTill L (k + 1) = boxStep (boxTill L k) (gt L k)) := rfl
          have hsk := b13.size
          obtain ⟨x, hx⟩ : ∃ x, x = (gt L k).1 := ⟨_, rfl⟩
          obtain ⟨y, hy⟩ : ∃ y, y = (gt L k).2 := ⟨_, rfl⟩
          obtain ⟨lx, hlx⟩ : ∃ lx, lx = (boxTill L k).1.1 := ⟨_, rfl⟩
          obtain ⟨ly, hly⟩ : ∃ ly, ly = (boxTill L k).1.2 := ⟨_, rfl⟩
          obtain ⟨hx', hhx⟩ : ∃ hx', hx' = (boxTill L k).2.1 := ⟨_, rfl⟩
          obtain ⟨hy', hhy⟩ : ∃ hy', hy' = (boxTill L k).2.2 := ⟨_, rfl⟩
          have HT : Hid (boxTill L (k + 1) = ((minI lx x, minI ly y), (maxI hx' x, maxI hy' y))) := by
            show _ = _
            rw [HS.out, hx, hy, hlx, hly, hhx, hhy]; rfl
          rw [← hx] at c1; rw [← hy] at c2; rw [← hlx, ← hly] at aL; rw [← hhx, ← hhy] at aH
          clear hx hy hlx hly hhx hhy HS
          have hl1 := aL.lt
          have hl2 := aH.lt
          have a0 := at_new wr x y 45
          have aL1 := aL.alloc (.cells #[.int .i64 x, .int .i64 y] 45)
          have aH1 := aH.alloc (.cells #[.int .i64 x, .int .i64 y] 45)
          have y3 := z3.alloc (.cells #[.int .i64 x, .int .i64 y] 45)
          have y4 := z4.alloc (.cells #[.int .i64 x, .int .i64 y] 45)
          have bb := b3.alloc b3.size (.cells #[.int .i64 x, .int .i64 y] 45)
          have bb13 := b13.alloc hsk (.cells #[.int .i64 x, .int .i64 y] 45)
          have l1 := aL1.c0; have l2 := aL1.c1; have p1 := a0.c0; have p2 := a0.c1
          have g1 := at_frozen aL1 0; have g2 := at_frozen aL1 1
          have aL2 := at_store1 (at_store aL1 (minI lx x) 0) (minI ly y)
          have aH2 := at_set (at_set aH1 (b := w1.heap.size) (by omega) 0 (.int .i64 (minI lx x))) (b := w1.heap.size) (by omega) 1 (.int .i64 (minI ly y))
          have a02 := at_set (at_set a0 (b := w1.heap.size) (by omega) 0 (.int .i64 (minI lx x))) (b := w1.heap.size) (by omega) 1 (.int .i64 (minI ly y))
          have l3 := (at_store aL1 (minI lx x) 0).c1
          have h1 := aH2.c0; have h2 := aH2.c1; have p3 := a02.c0; have p4 := a02.c1
          have g3 := at_frozen aH2 0; have g4 := at_frozen aH2 1
          have h4 := (at_store aH2 (maxI hx' x) 0).c1
          have aH3 := at_store1 (at_store aH2 (maxI hx' x) 0) (maxI hy' y)
          have aL3 := at_set (at_set aL2 (b := w1.heap.size + 1) (by omega) 0 (.int .i64 (maxI hx' x))) (b := w1.heap.size + 1) (by omega) 1 (.int .i64 (maxI hy' y))
          have y3' := at_set (at_set (at_set (at_set y3 (b := w1.heap.size) (by omega) 0 (.int .i64 (minI lx x))) (b := w1.heap.size) (by omega) 1 (.int .i64 (minI ly y))) (b := w1.heap.size + 1) (by omega) 0 (.int .i64 (maxI hx' x))) (b := w1.heap.size + 1) (by omega) 1 (.int .i64 (maxI hy' y))
          have y4' := at_set (at_set (at_set (at_set y4 (b := w1.heap.size) (by omega) 0 (.int .i64 (minI lx x))) (b := w1.heap.size) (by omega) 1 (.int .i64 (minI ly y))) (b := w1.heap.size + 1) (by omega) 0 (.int .i64 (maxI hx' x))) (b := w1.heap.size + 1) (by omega) 1 (.int .i64 (maxI hy' y))
          have hle1 : w.heap.size ≤ w1.heap.size := by omega
          have hle2 : w.heap.size ≤ w1.heap.size + 1 := by omega
          have hle3 : w1.heap.size ≤ w1.heap.size := by omega
          have hle4 : w1.heap.size ≤ w1.heap.size + 1 := by omega
          have bb' := (((bb.setCell (p := ⟨w1.heap.size, 0, none⟩) hle1 (.int .i64 (minI lx x))).setCell (p := ⟨w1.heap.size, 1, none⟩) hle1 (.int .i64 (minI ly y))).setCell (p := ⟨w1.heap.size + 1, 0, none⟩) hle2 (.int .i64 (maxI hx' x))).setCell (p := ⟨w1.heap.size + 1, 1, none⟩) hle2 (.int .i64 (maxI hy' y))
          have bb13' := (((bb13.setCell (p := ⟨w1.heap.size, 0, none⟩) hle3 (.int .i64 (minI lx x))).setCell (p := ⟨w1.heap.size, 1, none⟩) hle3 (.int .i64 (minI ly y))).setCell (p := ⟨w1.heap.size + 1, 0, none⟩) hle4 (.int .i64 (maxI hx' x))).setCell (p := ⟨w1.heap.size + 1, 1, none⟩) hle4 (.int .i64 (maxI hy' y))
          have R := Lib.hid (And.intro aL3 (And.intro aH3 (And.intro y3' (And.intro y4' (And.intro bb' bb13')))))
          have d1 := cell_on (below1 wr (.cells #[.int .i64 x, .int .i64 y] 45)) rfl c1
          have d2 := cell_on (below1 wr (.cells #[.int .i64 x, .int .i64 y] 45)) rfl c2
          clear aL aH z3 z4 b3 b13 aL1 aH1 y3 y4 bb bb13 aL2 aH2 a02 aH3 aL3 y3' y4' bb' bb13' a0 hl1 hl2 hle1 hle2 hle3 hle4
          go_wp2_with fail
          go_roundw
          case rel => exact ⟨k + 1, by omega, by go_num, by rw [HT.out]; exact R.out.1, by rw [HT.out]; exact R.out.2.1, R.out.2.2.1, R.out.2.2.2.1, R.out.2.2.2.2.1, R.out.2.2.2.2.2⟩
          case measure => simp [intOf]; omega
        · obtain rfl : k = L.length := by omega
          obtain ⟨lx, hlx⟩ : ∃ lx, lx = (boxTill L L.length).1.1 := ⟨_, rfl⟩
          obtain ⟨ly, hly⟩ : ∃ ly, ly = (boxTill L L.length).1.2 := ⟨_, rfl⟩
          obtain ⟨hx', hhx⟩ : ∃ hx', hx' = (boxTill L L.length).2.1 := ⟨_, rfl⟩
          obtain ⟨hy', hhy⟩ : ∃ hy', hy' = (boxTill L L.length).2.2 := ⟨_, rfl⟩
          have HT : Hid (boxR L = .tuple #[.agg #[.int .i64 lx, .int .i64 ly], .agg #[.int .i64 hx', .int .i64 hy'], .bool true]) := by
            show _ = _
            rw [HR.out, hlx, hly, hhx, hhy]; rfl
          rw [← hlx, ← hly] at aL; rw [← hhx, ← hhy] at aH
          clear hlx hly hhx hhy
          have l1 := aL.c0; have l2 := aL.c1; have h1 := aH.c0; have h2 := aH.c1
          have f1 := at_frozen z3 0; have f2 := at_frozen z3 1; have f3 := at_frozen z4 0; have f4 := at_frozen z4 1
          have v1 := z3.c0; have v2 := z3.c1; have v3 := z4.c0; have v4 := z4.c1
          have v5 := (at_store z3 lx 0).c1
          have e1 := at_store1 (at_store z3 lx 0) ly
          have e2 := at_set (at_set z4 (b := w.heap.size) (by omega) 0 (.int .i64 lx)) (b := w.heap.size) (by omega) 1 (.int .i64 ly)
          have q1 := e2.c0; have q2 := e2.c1; have q3 := at_frozen e2 0; have q4 := at_frozen e2 1
          have q5 := (at_store e2 hx' 0).c1
          have e3 := at_store1 (at_store e2 hx' 0) hy'
          have e4 := at_set (at_set e1 (b := w.heap.size + 1) (by omega) 0 (.int .i64 hx')) (b := w.heap.size + 1) (by omega) 1 (.int .i64 hy')
          have d1 := e4.c0; have d2 := e4.c1; have d3 := e3.c0; have d4 := e3.c1
          have hsw : w.heap.size ≤ w.heap.size + 1 := Nat.le_succ _
          have bE := (((b3.setCell (p := ⟨w.heap.size, 0, none⟩) (Nat.le_refl _) (.int .i64 lx)).setCell (p := ⟨w.heap.size, 1, none⟩) (Nat.le_refl _) (.int .i64 ly)).setCell (p := ⟨w.heap.size + 1, 0, none⟩) hsw (.int .i64 hx')).setCell (p := ⟨w.heap.size + 1, 1, none⟩) hsw (.int .i64 hy')
          have R := Lib.hid (And.intro bE.drew (And.intro e3 e4))
          clear aL aH z3 z4 b3 b13 e1 e2 e3 e4 bE HR
          go_wp2_with fail
          go_region
          go_wp2_with fail
          exact bodyPost_ret (v := .tuple #[.agg #[.int .i64 lx, .int .i64 ly], .agg #[.int .i64 hx', .int .i64 hy'], .bool true]) (by simp [results, Try.results93, go_sem, d1, d2, d3, d4]) rfl ⟨by rw [HT.out], R.out.1⟩
    · go_wp2_with fail
      obtain ⟨W, hW⟩ : ∃ W, W = ((w1.alloc (.cells #[.int .i64 X, .int .i64 Y] 45)).alloc (.cells #[.int .i64 X, .int .i64 Y] 45)).drew := ⟨_, rfl⟩
      have aL : At W (w1.heap.size + 1) X Y 45 := by rw [hW]; have := at_new (w1.alloc (.cells #[.int .i64 X, .int .i64 Y] 45)) X Y 45; rwa [size_alloc] at this
      have aH : At W (w1.heap.size) X Y 45 := by rw [hW]; exact (at_new w1 X Y 45).alloc _
      have z3 : At W w.heap.size 0 0 45 := by rw [hW]; exact (r1.alloc _).alloc _
      have z4 : At W (w.heap.size + 1) 0 0 45 := by rw [hW]; exact (r2.alloc _).alloc _
      have b3 : Below w.heap.size w W := by rw [hW]; exact (b1.trans ((below2 w1 _ _).mono (by omega))).drew
      have b13 : Below w1.heap.size w1 W := by rw [hW]; exact (below2 w1 _ _).drew
      rw [← hW]
      clear hW c1 c2 r1 r2 b1 m1 m2 m3 m4
      go_loopw [22] (fun i wr => ∃ k : Nat, k ≤ L.length ∧ i = .int .i64 k ∧ At wr (w1.heap.size + 1) (boxTill L k).1.1 (boxTill L k).1.2 45 ∧ At wr (w1.heap.size) (boxTill L k).2.1 (boxTill L k).2.2 45 ∧ At wr w.heap.size 0 0 45 ∧ At wr (w.heap.size + 1) 0 0 45 ∧ Below w.heap.size w wr ∧ Below w1.heap.size w1 wr) (fun i _ => L.length - (intOf i).toNat)
      case atStart => exact ⟨0, Nat.zero_le _, rfl, by rw [H0.out]; exact aL, by rw [H0.out]; exact aH, z3, z4, b3, b13⟩
      case round =>
        clear aL aH z3 z4 b3 b13
        obtain ⟨k, hk, rfl, aL, aH, z3, z4, b3, b13⟩ := hrel
        by_cases hlt : k < L.length
        · obtain ⟨c1, c2⟩ := gt_cells (ptsA_on HA.out b13) hlt
          have HS : Hid (boxTill L (k + 1) = boxStep (boxTill L k) (gt L k)) := rfl
          have hsk := b13.size
          obtain ⟨x, hx⟩ : ∃ x, x = (gt L k).1 := ⟨_, rfl⟩
          obtain ⟨y, hy⟩ : ∃ y, y = (gt L k).2 := ⟨_, rfl⟩
          obtain ⟨lx, hlx⟩ : ∃ lx, lx = (boxTill L k).1.1 := ⟨_, rfl⟩
          obtain ⟨ly, hly⟩ : ∃ ly, ly = (boxTill L k).1.2 := ⟨_, rfl⟩
          obtain ⟨hx', hhx⟩ : ∃ hx', hx' = (boxTill L k).2.1 := ⟨_, rfl⟩
          obtain ⟨hy', hhy⟩ : ∃ hy', hy' = (boxTill L k).2.2 := ⟨_, rfl⟩
          have HT : Hid (boxTill L (k + 1) = ((minI lx x, minI ly y), (maxI hx' x, maxI hy' y))) := by
            show _ = _
            rw [HS.out, hx, hy, hlx, hly, hhx, hhy]; rfl
          rw [← hx] at c1; rw [← hy] at c2; rw [← hlx, ← hly] at aL; rw [← hhx, ← hhy] at aH
          clear hx hy hlx hly hhx hhy HS
          have hl1 := aL.lt
          have hl2 := aH.lt
          have a0 := at_new wr x y 45
          have aL1 := aL.alloc (.cells #[.int .i64 x, .int .i64 y] 45)
          have aH1 := aH.alloc (.cells #[.int .i64 x, .int .i64 y] 45)
          have y3 := z3.alloc (.cells #[.int .i64 x, .int .i64 y] 45)
          have y4 := z4.alloc (.cells #[.int .i64 x, .int .i64 y] 45)
          have bb := b3.alloc b3.size (.cells #[.int .i64 x, .int .i64 y] 45)
          have bb13 := b13.alloc hsk (.cells #[.int .i64 x, .int .i64 y] 45)
          have l1 := aL1.c0; have l2 := aL1.c1; have p1 := a0.c0; have p2 := a0.c1
          have g1 := at_frozen aL1 0; have g2 := at_frozen aL1 1
          have aL2 := at_store1 (at_store aL1 (minI lx x) 0) (minI ly y)
          have aH2 := at_set (at_set aH1 (b := w1.heap.size + 1) (by omega) 0 (.int .i64 (minI lx x))) (b := w1.heap.size + 1) (by omega) 1 (.int .i64 (minI ly y))
          have a02 := at_set (at_set a0 (b := w1.heap.size + 1) (by omega) 0 (.int .i64 (minI lx x))) (b := w1.heap.size + 1) (by omega) 1 (.int .i64 (minI ly y))
          have l3 := (at_store aL1 (minI lx x) 0).c1
          have h1 := aH2.c0; have h2 := aH2.c1; have p3 := a02.c0; have p4 := a02.c1
          have g3 := at_frozen aH2 0; have g4 := at_frozen aH2 1
          have h4 := (at_store aH2 (maxI hx' x) 0).c1
          have aH3 := at_store1 (at_store aH2 (maxI hx' x) 0) (maxI hy' y)
          have aL3 := at_set (at_set aL2 (b := w1.heap.size) (by omega) 0 (.int .i64 (maxI hx' x))) (b := w1.heap.size) (by omega) 1 (.int .i64 (maxI hy' y))
          have y3' := at_set (at_set (at_set (at_set y3 (b := w1.heap.size + 1) (by omega) 0 (.int .i64 (minI lx x))) (b := w1.heap.size + 1) (by omega) 1 (.int .i64 (minI ly y))) (b := w1.heap.size) (by omega) 0 (.int .i64 (maxI hx' x))) (b := w1.heap.size) (by omega) 1 (.int .i64 (maxI hy' y))
          have y4' := at_set (at_set (at_set (at_set y4 (b := w1.heap.size + 1) (by omega) 0 (.int .i64 (minI lx x))) (b := w1.heap.size + 1) (by omega) 1 (.int .i64 (minI ly y))) (b := w1.heap.size) (by omega) 0 (.int .i64 (maxI hx' x))) (b := w1.heap.size) (by omega) 1 (.int .i64 (maxI hy' y))
          have hle1 : w.heap.size ≤ w1.heap.size + 1 := by omega
          have hle2 : w.heap.size ≤ w1.heap.size := by omega
          have hle3 : w1.heap.size ≤ w1.heap.size + 1 := by omega
          have hle4 : w1.heap.size ≤ w1.heap.size := by omega
          have bb' := (((bb.setCell (p := ⟨w1.heap.size + 1, 0, none⟩) hle1 (.int .i64 (minI lx x))).setCell (p := ⟨w1.heap.size + 1, 1, none⟩) hle1 (.int .i64 (minI ly y))).setCell (p := ⟨w1.heap.size, 0, none⟩) hle2 (.int .i64 (maxI hx' x))).setCell (p := ⟨w1.heap.size, 1, none⟩) hle2 (.int .i64 (maxI hy' y))
          have bb13' := (((bb13.setCell (p := ⟨w1.heap.size + 1, 0, none⟩) hle3 (.int .i64 (minI lx x))).setCell (p := ⟨w1.heap.size + 1, 1, none⟩) hle3 (.int .i64 (minI ly y))).setCell (p := ⟨w1.heap.size, 0, none⟩) hle4 (.int .i64 (maxI hx' x))).setCell (p := ⟨w1.heap.size, 1, none⟩) hle4 (.int .i64 (maxI hy' y))
          have R := Lib.hid (And.intro aL3 (And.intro aH3 (And.intro y3' (And.intro y4' (And.intro bb' bb13')))))
          have d1 := cell_on (below1 wr (.cells #[.int .i64 x, .int .i64 y] 45)) rfl c1
          have d2 := cell_on (below1 wr (.cells #[.int .i64 x, .int .i64 y] 45)) rfl c2
          clear aL aH z3 z4 b3 b13 aL1 aH1 y3 y4 bb bb13 aL2 aH2 a02 aH3 aL3 y3' y4' bb' bb13' a0 hl1 hl2 hle1 hle2 hle3 hle4
          go_wp2_with fail
          go_roundw
          case rel => exact ⟨k + 1, by omega, by go_num, by rw [HT.out]; exact R.out.1, by rw [HT.out]; exact R.out.2.1, R.out.2.2.1, R.out.2.2.2.1, R.out.2.2.2.2.1, R.out.2.2.2.2.2⟩
          case measure => simp [intOf]; omega
        · obtain rfl : k = L.length := by omega
          obtain ⟨lx, hlx⟩ : ∃ lx, lx = (boxTill L L.length).1.1 := ⟨_, rfl⟩
          obtain ⟨ly, hly⟩ : ∃ ly, ly = (boxTill L L.length).1.2 := ⟨_, rfl⟩
          obtain ⟨hx', hhx⟩ : ∃ hx', hx' = (boxTill L L.length).2.1 := ⟨_, rfl⟩
          obtain ⟨hy', hhy⟩ : ∃ hy', hy' = (boxTill L L.length).2.2 := ⟨_, rfl⟩
          have HT : Hid (boxR L = .tuple #[.agg #[.int .i64 lx, .int .i64 ly], .agg #[.int .i64 hx', .int .i64 hy'], .bool true]) := by
            show _ = _
            rw [HR.out, hlx, hly, hhx, hhy]; rfl
          rw [← hlx, ← hly] at aL; rw [← hhx, ← hhy] at aH
          clear hlx hly hhx hhy
          have l1 := aL.c0; have l2 := aL.c1; have h1 := aH.c0; have h2 := aH.c1
          have f1 := at_frozen z3 0; have f2 := at_frozen z3 1; have f3 := at_frozen z4 0; have f4 := at_frozen z4 1
          have v1 := z3.c0; have v2 := z3.c1; have v3 := z4.c0; have v4 := z4.c1
          have v5 := (at_store z3 lx 0).c1
          have e1 := at_store1 (at_store z3 lx 0) ly
          have e2 := at_set (at_set z4 (b := w.heap.size) (by omega) 0 (.int .i64 lx)) (b := w.heap.size) (by omega) 1 (.int .i64 ly)
          have q1 := e2.c0; have q2 := e2.c1; have q3 := at_frozen e2 0; have q4 := at_frozen e2 1
          have q5 := (at_store e2 hx' 0).c1
          have e3 := at_store1 (at_store e2 hx' 0) hy'
          have e4 := at_set (at_set e1 (b := w.heap.size + 1) (by omega) 0 (.int .i64 hx')) (b := w.heap.size + 1) (by omega) 1 (.int .i64 hy')
          have d1 := e4.c0; have d2 := e4.c1; have d3 := e3.c0; have d4 := e3.c1
          have hsw : w.heap.size ≤ w.heap.size + 1 := Nat.le_succ _
          have bE := (((b3.setCell (p := ⟨w.heap.size, 0, none⟩) (Nat.le_refl _) (.int .i64 lx)).setCell (p := ⟨w.heap.size, 1, none⟩) (Nat.le_refl _) (.int .i64 ly)).setCell (p := ⟨w.heap.size + 1, 0, none⟩) hsw (.int .i64 hx')).setCell (p := ⟨w.heap.size + 1, 1, none⟩) hsw (.int .i64 hy')
          have R := Lib.hid (And.intro bE.drew (And.intro e3 e4))
          clear aL aH z3 z4 b3 b13 e1 e2 e3 e4 bE HR
          go_wp2_with fail
          go_region
          go_wp2_with fail
          exact bodyPost_ret (v := .tuple #[.agg #[.int .i64 lx, .int .i64 ly], .agg #[.int .i64 hx', .int .i64 hy'], .bool true]) (by simp [results, Try.results93, go_sem, d1, d2, d3, d4]) rfl ⟨by rw [HT.out], R.out.1⟩
end Go.Proofs.Ythoniopkeiifnaa

/-! GrI12 -/
namespace Go.Proofs.Ythoniopkeiifnaa
open Go.RowKit Go.Shelf Go.Sort
attribute [local go_sem] Oper.semAt_some

def eG (E : List (Nat × Nat)) (k : Nat) : Nat × Nat := E.getD k (0, 0)
theorem drop_eu {E : List (Nat × Nat)} {a b k : Nat} (h : E.drop k = eu a b) (h0 : 0 < b) : k < E.length ∧ eG E k = (b, a / b) ∧ E.drop (k + 1) = eu b (a % b) := by
  rw [eu_pos h0] at h
  have hk : k < E.length := by
    rcases Nat.lt_or_ge k E.length with h1 | h1
    · exact h1
    · rw [List.drop_of_length_le h1] at h; cases h
  rw [List.drop_eq_getElem_cons hk] at h
  simp only [List.cons.injEq] at h
  exact ⟨hk, by simp [eG, hk, h.1], h.2⟩
theorem drop_end {E : List (Nat × Nat)} {a k : Nat} (hk : k ≤ E.length) (h : E.drop k = eu a 0) : k = E.length := by
  rw [eu_zero, List.drop_eq_nil_iff] at h
  omega
theorem tdiv_nat12 (m n : Nat) : Int.tdiv (m : Int) (n : Int) = ((m / n : Nat) : Int) := by
  rw [Int.tdiv_eq_ediv_of_nonneg (by omega)]; simp
theorem tmod_nat12 (m n : Nat) : Int.tmod (m : Int) (n : Int) = ((m % n : Nat) : Int) := by
  rw [Int.tmod_eq_emod_of_nonneg (by omega)]; simp
theorem minI_nat12 (a b : Nat) : minI (a : Int) (b : Int) = ((min a b : Nat) : Int) := by unfold minI; split <;> omega
theorem maxI_nat12 (a b : Nat) : maxI (a : Int) (b : Int) = ((max a b : Nat) : Int) := by unfold maxI; split <;> omega
theorem great_any (w h : Nat) (W : World) :
    Calls Try.prog 70 #[.int .i64 w, .int .i64 h] W fun e w' => e = .returned (.func (.func 121) #[] #[.pointer (some ⟨W.heap.size, 0, none⟩), .pointer (some ⟨W.heap.size + 1, 0, none⟩)]) ∧ (W.alloc (.cells #[.int .i64 w] 3)).alloc (.cells #[.int .i64 h] 3) = w' := by
  go_enter Try.func70, Try.ntmps70
  go_wp2_with fail
  go_ret
  exact ⟨rfl, rfl⟩
set_option maxRecDepth 100000 in
set_option maxHeartbeats 4000000 in
theorem great1 (n l Bw Bh w h : Nat) (hw : 1 ≤ w ∧ w ≤ 1000) (hh : 1 ≤ h ∧ h ≤ 1000) (J Jx : List Nat → World → Prop) (W : World) (hJ : AbidesFrom W.heap.size J)
    (hY : ∀ (pre : List Nat) (x : Nat) (W1 : World), J pre W1 → pre.length < (eu (max w h) (min w h)).length → YieldAt Fence.wide (n - 1) Try.prog l #[.int .i64 ((eG (eu (max w h) (min w h)) x).1 : Nat), .int .i64 ((eG (eu (max w h) (min w h)) x).2 : Nat)] W1 fun e W' =>
      (e = .returned (.bool true) ∧ J (pre ++ [x]) W' ∧ True) ∨ (e = .returned (.bool false) ∧ Jx (pre ++ [x]) W'))
    (h1 : W.cell? ⟨Bw, 0, none⟩ = some (.int .i64 w)) (h2 : W.cell? ⟨Bh, 0, none⟩ = some (.int .i64 h)) (h0 : J [] W) :
    CallsIn Fence.wide n Try.prog 121 #[.func (.yield l) #[] #[], .pointer (some ⟨Bw, 0, none⟩), .pointer (some ⟨Bh, 0, none⟩)] W fun e W' => (∃ v, e = .returned v) ∧
      ((∃ ys, ys = List.range (eu (max w h) (min w h)).length ∧ J ys W') ∨ (∃ pre, (∃ k, k ≤ (eu (max w h) (min w h)).length ∧ pre = List.range k) ∧ Jx pre W')) := by
  have hmin : ∀ (w : World) (x y : Int) (ts : Array TypeId) (t : TypeId), (Builtin.min_ ts t #[.int .i64 x, .int .i64 y]).run Try.prog w = .ok (.int .i64 (minI x y)) w := run_minI
  have hmax : ∀ (w : World) (x y : Int) (ts : Array TypeId) (t : TypeId), (Builtin.max_ ts t #[.int .i64 x, .int .i64 y]).run Try.prog w = .ok (.int .i64 (maxI x y)) w := run_maxI
  have e1 := minI_nat12 w h
  have e2 := maxI_nat12 w h
  have HA0 : Hid (min w h ≤ max w h ∧ max w h ≤ 1000 ∧ (eu (max w h) (min w h)).drop 0 = eu (max w h) (min w h)) := ⟨by omega, by omega, rfl⟩
  generalize max w h = a0 at *
  generalize min w h = b0 at *
  have k1 := cell_regrown h1; have k2 := cell_regrown h2
  refine callsIn_of_wp Try.func121 rfl trivial ?_ rfl
  simp only [Try.ntmps121, List.size_toArray, List.length_cons, List.length_nil, Nat.reduceAdd, Nat.reduceSub, Array.replicate_succ, Array.replicate_zero, List.push_toArray, List.append_toArray, List.nil_append, List.cons_append]
  gi_wp2
  refine region_quiet_in wide0 (by kernel_rfl) (by kernel_rfl) (by kernel_rfl) ?_
  repeat (first
    | go_big_quiet_step (fail)
    | quiet_step (fail))
  refine wpQuiet_nil ?_
  rintro _ ⟨⟨dq, osq⟩, rfl⟩
  have hb1 := below_regrown W dq osq
  have hJ2 : J [] (grow (redrawn W dq) osq) := hJ _ _ _ none h0 (grown_of_below hb1) (fun r e => by cases e)
  have hsz2 := hb1.size
  clear k1 k2 h0 hb1 h1 h2 hmin hmax
  generalize grow (redrawn W dq) osq = w2 at *
  clear e1 e2
  gi_wp2
  obtain ⟨q1, q2, q3⟩ := HA0.out
  gi_loopw [4, 5] (fun x y wr => ∃ a b k : Nat, x = .int .i64 a ∧ y = .int .i64 b ∧ b ≤ a ∧ a ≤ 1000 ∧ k ≤ (eu a0 b0).length ∧ Hid ((eu a0 b0).drop k = eu a b) ∧ Hid (J (List.range k) wr)) (fun _ y _ => (intOf y).toNat)
  case atStart => exact ⟨a0, b0, 0, rfl, rfl, q1, q2, Nat.zero_le _, q3, hJ2⟩
  case round =>
    obtain ⟨a, b, k, rfl, rfl, hba, ha, hk, HD, HJ⟩ := hrel
    clear hJ2 q1 q2 q3 HA0
    by_cases h0 : 0 < b
    · obtain ⟨hlt, hE, hD2⟩ := drop_eu HD.out h0
      obtain ⟨fn, tmps, assign, body, hy, hR⟩ := hY _ k wr HJ.out (by rw [List.length_range]; exact hlt)
      rw [hE] at hy
      simp only at hy
      have hdiv := tdiv_nat12 a b
      have hmod := tmod_nat12 a b
      have hml := Nat.mod_lt a h0
      have hdl := Nat.div_le_self a b
      have HD2 := Lib.hid hD2
      clear hD2 hE HD
      generalize a / b = q at *
      generalize a % b = r at *
      have hd2 : IntKind.i64.wrap (q : Int) = q := IntWalk.i64_in _ (by omega)
      gi_wp2
      refine ⟨fun e => (by cases e), hR.mono ?_⟩
      rintro e W3 (⟨rfl, hJ3, -⟩ | ⟨rfl, hJx3⟩)
      · have HJ3 : Hid (J (List.range (k + 1)) W3) := by show J _ _; rw [List.range_succ]; exact hJ3
        clear hJ3 hR hy
        gi_wp2
        refine region_quiet_in wide0 (by kernel_rfl) (by kernel_rfl) (by kernel_rfl) ?_
        repeat (first
          | go_big_quiet_step (fail)
          | quiet_step (fail))
        refine wpQuiet_nil ?_
        rintro _ ⟨⟨dq, osq⟩, rfl⟩
        have hb3 := below_regrown W3 dq osq
        have HJ4 : Hid (J (List.range (k + 1)) (grow (redrawn W3 dq) osq)) := hJ _ _ _ none HJ3.out (grown_of_below hb3) (fun r e => by cases e)
        clear HJ3 hb3
        simp only at *
        generalize grow (redrawn W3 dq) osq = w4 at *
        gi_wp2
        go_roundw
        case rel => exact ⟨b, r, k + 1, by go_num, by go_num, by omega, by omega, by omega, HD2, HJ4⟩
        case measure => simp [intOf]; omega
      · gi_wp2
        go_end0
        exact ⟨⟨_, rfl⟩, .inr ⟨_, ⟨k + 1, by omega, List.range_succ.symm⟩, hJx3⟩⟩
    · obtain rfl : b = 0 := by omega
      have hk2 := drop_end hk HD.out
      subst hk2
      gi_wp2
      refine ⟨fun _ h => (by cases h), ?_⟩
      gi_wp2
      go_end0
      exact ⟨⟨_, rfl⟩, .inl ⟨_, rfl, HJ.out⟩⟩
/-- **The iterator of the greatest sides.** -/
theorem great_stops (n Bw Bh w h : Nat) (W : World) (hw : 1 ≤ w ∧ w ≤ 1000) (hh : 1 ≤ h ∧ h ≤ 1000) (hBw : Bw < W.heap.size) (hBh : Bh < W.heap.size) (h1 : W.cell? ⟨Bw, 0, none⟩ = some (.int .i64 w)) (h2 : W.cell? ⟨Bh, 0, none⟩ = some (.int .i64 h)) :
    SeqStopsK Fence.wide n Try.prog 121 #[.pointer (some ⟨Bw, 0, none⟩), .pointer (some ⟨Bh, 0, none⟩)] (fun i : Nat => #[.int .i64 ((eG (eu (max w h) (min w h)) i).1 : Nat), .int .i64 ((eG (eu (max w h) (min w h)) i).2 : Nat)]) (fun _ _ => True) (fun ys => ys = List.range (eu (max w h) (min w h)).length) (fun pre => ∃ k, k ≤ (eu (max w h) (min w h)).length ∧ pre = List.range k) (eu (max w h) (min w h)).length W := fun l J Jx W' hW hJ _ hY h0 =>
  great1 n l Bw Bh w h hw hh J Jx W' hJ hY ((hW.cell (p := ⟨Bw, 0, none⟩) hBw).trans h1) ((hW.cell (p := ⟨Bh, 0, none⟩) hBh).trans h2) h0
end Go.Proofs.Ythoniopkeiifnaa

/-! GrJ12 -/
namespace Go.Proofs.Ythoniopkeiifnaa
open Go.RowKit Go.Shelf Go.Sort
attribute [local go_sem] Oper.semAt_some

def nat12 (L : List Nat) : List Int := L.map fun k : Nat => (k : Int)
theorem nat12_len (L : List Nat) : (nat12 L).length = L.length := by simp [nat12]
theorem nat12_snoc (L : List Nat) (x : Nat) : nat12 (L ++ [x]) = nat12 L ++ [(x : Int)] := by simp [nat12]
def gsV (w h : Int) : List Int := bif inB w 1 1000 && inB h 1 1000 then nat12 (sqF w.toNat h.toNat) else []
def quV (w h : Int) : List Int := bif inB w 1 1000 && inB h 1 1000 then nat12 (quF w.toNat h.toNat) else []
theorem gsV_len (w h : Int) : (gsV w h).length ≤ 1000 := by
  unfold gsV
  cases h1 : inB w 1 1000
  · simp
  · cases h2 : inB h 1 1000
    · simp
    · have a := inB_spec.1 h1; have b := inB_spec.1 h2
      simp only [Bool.and_self, cond_true, nat12_len]
      exact sqF_len (by omega) (by omega)
theorem quV_len (w h : Int) : (quV w h).length ≤ 1000 := by
  unfold quV
  cases h1 : inB w 1 1000
  · simp
  · cases h2 : inB h 1 1000
    · simp
    · have a := inB_spec.1 h1; have b := inB_spec.1 h2
      simp only [Bool.and_self, cond_true, nat12_len]
      exact quF_len (by omega) (by omega)
/-- The quotients of the sides named. -/
def quT (E : List (Nat × Nat)) (pre : List Nat) : List Nat := pre.map fun k => (eG E k).2
def sqT (E : List (Nat × Nat)) (pre : List Nat) : List Nat := sqL (pre.map fun k => eG E k)
theorem eG_range (E : List (Nat × Nat)) : (List.range E.length).map (fun k => eG E k) = E := by
  apply List.ext_getElem (by simp)
  intro k h1 h2
  simp [eG, h2]
theorem quT_all (E : List (Nat × Nat)) : quT E (List.range E.length) = E.map (·.2) := by
  have := congrArg (List.map (·.2)) (eG_range E)
  rw [List.map_map] at this
  exact this
theorem sqT_all (E : List (Nat × Nat)) : sqT E (List.range E.length) = sqL E := by unfold sqT; rw [eG_range]
theorem quT_snoc (E : List (Nat × Nat)) (pre : List Nat) (x : Nat) : nat12 (quT E (pre ++ [x])) = nat12 (quT E pre) ++ [(((eG E x).2 : Nat) : Int)] := by simp [quT, nat12]
theorem sqT_snoc (E : List (Nat × Nat)) (pre : List Nat) (x : Nat) : sqT E (pre ++ [x]) = sqT E pre ++ List.replicate (eG E x).2 (eG E x).1 := by
  unfold sqT
  rw [List.map_append, sqL_append]
  simp [sqL]
theorem quT_len (E : List (Nat × Nat)) (pre : List Nat) : (quT E pre).length = pre.length := by simp [quT]
theorem cutG_any (x y : Int) (w : World) :
    Calls Try.prog 69 #[.int .i64 x, .int .i64 y] w fun e w' => e = .returned (.bool (inB x 1 1000 && inB y 1 1000)) ∧ w' = w := by
  have H1 := Lib.hid (from_any x 1 1000)
  have H2 := Lib.hid (from_any y 1 1000)
  generalize inB x 1 1000 = x1 at *
  generalize inB y 1 1000 = x2 at *
  cases x1
  · go_enter Try.func69, Try.ntmps69
    go_wp2_with fail
    refine (H1.out _).mono ?_
    rintro e w1 ⟨rfl, rfl⟩
    go_wp2_with fail
    go_ret
    exact ⟨rfl, rfl⟩
  · go_enter Try.func69, Try.ntmps69
    go_wp2_with fail
    refine (H1.out _).mono ?_
    rintro e w1 ⟨rfl, rfl⟩
    go_wp2_with fail
    refine (H2.out _).mono ?_
    rintro e w2 ⟨rfl, rfl⟩
    go_wp2_with fail
    go_ret
    exact ⟨ret_bool (by simp), rfl⟩
set_option maxRecDepth 100000 in
set_option maxHeartbeats 8000000 in
theorem impl_qu (x y : Int) (w : World) : Calls Try.prog 20 #[.int .i64 x, .int .i64 y] w (ListsI w (quV x y)) := by
  have HG := Lib.hid (cutG_any x y)
  have HU : Hid (∀ v w', w'.ownsRow w.heap.size 3 1 v (quV x y).length (ints (quV x y)) → Below w.heap.size w w' → ListsI w (quV x y) (.returned v) w') := fun v w' h1 h2 => ⟨v, rfl, h1, h2⟩
  cases hc : inB x 1 1000 && inB y 1 1000
  · rw [hc] at HG
    have HV : Hid (quV x y = []) := by show _ = _; unfold quV; rw [hc]; rfl
    go_enter Try.func20, Try.ntmps20
    go_wp2_with fail
    refine (HG.out _).mono ?_
    rintro e w1 ⟨rfl, rfl⟩
    go_wp2_with fail
    go_ret
    exact HU.out _ _ (by rw [HV.out]; exact World.ownsRow_nil _ _ _ _) (Below.refl _ _)
  rw [hc] at HG
  have hx := inB_spec.1 (Bool.and_eq_true_iff.1 hc).1
  have hy := inB_spec.1 (Bool.and_eq_true_iff.1 hc).2
  obtain ⟨a, rfl⟩ : ∃ a : Nat, x = a := ⟨x.toNat, by omega⟩
  obtain ⟨b, rfl⟩ : ∃ b : Nat, y = b := ⟨y.toNat, by omega⟩
  have HV : Hid (quV a b = nat12 (quF a b)) := by show _ = _; unfold quV; rw [hc]; rfl
  have HT : Hid (quT (eu (max a b) (min a b)) (List.range (eu (max a b) (min a b)).length) = quF a b) := quT_all _
  have HLN : Hid ((eu (max a b) (min a b)).length ≤ 1000) := by
    show _ ≤ _
    have := eu_num (min a b) (max a b) (by omega); omega
  clear hc
  obtain ⟨i0, hi0, hz0, hz1, hz2⟩ := info_parts infoI10
  refine (callsIn_wide (n := 6)).1 ?_
  refine callsIn_of_wp_marks Try.func20 rfl trivial ?_ rfl
  simp only [Try.ntmps20, List.size_toArray, List.length_cons, List.length_nil, Nat.reduceAdd, Nat.reduceSub, Array.replicate_succ, Array.replicate_zero, List.push_toArray, List.append_toArray, List.nil_append, List.cons_append]
  gi_wp2
  refine ⟨trivial, (wide0.calls (HG.out _)).mono ?_⟩
  rintro e w1 ⟨rfl, rfl⟩
  gi_wp2
  refine ⟨trivial, (wide0.calls (great_any a b _)).mono ?_⟩
  rintro e w2 ⟨rfl, rfl⟩
  gi_wp2
  have bB := ((Boxed.new w1 22 (.slice none 0 0)).alloc (.cells #[.int .i64 a] 3)).alloc (.cells #[.int .i64 b] 3)
  have n1 := (Boxed.new (w1.alloc (.cells #[.slice none 0 0] 22)) 3 (.int .i64 a)).alloc (.cells #[.int .i64 b] 3)
  have n2 := Boxed.new ((w1.alloc (.cells #[.slice none 0 0] 22)).alloc (.cells #[.int .i64 a] 3)) 3 (.int .i64 b)
  have hB0 : Below w1.heap.size w1 (((w1.alloc (.cells #[.slice none 0 0] 22)).alloc (.cells #[.int .i64 a] 3)).alloc (.cells #[.int .i64 b] 3)) := below3 w1 _ _ _
  have hsz : (((w1.alloc (.cells #[.slice none 0 0] 22)).alloc (.cells #[.int .i64 a] 3)).alloc (.cells #[.int .i64 b] 3)).heap.size = w1.heap.size + 3 := by simp
  simp only [World.size_alloc] at n1 n2 ⊢
  obtain ⟨W0, hW0⟩ : ∃ W0, ((w1.alloc (.cells #[.slice none 0 0] 22)).alloc (.cells #[.int .i64 a] 3)).alloc (.cells #[.int .i64 b] 3) = W0 := ⟨_, rfl⟩
  rw [hW0] at bB n1 n2 hB0 hsz ⊢
  clear hW0
  have HS := Lib.hid (great_stops 5 (w1.heap.size + 1) (w1.heap.size + 1 + 1) a b W0 (by omega) (by omega) (by omega) (by omega) n1.cell n2.cell)
  generalize eu (max a b) (min a b) = E at *
  refine wpIn_rangeFunc_ownH rfl (by decide) (gf := 121) (lb := #[.pointer (some ⟨w1.heap.size + 1, 0, none⟩), .pointer (some ⟨w1.heap.size + 1 + 1, 0, none⟩)]) rfl trivial (enters_of Try.func121 (by kernel_rfl) rfl)
    HS.out (fun _ _ => trivial) (fun _ _ _ _ _ _ _ _ => trivial) (Below.refl _ _) (fun _ => rfl)
    (fun pre W => (∃ v, Boxed W w1.heap.size 22 v ∧ W.ownsRow (w1.heap.size + 1) 3 1 v (nat12 (quT E pre)).length (ints (nat12 (quT E pre))) ∧ True) ∧ Below w1.heap.size w1 W)
    (fun _ _ _ => False)
    (OwnFrom.and (Own.from (holdsRow_own (w1.heap.size + 1) w1.heap.size 22 3 1 (fun pre => (nat12 (quT E pre)).length) (fun pre => ints (nat12 (quT E pre))) (fun _ _ => True)) _) (ownFrom_below (Nat.le_refl _) (by omega)))
    (fun _ => ownFrom_pure _ (fun _ => False))
    ⟨⟨_, bB, World.ownsRow_nil _ _ _ _, trivial⟩, hB0⟩
    (fun x a' W => a' = { tmps := #[.int .i64 a, .int .i64 b, undef, undef, .slice none 0 0, .pointer (some ⟨w1.heap.size, 0, none⟩), undef, .int .i64 ((eG E x).2 : Nat), .int .i64 a, .int .i64 b, .bool true, .bool false, .int .i64 a, .int .i64 b, .func (.func 121) #[] #[.pointer (some ⟨w1.heap.size + 1, 0, none⟩), .pointer (some ⟨w1.heap.size + 1 + 1, 0, none⟩)], .int .i64 ((eG E x).1 : Nat), .int .i64 ((eG E x).2 : Nat), undef, undef, undef, undef, undef], defers := [] })
    (fun x a' => ownFrom_pure _ (fun _ => _))
    ?assign ?body ?done ?stop
  case assign =>
    rintro l pre x W K ⟨⟨v, bB4, own4, -⟩, hB4⟩ hK
    gi_wp2
    exact hK _ _ (kF_below (Below.refl _ _)) trivial ⟨⟨v, bB4, own4, trivial⟩, hB4⟩ rfl
  case body =>
    rintro l pre x a' W hl hpl ⟨⟨v, bB4, own4, -⟩, hB4⟩ rfl hlt
    have hs4 := hB4.size
    have hlen : (nat12 (quT E pre)).length = pre.length := by rw [nat12_len, quT_len]
    have HST := Lib.hid (quT_snoc E pre x)
    have hplt : pre.length < E.length := hlt
    have hl1 := HLN.out
    generalize nat12 (quT E pre) = M at *
    generalize (eG E x).2 = z at *
    generalize (eG E x).1 = z' at *
    have hml : M.length < 1000 := by omega
    clear hlen hplt hlt hl1
    have cB := bB4.cell
    have fB := bB4.frozen
    have hrw := fun k hk => (own4.lt k hk).1
    have hs1 : w1.heap.size ≤ w1.heap.size := Nat.le_refl _
    have hlt1 : w1.heap.size < W.heap.size := bB4.lt
    gi_wp2_with (gi_at_builtin; refine wpListIn_append_own _ rfl _ _ 22 rfl (w1.heap.size + 1) 3 i0 (.int .i64 0) 1 8 Try.underlying22 hi0 hz0 hz1 hz2 rfl (by decide) _ _ _ rfl (own4.alloc _) ⟨W.heap.size, 0, none⟩ 1 1 [.int .i64 z] rfl rfl ?d1 ?d2 ?d3 ?d4 ?d5 ?_)
    case d1 => exact World.news_of_block (cs := #[.int .i64 z]) (t := 3) (fr := (0, 0)) (heap_alloc_new W _)
    case d2 => simp [Value.oneCell']
    case d3 => unfold maxLen; omega
    case d4 => omega
    case d5 => simp; omega
    intro v' w6 own6 hgrow _
    obtain ⟨g6, cp6, rfl⟩ := ownsRow_succ own6
    obtain ⟨hv1, hv2, hr2, hk2, hb2⟩ := bB4.appended (by decide) (own_base own4 (show w1.heap.size ≤ w1.heap.size + 1 by omega)) hs4 hs1 (own_base own6 (show w1.heap.size ≤ w1.heap.size + 1 by omega)) hgrow
    have hc6 := hv1.cell
    have hf6 := hv1.frozen
    have hv3 := row_other own6 (show w1.heap.size < w1.heap.size + 1 by omega) 0 (.slice (some ⟨g6, 0, none⟩) (M.length + 1) cp6)
    have hB7 := hB4.trans hb2
    have hF7 := hk2.from W0.heap.size
    have R := Lib.hid (And.intro hv2 (And.intro hv3 (And.intro hB7 hF7)))
    clear hv2 hr2 hk2 hb2 hv3 hB7 hF7 hgrow own6 own4 hv1 bB4 hB4
    gi_wp2
    obtain ⟨r1, r2, r3, r5⟩ := R.out
    refine ⟨r5, trivial, ?_⟩
    simp only [HST.out, List.length_append, List.length_cons, List.length_nil, ints_snoc]
    exact ⟨⟨_, r1, r2, trivial⟩, r3⟩
  case done =>
    rintro D zs W hD rfl ⟨⟨v, bB4, own4, -⟩, hB4⟩ hK
    have cB := bB4.cell
    have hs9 := hB0.size
    rw [HT.out, ← HV.out] at own4
    gi_wp2
    refine ⟨by simp, .inl ⟨_, _, rfl, run_takeDeferred hK, ?_⟩⟩
    exact ⟨_, results_tmp rfl _ _ _, HU.out _ _ (ownsRow_putObj (own_base own4 (show w1.heap.size ≤ w1.heap.size + 1 by omega)) _ hK rfl) (hB4.trans (belowK_b (w := w1) (Nat.le_refl _) W D _ _ (by omega) hK rfl rfl))⟩
  case stop =>
    rintro D k pre W hD hpre h hK
    exact h.elim
theorem eG_le {w h : Nat} (hw : w ≤ 1000) (hh : h ≤ 1000) (x : Nat) : (eG (eu (max w h) (min w h)) x).2 ≤ 1000 := by
  unfold eG
  rcases Nat.lt_or_ge x (eu (max w h) (min w h)).length with h1 | h1
  · have := eu_le (min w h) (max w h) (by omega) _ (List.getElem_mem h1)
    simp only [List.getD_eq_getElem?_getD, List.getElem?_eq_getElem h1, Option.getD_some]
    omega
  · simp [List.getD_eq_getElem?_getD, List.getElem?_eq_none h1]
theorem sqT_le {E : List (Nat × Nat)} (h : ∀ x, (eG E x).2 ≤ 1000) : ∀ pre : List Nat, (sqT E pre).length ≤ pre.length * 1000
  | [] => by simp [sqT, sqL]
  | x :: pre => by
    have ih := sqT_le h pre
    have hx := h x
    unfold sqT at *
    simp only [List.map_cons, sqL, List.length_append, List.length_replicate, List.length_cons]
    omega
theorem nat12_rep (L : List Nat) (z j : Nat) : nat12 (L ++ List.replicate (j + 1) z) = nat12 (L ++ List.replicate j z) ++ [(z : Int)] := by
  rw [List.replicate_succ', ← List.append_assoc, nat12_snoc]
set_option maxRecDepth 100000 in
set_option maxHeartbeats 8000000 in
theorem impl_gs (x y : Int) (w : World) : Calls Try.prog 15 #[.int .i64 x, .int .i64 y] w (ListsI w (gsV x y)) := by
  have HG := Lib.hid (cutG_any x y)
  have HU : Hid (∀ v w', w'.ownsRow w.heap.size 3 1 v (gsV x y).length (ints (gsV x y)) → Below w.heap.size w w' → ListsI w (gsV x y) (.returned v) w') := fun v w' h1 h2 => ⟨v, rfl, h1, h2⟩
  cases hc : inB x 1 1000 && inB y 1 1000
  · rw [hc] at HG
    have HV : Hid (gsV x y = []) := by show _ = _; unfold gsV; rw [hc]; rfl
    go_enter Try.func15, Try.ntmps15
    go_wp2_with fail
    refine (HG.out _).mono ?_
    rintro e w1 ⟨rfl, rfl⟩
    go_wp2_with fail
    go_ret
    exact HU.out _ _ (by rw [HV.out]; exact World.ownsRow_nil _ _ _ _) (Below.refl _ _)
  rw [hc] at HG
  have hx := inB_spec.1 (Bool.and_eq_true_iff.1 hc).1
  have hy := inB_spec.1 (Bool.and_eq_true_iff.1 hc).2
  obtain ⟨a, rfl⟩ : ∃ a : Nat, x = a := ⟨x.toNat, by omega⟩
  obtain ⟨b, rfl⟩ : ∃ b : Nat, y = b := ⟨y.toNat, by omega⟩
  have HV : Hid (gsV a b = nat12 (sqF a b)) := by show _ = _; unfold gsV; rw [hc]; rfl
  have HT : Hid (sqT (eu (max a b) (min a b)) (List.range (eu (max a b) (min a b)).length) = sqF a b) := sqT_all _
  have HE2 : Hid (∀ x, (eG (eu (max a b) (min a b)) x).2 ≤ 1000) := eG_le (by omega) (by omega)
  have HLN : Hid ((eu (max a b) (min a b)).length ≤ 1000) := by
    show _ ≤ _
    have := eu_num (min a b) (max a b) (by omega); omega
  clear hc
  obtain ⟨i0, hi0, hz0, hz1, hz2⟩ := info_parts infoI10
  refine (callsIn_wide (n := 6)).1 ?_
  refine callsIn_of_wp_marks Try.func15 rfl trivial ?_ rfl
  simp only [Try.ntmps15, List.size_toArray, List.length_cons, List.length_nil, Nat.reduceAdd, Nat.reduceSub, Array.replicate_succ, Array.replicate_zero, List.push_toArray, List.append_toArray, List.nil_append, List.cons_append]
  gi_wp2
  refine ⟨trivial, (wide0.calls (HG.out _)).mono ?_⟩
  rintro e w1 ⟨rfl, rfl⟩
  gi_wp2
  refine ⟨trivial, (wide0.calls (great_any a b _)).mono ?_⟩
  rintro e w2 ⟨rfl, rfl⟩
  gi_wp2
  have bB := ((Boxed.new w1 22 (.slice none 0 0)).alloc (.cells #[.int .i64 a] 3)).alloc (.cells #[.int .i64 b] 3)
  have n1 := (Boxed.new (w1.alloc (.cells #[.slice none 0 0] 22)) 3 (.int .i64 a)).alloc (.cells #[.int .i64 b] 3)
  have n2 := Boxed.new ((w1.alloc (.cells #[.slice none 0 0] 22)).alloc (.cells #[.int .i64 a] 3)) 3 (.int .i64 b)
  have hB0 : Below w1.heap.size w1 (((w1.alloc (.cells #[.slice none 0 0] 22)).alloc (.cells #[.int .i64 a] 3)).alloc (.cells #[.int .i64 b] 3)) := below3 w1 _ _ _
  have hsz : (((w1.alloc (.cells #[.slice none 0 0] 22)).alloc (.cells #[.int .i64 a] 3)).alloc (.cells #[.int .i64 b] 3)).heap.size = w1.heap.size + 3 := by simp
  simp only [World.size_alloc] at n1 n2 ⊢
  obtain ⟨W0, hW0⟩ : ∃ W0, ((w1.alloc (.cells #[.slice none 0 0] 22)).alloc (.cells #[.int .i64 a] 3)).alloc (.cells #[.int .i64 b] 3) = W0 := ⟨_, rfl⟩
  rw [hW0] at bB n1 n2 hB0 hsz ⊢
  clear hW0
  have HS := Lib.hid (great_stops 5 (w1.heap.size + 1) (w1.heap.size + 1 + 1) a b W0 (by omega) (by omega) (by omega) (by omega) n1.cell n2.cell)
  generalize eu (max a b) (min a b) = E at *
  refine wpIn_rangeFunc_ownH rfl (by decide) (gf := 121) (lb := #[.pointer (some ⟨w1.heap.size + 1, 0, none⟩), .pointer (some ⟨w1.heap.size + 1 + 1, 0, none⟩)]) rfl trivial (enters_of Try.func121 (by kernel_rfl) rfl)
    HS.out (fun _ _ => trivial) (fun _ _ _ _ _ _ _ _ => trivial) (Below.refl _ _) (fun _ => rfl)
    (fun pre W => (∃ v, Boxed W w1.heap.size 22 v ∧ W.ownsRow (w1.heap.size + 1) 3 1 v (nat12 (sqT E pre)).length (ints (nat12 (sqT E pre))) ∧ True) ∧ Below w1.heap.size w1 W)
    (fun _ _ _ => False)
    (OwnFrom.and (Own.from (holdsRow_own (w1.heap.size + 1) w1.heap.size 22 3 1 (fun pre => (nat12 (sqT E pre)).length) (fun pre => ints (nat12 (sqT E pre))) (fun _ _ => True)) _) (ownFrom_below (Nat.le_refl _) (by omega)))
    (fun _ => ownFrom_pure _ (fun _ => False))
    ⟨⟨_, bB, World.ownsRow_nil _ _ _ _, trivial⟩, hB0⟩
    (fun x a' W => a' = { tmps := #[.int .i64 a, .int .i64 b, undef, undef, .slice none 0 0, .pointer (some ⟨w1.heap.size, 0, none⟩), .int .i64 ((eG E x).1 : Nat), .int .i64 ((eG E x).2 : Nat), .int .i64 a, .int .i64 b, .bool true, .bool false, .int .i64 a, .int .i64 b, .func (.func 121) #[] #[.pointer (some ⟨w1.heap.size + 1, 0, none⟩), .pointer (some ⟨w1.heap.size + 1 + 1, 0, none⟩)], .int .i64 ((eG E x).1 : Nat), .int .i64 ((eG E x).2 : Nat), undef, undef, undef, undef, undef, undef, undef, undef, undef], defers := [] })
    (fun x a' => ownFrom_pure _ (fun _ => _))
    ?assign ?body ?done ?stop
  case assign =>
    rintro l pre x W K ⟨⟨v, bB4, own4, -⟩, hB4⟩ hK
    gi_wp2
    exact hK _ _ (kF_below (Below.refl _ _)) trivial ⟨⟨v, bB4, own4, trivial⟩, hB4⟩ rfl
  case body =>
    rintro l pre x a' W hl hpl ⟨⟨v, bB4, own4, -⟩, hB4⟩ rfl hlt
    have hs4 := hB4.size
    have hlen := sqT_le HE2.out pre
    have HST : Hid (nat12 (sqT E (pre ++ [x])) = nat12 (sqT E pre ++ List.replicate (eG E x).2 (eG E x).1)) := by show _ = _; rw [sqT_snoc]
    have hplt : pre.length < E.length := hlt
    have hl1 := HLN.out
    have hz9 := HE2.out x
    generalize sqT E pre = M at *
    generalize (eG E x).2 = z at *
    generalize (eG E x).1 = y at *
    have hml : M.length ≤ 1000000 := by omega
    clear hlen hplt hlt hl1
    have hM0 : nat12 M = nat12 (M ++ List.replicate 0 y) := by simp
    rw [hM0] at own4
    clear hM0
    gi_wp2
    gi_loopw [18] (fun i wr => ∃ j : Nat, j ≤ z ∧ i = .int .i64 j ∧ (∃ v, Boxed wr w1.heap.size 22 v ∧ wr.ownsRow (w1.heap.size + 1) 3 1 v (nat12 (M ++ List.replicate j y)).length (ints (nat12 (M ++ List.replicate j y)))) ∧ Below w1.heap.size w1 wr ∧ KeepsFrom W0.heap.size W wr) (fun i _ => z - (intOf i).toNat)
    case atStart => exact ⟨0, Nat.zero_le _, rfl, ⟨v, bB4, own4⟩, hB4, kF_below (Below.refl _ _)⟩
    case round =>
      clear own4 bB4 hB4 hs4
      obtain ⟨wo, rfl⟩ : ∃ wo : World, wo = wr := ⟨_, rfl⟩
      obtain ⟨j, hj, rfl, ⟨v, bB4, own4⟩, hB4, hKF⟩ := hrel
      by_cases hlt : j < z
      · have hs4 := hB4.size
        have HRP := Lib.hid (nat12_rep M y j)
        have hml2 : (nat12 (M ++ List.replicate j y)).length ≤ 1001000 := by rw [nat12_len]; simp; omega
        generalize nat12 (M ++ List.replicate j y) = L at *
        have cB := bB4.cell
        have fB := bB4.frozen
        have hs1 : w1.heap.size ≤ w1.heap.size := Nat.le_refl _
        have hlt1 : w1.heap.size < wo.heap.size := bB4.lt
        gi_wp2_with (gi_at_builtin; refine wpListIn_append_own _ rfl _ _ 22 rfl (w1.heap.size + 1) 3 i0 (.int .i64 0) 1 8 Try.underlying22 hi0 hz0 hz1 hz2 rfl (by decide) _ _ _ rfl (own4.alloc _) ⟨wo.heap.size, 0, none⟩ 1 1 [.int .i64 y] rfl rfl ?d1 ?d2 ?d3 ?d4 ?d5 ?_)
        case d1 => exact World.news_of_block (cs := #[.int .i64 y]) (t := 3) (fr := (0, 0)) (heap_alloc_new wo _)
        case d2 => simp [Value.oneCell']
        case d3 => unfold maxLen; omega
        case d4 => omega
        case d5 => simp; omega
        intro v' w6 own6 hgrow _
        obtain ⟨g6, cp6, rfl⟩ := ownsRow_succ own6
        obtain ⟨hv1, hv2, hr2, hk2, hb2⟩ := bB4.appended (by decide) (own_base own4 (show w1.heap.size ≤ w1.heap.size + 1 by omega)) hs4 hs1 (own_base own6 (show w1.heap.size ≤ w1.heap.size + 1 by omega)) hgrow
        have hc6 := hv1.cell
        have hf6 := hv1.frozen
        have hv3 := row_other own6 (show w1.heap.size < w1.heap.size + 1 by omega) 0 (.slice (some ⟨g6, 0, none⟩) (L.length + 1) cp6)
        have hB7 := hB4.trans hb2
        have hF7 := hKF.trans (hk2.from W0.heap.size)
        have R := Lib.hid (And.intro hv2 (And.intro hv3 (And.intro hB7 hF7)))
        clear hv2 hr2 hk2 hb2 hv3 hB7 hF7 hgrow own6 own4 hv1 bB4 hB4 hKF
        gi_wp2
        go_roundw
        case rel =>
          obtain ⟨r1, r2, r3, r5⟩ := R.out
          refine ⟨j + 1, by omega, by go_num, ⟨_, r1, ?_⟩, r3, r5⟩
          rw [HRP.out, List.length_append, ints_snoc]
          exact r2
        case measure => simp [intOf]; omega
      · obtain rfl : j = z := by omega
        gi_wp2
        refine ⟨hKF, trivial, ?_⟩
        simp only [HST.out]
        exact ⟨⟨_, bB4, own4, trivial⟩, hB4⟩
  case done =>
    rintro D zs W hD rfl ⟨⟨v, bB4, own4, -⟩, hB4⟩ hK
    have cB := bB4.cell
    have hs9 := hB0.size
    rw [HT.out, ← HV.out] at own4
    gi_wp2
    refine ⟨by simp, .inl ⟨_, _, rfl, run_takeDeferred hK, ?_⟩⟩
    exact ⟨_, results_tmp rfl _ _ _, HU.out _ _ (ownsRow_putObj (own_base own4 (show w1.heap.size ≤ w1.heap.size + 1 by omega)) _ hK rfl) (hB4.trans (belowK_b (w := w1) (Nat.le_refl _) W D _ _ (by omega) hK rfl rfl))⟩
  case stop =>
    rintro D k pre W hD hpre h hK
    exact h.elim
end Go.Proofs.Ythoniopkeiifnaa

/-! GrS12 -/
namespace Go.Proofs.Ythoniopkeiifnaa
open Go.RowKit

theorem gr_end {a b c j : Nat} (h : c + j * b = a) (hc : c < b) : j = a / b ∧ c = a % b := by
  have h2 : b * j + c = a := by rw [Nat.mul_comm]; omega
  have h1 := (Nat.div_mod_unique (a := a) (b := b) (c := c) (d := j) (by omega)).2 ⟨by omega, hc⟩
  exact ⟨h1.1.symm, h1.2.symm⟩
theorem gr_len {D E : List (Nat × Nat)} {a b c j : Nat} (h : D ++ eu a b = E) (hb : 0 < b) (hc : c + j * b = a) : (sqL D ++ List.replicate j b).length ≤ (sqL E).length := by
  rw [← h, sqL_append, eu_pos hb]
  simp only [sqL, List.length_append, List.length_replicate]
  have : j ≤ a / b := (Nat.le_div_iff_mul_le hb).2 (by omega)
  omega
theorem gr_next {D E : List (Nat × Nat)} {a b c j : Nat} (h : D ++ eu a b = E) (hb : 0 < b) (hc : c + j * b = a) (hl : c < b) : (D ++ [(b, j)]) ++ eu b c = E ∧ sqL D ++ List.replicate j b = sqL (D ++ [(b, j)]) := by
  obtain ⟨rfl, rfl⟩ := gr_end hc hl
  refine ⟨?_, (sqL_snoc D b _).symm⟩
  rw [← h, eu_pos hb]; simp
set_option maxRecDepth 100000 in
set_option maxHeartbeats 8000000 in
theorem spec_gs (x y : Int) (w : World) : Calls Try.prog 14 #[.int .i64 x, .int .i64 y] w (ListsI w (gsV x y)) := by
  have H1 := Lib.hid (in_any x 1 1000)
  have H2 := Lib.hid (in_any y 1 1000)
  have HU : Hid (∀ v w', w'.ownsRow w.heap.size 3 1 v (gsV x y).length (ints (gsV x y)) → Below w.heap.size w w' → ListsI w (gsV x y) (.returned v) w') := fun v w' h1 h2 => ⟨v, rfl, h1, h2⟩
  cases h1 : inB x 1 1000
  · rw [h1] at H1
    have HV : Hid (gsV x y = []) := by show _ = _; unfold gsV; rw [h1]; rfl
    clear h1
    go_enter Try.func14, Try.ntmps14
    go_wp2_with fail
    refine (H1.out _).mono ?_
    rintro e w1 ⟨rfl, rfl⟩
    go_wp2_with fail
    go_ret
    exact HU.out _ _ (by rw [HV.out]; exact World.ownsRow_nil _ _ _ _) (Below.refl _ _)
  cases h2 : inB y 1 1000
  · rw [h1] at H1
    rw [h2] at H2
    have HV : Hid (gsV x y = []) := by show _ = _; unfold gsV; rw [h1, h2]; rfl
    clear h1 h2
    go_enter Try.func14, Try.ntmps14
    go_wp2_with fail
    refine (H1.out _).mono ?_
    rintro e w1 ⟨rfl, rfl⟩
    go_wp2_with fail
    refine (H2.out _).mono ?_
    rintro e w1 ⟨rfl, rfl⟩
    go_wp2_with fail
    go_ret
    exact HU.out _ _ (by rw [HV.out]; exact World.ownsRow_nil _ _ _ _) (Below.refl _ _)
  rw [h1] at H1
  rw [h2] at H2
  have hx := inB_spec.1 h1
  have hy := inB_spec.1 h2
  obtain ⟨a, rfl⟩ : ∃ a : Nat, x = a := ⟨x.toNat, by omega⟩
  obtain ⟨b, rfl⟩ : ∃ b : Nat, y = b := ⟨y.toNat, by omega⟩
  have HV : Hid (gsV a b = nat12 (sqL (eu (max a b) (min a b)))) := by show _ = _; unfold gsV; rw [h1, h2]; rfl
  have HL : Hid ((sqL (eu (max a b) (min a b))).length ≤ 1000) := sqF_len (by omega) (by omega)
  have hmin : ∀ (w : World) (x y : Int) (ts : Array TypeId) (t : TypeId), (Builtin.min_ ts t #[.int .i64 x, .int .i64 y]).run Try.prog w = .ok (.int .i64 (minI x y)) w := run_minI
  have hmax : ∀ (w : World) (x y : Int) (ts : Array TypeId) (t : TypeId), (Builtin.max_ ts t #[.int .i64 x, .int .i64 y]).run Try.prog w = .ok (.int .i64 (maxI x y)) w := run_maxI
  have e1 := minI_nat12 a b
  have e2 := maxI_nat12 a b
  have HA0 : Hid (min a b ≤ max a b ∧ max a b ≤ 1000) := ⟨by omega, by omega⟩
  generalize max a b = a0 at *
  generalize min a b = b0 at *
  obtain ⟨i0, hi0, hz0, hz1, hz2⟩ := info_parts infoI
  have own0 := World.ownsRow_lit (base := w.heap.size) (e := 3) (size := 1) w #[] 0 (Nat.le_refl _) (by unfold maxLen; omega) (by rfl)
  have hb0 := below1 w (.cells #[] 3)
  clear h1 h2 hx hy
  go_enter Try.func14, Try.ntmps14
  go_wp2_with fail
  refine (H1.out _).mono ?_
  rintro e w1 ⟨rfl, rfl⟩
  go_wp2_with fail
  refine (H2.out _).mono ?_
  rintro e w2 ⟨rfl, rfl⟩
  go_wp2_with fail
  clear hmin hmax e1 e2
  obtain ⟨q1, q2⟩ := HA0.out
  go_loopw [5, 6, 7, 8] (fun s i k _ wr => ∃ (D : List (Nat × Nat)) (c d : Nat), i = .int .i64 c ∧ k = .int .i64 d ∧ d ≤ c ∧ c ≤ 1000 ∧ Hid (D ++ eu c d = eu a0 b0) ∧ wr.ownsRow w2.heap.size 3 1 s (nat12 (sqL D)).length (ints (nat12 (sqL D))) ∧ Below w2.heap.size w2 wr) (fun _ _ k _ _ => (intOf k).toNat)
  case atStart => exact ⟨[], a0, b0, rfl, rfl, q1, q2, rfl, own0, hb0⟩
  case round =>
    obtain ⟨wo, rfl⟩ : ∃ wo : World, wo = wr := ⟨_, rfl⟩
    clear own0 hb0 q1 q2 HA0
    obtain ⟨D, c, d, rfl, rfl, hdc, hc, HD, own, hb⟩ := hrel
    by_cases h0 : 0 < d
    · have HLN : Hid (∀ e j : Nat, e + j * d = c → (sqL D ++ List.replicate j d).length ≤ 1000) := fun e j h => Nat.le_trans (gr_len HD.out h0 h) HL.out
      have HNX : Hid (∀ e j : Nat, e + j * d = c → e < d → (D ++ [(d, j)]) ++ eu d e = eu a0 b0 ∧ sqL D ++ List.replicate j d = sqL (D ++ [(d, j)])) := fun e j h hl => gr_next HD.out h0 h hl
      have hM0 : nat12 (sqL D) = nat12 (sqL D ++ List.replicate 0 d) := by simp
      rw [hM0] at own
      clear hM0 HD
      go_wp2_with fail
      go_loopw [5, 6] (fun s i wr => ∃ j e : Nat, i = .int .i64 e ∧ e ≤ c ∧ Hid (e + j * d = c) ∧ wr.ownsRow w2.heap.size 3 1 s (nat12 (sqL D ++ List.replicate j d)).length (ints (nat12 (sqL D ++ List.replicate j d))) ∧ Below w2.heap.size w2 wr) (fun _ i _ => (intOf i).toNat)
      case atStart => exact ⟨0, c, rfl, Nat.le_refl _, by show _ = _; omega, own, hb⟩
      case round =>
        obtain ⟨wp, rfl⟩ : ∃ wp : World, wp = wr := ⟨_, rfl⟩
        clear own hb
        obtain ⟨j, e, rfl, hec, HE, own, hb⟩ := hrel
        by_cases hlt : d ≤ e
        · have HE2 : Hid ((e - d) + (j + 1) * d = c) := by
            show _ = _
            have := HE.out
            rw [Nat.add_mul]; omega
          have HRP := Lib.hid (nat12_rep (sqL D) d j)
          have hml := HLN.out e j HE.out
          rw [← nat12_len] at hml
          generalize nat12 (sqL D ++ List.replicate j d) = L at *
          have hs6 := hb.size
          obtain ⟨z, hz⟩ : ∃ z, z = e - d := ⟨_, rfl⟩
          have hsub : (e : Int) - (d : Int) = (z : Int) := by omega
          have hze : z < e := by omega
          rw [← hz] at HE2
          clear hz
          go_wp2_with (at_builtin; refine wpList_append_own _ rfl _ _ 22 rfl w2.heap.size 3 i0 (.int .i64 0) 1 8 Try.underlying22 hi0 hz0 hz1 hz2 rfl (by decide) _ _ _ rfl (own.alloc _) ⟨wp.heap.size, 0, none⟩ 1 1 [.int .i64 d] rfl rfl (World.news_of_block (cs := #[.int .i64 d]) (t := 3) (fr := (0, 0)) (heap_alloc_new wp _)) ?d2 ?d3 ?d4 ?d5 ?_)
          case d2 => simp [Value.oneCell']
          case d3 => unfold maxLen; omega
          case d4 => omega
          case d5 => first | omega | (simp; omega)
          intro v' w7 own7 hgrow _
          have hrw := fun k hk => (own.lt k hk).1
          have R : Hid (w7.ownsRow w2.heap.size 3 1 v' (nat12 (sqL D ++ List.replicate (j + 1) d)).length (ints (nat12 (sqL D ++ List.replicate (j + 1) d))) ∧ Below w2.heap.size w2 w7) :=
            ⟨by rw [HRP.out, ints_snoc, List.length_append]; exact own7, (hb.alloc hs6 _).grown hgrow (by simp; omega) hrw⟩
          clear own own7 hgrow hb hrw
          go_wp2_with fail
          go_roundw
          case rel => exact ⟨j + 1, z, by go_num, by omega, HE2, R.out.1, R.out.2⟩
          case measure => simp [intOf]; omega
        · obtain ⟨n1, n2⟩ := HNX.out e j HE.out (by omega)
          rw [n2] at own
          have HN1 := Lib.hid n1
          clear n1 n2
          have R := Lib.hid (And.intro own hb)
          clear own hb
          go_wp2_with fail
          go_roundw
          case rel => exact ⟨_, d, e, by go_num, by go_num, by omega, by omega, HN1, R.out.1, R.out.2⟩
          case measure => simp [intOf]; omega
    · obtain rfl : d = 0 := by omega
      have hD : gsV a b = nat12 (sqL D) := by
        have := HD.out
        rw [eu_zero, List.append_nil] at this
        rw [HV.out, ← this]
      rw [← hD] at own
      clear hD
      have R := Lib.hid (HU.out _ _ own hb)
      clear own hb
      go_wp2_with fail
      go_ret
      exact R.out
theorem runs_le {L : List Nat} : ∀ k, ∀ r ∈ runsF L k, r ≤ k
  | 0, r, h => by simp [runsF] at h
  | k + 1, r, h => by
    have ih := runs_le (L := L) k
    rw [runsF, runAdd] at h
    split at h
    · rcases List.mem_append.1 h with h | h
      · have := ih r h; omega
      · simp at h; omega
    · rcases List.mem_append.1 h with h | h
      · have := ih r ((List.dropLast_sublist _).subset h); omega
      · simp only [List.mem_cons, List.not_mem_nil, or_false] at h
        subst h
        rcases List.eq_nil_or_concat (runsF L k) with e | ⟨P, z, e⟩
        · rw [e]; simp
        · have hz : z ∈ runsF L k := by rw [e]; simp
          have := ih z hz
          rw [e]; simp; omega
/-- One run more, or the last run longer: what stands ahead of the '++'. -/
theorem runs_new {N : List Nat} {k : Nat} (h : k = 0 ∨ N.getD k 0 ≠ N.getD (k - 1) 0) : nat12 (runsF N (k + 1)) = nat12 (runsF N k) ++ [(0 : Int) + 1] := by
  rw [runsF_new h, nat12_snoc]; rfl
theorem runs_old {N : List Nat} {k : Nat} (h0 : 0 < k) (h : N.getD k 0 = N.getD (k - 1) 0) : ∃ (P : List Int) (z : Nat), nat12 (runsF N k) = P ++ [(z : Int)] ∧ z ≤ k ∧ nat12 (runsF N (k + 1)) = P ++ [(z : Int) + 1] := by
  rcases List.eq_nil_or_concat (runsF N k) with e | ⟨P, z, e⟩
  · exact absurd e (runsF_pos k h0)
  · rw [List.concat_eq_append] at e
    refine ⟨nat12 P, z, by rw [e, nat12_snoc], runs_le k z (by rw [e]; simp), ?_⟩
    rw [runsF_old h0 h, e]
    simp [nat12]
theorem ints_bump (P : List Int) (z u : Int) : (ints (P ++ [z])).set P.length (.int .i64 u) = ints (P ++ [u]) := by
  rw [ints_snoc, ints_snoc, List.set_append_right _ _ (by rw [ints_len]; exact Nat.le_refl _)]
  simp [ints_len]
theorem ints_last (P : List Int) (z : Int) : (ints (P ++ [z]))[P.length]? = some (.int .i64 z) := by
  rw [ints_snoc, List.getElem?_append_right (by rw [ints_len]; exact Nat.le_refl _)]
  simp [ints_len]
/-- The list that QuotientsOf goes through. -/
def gsN (w h : Int) : List Nat := bif inB w 1 1000 && inB h 1 1000 then sqF w.toNat h.toNat else []
theorem gsN_gs (w h : Int) : gsV w h = nat12 (gsN w h) := by unfold gsV gsN; cases inB w 1 1000 && inB h 1 1000 <;> rfl
theorem gsN_qu (w h : Int) : quV w h = nat12 (runsF (gsN w h) (gsN w h).length) := by
  unfold quV gsN
  cases inB w 1 1000 && inB h 1 1000
  · rfl
  · simp only [cond_true, runs_sq]
theorem gsN_len (w h : Int) : (gsN w h).length ≤ 1000 := by
  have := gsV_len w h
  rw [gsN_gs, nat12_len] at this
  exact this
theorem nat12_at {N : List Nat} {k : Nat} (h : k < N.length) : (nat12 N)[k]'(by rw [nat12_len]; exact h) = ((N.getD k 0 : Nat) : Int) := by simp [nat12, h]
set_option maxRecDepth 100000 in
set_option maxHeartbeats 8000000 in
theorem spec_qu (x y : Int) (w : World) : Calls Try.prog 19 #[.int .i64 x, .int .i64 y] w (ListsI w (quV x y)) := by
  have HS := Lib.hid (spec_gs x y w)
  unfold ListsI at HS
  rw [gsN_gs] at HS
  have HL := Lib.hid (gsN_len x y)
  have HU : Hid (∀ v w', w'.ownsRow w.heap.size 3 1 v (nat12 (runsF (gsN x y) (gsN x y).length)).length (ints (nat12 (runsF (gsN x y) (gsN x y).length))) → Below w.heap.size w w' → ListsI w (quV x y) (.returned v) w') := fun v w' h1 h2 => ⟨v, rfl, by rw [gsN_qu]; exact h1, h2⟩
  generalize gsN x y = N at *
  obtain ⟨i0, hi0, hz0, hz1, hz2⟩ := info_parts infoI
  go_enter Try.func19, Try.ntmps19
  go_wp2_with fail
  refine HS.out.mono ?_
  rintro e w1 ⟨v, rfl, own1, hb1⟩
  obtain ⟨_, A1, c1, rfl, p1⟩ := own_ints own1
  rw [nat12_len]
  have HP := Lib.hid p1
  have HB1 := Lib.hid hb1
  have own0 := World.ownsRow_lit (base := w1.heap.size) (e := 3) (size := 1) w1 #[] 0 (Nat.le_refl _) (by unfold maxLen; omega) (by rfl)
  have hb0 := below1 w1 (.cells #[] 3)
  clear own1 p1 hb1 HS
  go_wp2_with fail
  go_loopw [6, 7, 8, 15] (fun o _ _ i wr => ∃ k : Nat, k ≤ N.length ∧ i = .int .i64 k ∧ wr.ownsRow w1.heap.size 3 1 o (nat12 (runsF N k)).length (ints (nat12 (runsF N k))) ∧ Below w1.heap.size w1 wr) (fun _ _ _ i _ => N.length - (intOf i).toNat)
  case atStart => exact ⟨0, Nat.zero_le _, rfl, own0, hb0⟩
  case round =>
    obtain ⟨wo, rfl⟩ : ∃ wo : World, wo = wr := ⟨_, rfl⟩
    clear own0 hb0
    obtain ⟨k, hk, rfl, own, hb⟩ := hrel
    have hl9 := HL.out
    have hrl := runsF_len (L := N) k
    by_cases hlt : k < N.length
    · obtain ⟨g1, rfl, hc1⟩ := intsA_on HP.out hb k (by rw [nat12_len]; exact hlt)
      rw [nat12_at hlt] at hc1
      have hs6 := hb.size
      by_cases hnew : k = 0 ∨ N.getD k 0 ≠ N.getD (k - 1) 0
      · have HRN := Lib.hid (runs_new hnew)
        have hML : (nat12 (runsF N k)).length ≤ 1000 := by rw [nat12_len]; omega
        clear hrl
        rcases Nat.eq_zero_or_pos k with h0 | h0
        · subst h0
          clear hnew
          generalize nat12 (runsF N 0) = P at *
          generalize N.getD 0 0 = z at *
          go_wp2_with (at_builtin; refine wpList_append_own _ rfl _ _ 22 rfl w1.heap.size 3 i0 (.int .i64 0) 1 8 Try.underlying22 hi0 hz0 hz1 hz2 rfl (by decide) _ _ _ rfl (own.alloc _) ⟨wo.heap.size, 0, none⟩ 1 1 [.int .i64 0] rfl rfl (World.news_of_block (cs := #[.int .i64 0]) (t := 3) (fr := (0, 0)) (heap_alloc_new wo _)) ?d2 ?d3 ?d4 ?d5 ?_)
          case d2 => simp [Value.oneCell']
          case d3 => unfold maxLen; omega
          case d4 => omega
          case d5 => first | omega | (simp; omega)
          intro v' w7 own7 hgrow _
          have hrw := fun k hk => (own.lt k hk).1
          have hb7 := (hb.alloc hs6 _).grown hgrow (by simp; omega) hrw
          rw [← ints_snoc] at own7
          obtain ⟨g6, cp6, rfl⟩ := ownsRow_succ own7
          have hst := (own7.stored P.length (.int .i64 (0 + 1))).1
          rw [ints_bump] at hst
          have hld := (own7.cellAt P.length (by omega)).trans (ints_last P 0)
          have hfz := own7.frozenAt P.length
          have hg6 := (own7.lt g6 rfl).1
          have hb8 := hb7.setCell (p := ⟨g6, P.length, none⟩) hg6 (.int .i64 (0 + 1))
          have R : Hid (∀ v, (w7.setCell ⟨g6, P.length, none⟩ (.int .i64 (0 + 1))).ownsRow w1.heap.size 3 1 v (P.length + 1) (ints (P ++ [0 + 1])) → (w7.setCell ⟨g6, P.length, none⟩ (.int .i64 (0 + 1))).ownsRow w1.heap.size 3 1 v (nat12 (runsF N (0 + 1))).length (ints (nat12 (runsF N (0 + 1))))) := fun v h => by
            rw [HRN.out, List.length_append]; exact h
          have R2 := Lib.hid (And.intro (R.out _ hst) hb8)
          have hpe : ((P.length + 1 : Nat) : Int) - 1 = (P.length : Int) := by omega
          clear own own7 hgrow hb hrw hb7 hst hb8 R HRN
          go_wp2_with fail
          go_roundw
          case rel => exact ⟨0 + 1, by omega, by go_num, R2.out.1, R2.out.2⟩
          case measure => simp [intOf]; omega
        · have hne : N.getD k 0 ≠ N.getD (k - 1) 0 := by
            rcases hnew with h | h
            · omega
            · exact h
          obtain ⟨g2, hg2, hc2⟩ := intsA_on HP.out hb (k - 1) (by rw [nat12_len]; omega)
          simp only [Option.some.injEq, Addr.mk.injEq, and_true] at hg2
          subst hg2
          rw [nat12_at (by omega)] at hc2
          obtain ⟨m, hm⟩ : ∃ m, k = m + 1 := ⟨k - 1, by omega⟩
          rw [show k - 1 = m by omega] at hc2 hne
          have hsub : (k : Int) - 1 = (m : Int) := by omega
          have hk0 : ((k : Int) == 0) = false := by rw [beq_eq_false_iff_ne]; omega
          have hml : m < N.length := by omega
          clear hnew
          have hne2 : (((N.getD k 0 : Nat) : Int) != ((N.getD m 0 : Nat) : Int)) = true := by rw [bne_iff_ne]; omega
          clear hne
          generalize nat12 (runsF N k) = P at *
          generalize N.getD k 0 = z at *
          generalize N.getD m 0 = z2 at *
          clear hm
          go_wp2_with (at_builtin; refine wpList_append_own _ rfl _ _ 22 rfl w1.heap.size 3 i0 (.int .i64 0) 1 8 Try.underlying22 hi0 hz0 hz1 hz2 rfl (by decide) _ _ _ rfl (own.alloc _) ⟨wo.heap.size, 0, none⟩ 1 1 [.int .i64 0] rfl rfl (World.news_of_block (cs := #[.int .i64 0]) (t := 3) (fr := (0, 0)) (heap_alloc_new wo _)) ?d2 ?d3 ?d4 ?d5 ?_)
          case d2 => simp [Value.oneCell']
          case d3 => unfold maxLen; omega
          case d4 => omega
          case d5 => first | omega | (simp; omega)
          intro v' w7 own7 hgrow _
          have hrw := fun k hk => (own.lt k hk).1
          have hb7 := (hb.alloc hs6 _).grown hgrow (by simp; omega) hrw
          rw [← ints_snoc] at own7
          obtain ⟨g6, cp6, rfl⟩ := ownsRow_succ own7
          have hst := (own7.stored P.length (.int .i64 (0 + 1))).1
          rw [ints_bump] at hst
          have hld := (own7.cellAt P.length (by omega)).trans (ints_last P 0)
          have hfz := own7.frozenAt P.length
          have hg6 := (own7.lt g6 rfl).1
          have hb8 := hb7.setCell (p := ⟨g6, P.length, none⟩) hg6 (.int .i64 (0 + 1))
          have R : Hid (∀ v, (w7.setCell ⟨g6, P.length, none⟩ (.int .i64 (0 + 1))).ownsRow w1.heap.size 3 1 v (P.length + 1) (ints (P ++ [0 + 1])) → (w7.setCell ⟨g6, P.length, none⟩ (.int .i64 (0 + 1))).ownsRow w1.heap.size 3 1 v (nat12 (runsF N (k + 1))).length (ints (nat12 (runsF N (k + 1))))) := fun v h => by
            rw [HRN.out, List.length_append]; exact h
          have R2 := Lib.hid (And.intro (R.out _ hst) hb8)
          have hpe : ((P.length + 1 : Nat) : Int) - 1 = (P.length : Int) := by omega
          clear own own7 hgrow hb hrw hb7 hst hb8 R HRN
          go_wp2_with fail
          go_roundw
          case rel => exact ⟨k + 1, by omega, by go_num, R2.out.1, R2.out.2⟩
          case measure => simp [intOf]; omega
      · have h0 : 0 < k := by
          rcases Nat.eq_zero_or_pos k with h | h
          · exact absurd (.inl h) hnew
          · exact h
        have heq : N.getD k 0 = N.getD (k - 1) 0 := Classical.byContradiction fun h => hnew (.inr h)
        obtain ⟨P, z, hP, hzk, hPN⟩ := runs_old h0 heq
        rw [hP] at own
        obtain ⟨g2, hg2, hc2⟩ := intsA_on HP.out hb (k - 1) (by rw [nat12_len]; omega)
        simp only [Option.some.injEq, Addr.mk.injEq, and_true] at hg2
        subst hg2
        rw [nat12_at (by omega), ← heq] at hc2
        obtain ⟨m, hm⟩ : ∃ m, k = m + 1 := ⟨k - 1, by omega⟩
        rw [show k - 1 = m by omega] at hc2
        have hsub : (k : Int) - 1 = (m : Int) := by omega
        have hk0 : ((k : Int) == 0) = false := by rw [beq_eq_false_iff_ne]; omega
        have hml : m < N.length := by omega
        have hpl : P.length + 1 ≤ 1000 := by
          have := congrArg List.length hP
          rw [nat12_len, List.length_append, List.length_cons, List.length_nil] at this
          omega
        have HPN := Lib.hid hPN
        clear hnew heq hP hPN hm hrl
        generalize N.getD k 0 = z1 at *
        simp only [List.length_append, List.length_cons, List.length_nil, Nat.zero_add] at own
        obtain ⟨g6, cp6, rfl⟩ := ownsRow_succ own
        have hst := (own.stored P.length (.int .i64 ((z : Int) + 1))).1
        rw [ints_bump] at hst
        have hld := (own.cellAt P.length (by simp)).trans (ints_last P z)
        have hfz := own.frozenAt P.length
        have hg6 := (own.lt g6 rfl).1
        have hb8 := hb.setCell (p := ⟨g6, P.length, none⟩) hg6 (.int .i64 ((z : Int) + 1))
        have R2 : Hid ((wo.setCell ⟨g6, P.length, none⟩ (.int .i64 ((z : Int) + 1))).ownsRow w1.heap.size 3 1 (.slice (some ⟨g6, 0, none⟩) (P.length + 1) cp6) (nat12 (runsF N (k + 1))).length (ints (nat12 (runsF N (k + 1)))) ∧ Below w1.heap.size w1 (wo.setCell ⟨g6, P.length, none⟩ (.int .i64 ((z : Int) + 1)))) := ⟨by
          rw [HPN.out, List.length_append]; exact hst, hb8⟩
        have hpe : ((P.length + 1 : Nat) : Int) - 1 = (P.length : Int) := by omega
        clear own hb hst hb8 HPN
        go_wp2_with fail
        go_roundw
        case rel => exact ⟨k + 1, by omega, by go_num, R2.out.1, R2.out.2⟩
        case measure => simp [intOf]; omega
    · obtain rfl : k = N.length := by omega
      have R := Lib.hid (HU.out _ _ (own_base own HB1.out.size) (below_on HB1.out hb))
      clear own hb
      go_wp2_with fail
      go_ret
      exact R.out
end Go.Proofs.Ythoniopkeiifnaa

/-! ToPts -/
namespace Go.Proofs.Ythoniopkeiifnaa
open Go.RowKit

/-- The cells of a slice of points that came in, wherever it lies. -/
def ArgA (w : World) (A : Option Addr) (L : List (Int × Int)) : Prop := ∀ k (h : k < L.length), ∃ a : Addr, A = some a ∧ a.block < w.heap.size ∧ w.cell? (a.add (k * 2)) = some (.int .i64 L[k].1) ∧ w.cell? (a.add (k * 2 + 1)) = some (.int .i64 L[k].2)
theorem ArgA.step {w w' : World} {A : Option Addr} {L : List (Int × Int)} (h : ArgA w A L) (hb : Below w.heap.size w w') : ArgA w' A L := fun k hk => by
  obtain ⟨a, hA, hl, h1, h2⟩ := h k hk
  exact ⟨a, hA, Nat.lt_of_lt_of_le hl hb.size, cell_on hb rfl h1, cell_on hb rfl h2⟩
theorem add_next (a : Addr) (j : Nat) : (⟨(a.add j).block, (a.add j).off + 1, none⟩ : Addr) = a.add (j + 1) := by
  have h : j + 1 ≠ 0 := by omega
  unfold Addr.add
  by_cases hj : j = 0
  · subst hj; simp
  · rw [if_neg hj, if_neg h]; simp [Nat.add_assoc]
theorem flat_set {L : List (Int × Int)} {zs : List Value} (hz : zs.length = L.length * 2) (k : Nat) (hk : k < L.length) :
    ((flat (L.take k) ++ zs.drop (k * 2)).set (k * 2) (.int .i64 L[k].1)).set (k * 2 + 1) (.int .i64 L[k].2) = flat (L.take (k + 1)) ++ zs.drop ((k + 1) * 2) := by
  have h1 : (flat (L.take k)).length = k * 2 := by rw [flat_len, List.length_take]; omega
  have e1 : zs.drop (k * 2) = zs[k * 2]'(by omega) :: zs[k * 2 + 1]'(by omega) :: zs.drop ((k + 1) * 2) := by
    have e0 : (k + 1) * 2 = k * 2 + 1 + 1 := by omega
    rw [e0, List.drop_eq_getElem_cons (by omega), List.drop_eq_getElem_cons (i := k * 2 + 1) (by omega)]
  rw [List.set_append_right _ _ (by omega), h1, Nat.sub_self, e1, List.set_cons_zero, List.set_append_right _ _ (by omega), h1, Nat.add_sub_cancel_left, List.set_cons_succ, List.set_cons_zero, List.take_succ_eq_append_getElem hk, flat_append, List.append_assoc]
  rfl
end Go.Proofs.Ythoniopkeiifnaa

/-! PolyLaw -/
namespace Go.Proofs.Ythoniopkeiifnaa
open Go.RowKit

end Go.Proofs.Ythoniopkeiifnaa

/-! IntsLaw -/
namespace Go.Proofs.Ythoniopkeiifnaa
open Go.RowKit

theorem own_apart_g {w w1 : World} {B0 B1 s0 s1 : Nat} {e0 e1 : TypeId} {v0 v1 : Value} {n0 n1 : Nat} {xs0 xs1 : List Value} (h0 : w.ownsRow B0 e0 s0 v0 n0 xs0) (hB : w.heap.size ≤ B1) (h1 : w1.ownsRow B1 e1 s1 v1 n1 xs1) : v0.ownBlock = none ∨ v0.ownBlock ≠ v1.ownBlock := by
  cases hv : v0.ownBlock with
  | none => exact .inl rfl
  | some k =>
    refine .inr fun he => ?_
    have a1 := (h0.lt k hv).2
    have a2 := (h1.lt k he.symm).1
    omega
theorem own_apart_g' {w w1 : World} {B0 B1 s0 s1 : Nat} {e0 e1 : TypeId} {v0 v1 : Value} {n0 n1 : Nat} {xs0 xs1 : List Value} (h0 : w.ownsRow B0 e0 s0 v0 n0 xs0) (hB : w.heap.size ≤ B1) (h1 : w1.ownsRow B1 e1 s1 v1 n1 xs1) : v1.ownBlock = none ∨ v1.ownBlock ≠ v0.ownBlock := by
  rcases own_apart_g h0 hB h1 with h | h
  · cases hv : v1.ownBlock with
    | none => exact .inl rfl
    | some k => exact .inr (fun e => by rw [h] at e; cases e)
  · exact .inr (fun e => h e.symm)
theorem intsA_of {w : World} {B : Nat} {e : TypeId} {A : Option Addr} {n c : Nat} {M : List Int} (h : w.ownsRow B e 1 (.slice A n c) n (ints M)) : IntsA w A M := by
  obtain ⟨_, A', c', hv, hP⟩ := own_ints h
  simp only [Value.slice.injEq] at hv
  obtain ⟨rfl, -, -⟩ := hv
  exact hP
set_option maxRecDepth 100000 in
set_option maxHeartbeats 800000 in
theorem eq_ints (A1 A2 : Option Addr) (c1 c2 : Nat) (M : List Int) (w : World) (h1 : IntsA w A1 M) (h2 : IntsA w A2 M) (hL : M.length ≤ 1048576) :
    Calls Try.prog 16 #[.slice A1 M.length c1, .slice A2 M.length c2] w fun e w' => e = .returned (.bool true) ∧ Below w.heap.size w w' := by
  have H1 := Lib.hid h1; clear h1
  have H2 := Lib.hid h2; clear h2
  go_enter Try.func16, Try.ntmps16
  go_wp2_with fail
  go_loopw [5] (fun i w' => ∃ k : Nat, k ≤ M.length ∧ i = .int .i64 k ∧ Below w.heap.size w w') (fun i _ => M.length - (intOf i).toNat)
  case atStart => exact ⟨0, Nat.zero_le _, rfl, Below.refl _ _⟩
  case round =>
    obtain ⟨wo, rfl⟩ : ∃ wo : World, wo = wr := ⟨_, rfl⟩
    obtain ⟨k, hk, rfl, hb⟩ := hrel
    by_cases hlt : k < M.length
    · obtain ⟨g1, rfl, hc1⟩ := intsA_on H1.out hb k hlt
      obtain ⟨g2, rfl, hc2⟩ := intsA_on H2.out hb k hlt
      obtain ⟨x, hx⟩ : ∃ x, x = M[k] := ⟨_, rfl⟩
      rw [← hx] at hc1 hc2
      clear hx
      have k1 := cell_regrown hc1; have k3 := cell_regrown hc2
      go_wp2_with fail
      refine wp_region_quiet_below (by kernel_rfl) (by kernel_rfl) ?_
      repeat (first
        | go_big_quiet_step (fail)
        | quiet_step (fail))
      refine wpQuiet_nil ?_
      rintro _ ⟨⟨dq, osq⟩, rfl⟩
      have hb2 := hb.trans ((below_regrown wo dq osq).mono hb.size)
      clear hc1 hc2 k1 k3
      simp only at *
      generalize Go.Sort.grow (redrawn wo dq) osq = w2 at *
      go_wp2_with fail
      go_roundw
      case rel => exact ⟨k + 1, by omega, by go_num, hb2⟩
      case measure => simp [intOf]; omega
    · go_wp2_with fail
      go_ret
      exact ⟨rfl, hb⟩
theorem cell_some1 {w : World} {B : Nat} {e : TypeId} {g n cap : Nat} {xs : List Value} (h : w.ownsRow B e 1 (.slice (some ⟨g, 0, none⟩) n cap) n xs) (j : Nat) (hj : j < n) : ∃ u, w.cell? ⟨g, j, none⟩ = some u := by
  rw [h.cellAt j (by omega)]
  have : j < xs.length := by rw [h.1]; omega
  exact ⟨_, List.getElem?_eq_getElem this⟩
set_option maxRecDepth 100000 in
set_option maxHeartbeats 800000 in
/-- Every number of an owned slice of ints is overwritten by its mark. -/
theorem mark_ints (B : Nat) (v : Value) (n : Nat) (xs : List Value) (w : World) (hown : w.ownsRow B 3 1 v n xs) (hn : n ≤ 1048576) :
    Calls Try.prog 17 #[v, .int .i64 1] w fun e w' => e = .returned (.int .i64 (1 + n)) ∧ w'.ownsRow B 3 1 v n (marksI n) ∧ w.grownBy w' v.ownBlock := by
  have hl : xs.length = n := by have := hown.1; omega
  rcases hown.2 with ⟨rfl, rfl⟩ | ⟨g, cap, cur, rfl, _⟩
  · go_enter Try.func17, Try.ntmps17
    go_wp2_with fail
    refine wp_loop_rounds 1 ?_
    rw [rounds_succ]
    go_wp2_with fail
    go_ret
    exact ⟨rfl, World.ownsRow_nil _ _ _ _, World.grownBy.refl _ _⟩
  · go_enter Try.func17, Try.ntmps17
    go_wp2_with fail
    go_loopw [1, 5] (fun m i wr => ∃ k : Nat, k ≤ n ∧ i = .int .i64 k ∧ m = .int .i64 (1 + k) ∧ wr.ownsRow B 3 1 (.slice (some ⟨g, 0, none⟩) n cap) n (marksI k ++ xs.drop k) ∧ w.grownBy wr (some g)) (fun _ i _ => n - (intOf i).toNat)
    case atStart => exact ⟨0, Nat.zero_le _, rfl, rfl, by simpa [marksI] using hown, World.grownBy.refl _ _⟩
    case round =>
      obtain ⟨k, hk, rfl, rfl, hown', hgr⟩ := hrel
      by_cases hlt : k < n
      · obtain ⟨u1, hc1⟩ := cell_some1 hown' k hlt
        have hf1 := hown'.frozenAt k
        have hs1 := (hown'.stored k (.int .i64 (1 + (k : Int)))).1
        rw [marksI_step (by omega)] at hs1
        have hg2 := only_set hgr k (.int .i64 (1 + (k : Int)))
        have R := Lib.hid (And.intro hs1 hg2)
        clear hs1 hg2 hown' hgr hown
        go_wp2_with fail
        go_roundw
        case rel => exact ⟨k + 1, by omega, by go_num, by go_num, R.out.1, R.out.2⟩
        case measure => simp [intOf]; omega
      · obtain rfl : k = n := by omega
        rw [List.drop_of_length_le (by omega), List.append_nil] at hown'
        have R := Lib.hid hown'
        clear hown' hown
        go_wp2_with fail
        go_ret
        exact ⟨rfl, R.out, hgr⟩
set_option maxRecDepth 100000 in
set_option maxHeartbeats 800000 in
/-- The marks are still there. -/
theorem held_ints (B : Nat) (v : Value) (n : Nat) (w : World) (hown : w.ownsRow B 3 1 v n (marksI n)) (hn : n ≤ 1048576) :
    Calls Try.prog 18 #[v, .int .i64 1] w fun e w' => e = .returned (.int .i64 (1 + n)) ∧ w' = w := by
  have hM : ∀ j, j < n → (marksI n)[j]? = some (.int .i64 (1 + (j : Int))) := fun j hj => by simp [marksI, hj]
  rcases hown.2 with ⟨rfl, rfl⟩ | ⟨g, cap, cur, rfl, _⟩
  · clear hM
    go_enter Try.func18, Try.ntmps18
    go_wp2_with fail
    refine wp_loop_rounds 1 ?_
    rw [rounds_succ]
    go_wp2_with fail
    go_ret
    exact ⟨rfl, rfl⟩
  · have HC : Hid (∀ j, j < n → w.cell? ⟨g, j, none⟩ = some (.int .i64 (1 + (j : Int)))) := fun j hj => (hown.cellAt j (by omega)).trans (hM j hj)
    clear hM hown
    go_enter Try.func18, Try.ntmps18
    go_wp2_with fail
    go_loopw [1, 5] (fun m i wr => ∃ k : Nat, k ≤ n ∧ i = .int .i64 k ∧ m = .int .i64 (1 + k) ∧ wr = w) (fun _ i _ => n - (intOf i).toNat)
    case atStart => exact ⟨0, Nat.zero_le _, rfl, rfl, rfl⟩
    case round =>
      obtain ⟨k, hk, rfl, rfl, rfl⟩ := hrel
      by_cases hlt : k < n
      · have hc1 := HC.out k hlt
        go_wp2_with fail
        go_roundw
        case rel => exact ⟨k + 1, by omega, by go_num, by go_num, by first | trivial | rfl⟩
        case measure => simp [intOf]; omega
      · obtain rfl : k = n := by omega
        go_wp2_with fail
        go_ret
        exact ⟨rfl, rfl⟩
end Go.Proofs.Ythoniopkeiifnaa

/-! Law12A -/
namespace Go.Proofs.Ythoniopkeiifnaa
open Go.RowKit

set_option maxRecDepth 100000 in
set_option maxHeartbeats 2000000 in
theorem law_gs (x y : Int) (M : List Int) (w : World)
    (SC : ∀ w, Calls Try.prog 14 #[.int .i64 x, .int .i64 y] w (ListsI w M))
    (IC : ∀ w, Calls Try.prog 15 #[.int .i64 x, .int .i64 y] w (ListsI w M)) (hM : M.length ≤ 1048576) :
    Calls Try.prog 3 #[.int .i64 x, .int .i64 y] w fun e w' => e = .returned (.bool true) ∧ Below w.heap.size w w' := by
  have HS : Hid (∀ w, Calls Try.prog 14 #[.int .i64 x, .int .i64 y] w fun e w' => ∃ v, e = .returned v ∧ w'.ownsRow w.heap.size 3 1 v M.length (ints M) ∧ Below w.heap.size w w') := SC
  have HI : Hid (∀ w, Calls Try.prog 15 #[.int .i64 x, .int .i64 y] w fun e w' => ∃ v, e = .returned v ∧ w'.ownsRow w.heap.size 3 1 v M.length (ints M) ∧ Below w.heap.size w w') := IC
  have HMM := Lib.hid hM
  clear SC IC hM
  go_enter Try.func3, Try.ntmps3
  go_wp2_with fail
  refine (HS.out w).mono ?_
  rintro e w1 ⟨v1, rfl, own1, b1⟩
  go_wp2_with fail
  refine (HI.out w1).mono ?_
  rintro e w2 ⟨v2, rfl, own2, hb2⟩
  have b2 := below_on b1 hb2
  have ap12 := own_apart_g own1 (Nat.le_refl _) own2
  replace own1 := own_below own1 hb2
  replace own2 := own_base own2 b1.size
  clear hb2 b1
  obtain ⟨_, A1, c1, rfl, p1⟩ := own_ints own1
  obtain ⟨_, A2, c2, rfl, p2⟩ := own_ints own2
  go_wp2_with fail
  refine (eq_ints A2 A1 c2 c1 M w2 p2 p1 HMM.out).mono ?_
  rintro e w3 ⟨rfl, hb3⟩
  have b3 := below_on b2 hb3
  replace own1 := own_below own1 hb3
  replace own2 := own_below own2 hb3
  clear hb3 p1 p2 b2
  go_wp2_with fail
  refine (mark_ints _ _ _ _ w3 own2 HMM.out).mono ?_
  rintro e w4 ⟨rfl, own2m, hg4⟩
  have b4 := b3.grown hg4 b3.size (fun k hk => (own2.lt k hk).1)
  replace own1 := own1.kept hg4 ap12
  clear hg4 own2 ap12 b3
  go_wp2_with fail
  refine (held_ints _ _ _ w4 own2m HMM.out).mono ?_
  rintro e w5 ⟨rfl, rfl⟩
  go_wp2_with fail
  refine (HI.out _).mono ?_
  rintro e w6 ⟨v6, rfl, own6, hb6⟩
  have b6 := below_on b4 hb6
  replace own1 := own_below own1 hb6
  replace own2m := own_below own2m hb6
  obtain ⟨_, A6, c6, rfl, p6⟩ := own_ints own6
  have p1 := intsA_of own1
  clear hb6 own6 b4
  go_wp2_with fail
  refine (eq_ints A6 A1 c6 c1 M w6 p6 p1 HMM.out).mono ?_
  rintro e w7 ⟨rfl, hb7⟩
  have b7 := below_on b6 hb7
  replace own2m := own_below own2m hb7
  clear hb7 own1 p1 p6 b6
  go_wp2_with fail
  refine (held_ints _ _ _ w7 own2m HMM.out).mono ?_
  rintro e w8 ⟨rfl, rfl⟩
  go_wp2_with fail
  go_ret
  exact ⟨rfl, b7⟩
set_option maxRecDepth 100000 in
set_option maxHeartbeats 2000000 in
theorem law_qu (x y : Int) (M : List Int) (w : World)
    (SC : ∀ w, Calls Try.prog 19 #[.int .i64 x, .int .i64 y] w (ListsI w M))
    (IC : ∀ w, Calls Try.prog 20 #[.int .i64 x, .int .i64 y] w (ListsI w M)) (hM : M.length ≤ 1048576) :
    Calls Try.prog 4 #[.int .i64 x, .int .i64 y] w fun e w' => e = .returned (.bool true) ∧ Below w.heap.size w w' := by
  have HS : Hid (∀ w, Calls Try.prog 19 #[.int .i64 x, .int .i64 y] w fun e w' => ∃ v, e = .returned v ∧ w'.ownsRow w.heap.size 3 1 v M.length (ints M) ∧ Below w.heap.size w w') := SC
  have HI : Hid (∀ w, Calls Try.prog 20 #[.int .i64 x, .int .i64 y] w fun e w' => ∃ v, e = .returned v ∧ w'.ownsRow w.heap.size 3 1 v M.length (ints M) ∧ Below w.heap.size w w') := IC
  have HMM := Lib.hid hM
  clear SC IC hM
  go_enter Try.func4, Try.ntmps4
  go_wp2_with fail
  refine (HS.out w).mono ?_
  rintro e w1 ⟨v1, rfl, own1, b1⟩
  go_wp2_with fail
  refine (HI.out w1).mono ?_
  rintro e w2 ⟨v2, rfl, own2, hb2⟩
  have b2 := below_on b1 hb2
  have ap12 := own_apart_g own1 (Nat.le_refl _) own2
  replace own1 := own_below own1 hb2
  replace own2 := own_base own2 b1.size
  clear hb2 b1
  obtain ⟨_, A1, c1, rfl, p1⟩ := own_ints own1
  obtain ⟨_, A2, c2, rfl, p2⟩ := own_ints own2
  go_wp2_with fail
  refine (eq_ints A2 A1 c2 c1 M w2 p2 p1 HMM.out).mono ?_
  rintro e w3 ⟨rfl, hb3⟩
  have b3 := below_on b2 hb3
  replace own1 := own_below own1 hb3
  replace own2 := own_below own2 hb3
  clear hb3 p1 p2 b2
  go_wp2_with fail
  refine (mark_ints _ _ _ _ w3 own2 HMM.out).mono ?_
  rintro e w4 ⟨rfl, own2m, hg4⟩
  have b4 := b3.grown hg4 b3.size (fun k hk => (own2.lt k hk).1)
  replace own1 := own1.kept hg4 ap12
  clear hg4 own2 ap12 b3
  go_wp2_with fail
  refine (held_ints _ _ _ w4 own2m HMM.out).mono ?_
  rintro e w5 ⟨rfl, rfl⟩
  go_wp2_with fail
  refine (HI.out _).mono ?_
  rintro e w6 ⟨v6, rfl, own6, hb6⟩
  have b6 := below_on b4 hb6
  replace own1 := own_below own1 hb6
  replace own2m := own_below own2m hb6
  obtain ⟨_, A6, c6, rfl, p6⟩ := own_ints own6
  have p1 := intsA_of own1
  clear hb6 own6 b4
  go_wp2_with fail
  refine (eq_ints A6 A1 c6 c1 M w6 p6 p1 HMM.out).mono ?_
  rintro e w7 ⟨rfl, hb7⟩
  have b7 := below_on b6 hb7
  replace own2m := own_below own2m hb7
  clear hb7 own1 p1 p6 b6
  go_wp2_with fail
  refine (held_ints _ _ _ w7 own2m HMM.out).mono ?_
  rintro e w8 ⟨rfl, rfl⟩
  go_wp2_with fail
  go_ret
  exact ⟨rfl, b7⟩
theorem ex_gs (x y : Int) (w : World) : Calls Try.prog 3 #[.int .i64 x, .int .i64 y] w fun e w' => e = .returned (.bool true) ∧ Below w.heap.size w w' :=
  law_gs x y (gsV x y) w (spec_gs x y) (impl_gs x y) (Nat.le_trans (gsV_len x y) (by omega))
theorem ex_qu (x y : Int) (w : World) : Calls Try.prog 4 #[.int .i64 x, .int .i64 y] w fun e w' => e = .returned (.bool true) ∧ Below w.heap.size w w' :=
  law_qu x y (quV x y) w (spec_qu x y) (impl_qu x y) (Nat.le_trans (quV_len x y) (by omega))
end Go.Proofs.Ythoniopkeiifnaa

/-! Base -/
namespace Go.Proofs.Ythoniopkeiifnaa
open Go.ChangeShapes Go.WideShapes Go.ChangeAt Go.RowKit

/-- The arguments read behind the call as before, if below the old heap's size nothing has turned. -/
theorem args_stay {H : Type} {enc : TypeId × Value → H} {P : Program} (hl : laidOutB P = true) {W W' : World} (hb : Below W.heap.size W W') :
    ∀ (ts : List TypeId) (vs : List Value) (ds : List (DataW H)) (p : List MemPlace), (∀ t ∈ ts, P.readableRec t = true ∧ t < P.types.size) →
      DataW.TrodAll enc P W 0 (fun _ => true) true ts vs ds p → (∀ x ∈ p, x.block < W.heap.size) → DataW.TrodAll enc P W' 0 (fun b => decide (b < W.heap.size)) true ts vs ds p
  | [], vs, ds, p, _, h, _ => by
    obtain ⟨rfl, rfl, rfl⟩ := trodAll_nil h
    exact trodAll_mk0
  | t :: ts, vs, ds, p, ht, h, hp => by
    obtain ⟨v, vs1, d, ds1, a, b, rfl, rfl, rfl, h1, h2⟩ := trodAll_cons h
    exact trodAll_cons_mk (Below.trod hl (ht t (by simp)).1 (ht t (by simp)).2 h1 hb (fun x hx => hp x (by simp [hx])))
      (args_stay hl hb ts vs1 ds1 b (fun t h => ht t (by simp [h])) h2 (fun x hx => hp x (by simp [hx])))

/-- A law's 'post': one bool back, true; the arguments as they were; no variable is listed. -/
theorem law_post {H : Type} {enc : TypeId × Value → H} {P : Program} {f : Func} {s : ChangeSpec} {W W' : World} {args : Array Value} {ds gs : List (DataW H)} {before : List MemPlace} {tb : TypeId}
    (hl : laidOutB P = true) (ht : f.params.toList.all (fun t => P.readableRec t && decide (t < P.types.size)) = true) (hr : f.resultTypes = #[tb]) (ub : P.underlying tb = some .bool) (hv : s.vars = [])
    (hs : (s.fn H (ds ++ gs)).results = [.lit (.bool true)] ∧ (s.fn H (ds ++ gs)).args = ds ∧ (s.fn H (ds ++ gs)).vars = [])
    (hW : DataW.Whole enc P f.params.toList s.vars false W args.toList ds gs before) (hb : Below W.heap.size W W') :
    s.post enc P f false true false false W args (.bool true) W' := by
  have hW' := hW
  obtain ⟨p, q, hA, hV, hpq, _, _⟩ := hW
  rw [hv] at hV
  obtain ⟨rfl, rfl⟩ := trodVars_none hV
  have hlt : ∀ x ∈ p, x.block < W.heap.size := fun x hx => by simpa using hW'.lt x (by rw [hpq]; simp [hx])
  refine ⟨ds, [], before, [], p, [], hW', ?_, ?_, ?_, hb.frame _, fun h => by cases h⟩
  · rw [hs.1, hr]
    exact trodAll_mk1 (shut_bool ub _)
  · rw [hs.2.1]
    exact args_stay hl hb _ _ _ _ (fun t h => by simpa using List.all_eq_true.1 ht t h) hA hlt
  · rw [hs.2.2, hv]
    rfl
end Go.Proofs.Ythoniopkeiifnaa

/-! Are12 -/
namespace Go.Proofs.Ythoniopkeiifnaa
open Go.RowKit

def areB (X : List Int) (lo hi : Int) : Bool := X.all fun x => inB x lo hi
theorem areB_iff {X : List Int} {lo hi : Int} : areB X lo hi = true ↔ ∀ x ∈ X, lo ≤ x ∧ x ≤ hi := by
  simp only [areB, List.all_eq_true, inB_spec]
theorem areB_no {X : List Int} {lo hi : Int} {k : Nat} (hk : k < X.length) (h : inB X[k] lo hi = false) : areB X lo hi = false := by
  unfold areB
  rw [List.all_eq_false]
  exact ⟨X[k], List.getElem_mem hk, by rw [h]; simp⟩
theorem areB_yes {X : List Int} {lo hi : Int} (h : ∀ t (ht : t < X.length), t < X.length → inB X[t] lo hi = true) : areB X lo hi = true := by
  unfold areB
  rw [List.all_eq_true]
  intro x hx
  obtain ⟨t, ht, rfl⟩ := List.getElem_of_mem hx
  exact h t ht ht
/-- The sum of the squares of the first k. -/
def ssqT (X : List Int) : Nat → Int
  | 0 => 0
  | k + 1 => ssqT X k + X.getD k 0 * X.getD k 0
def ssqV (X : List Int) : Int := bif decide (X.length ≤ 1000) && areB X 0 1000 then ssqT X X.length else -1
theorem ssq_bd {X : List Int} (h : areB X 0 1000 = true) : ∀ k, k ≤ X.length → 0 ≤ ssqT X k ∧ ssqT X k ≤ k * 1000000
  | 0, _ => by simp [ssqT]
  | k + 1, hk => by
    have ih := ssq_bd h k (by omega)
    have hx := areB_iff.1 h _ (List.getElem_mem (show k < X.length by omega))
    have e : X.getD k 0 = X[k] := by simp [show k < X.length by omega]
    rw [ssqT, e]
    generalize X[k] = x at *
    have h1 : 0 ≤ x * x := Int.mul_nonneg hx.1 hx.1
    have h2 : x * x ≤ 1000 * 1000 := Int.mul_le_mul hx.2 hx.2 hx.1 (by decide)
    omega
theorem ssq_next {X : List Int} {k : Nat} (hk : k < X.length) : ssqT X (k + 1) = ssqT X k + X[k] * X[k] := by rw [ssqT]; simp [hk]
set_option maxRecDepth 100000 in
theorem notIn_any (x lo hi : Int) (b1 b2 : Nat) (W : World) (h1 : W.cell? ⟨b1, 0, none⟩ = some (.int .i64 lo)) (h2 : W.cell? ⟨b2, 0, none⟩ = some (.int .i64 hi)) :
    Calls Try.prog 124 #[.int .i64 x, .pointer (some ⟨b1, 0, none⟩), .pointer (some ⟨b2, 0, none⟩)] W fun e w' => e = .returned (.bool (!inB x lo hi)) ∧ w' = W := by
  have HF := Lib.hid (from_any x lo hi)
  generalize inB x lo hi = b at *
  go_enter Try.func124, Try.ntmps124
  go_wp2_with fail
  refine (HF.out _).mono ?_
  rintro e w1 ⟨rfl, rfl⟩
  go_wp2_with fail
  go_ret
  exact ⟨rfl, rfl⟩
set_option maxRecDepth 100000 in
set_option maxHeartbeats 1000000 in
theorem idxOut_any (lo hi : Int) (b1 b2 : Nat) (A : Option Addr) (c : Nat) (X : List Int) (W : World) (hP : IntsA W A X) (hL : X.length ≤ 1048576) (h1 : W.cell? ⟨b1, 0, none⟩ = some (.int .i64 lo)) (h2 : W.cell? ⟨b2, 0, none⟩ = some (.int .i64 hi)) :
    Calls Try.prog 164 #[.slice A X.length c, .func (.func 124) #[] #[.pointer (some ⟨b1, 0, none⟩), .pointer (some ⟨b2, 0, none⟩)]] W fun e w' => ∃ z : Int, e = .returned (.int .i64 z) ∧ decide (0 ≤ z) = (!areB X lo hi) ∧ w' = W := by
  have HP := Lib.hid hP
  have HW : Hid (∀ x, Calls Try.prog 124 #[.int .i64 x, .pointer (some ⟨b1, 0, none⟩), .pointer (some ⟨b2, 0, none⟩)] W fun e w' => e = .returned (.bool (!inB x lo hi)) ∧ w' = W) := fun x => notIn_any x lo hi b1 b2 W h1 h2
  clear hP h1 h2
  go_enter Try.func164, Try.ntmps164
  go_wp2_with fail
  go_loopw [5, 8] (fun _ i wr => ∃ j : Nat, j ≤ X.length ∧ i = .int .i64 j ∧ Hid (∀ t (ht : t < X.length), t < j → inB X[t] lo hi = true) ∧ wr = W) (fun _ i _ => X.length - (intOf i).toNat)
  case atStart => exact ⟨0, Nat.zero_le _, rfl, fun t _ ht => absurd ht (Nat.not_lt_zero t), rfl⟩
  case round =>
    obtain ⟨k, hk, rfl, HN, rfl⟩ := hrel
    by_cases hlt : k < X.length
    · obtain ⟨g, rfl, hc⟩ := HP.out k hlt
      have HC := Lib.hid (HW.out X[k])
      have HI : Hid (inB X[k] lo hi = false → areB X lo hi = false) := fun h => areB_no hlt h
      have HN2 : Hid (inB X[k] lo hi = true → ∀ t (ht : t < X.length), t < k + 1 → inB X[t] lo hi = true) := fun h t ht hlt2 => by
        rcases Nat.lt_or_ge t k with h1 | h1
        · exact HN.out t ht h1
        · obtain rfl : t = k := by omega
          exact h
      generalize X[k] = q at *
      cases hin : inB q lo hi
      · rw [hin] at HC
        have HR := Lib.hid (HI.out hin)
        clear HN2 HI hin
        go_wp2_with fail
        refine HC.out.mono ?_
        rintro e w1 ⟨rfl, rfl⟩
        go_wp2_with fail
        go_ret
        exact ⟨_, rfl, by rw [HR.out]; simp, rfl⟩
      · rw [hin] at HC
        have HN3 := Lib.hid (HN2.out hin)
        clear HN2 HI hin
        go_wp2_with fail
        refine HC.out.mono ?_
        rintro e w1 ⟨rfl, rfl⟩
        go_wp2_with fail
        go_roundw
        case rel => exact ⟨k + 1, by omega, by go_num, HN3, by first | trivial | rfl⟩
        case measure => simp [intOf]; omega
    · have HR : Hid (areB X lo hi = true) := areB_yes fun t ht _ => HN.out t ht (by omega)
      go_wp2_with fail
      go_ret
      exact ⟨_, rfl, by rw [HR.out]; rfl, rfl⟩
set_option maxRecDepth 100000 in
theorem hasOut_any (lo hi : Int) (b1 b2 : Nat) (A : Option Addr) (c : Nat) (X : List Int) (W : World) (hP : IntsA W A X) (hL : X.length ≤ 1048576) (h1 : W.cell? ⟨b1, 0, none⟩ = some (.int .i64 lo)) (h2 : W.cell? ⟨b2, 0, none⟩ = some (.int .i64 hi)) :
    Calls Try.prog 123 #[.slice A X.length c, .func (.func 124) #[] #[.pointer (some ⟨b1, 0, none⟩), .pointer (some ⟨b2, 0, none⟩)]] W fun e w' => e = .returned (.bool (!areB X lo hi)) ∧ w' = W := by
  have HI := Lib.hid (idxOut_any lo hi b1 b2 A c X W hP hL h1 h2)
  clear hP h1 h2
  go_enter Try.func123, Try.ntmps123
  go_wp2_with fail
  refine HI.out.mono ?_
  rintro e w1 ⟨z, rfl, hz, rfl⟩
  have HZ := Lib.hid hz
  clear hz
  go_wp2_with fail
  go_ret
  exact ⟨ret_bool (by rw [← HZ.out]), rfl⟩
set_option maxRecDepth 100000 in
theorem are_any (lo hi : Int) (A : Option Addr) (c : Nat) (X : List Int) (W : World) (hP : IntsA W A X) (hL : X.length ≤ 1048576) :
    Calls Try.prog 74 #[.slice A X.length c, .int .i64 lo, .int .i64 hi] W fun e w' => e = .returned (.bool (areB X lo hi)) ∧ Below W.heap.size W w' := by
  have hb := below2 W (.cells #[.int .i64 lo] 3) (.cells #[.int .i64 hi] 3)
  have HH := Lib.hid (hasOut_any lo hi W.heap.size (W.heap.size + 1) A c X _ (intsA_on hP hb) hL ((Boxed.new W 3 (.int .i64 lo)).alloc _).cell (by have := (Boxed.new (W.alloc (.cells #[.int .i64 lo] 3)) 3 (.int .i64 hi)).cell; rw [size_alloc] at this; exact this))
  have HB := Lib.hid hb
  clear hP hb
  generalize areB X lo hi = b at *
  go_enter Try.func74, Try.ntmps74
  go_wp2_with fail
  refine HH.out.mono ?_
  rintro e w1 ⟨rfl, rfl⟩
  go_wp2_with fail
  go_ret
  exact ⟨ret_bool (by simp), HB.out⟩
theorem ssq_val {X : List Int} {n m : Int} {k : Nat} (h : areB X 0 1000 = true) (hl : X.length ≤ 1000) (hk : k < X.length) (hn : n = ssqT X k) (hm : m = X[k] * X[k]) : 0 ≤ m ∧ m ≤ 1000000 ∧ 0 ≤ n ∧ n ≤ 1000000000 := by
  have h1 := ssq_bd h k (by omega)
  have h2 := areB_iff.1 h _ (List.getElem_mem hk)
  have h3 : 0 ≤ X[k] * X[k] := Int.mul_nonneg h2.1 h2.1
  have h4 : X[k] * X[k] ≤ 1000 * 1000 := Int.mul_le_mul h2.2 h2.2 h2.1 (by decide)
  omega
set_option maxRecDepth 100000 in
set_option maxHeartbeats 1000000 in
theorem impl_ssq (A : Option Addr) (c : Nat) (X : List Int) (W : World) (hA : IntsA W A X) (hL : X.length ≤ 1048576) :
    Calls Try.prog 27 #[.slice A X.length c] W fun e w' => e = .returned (.int .i64 (ssqV X)) ∧ Below W.heap.size W w' := by
  have HV : Hid (ssqV X = bif decide (X.length ≤ 1000) && areB X 0 1000 then ssqT X X.length else -1) := rfl
  by_cases hl : X.length ≤ 1000
  case neg =>
    have hl' : (1000 : Int) < (X.length : Int) := by omega
    have R : Hid (ssqV X = -1) := by show _ = _; rw [HV.out, decide_eq_false hl]; rfl
    clear hA hl
    go_enter Try.func27, Try.ntmps27
    go_wp2_with fail
    go_ret
    exact ⟨ret_int R.out.symm, Below.refl _ _⟩
  have HF := Lib.hid (are_any 0 1000 A c X W hA hL)
  have HD : Hid (ssqV X = bif areB X 0 1000 then ssqT X X.length else -1) := by show _ = _; rw [HV.out, decide_eq_true hl]; rfl
  cases ha : areB X 0 1000
  · rw [ha] at HF HD
    have R : Hid (ssqV X = -1) := HD.out
    clear hA ha HD HV
    go_enter Try.func27, Try.ntmps27
    go_wp2_with fail
    refine HF.out.mono ?_
    rintro e w1 ⟨rfl, hb⟩
    go_wp2_with fail
    go_ret
    exact ⟨ret_int R.out.symm, hb⟩
  · rw [ha] at HF HD
    have R : Hid (ssqV X = ssqT X X.length) := HD.out
    have HS := Lib.hid (fun n m k hk => ssq_val (n := n) (m := m) (k := k) ha hl hk)
    have HA := Lib.hid hA
    clear hA ha HD HV
    go_enter Try.func27, Try.ntmps27
    go_wp2_with fail
    refine HF.out.mono ?_
    rintro e w1 ⟨rfl, hb⟩
    have HB := Lib.hid hb
    clear hb
    go_wp2_with fail
    go_loopw [3, 5, 16] (fun s _ i wr => ∃ (k : Nat) (n : Int), k ≤ X.length ∧ i = .int .i64 k ∧ s = .int .i64 n ∧ Hid (n = ssqT X k) ∧ wr = w1) (fun _ _ i _ => X.length - (intOf i).toNat)
    case atStart => exact ⟨0, 0, Nat.zero_le _, rfl, rfl, rfl, rfl⟩
    case round =>
      obtain ⟨k, n, hk, rfl, rfl, HN, rfl⟩ := hrel
      by_cases hlt : k < X.length
      · obtain ⟨g, rfl, hc⟩ := intsA_on HA.out HB.out k hlt
        obtain ⟨m, hm⟩ : ∃ m, m = X[k] * X[k] := ⟨_, rfl⟩
        obtain ⟨h1, h2, h3, h4⟩ := HS.out n m k hlt HN.out hm
        have HN2 : Hid (n + m = ssqT X (k + 1)) := by show _ = _; rw [ssq_next hlt, hm, HN.out]
        generalize X[k] = x at *
        have f1 : x * x = m := hm.symm
        have f2 : IntKind.i64.wrap m = m := IntWalk.i64_in _ (by omega)
        clear hm
        go_wp2_with fail
        go_roundw
        case rel => exact ⟨k + 1, n + m, by omega, by go_num, by go_num, HN2, by first | trivial | rfl⟩
        case measure => simp [intOf]; omega
      · obtain rfl : k = X.length := by omega
        go_wp2_with fail
        go_ret
        exact ⟨ret_int (by rw [R.out, HN.out]), HB.out⟩
theorem ssq_sp {X : List Int} {k : Nat} (hl : X.length ≤ 1000) (hk : k ≤ X.length) (h : ∀ t (ht : t < X.length), t < k → inB X[t] 0 1000 = true) : 0 ≤ ssqT X k ∧ ssqT X k ≤ 1000000000 := by
  have : ∀ j, j ≤ k → 0 ≤ ssqT X j ∧ ssqT X j ≤ j * 1000000 := by
    intro j
    induction j with
    | zero => intro _; simp [ssqT]
    | succ j ih =>
      intro hj
      have hi := ih (by omega)
      have hx := inB_spec.1 (h j (by omega) (by omega))
      rw [ssq_next (by omega)]
      generalize X[j] = x at *
      have h1 : 0 ≤ x * x := Int.mul_nonneg hx.1 hx.1
      have h2 : x * x ≤ 1000 * 1000 := Int.mul_le_mul hx.2 hx.2 hx.1 (by decide)
      omega
  have := this k (Nat.le_refl _)
  omega
set_option maxRecDepth 100000 in
set_option maxHeartbeats 1000000 in
theorem spec_ssq (A : Option Addr) (c : Nat) (X : List Int) (W : World) (hA : IntsA W A X) (hL : X.length ≤ 1048576) :
    Calls Try.prog 26 #[.slice A X.length c] W fun e w' => e = .returned (.int .i64 (ssqV X)) ∧ Below W.heap.size W w' := by
  have HV : Hid (ssqV X = bif decide (X.length ≤ 1000) && areB X 0 1000 then ssqT X X.length else -1) := rfl
  by_cases hl : X.length ≤ 1000
  case neg =>
    have hl' : (1000 : Int) < (X.length : Int) := by omega
    have R : Hid (ssqV X = -1) := by show _ = _; rw [HV.out, decide_eq_false hl]; rfl
    clear hA hl
    go_enter Try.func26, Try.ntmps26
    go_wp2_with fail
    go_ret
    exact ⟨ret_int R.out.symm, Below.refl _ _⟩
  have HD : Hid (ssqV X = bif areB X 0 1000 then ssqT X X.length else -1) := by show _ = _; rw [HV.out, decide_eq_true hl]; rfl
  have HF := Lib.hid (fun x => in_any x 0 1000)
  have HA := Lib.hid hA
  clear hA HV
  go_enter Try.func26, Try.ntmps26
  go_wp2_with fail
  go_loopw [3, 5, 11] (fun s _ i wr => ∃ (k : Nat) (n : Int), k ≤ X.length ∧ i = .int .i64 k ∧ s = .int .i64 n ∧ Hid (n = ssqT X k) ∧ Hid (∀ t (ht : t < X.length), t < k → inB X[t] 0 1000 = true) ∧ wr = W) (fun _ _ i _ => X.length - (intOf i).toNat)
  case atStart => exact ⟨0, 0, Nat.zero_le _, rfl, rfl, rfl, fun t _ ht => absurd ht (Nat.not_lt_zero t), rfl⟩
  case round =>
    obtain ⟨k, n, hk, rfl, rfl, HN, HT, rfl⟩ := hrel
    by_cases hlt : k < X.length
    · obtain ⟨g, rfl, hc⟩ := HA.out k hlt
      have HI : Hid (inB X[k] 0 1000 = false → ssqV X = -1) := fun h => by rw [HD.out, areB_no hlt h]; rfl
      have HN2 : Hid (inB X[k] 0 1000 = true → (∀ t (ht : t < X.length), t < k + 1 → inB X[t] 0 1000 = true)) := fun h t ht hlt2 => by
        rcases Nat.lt_or_ge t k with h1 | h1
        · exact HT.out t ht h1
        · obtain rfl : t = k := by omega
          exact h
      have HN3 : Hid (n + X[k] * X[k] = ssqT X (k + 1)) := by show _ = _; rw [ssq_next hlt, HN.out]
      have h0 := ssq_sp hl hk HT.out
      rw [← HN.out] at h0
      have HC := Lib.hid (HF.out X[k])
      generalize X[k] = x at *
      cases hin : inB x 0 1000
      · rw [hin] at HC
        have HR := Lib.hid (HI.out hin)
        clear HN2 HI HN3 hin
        go_wp2_with fail
        refine (HC.out _).mono ?_
        rintro e w1 ⟨rfl, rfl⟩
        go_wp2_with fail
        go_ret
        exact ⟨ret_int HR.out.symm, Below.refl _ _⟩
      · rw [hin] at HC
        have HN4 := Lib.hid (HN2.out hin)
        have hx := inB_spec.1 hin
        have g1 : 0 ≤ x * x := Int.mul_nonneg hx.1 hx.1
        have g2 : x * x ≤ 1000 * 1000 := Int.mul_le_mul hx.2 hx.2 hx.1 (by decide)
        obtain ⟨m, hm⟩ : ∃ m, m = x * x := ⟨_, rfl⟩
        rw [← hm] at g1 g2 HN3
        have f1 : x * x = m := hm.symm
        have f2 : IntKind.i64.wrap m = m := IntWalk.i64_in _ (by omega)
        clear HN2 HI hin hm hx
        go_wp2_with fail
        refine (HC.out _).mono ?_
        rintro e w1 ⟨rfl, rfl⟩
        go_wp2_with fail
        go_roundw
        case rel => exact ⟨k + 1, n + m, by omega, by go_num, by go_num, HN3, HN4, by first | trivial | rfl⟩
        case measure => simp [intOf]; omega
    · obtain rfl : k = X.length := by omega
      have R : Hid (ssqV X = ssqT X X.length) := by show _ = _; rw [HD.out, areB_yes fun t ht _ => HT.out t ht ht]; rfl
      go_wp2_with fail
      go_ret
      exact ⟨ret_int (by rw [R.out, HN.out]), Below.refl _ _⟩
end Go.Proofs.Ythoniopkeiifnaa

/-! RfP12 -/
namespace Go.Proofs.Ythoniopkeiifnaa

/-- The quotients, read from the back: width and height so far. -/
def rfGo : List Int → Int → Int → Option (Int × Int)
  | [], w, h => some (w, h)
  | q :: R, w, h => if 1 ≤ q ∧ q * w + h ≤ 1000 then rfGo R (q * w + h) w else none
def rfV (Q : List Int) (u : Int) : Int × Int × Bool :=
  if 1 ≤ u ∧ Q ≠ [] ∧ ¬ (1 < Q.length ∧ Q.getLastD 0 = 1) then match rfGo Q.reverse u 0 with | some p => (p.1, p.2, true) | none => (0, 0, false) else (0, 0, false)
theorem rf_step {q w h : Int} (hw : 1 ≤ w) (hq : 1 ≤ q) (hh : 0 ≤ h) : w ≤ q * w + h := by
  have : 1 * w ≤ q * w := Int.mul_le_mul_of_nonneg_right hq (by omega)
  omega
theorem rf_grow : ∀ (R : List Int) (w h : Int), 1 ≤ h → h ≤ w → w ≤ 1000 → ∀ p, rfGo R w h = some p → w * 2 ^ (R.length / 2) ≤ p.1 ∧ p.1 ≤ 1000
  | [], w, h, _, _, h3, p, hp => by
    simp only [rfGo, Option.some.injEq] at hp
    subst hp
    simpa using h3
  | [q], w, h, h1, h2, _, p, hp => by
    simp only [rfGo] at hp
    split at hp
    · next c =>
      simp only [Option.some.injEq] at hp
      subst hp
      have := rf_step (q := q) (w := w) (h := h) (by omega) c.1 (by omega)
      simp only [List.length_cons, List.length_nil, Nat.zero_add, Nat.reduceDiv, Int.pow_zero, Int.mul_one]
      omega
    · cases hp
  | q1 :: q2 :: R, w, h, h1, h2, h3, p, hp => by
    rw [rfGo] at hp
    split at hp
    · next c =>
      rw [rfGo] at hp
      split at hp
      · next d =>
        have s1 := rf_step (q := q1) (w := w) (h := h) (by omega) c.1 (by omega)
        have s2 : q1 * w + h ≤ q2 * (q1 * w + h) := by
          have := Int.mul_le_mul_of_nonneg_right (c := q1 * w + h) d.1 (by omega)
          omega
        have s3 : w + 1 ≤ q1 * w + h := by
          have : 1 * w ≤ q1 * w := Int.mul_le_mul_of_nonneg_right c.1 (by omega)
          omega
        have := rf_grow R (q2 * (q1 * w + h) + w) (q1 * w + h) (by omega) (by omega) d.2 p hp
        refine ⟨?_, this.2⟩
        have e : (q1 :: q2 :: R).length / 2 = R.length / 2 + 1 := by simp only [List.length_cons]; omega
        rw [e, Int.pow_succ]
        have h5 : w * 2 ≤ q2 * (q1 * w + h) + w := by omega
        have h6 := Int.mul_le_mul_of_nonneg_right (c := (2 : Int) ^ (R.length / 2)) h5 (Int.pow_nonneg (by decide))
        have h7 : w * (2 ^ (R.length / 2) * 2) = w * 2 * 2 ^ (R.length / 2) := by
          rw [Int.mul_comm ((2 : Int) ^ (R.length / 2)) 2, ← Int.mul_assoc]
        rw [h7]
        exact Int.le_trans h6 this.1
      · cases hp
    · cases hp
/-- More than twenty quotients grow too great. -/
theorem rf_long {R : List Int} {u : Int} (hu : 1 ≤ u) (hl : 20 < R.length) : rfGo R u 0 = none := by
  cases hR : rfGo R u 0 with
  | none => rfl
  | some p =>
    exfalso
    match R, hl with
    | q :: R, hl =>
      rw [rfGo] at hR
      split at hR
      · next c =>
        have s1 := rf_step (q := q) (w := u) (h := 0) hu c.1 (by omega)
        obtain ⟨g1, g2⟩ := rf_grow R (q * u + 0) u hu s1 c.2 p hR
        obtain ⟨r, hr⟩ : ∃ r, R.length / 2 = 10 + r := ⟨R.length / 2 - 10, by simp only [List.length_cons] at hl; omega⟩
        rw [hr, Int.pow_add] at g1
        have h8 : (1 : Int) ≤ 2 ^ r := by
          have : (0 : Int) < 2 ^ r := Int.pow_pos (by decide)
          omega
        have h9 : (1024 : Int) ≤ 2 ^ 10 * 2 ^ r := by
          have := Int.mul_le_mul_of_nonneg_left (c := (2 : Int) ^ 10) h8 (by decide)
          omega
        have h10 : (1 : Int) * (2 ^ 10 * 2 ^ r) ≤ (q * u + 0) * (2 ^ 10 * 2 ^ r) := Int.mul_le_mul_of_nonneg_right (by omega) (by omega)
        omega
      · cases hR
/-- A unit that is too great. -/
theorem rf_big {R : List Int} {u : Int} (hR : R ≠ []) (hu : 1000 < u) : rfGo R u 0 = none := by
  match R, hR with
  | q :: R, _ =>
    rw [rfGo, if_neg]
    rintro ⟨h1, h2⟩
    have := rf_step (q := q) (w := u) (h := 0) (by omega) h1 (by omega)
    omega
theorem rf_div {q w h : Int} (hw : 1 ≤ w) (hh : 0 ≤ h) (h2 : h ≤ 1000) : (1 ≤ q ∧ q ≤ (1000 - h).tdiv w) ↔ (1 ≤ q ∧ q * w + h ≤ 1000) := by
  rw [Int.tdiv_eq_ediv_of_nonneg (by omega), Int.le_ediv_iff_mul_le (by omega)]
  omega
/-- The quotients from number k on, from the back. -/
theorem rf_back {Q : List Int} {k : Nat} (hk : k < Q.length) : (Q.take (k + 1)).reverse = Q[k] :: (Q.take k).reverse := by
  rw [← List.take_append_getElem hk]; simp
end Go.Proofs.Ythoniopkeiifnaa

/-! RfS12 -/
namespace Go.Proofs.Ythoniopkeiifnaa
open Go.RowKit

def RfE (Q : List Int) (u : Int) : Value := .tuple #[.int .i64 (rfV Q u).1, .int .i64 (rfV Q u).2.1, .bool (rfV Q u).2.2]
theorem rfV_no {Q : List Int} {u : Int} (h : ¬ (1 ≤ u ∧ Q ≠ [] ∧ ¬ (1 < Q.length ∧ Q.getLastD 0 = 1))) : rfV Q u = (0, 0, false) := if_neg h
theorem rfV_none {Q : List Int} {u : Int} (h : rfGo Q.reverse u 0 = none) : rfV Q u = (0, 0, false) := by
  unfold rfV; split
  · rw [h]
  · rfl
theorem rfV_some {Q : List Int} {u x y : Int} (hc : 1 ≤ u ∧ Q ≠ [] ∧ ¬ (1 < Q.length ∧ Q.getLastD 0 = 1)) (h : rfGo Q.reverse u 0 = some (x, y)) : rfV Q u = (x, y, true) := by
  unfold rfV; rw [if_pos hc, h]
theorem rf_ge {R : List Int} {q w h : Int} : rfGo (q :: R) w h = if 1 ≤ q ∧ q * w + h ≤ 1000 then rfGo R (q * w + h) w else none := by rw [rfGo]
theorem last_get {Q : List Int} (h : 0 < Q.length) : Q.getLastD 0 = Q[Q.length - 1] := by
  rw [List.getLastD_eq_getLast?, List.getLast?_eq_getElem?, List.getElem?_eq_getElem (by omega)]; rfl
theorem rf_mul {q w h x : Int} (hq : 1 ≤ q ∧ q ≤ 1000) (hw : 1 ≤ w ∧ w ≤ 1000) (_ : 0 ≤ h ∧ h ≤ 1000) (e : x = q * w) : 1 ≤ x ∧ x ≤ 1000000 ∧ w ≤ x := by
  have h1 : 1 * w ≤ q * w := Int.mul_le_mul_of_nonneg_right hq.1 (by omega)
  have h2 : q * w ≤ 1000 * 1000 := Int.mul_le_mul hq.2 hw.2 (by omega) (by omega)
  omega
theorem rf_q {q w h : Int} (hq : ¬ (1 ≤ q ∧ q ≤ 1000)) (hw : 1 ≤ w) (hh : 0 ≤ h) (c : 1 ≤ q ∧ q * w + h ≤ 1000) : False := by
  have h1 : q * 1 ≤ q * w := Int.mul_le_mul_of_nonneg_left hw (by omega)
  omega
set_option maxRecDepth 100000 in
set_option maxHeartbeats 2000000 in
theorem spec_rf (A : Option Addr) (c : Nat) (X : List Int) (u : Int) (W : World) (hA : IntsA W A X) (hL : X.length ≤ 1048576) :
    Calls Try.prog 21 #[.slice A X.length c, .int .i64 u] W fun e w' => e = .returned (RfE X u) ∧ Below W.heap.size W w' := by
  have HE : Hid (∀ x y b, (rfV X u = (x, y, b)) → (Ending.returned (.tuple #[.int .i64 x, .int .i64 y, .bool b]) = .returned (RfE X u) ∧ Below W.heap.size W W)) := fun x y b h => ⟨by rw [RfE, h], Below.refl _ _⟩
  have HF := Lib.hid (fun x => in_any x 1 1000)
  by_cases h0 : X.length = 0
  · have R := Lib.hid (HE.out 0 0 false (rfV_no fun h => h.2.1 (List.eq_nil_of_length_eq_zero h0)))
    rw [h0]
    clear hA h0 HE hL
    go_enter Try.func21, Try.ntmps21
    go_wp2_with fail
    go_ret3
    exact R.out
  by_cases h20 : 20 < X.length
  · have h20' : (20 : Int) < (X.length : Int) := by omega
    have h0' : ((X.length : Int) == 0) = false := by rw [beq_eq_false_iff_ne]; omega
    by_cases hu : 1 ≤ u
    · have R := Lib.hid (HE.out 0 0 false (rfV_none (rf_long hu (by rw [List.length_reverse]; exact h20))))
      clear hA h0 h20 HE
      go_enter Try.func21, Try.ntmps21
      go_wp2_with fail
      go_ret3
      exact R.out
    · have R := Lib.hid (HE.out 0 0 false (rfV_no fun h => hu h.1))
      clear hA h0 h20 HE hu
      go_enter Try.func21, Try.ntmps21
      go_wp2_with fail
      go_ret3
      exact R.out
  have h20' : ¬ (20 : Int) < (X.length : Int) := by omega
  have h0' : ((X.length : Int) == 0) = false := by rw [beq_eq_false_iff_ne]; omega
  cases hu : inB u 1 1000
  · have HFU := Lib.hid (HF.out u)
    rw [hu] at HFU
    have R := Lib.hid (HE.out 0 0 false (by
      by_cases h1 : 1 ≤ u
      · refine rfV_none (rf_big (fun e => h0 (by have := congrArg List.length e; simpa using this)) ?_)
        have h2 : ¬ (1 ≤ u ∧ u ≤ 1000) := fun h => by rw [inB_spec.2 h] at hu; cases hu
        omega
      · exact rfV_no fun h => h1 h.1))
    clear hA h0 h20 HE hu HF
    go_enter Try.func21, Try.ntmps21
    go_wp2_with fail
    refine (HFU.out _).mono ?_
    rintro e w1 ⟨rfl, rfl⟩
    go_wp2_with fail
    go_ret3
    exact R.out
  have HFU := Lib.hid (HF.out u)
  rw [hu] at HFU
  have hu2 := inB_spec.1 hu
  clear hu
  by_cases h1 : 1 < X.length ∧ X.getLastD 0 = 1
  · have R := Lib.hid (HE.out 0 0 false (rfV_no fun h => h.2.2 h1))
    obtain ⟨g, rfl, hc⟩ := hA (X.length - 1) (by omega)
    rw [← last_get (by omega), h1.2] at hc
    have h1' : (1 : Int) < (X.length : Int) := by omega
    obtain ⟨m, hm⟩ : ∃ m, X.length = m + 1 := ⟨X.length - 1, by omega⟩
    rw [show X.length - 1 = m by omega] at hc
    have e1 : (X.length : Int) - 1 = (m : Int) := by omega
    have e2 : (m : Int) < (X.length : Int) := by omega
    clear hA h0 h20 HE h1 HF hm
    go_enter Try.func21, Try.ntmps21
    go_wp2_with fail
    refine (HFU.out _).mono ?_
    rintro e w1 ⟨rfl, rfl⟩
    go_wp2_with fail
    go_ret3
    exact R.out
  have HC : Hid (1 ≤ u ∧ X ≠ [] ∧ ¬ (1 < X.length ∧ X.getLastD 0 = 1)) := ⟨hu2.1, fun e => h0 (by rw [e]; rfl), h1⟩
  have HA := Lib.hid hA
  have HLA : Hid (1 < X.length → ∃ g, A = some ⟨g, 0, none⟩ ∧ W.cell? ⟨g, X.length - 1, none⟩ = some (.int .i64 (X.getLastD 0)) ∧ ((X.getLastD 0 == 1) = false)) := fun h2 => by
    obtain ⟨g, e, hc⟩ := hA (X.length - 1) (by omega)
    rw [← last_get (by omega)] at hc
    exact ⟨g, e, hc, by rw [beq_eq_false_iff_ne]; exact fun e => h1 ⟨h2, e⟩⟩
  have HN : Hid (rfGo X.reverse u 0 = none → (Ending.returned (.tuple #[.int .i64 0, .int .i64 0, .bool false]) = .returned (RfE X u) ∧ Below W.heap.size W W)) := fun h => HE.out 0 0 false (rfV_none h)
  have HY : Hid (∀ x y, rfGo X.reverse u 0 = some (x, y) → (Ending.returned (.tuple #[.int .i64 x, .int .i64 y, .bool true]) = .returned (RfE X u) ∧ Below W.heap.size W W)) := fun x y h => HE.out x y true (rfV_some HC.out h)
  clear HE HC hA h1
  obtain ⟨m, hm⟩ : ∃ m, X.length = m + 1 := ⟨X.length - 1, by omega⟩
  have e1 : (X.length : Int) - 1 = (m : Int) := by omega
  have e2 : (m : Int) < (X.length : Int) := by omega
  have HM := Lib.hid hm
  have hm20 : m < 20 := by omega
  clear h0 h20 hm
  have HS0 : Hid (rfGo (X.take (((m : Int) + 1).toNat)).reverse u 0 = rfGo X.reverse u 0) := by
    show _ = _
    rw [List.take_of_length_le (by have := HM.out; omega)]
  rcases Nat.lt_or_ge 1 X.length with h2 | h2
  · obtain ⟨g, rfl, hc, hne⟩ := HLA.out h2
    have h1' : (1 : Int) < (X.length : Int) := by omega
    rw [show X.length - 1 = m by have := HM.out; omega] at hc
    generalize X.getLastD 0 = z at *
    clear HLA h2
    go_enter Try.func21, Try.ntmps21
    go_wp2_with fail
    refine (HFU.out _).mono ?_
    rintro e w1 ⟨rfl, rfl⟩
    go_wp2_with fail
    go_loopw [7, 8, 9, 10] (fun a b i _ wr => ∃ p q j : Int, -1 ≤ j ∧ j < X.length ∧ a = .int .i64 p ∧ b = .int .i64 q ∧ i = .int .i64 j ∧ 1 ≤ p ∧ p ≤ 1000 ∧ 0 ≤ q ∧ q ≤ 1000 ∧ Hid (rfGo (X.take (j + 1).toNat).reverse p q = rfGo X.reverse u 0) ∧ wr = w1) (fun _ _ i _ _ => (intOf i + 1).toNat)
    case atStart => exact ⟨u, 0, m, by omega, by omega, rfl, rfl, rfl, hu2.1, hu2.2, by omega, by omega, HS0, by first | trivial | rfl⟩
    case round =>
      obtain ⟨p, q, j, hj1, hj2, rfl, rfl, rfl, hp1, hp2, hq1, hq2, HR, rfl⟩ := hrel
      clear HS0
      by_cases hj : 0 ≤ j
      · obtain ⟨k, rfl⟩ : ∃ k : Nat, j = k := ⟨j.toNat, by omega⟩
        have hk : k < X.length := by omega
        obtain ⟨g2, hg2, hcx⟩ := HA.out k hk
        first | subst hg2 | (simp only [Option.some.injEq, Addr.mk.injEq, and_true] at hg2; subst hg2)
        have HST : Hid (rfGo X.reverse u 0 = if 1 ≤ X[k] ∧ X[k] * p + q ≤ 1000 then rfGo (X.take k).reverse (X[k] * p + q) p else none) := by
          show _ = _
          rw [← HR.out, show ((k : Int) + 1).toNat = k + 1 by omega, rf_back hk, rf_ge]
        have HFX := Lib.hid (HF.out X[k])
        clear HR HF
        generalize X[k] = x at *
        cases hin : inB x 1 1000
        · rw [hin] at HFX
          have R := Lib.hid (HN.out (by rw [HST.out, if_neg (fun cc => rf_q (fun h => by rw [inB_spec.2 h] at hin; cases hin) hp1 hq1 cc)]))
          clear HN HY HST hin
          go_wp2_with fail
          refine (HFX.out _).mono ?_
          rintro e w2 ⟨rfl, rfl⟩
          go_wp2_with fail
          go_ret3
          exact R.out
        · rw [hin] at HFX
          have hx := inB_spec.1 hin
          obtain ⟨y, hy⟩ : ∃ y, y = x * p := ⟨_, rfl⟩
          obtain ⟨y1, y2, y3⟩ := rf_mul hx ⟨hp1, hp2⟩ ⟨hq1, hq2⟩ hy
          rw [← hy] at HST
          have f1 : x * p = y := hy.symm
          have f2 : IntKind.i64.wrap y = y := IntWalk.i64_in _ (by omega)
          clear hin hy
          by_cases hbig : 1000 < y + q
          · have R := Lib.hid (HN.out (by rw [HST.out, if_neg (fun cc => by omega)]))
            clear HN HY HST
            go_wp2_with fail
            refine (HFX.out _).mono ?_
            rintro e w2 ⟨rfl, rfl⟩
            go_wp2_with fail
            go_ret3
            exact R.out
          · have HR2 : Hid (rfGo (X.take ((k : Int) - 1 + 1).toNat).reverse (y + q) p = rfGo X.reverse u 0) := by
              show _ = _
              rw [HST.out, if_pos (by omega), show ((k : Int) - 1 + 1).toNat = k by omega]
            clear HST HN HY
            go_wp2_with fail
            refine (HFX.out _).mono ?_
            rintro e w2 ⟨rfl, rfl⟩
            go_wp2_with fail
            go_roundw
            case rel => exact ⟨y + q, p, (k : Int) - 1, by omega, by omega, by go_num, by go_num, by go_num, by omega, by omega, by omega, by omega, HR2, by first | trivial | rfl⟩
            case measure => simp [intOf]
      · obtain rfl : j = -1 := by omega
        have R := Lib.hid (HY.out p q (by rw [← HR.out]; simp [rfGo]))
        clear HN HY HR
        go_wp2_with fail
        go_ret3
        exact R.out
  · have h1' : ¬ (1 : Int) < (X.length : Int) := by omega
    clear HLA h2
    go_enter Try.func21, Try.ntmps21
    go_wp2_with fail
    refine (HFU.out _).mono ?_
    rintro e w1 ⟨rfl, rfl⟩
    go_wp2_with fail
    go_loopw [7, 8, 9, 10] (fun a b i _ wr => ∃ p q j : Int, -1 ≤ j ∧ j < X.length ∧ a = .int .i64 p ∧ b = .int .i64 q ∧ i = .int .i64 j ∧ 1 ≤ p ∧ p ≤ 1000 ∧ 0 ≤ q ∧ q ≤ 1000 ∧ Hid (rfGo (X.take (j + 1).toNat).reverse p q = rfGo X.reverse u 0) ∧ wr = w1) (fun _ _ i _ _ => (intOf i + 1).toNat)
    case atStart => exact ⟨u, 0, m, by omega, by omega, rfl, rfl, rfl, hu2.1, hu2.2, by omega, by omega, HS0, by first | trivial | rfl⟩
    case round =>
      obtain ⟨p, q, j, hj1, hj2, rfl, rfl, rfl, hp1, hp2, hq1, hq2, HR, rfl⟩ := hrel
      clear HS0
      by_cases hj : 0 ≤ j
      · obtain ⟨k, rfl⟩ : ∃ k : Nat, j = k := ⟨j.toNat, by omega⟩
        have hk : k < X.length := by omega
        obtain ⟨g2, hg2, hcx⟩ := HA.out k hk
        first | subst hg2 | (simp only [Option.some.injEq, Addr.mk.injEq, and_true] at hg2; subst hg2)
        have HST : Hid (rfGo X.reverse u 0 = if 1 ≤ X[k] ∧ X[k] * p + q ≤ 1000 then rfGo (X.take k).reverse (X[k] * p + q) p else none) := by
          show _ = _
          rw [← HR.out, show ((k : Int) + 1).toNat = k + 1 by omega, rf_back hk, rf_ge]
        have HFX := Lib.hid (HF.out X[k])
        clear HR HF
        generalize X[k] = x at *
        cases hin : inB x 1 1000
        · rw [hin] at HFX
          have R := Lib.hid (HN.out (by rw [HST.out, if_neg (fun cc => rf_q (fun h => by rw [inB_spec.2 h] at hin; cases hin) hp1 hq1 cc)]))
          clear HN HY HST hin
          go_wp2_with fail
          refine (HFX.out _).mono ?_
          rintro e w2 ⟨rfl, rfl⟩
          go_wp2_with fail
          go_ret3
          exact R.out
        · rw [hin] at HFX
          have hx := inB_spec.1 hin
          obtain ⟨y, hy⟩ : ∃ y, y = x * p := ⟨_, rfl⟩
          obtain ⟨y1, y2, y3⟩ := rf_mul hx ⟨hp1, hp2⟩ ⟨hq1, hq2⟩ hy
          rw [← hy] at HST
          have f1 : x * p = y := hy.symm
          have f2 : IntKind.i64.wrap y = y := IntWalk.i64_in _ (by omega)
          clear hin hy
          by_cases hbig : 1000 < y + q
          · have R := Lib.hid (HN.out (by rw [HST.out, if_neg (fun cc => by omega)]))
            clear HN HY HST
            go_wp2_with fail
            refine (HFX.out _).mono ?_
            rintro e w2 ⟨rfl, rfl⟩
            go_wp2_with fail
            go_ret3
            exact R.out
          · have HR2 : Hid (rfGo (X.take ((k : Int) - 1 + 1).toNat).reverse (y + q) p = rfGo X.reverse u 0) := by
              show _ = _
              rw [HST.out, if_pos (by omega), show ((k : Int) - 1 + 1).toNat = k by omega]
            clear HST HN HY
            go_wp2_with fail
            refine (HFX.out _).mono ?_
            rintro e w2 ⟨rfl, rfl⟩
            go_wp2_with fail
            go_roundw
            case rel => exact ⟨y + q, p, (k : Int) - 1, by omega, by omega, by go_num, by go_num, by go_num, by omega, by omega, by omega, by omega, HR2, by first | trivial | rfl⟩
            case measure => simp [intOf]
      · obtain rfl : j = -1 := by omega
        have R := Lib.hid (HY.out p q (by rw [← HR.out]; simp [rfGo]))
        clear HN HY HR
        go_wp2_with fail
        go_ret3
        exact R.out
end Go.Proofs.Ythoniopkeiifnaa

/-! FewP12 -/
namespace Go.Proofs.Ythoniopkeiifnaa

/-- The least of x and f 1 .. f k. -/
def mnK (f : Nat → Int) (x : Int) : Nat → Int
  | 0 => x
  | k + 1 => min (mnK f x k) (f (k + 1))
theorem mnK_congr {f g : Nat → Int} {x : Int} : ∀ n, (∀ k, 1 ≤ k → k ≤ n → f k = g k) → mnK f x n = mnK g x n
  | 0, _ => rfl
  | n + 1, h => by rw [mnK, mnK, mnK_congr n (fun k h1 h2 => h k h1 (by omega)), h (n + 1) (by omega) (Nat.le_refl _)]
theorem mnK_le (f : Nat → Int) (x : Int) : ∀ n, mnK f x n ≤ x
  | 0 => Int.le_refl _
  | n + 1 => by have := mnK_le f x n; rw [mnK]; omega
theorem mnK_ge {f : Nat → Int} {x y : Int} (hx : y ≤ x) : ∀ n, (∀ k, 1 ≤ k → k ≤ n → y ≤ f k) → y ≤ mnK f x n
  | 0, _ => hx
  | n + 1, h => by have := mnK_ge hx n (fun k h1 h2 => h k h1 (by omega)); have := h (n + 1) (by omega) (Nat.le_refl _); rw [mnK]; omega
def fwN : Nat → Nat → Nat → Int
  | 0, _, _ => 1
  | n + 1, a, b => if a = b then 1 else mnK (fun k => fwN n a k + fwN n a (b - k)) (mnK (fun k => fwN n k b + fwN n (a - k) b) (a * b : Nat) (a - 1)) (b - 1)
theorem fwN_fuel : ∀ (n m a b : Nat), 1 ≤ a → 1 ≤ b → a + b ≤ n → a + b ≤ m → fwN n a b = fwN m a b
  | 0, _, _, _, h1, _, h3, _ => absurd h3 (by omega)
  | _ + 1, 0, _, _, h1, _, _, h4 => absurd h4 (by omega)
  | n + 1, m + 1, a, b, h1, h2, h3, h4 => by
    rw [fwN, fwN]
    split
    · rfl
    · have e1 : mnK (fun k => fwN n k b + fwN n (a - k) b) (a * b : Nat) (a - 1) = mnK (fun k => fwN m k b + fwN m (a - k) b) (a * b : Nat) (a - 1) :=
        mnK_congr _ (fun k hk1 hk2 => by
          rw [fwN_fuel n m k b hk1 h2 (by omega) (by omega), fwN_fuel n m (a - k) b (by omega) h2 (by omega) (by omega)])
      rw [e1]
      exact mnK_congr _ (fun k hk1 hk2 => by
        rw [fwN_fuel n m a k h1 hk1 (by omega) (by omega), fwN_fuel n m a (b - k) h1 (by omega) (by omega) (by omega)])
def fw (a b : Nat) : Int := fwN (a + b) a b
def fwA (a b k : Nat) : Int := fw k b + fw (a - k) b
def fwB (a b k : Nat) : Int := fw a k + fw a (b - k)
theorem fw_ne {a b : Nat} (ha : 1 ≤ a) (hb : 1 ≤ b) (h : a ≠ b) : fw a b = mnK (fwB a b) (mnK (fwA a b) (a * b : Nat) (a - 1)) (b - 1) := by
  obtain ⟨n, hn⟩ : ∃ n, a + b = n + 1 := ⟨a + b - 1, by omega⟩
  rw [fw, hn, fwN, if_neg h]
  have e1 : mnK (fun k => fwN n k b + fwN n (a - k) b) (a * b : Nat) (a - 1) = mnK (fwA a b) (a * b : Nat) (a - 1) :=
    mnK_congr _ (fun k hk1 hk2 => by
      simp only [fwA, fw]
      rw [fwN_fuel n (k + b) k b hk1 hb (by omega) (by omega), fwN_fuel n (a - k + b) (a - k) b (by omega) hb (by omega) (by omega)])
  rw [e1]
  exact mnK_congr _ (fun k hk1 hk2 => by
    simp only [fwB, fw]
    rw [fwN_fuel n (a + k) a k ha hk1 (by omega) (by omega), fwN_fuel n (a + (b - k)) a (b - k) ha (by omega) (by omega) (by omega)])
theorem fw_same {a : Nat} (ha : 1 ≤ a) : fw a a = 1 := by
  obtain ⟨n, hn⟩ : ∃ n, a + a = n + 1 := ⟨a + a - 1, by omega⟩
  rw [fw, hn, fwN, if_pos rfl]
theorem fw_ge : ∀ (n a b : Nat), a + b ≤ n → 1 ≤ a → 1 ≤ b → 1 ≤ fw a b
  | 0, _, _, h, h1, _ => absurd h (by omega)
  | n + 1, a, b, h, h1, h2 => by
    by_cases e : a = b
    · subst e; rw [fw_same h1]; omega
    · rw [fw_ne h1 h2 e]
      refine mnK_ge (mnK_ge ?_ _ fun k k1 k2 => ?_) _ fun k k1 k2 => ?_
      · have := Nat.mul_le_mul h1 h2; omega
      · have := fw_ge n k b (by omega) k1 h2; have := fw_ge n (a - k) b (by omega) (by omega) h2
        unfold fwA; omega
      · have := fw_ge n a k (by omega) h1 k1; have := fw_ge n a (b - k) (by omega) h1 (by omega)
        unfold fwB; omega
theorem fw_one {a b : Nat} (ha : 1 ≤ a) (hb : 1 ≤ b) : 1 ≤ fw a b := fw_ge _ a b (Nat.le_refl _) ha hb
theorem fw_le {a b : Nat} (ha : 1 ≤ a) (hb : 1 ≤ b) : fw a b ≤ (a * b : Nat) := by
  by_cases e : a = b
  · subst e; rw [fw_same ha]; have := Nat.mul_le_mul ha ha; omega
  · rw [fw_ne ha hb e]; exact Int.le_trans (mnK_le _ _ _) (mnK_le _ _ _)
theorem fw_900 {a b : Nat} (ha : 1 ≤ a ∧ a ≤ 30) (hb : 1 ≤ b ∧ b ≤ 30) : fw a b ≤ 900 := by
  have := fw_le ha.1 hb.1
  have := Nat.mul_le_mul ha.2 hb.2
  omega
/-- The model starts at one where the sides are alike, and asks all cuts all the same. -/
def fwX (a b : Nat) : Int := if a = b then 1 else (a * b : Nat)
theorem fw_model {a b : Nat} (ha : 1 ≤ a) (hb : 1 ≤ b) : mnK (fwB a b) (mnK (fwA a b) (fwX a b) (a - 1)) (b - 1) = fw a b := by
  by_cases e : a = b
  · subst e
    rw [fwX, if_pos rfl, fw_same ha]
    have g1 := mnK_ge (f := fwA a a) (x := 1) (y := 1) (Int.le_refl _) (a - 1) (fun k k1 k2 => by
      have := fw_one k1 ha; have := fw_one (a := a - k) (by omega) ha
      unfold fwA; omega)
    have g2 := mnK_ge (f := fwB a a) g1 (a - 1) (fun k k1 k2 => by
      have := fw_one ha k1; have := fw_one (b := a - k) ha (by omega)
      unfold fwB; omega)
    have := mnK_le (fwB a a) (mnK (fwA a a) 1 (a - 1)) (a - 1)
    have := mnK_le (fwA a a) 1 (a - 1)
    omega
  · rw [fwX, if_neg e, fw_ne ha hb e]
theorem fwA_in {a b k : Nat} (ha : 1 ≤ a ∧ a ≤ 30) (hb : 1 ≤ b ∧ b ≤ 30) (h1 : 1 ≤ k) (h2 : k < a) : 2 ≤ fwA a b k ∧ fwA a b k ≤ 1800 := by
  have := fw_one h1 hb.1; have := fw_one (a := a - k) (by omega) hb.1
  have := fw_900 (a := k) (b := b) ⟨h1, by omega⟩ hb; have := fw_900 (a := a - k) (b := b) ⟨by omega, by omega⟩ hb
  unfold fwA; omega
theorem fwB_in {a b k : Nat} (ha : 1 ≤ a ∧ a ≤ 30) (hb : 1 ≤ b ∧ b ≤ 30) (h1 : 1 ≤ k) (h2 : k < b) : 2 ≤ fwB a b k ∧ fwB a b k ≤ 1800 := by
  have := fw_one ha.1 h1; have := fw_one (b := b - k) ha.1 (by omega)
  have := fw_900 (a := a) (b := k) ha ⟨h1, by omega⟩; have := fw_900 (a := a) (b := b - k) ha ⟨by omega, by omega⟩
  unfold fwB; omega
theorem fwX_in {a b : Nat} (ha : 1 ≤ a ∧ a ≤ 30) (hb : 1 ≤ b ∧ b ≤ 30) : 1 ≤ fwX a b ∧ fwX a b ≤ 900 := by
  have h1 := Nat.mul_le_mul ha.1 hb.1
  have h2 := Nat.mul_le_mul ha.2 hb.2
  unfold fwX; split <;> omega
end Go.Proofs.Ythoniopkeiifnaa

/-! CorP12 -/
namespace Go.Proofs.Ythoniopkeiifnaa

def hI (H : List Int) (k : Nat) : Int := H.getD k 0
theorem hI_at {H : List Int} {k : Nat} (h : k < H.length) : hI H k = H[k] := by simp [hI, h]
/-- The first of the least of f 0 .. f (n - 1). -/
def lowT (f : Nat → Int) : Nat → Nat
  | 0 => 0
  | k + 1 => if f k < f (lowT f k) then k else lowT f k
theorem lowT_lt (f : Nat → Int) : ∀ n, 0 < n → lowT f n < n
  | 0, h => absurd h (by omega)
  | n + 1, _ => by
    rw [lowT]
    split
    · omega
    · rcases Nat.eq_zero_or_pos n with rfl | h
      · simp [lowT]
      · have := lowT_lt f n h; omega
theorem lowT_le (f : Nat → Int) : ∀ n j, j < n → f (lowT f n) ≤ f j
  | 0, j, h => absurd h (by omega)
  | n + 1, j, h => by
    rw [lowT]
    rcases Nat.lt_or_ge j n with h1 | h1
    · have := lowT_le f n j h1
      split <;> omega
    · obtain rfl : j = n := by omega
      split <;> omega
theorem lowT_first (f : Nat → Int) : ∀ n j, j < lowT f n → f (lowT f n) < f j
  | 0, j, h => absurd h (by simp [lowT])
  | n + 1, j, h => by
    rw [lowT] at h ⊢
    split
    · next c =>
      rw [if_pos c] at h
      have := lowT_le f n j h
      omega
    · next c =>
      rw [if_neg c] at h
      exact lowT_first f n j h
theorem lowT_one (f : Nat → Int) : lowT f 1 = 0 := by simp [lowT]
/-- v in the places a .. a + s - 1. -/
def setN (H : List Int) (a : Nat) (v : Int) : Nat → List Int
  | 0 => H
  | j + 1 => (setN H a v j).set (a + j) v
theorem setN_len (H : List Int) (a : Nat) (v : Int) : ∀ j, (setN H a v j).length = H.length
  | 0 => rfl
  | j + 1 => by rw [setN, List.length_set, setN_len H a v j]
theorem setN_at (H : List Int) (a : Nat) (v : Int) : ∀ j k, (setN H a v j)[k]? = if a ≤ k ∧ k < a + j ∧ k < H.length then some v else H[k]?
  | 0, k => by rw [setN, if_neg (by omega)]
  | j + 1, k => by
    rw [setN, List.getElem?_set, setN_len, setN_at H a v j k]
    by_cases h1 : a + j = k
    · rw [if_pos h1]
      by_cases h2 : a + j < H.length
      · rw [if_pos h2, if_pos (by omega)]
      · rw [if_neg h2, if_neg (by omega), List.getElem?_eq_none (by omega)]
    · rw [if_neg h1]
      by_cases h2 : a ≤ k ∧ k < a + j ∧ k < H.length
      · rw [if_pos h2, if_pos (by omega)]
      · rw [if_neg h2, if_neg (by omega)]
theorem setN_hI (H : List Int) (a : Nat) (v : Int) (j k : Nat) (hk : k < H.length) : hI (setN H a v j) k = if a ≤ k ∧ k < a + j then v else hI H k := by
  unfold hI
  rw [List.getD_eq_getElem?_getD, setN_at, List.getD_eq_getElem?_getD]
  by_cases h : a ≤ k ∧ k < a + j
  · rw [if_pos ⟨h.1, h.2, hk⟩, if_pos h]; rfl
  · rw [if_neg (by omega), if_neg h]
theorem setN_mem {H : List Int} {a j : Nat} {v x : Int} (h : x ∈ setN H a v j) : x = v ∨ x ∈ H := by
  obtain ⟨k, hk⟩ := List.getElem?_of_mem h
  rw [setN_at] at hk
  split at hk
  · left; simpa using hk.symm
  · right; exact List.mem_of_getElem? hk
/-- A square of side s fits at the lowest gap. -/
def FitC (h : Int) (H : List Int) (a s : Nat) : Prop := hI H a + s ≤ h ∧ a + s ≤ H.length ∧ ∀ j, j < s → hI H (a + j) = hI H a
instance (h : Int) (H : List Int) (a s : Nat) : Decidable (FitC h H a s) := inferInstanceAs (Decidable (_ ∧ _ ∧ ∀ j, j < s → _))
def lowC (H : List Int) : Nat := lowT (hI H) H.length
def goC (h : Int) : List Nat → List Int → List (Int × Int) → Option (List Int × List (Int × Int))
  | [], H, C => some (H, C)
  | s :: S, H, C => if FitC h H (lowC H) s then goC h S (setN H (lowC H) (hI H (lowC H) + s) s) (C ++ [(((lowC H : Nat) : Int), hI H (lowC H))]) else none
theorem goC_yes {h : Int} {s : Nat} {S : List Nat} {H : List Int} {C : List (Int × Int)} (c : FitC h H (lowC H) s) : goC h (s :: S) H C = goC h S (setN H (lowC H) (hI H (lowC H) + s) s) (C ++ [(((lowC H : Nat) : Int), hI H (lowC H))]) := by rw [goC, if_pos c]
theorem goC_no {h : Int} {s : Nat} {S : List Nat} {H : List Int} {C : List (Int × Int)} (c : ¬ FitC h H (lowC H) s) : goC h (s :: S) H C = none := by rw [goC, if_neg c]
/-- The corners, if the squares fill the rectangle. -/
def corN (w : Nat) (h : Int) (S : List Nat) : List (Int × Int) × Bool :=
  match goC h S (List.replicate w 0) [] with
  | some (H, C) => if ∀ x ∈ H, x = h then (C, true) else ([], false)
  | none => ([], false)
/-- What the skyline is: as many columns, none higher than h. -/
def SkyOk (w : Nat) (h : Int) (H : List Int) : Prop := H.length = w ∧ ∀ x ∈ H, 0 ≤ x ∧ x ≤ h
theorem SkyOk.start {w : Nat} {h : Int} (hh : 0 ≤ h) : SkyOk w h (List.replicate w 0) := ⟨by simp, fun x hx => by rw [List.eq_of_mem_replicate hx]; omega⟩
theorem SkyOk.at {w : Nat} {h : Int} {H : List Int} (k : SkyOk w h H) {j : Nat} (hj : j < w) : 0 ≤ hI H j ∧ hI H j ≤ h := by
  rw [hI_at (by rw [k.1]; exact hj)]; exact k.2 _ (List.getElem_mem _)
theorem SkyOk.next {w : Nat} {h : Int} {H : List Int} {s : Nat} (k : SkyOk w h H) (hw : 0 < w) (c : FitC h H (lowC H) s) : SkyOk w h (setN H (lowC H) (hI H (lowC H) + s) s) := by
  refine ⟨by rw [setN_len, k.1], fun x hx => ?_⟩
  rcases setN_mem hx with rfl | h1
  · have := k.at (j := lowC H) (by have := lowT_lt (hI H) H.length (by rw [k.1]; exact hw); rw [k.1] at this; unfold lowC; rw [k.1]; exact this)
    have := c.1
    omega
  · exact k.2 x h1
theorem lowC_lt {w : Nat} {h : Int} {H : List Int} (k : SkyOk w h H) (hw : 0 < w) : lowC H < w := by
  have := lowT_lt (hI H) H.length (by rw [k.1]; exact hw)
  unfold lowC
  rw [k.1] at this ⊢
  exact this
/-- The run of equal columns from a on ends at r. -/
theorem fit_gap {h : Int} {H : List Int} {a s r : Nat} (h1 : ∀ j, a ≤ j → j < r → hI H j = hI H a) (h2 : r = H.length ∨ (r < H.length ∧ hI H r ≠ hI H a)) (ha : a ≤ r) : FitC h H a s ↔ hI H a + s ≤ h ∧ s ≤ r - a := by
  constructor
  · rintro ⟨g1, g2, g3⟩
    refine ⟨g1, ?_⟩
    rcases h2 with rfl | ⟨h2, h3⟩
    · omega
    · rcases Nat.lt_or_ge (r - a) s with h4 | h4
      · exfalso
        have := g3 (r - a) h4
        rw [show a + (r - a) = r by omega] at this
        exact h3 this
      · exact h4
  · rintro ⟨g1, g2⟩
    have hr : r ≤ H.length := by rcases h2 with rfl | h2 <;> omega
    exact ⟨g1, by omega, fun j hj => h1 (a + j) (by omega) (by omega)⟩
/-- Some column is lower than h, or all are as high. -/
theorem all_high {w : Nat} {h : Int} {H : List Int} (k : SkyOk w h H) (hw : 0 < w) : (∀ x ∈ H, x = h) ↔ ¬ hI H (lowC H) < h := by
  constructor
  · intro h1 h2
    have hl : lowC H < H.length := by rw [k.1]; exact lowC_lt k hw
    have := h1 _ (List.getElem_mem hl)
    rw [hI_at hl] at h2
    omega
  · intro h1 x hx
    obtain ⟨j, hj, rfl⟩ := List.getElem_of_mem hx
    have h2 := lowT_le (hI H) H.length j hj
    rw [hI_at hj] at h2
    have h3 := (k.2 _ (List.getElem_mem hj)).2
    unfold lowC at h1
    omega
end Go.Proofs.Ythoniopkeiifnaa

/-! GrQ12 -/
namespace Go.Proofs.Ythoniopkeiifnaa

def sumN : List Nat → Nat
  | [] => 0
  | x :: L => x + sumN L
theorem sumN_append (L M : List Nat) : sumN (L ++ M) = sumN L + sumN M := by
  induction L with
  | nil => simp [sumN]
  | cons x L ih => simp [sumN, ih]; omega
theorem sq_len_sum (E : List (Nat × Nat)) : (sqL E).length = sumN (E.map (·.2)) := by
  induction E with
  | nil => rfl
  | cons p E ih => simp [sqL, sumN, ih]
def sqS (L : List Nat) : Nat := sumN (L.map fun x => x * x)
theorem sqS_append (L M : List Nat) : sqS (L ++ M) = sqS L + sqS M := by unfold sqS; rw [List.map_append, sumN_append]
theorem sqS_rep (q b : Nat) : sqS (List.replicate q b) = q * (b * b) := by
  induction q with
  | zero => simp [sqS, sumN]
  | succ q ih => rw [List.replicate_succ, ← List.singleton_append, sqS_append, ih, Nat.add_mul]; simp [sqS, sumN]; omega
/-- The squares have the area of the rectangle. -/
theorem sq_area (b : Nat) : ∀ a, sqS (sqL (eu a b)) = a * b := by
  induction b using Nat.strongRecOn with
  | _ b ih =>
    intro a
    rcases Nat.eq_zero_or_pos b with rfl | h0
    · rw [eu_zero]; rfl
    · rw [eu_pos h0]
      simp only [sqL]
      rw [sqS_append, sqS_rep, ih _ (Nat.mod_lt _ h0)]
      have hd := Nat.div_add_mod a b
      calc a / b * (b * b) + b * (a % b) = b * (b * (a / b) + a % b) := by rw [Nat.mul_add]; congr 1; rw [Nat.mul_comm, Nat.mul_assoc]
        _ = a * b := by rw [hd, Nat.mul_comm]
theorem sq_ne {a b : Nat} (h0 : 0 < b) (h1 : b ≤ a) : ∃ L, sqL (eu a b) = b :: L := by
  rw [eu_pos h0]
  have hq : 1 ≤ a / b := (Nat.one_le_div_iff h0).2 h1
  obtain ⟨q, hq⟩ : ∃ q, a / b = q + 1 := ⟨a / b - 1, by omega⟩
  exact ⟨List.replicate q b ++ sqL (eu b (a % b)), by simp [sqL, hq, List.replicate_succ]⟩
theorem last_app {L M : List Nat} (h : M ≠ []) : (L ++ M).getLastD 0 = M.getLastD 0 := by
  rw [List.getLastD_eq_getLast?, List.getLastD_eq_getLast?, List.getLast?_append]
  cases hM : M.getLast? with
  | none => exact absurd (List.getLast?_eq_none_iff.1 hM) h
  | some x => rfl
theorem last_rep {q b : Nat} (h : 1 ≤ q) : (List.replicate q b).getLastD 0 = b := by
  obtain ⟨r, rfl⟩ : ∃ r, q = r + 1 := ⟨q - 1, by omega⟩
  rw [List.replicate_succ']; simp
theorem sq_last_step {a b : Nat} (h0 : 0 < b) (h : 0 < a % b) : (sqL (eu a b)).getLastD 0 = (sqL (eu b (a % b))).getLastD 0 := by
  obtain ⟨L, hL⟩ := sq_ne h (Nat.le_of_lt (Nat.mod_lt a h0))
  rw [eu_pos h0]
  simp only [sqL]
  exact last_app (by rw [hL]; simp)
theorem sq_last_end {a b : Nat} (h0 : 0 < b) (h1 : b ≤ a) (h : a % b = 0) : (sqL (eu a b)).getLastD 0 = b := by
  rw [eu_pos h0, h, eu_zero]
  simp only [sqL, List.append_nil]
  exact last_rep ((Nat.one_le_div_iff h0).2 h1)
/-- The least side divides both. -/
theorem sq_last (b : Nat) : ∀ a, 0 < b → b ≤ a → 1 ≤ (sqL (eu a b)).getLastD 0 ∧ (sqL (eu a b)).getLastD 0 ∣ a ∧ (sqL (eu a b)).getLastD 0 ∣ b := by
  induction b using Nat.strongRecOn with
  | _ b ih =>
    intro a h0 h1
    rcases Nat.eq_zero_or_pos (a % b) with h | h
    · rw [sq_last_end h0 h1 h]
      exact ⟨h0, Nat.dvd_of_mod_eq_zero h, Nat.dvd_refl _⟩
    · rw [sq_last_step h0 h]
      obtain ⟨g1, g2, g3⟩ := ih _ (Nat.mod_lt _ h0) b h (Nat.le_of_lt (Nat.mod_lt _ h0))
      refine ⟨g1, ?_, g2⟩
      have hd := Nat.div_add_mod a b
      have g4 := Nat.dvd_add (Nat.dvd_trans g2 (Nat.dvd_mul_right b (a / b))) g3
      rw [hd] at g4
      exact g4
theorem rfGo_snoc (R : List Int) (q : Int) : ∀ w h, rfGo (R ++ [q]) w h = (rfGo R w h).bind fun p => if 1 ≤ q ∧ q * p.1 + p.2 ≤ 1000 then some (q * p.1 + p.2, p.1) else none := by
  induction R with
  | nil => intro w h; simp [rfGo]
  | cons x R ih =>
    intro w h
    simp only [List.cons_append, rfGo]
    split
    · rw [ih]
    · rfl
theorem rf_eu (b : Nat) : ∀ a, 0 < b → b ≤ a → a ≤ 1000 → rfGo (((eu a b).map fun p => ((p.2 : Nat) : Int)).reverse) ((sqL (eu a b)).getLastD 0 : Nat) 0 = some ((a : Int), (b : Int)) := by
  induction b using Nat.strongRecOn with
  | _ b ih =>
    intro a h0 h1 h2
    have hq : 1 ≤ a / b := (Nat.one_le_div_iff h0).2 h1
    have hd := Nat.div_add_mod a b
    rcases Nat.eq_zero_or_pos (a % b) with h | h
    · rw [sq_last_end h0 h1 h, eu_pos h0, h, eu_zero]
      have e : ((a / b : Nat) : Int) * (b : Int) + 0 = (a : Int) := by
        rw [Int.add_zero, ← Int.natCast_mul, Nat.mul_comm]
        omega
      simp only [List.map_cons, List.map_nil, List.reverse_cons, List.reverse_nil, List.nil_append, rfGo]
      rw [e, if_pos (by omega)]
    · rw [sq_last_step h0 h, eu_pos h0]
      simp only [List.map_cons, List.reverse_cons]
      rw [rfGo_snoc, ih _ (Nat.mod_lt _ h0) b h (Nat.le_of_lt (Nat.mod_lt _ h0)) (by omega)]
      have e : ((a / b : Nat) : Int) * (b : Int) + ((a % b : Nat) : Int) = (a : Int) := by
        rw [← Int.natCast_mul, Nat.mul_comm]
        omega
      simp only [Option.bind_some]
      rw [e, if_pos (by omega)]
theorem qu_last (b : Nat) : ∀ a, 0 < b → b < a → 2 ≤ ((eu a b).map (·.2)).getLastD 0 := by
  induction b using Nat.strongRecOn with
  | _ b ih =>
    intro a h0 h1
    rw [eu_pos h0]
    rcases Nat.eq_zero_or_pos (a % b) with h | h
    · rw [h, eu_zero]
      simp only [List.map_cons, List.map_nil, List.getLastD_cons, List.getLastD_nil]
      have := Nat.div_add_mod a b
      rcases Nat.lt_or_ge (a / b) 2 with h3 | h3
      · have : b * (a / b) ≤ b * 1 := Nat.mul_le_mul_left _ (by omega)
        omega
      · exact h3
    · have := ih _ (Nat.mod_lt _ h0) b h (Nat.mod_lt _ h0)
      rw [eu_pos h] at this ⊢
      simpa using this
/-! The fewest -/
theorem mnK_iff {f : Nat → Int} {x y : Int} : ∀ n, y ≤ mnK f x n ↔ y ≤ x ∧ ∀ k, 1 ≤ k → k ≤ n → y ≤ f k
  | 0 => by simp only [mnK]; exact ⟨fun h => ⟨h, fun k h1 h2 => absurd h1 (by omega)⟩, fun h => h.1⟩
  | n + 1 => by
    rw [mnK]
    have ih := mnK_iff (f := f) (x := x) (y := y) n
    constructor
    · intro h
      have h1 := ih.1 (by omega)
      refine ⟨h1.1, fun k k1 k2 => ?_⟩
      rcases Nat.lt_or_ge k (n + 1) with h2 | h2
      · exact h1.2 k k1 (by omega)
      · obtain rfl : k = n + 1 := by omega
        omega
    · intro h
      have h1 := ih.2 ⟨h.1, fun k k1 k2 => h.2 k k1 (by omega)⟩
      have h2 := h.2 (n + 1) (by omega) (Nat.le_refl _)
      omega
theorem mnK_swap (f g : Nat → Int) (x : Int) (n m : Nat) : mnK f (mnK g x n) m = mnK g (mnK f x m) n := by
  apply Int.le_antisymm
  · have h := (mnK_iff (f := f) (x := mnK g x n) m).1 (Int.le_refl _)
    have h2 := (mnK_iff n).1 h.1
    exact (mnK_iff n).2 ⟨(mnK_iff m).2 ⟨h2.1, h.2⟩, h2.2⟩
  · have h := (mnK_iff (f := g) (x := mnK f x m) n).1 (Int.le_refl _)
    have h2 := (mnK_iff m).1 h.1
    exact (mnK_iff m).2 ⟨(mnK_iff n).2 ⟨h2.1, h.2⟩, h2.2⟩
theorem fw_commN : ∀ (n a b : Nat), a + b ≤ n → 1 ≤ a → 1 ≤ b → fw a b = fw b a
  | 0, _, _, h, h1, _ => absurd h (by omega)
  | n + 1, a, b, h, h1, h2 => by
    by_cases e : a = b
    · rw [e]
    · rw [fw_ne h1 h2 e, fw_ne h2 h1 (Ne.symm e), mnK_swap, Nat.mul_comm a b]
      have e1 : mnK (fwB a b) (b * a : Nat) (b - 1) = mnK (fwA b a) (b * a : Nat) (b - 1) := mnK_congr _ fun k k1 k2 => by
        unfold fwA fwB
        rw [fw_commN n a k (by omega) h1 k1, fw_commN n a (b - k) (by omega) h1 (by omega)]
      rw [e1]
      exact mnK_congr _ fun k k1 k2 => by
        unfold fwA fwB
        rw [fw_commN n k b (by omega) k1 h2, fw_commN n (a - k) b (by omega) (by omega) h2]
theorem fw_comm {a b : Nat} (ha : 1 ≤ a) (hb : 1 ≤ b) : fw a b = fw b a := fw_commN _ a b (Nat.le_refl _) ha hb
theorem fw_two {a b : Nat} (ha : 1 ≤ a) (hb : 1 ≤ b) (h : a ≠ b) : 2 ≤ fw a b := by
  rw [fw_ne ha hb h]
  refine mnK_ge (mnK_ge ?_ _ fun k k1 k2 => ?_) _ fun k k1 k2 => ?_
  · rcases Nat.lt_or_ge a 2 with h3 | h3
    · have := Nat.mul_le_mul ha (show 2 ≤ b by omega); omega
    · have := Nat.mul_le_mul h3 hb; omega
  · have := fw_one k1 hb; have := fw_one (a := a - k) (by omega) hb
    unfold fwA; omega
  · have := fw_one ha k1; have := fw_one (b := b - k) ha (by omega)
    unfold fwB; omega
theorem fw_iff {a b : Nat} (ha : 1 ≤ a) (hb : 1 ≤ b) : fw a b = 1 ↔ a = b := by
  constructor
  · intro h
    by_cases e : a = b
    · exact e
    · have := fw_two ha hb e; omega
  · rintro rfl; exact fw_same ha
theorem eu_less {a b : Nat} (hb : 0 < b) (h : b < a) : (sqL (eu a b)).length = 1 + (sqL (eu (max (a - b) b) (min (a - b) b))).length := by
  rcases Nat.lt_or_ge (a - b) b with h1 | h1
  · rw [show max (a - b) b = b by omega, show min (a - b) b = a - b by omega, eu_pos hb]
    have e1 : a / b = 1 := by
      have hm := Nat.mod_lt a hb
      have hd := Nat.div_add_mod a b
      rcases Nat.lt_or_ge (a / b) 2 with h3 | h3
      · have := (Nat.one_le_div_iff hb).2 (Nat.le_of_lt h); omega
      · have := Nat.mul_le_mul_left b h3; omega
    have hd := Nat.div_add_mod a b
    rw [e1] at hd ⊢
    rw [show a % b = a - b by omega]
    simp [sqL]; omega
  · rw [show max (a - b) b = a - b by omega, show min (a - b) b = b by omega, eu_pos hb, eu_pos hb]
    have e1 : a / b = (a - b) / b + 1 := by
      conv => lhs; rw [show a = a - b + b by omega]
      rw [Nat.add_div_right _ hb]
    have e2 : a % b = (a - b) % b := by
      conv => lhs; rw [show a = a - b + b by omega]
      rw [Nat.add_mod_right]
    rw [e1, e2]
    simp [sqL]; omega
/-- Greedy cuts need at least the fewest. -/
theorem fw_greedy : ∀ (n a b : Nat), a + b ≤ n → 1 ≤ a → 1 ≤ b → fw a b ≤ ((sqF a b).length : Int)
  | 0, _, _, h, h1, _ => absurd h (by omega)
  | n + 1, a, b, h, h1, h2 => by
    have key : ∀ a b : Nat, a + b ≤ n + 1 → 1 ≤ b → b < a → fw a b ≤ ((sqF a b).length : Int) := by
      intro a b h h2 h3
      have ih := fw_greedy n (a - b) b (by omega) (by omega) h2
      have h4 : fw a b ≤ fwA a b b := by
        rw [fw_ne (by omega) h2 (by omega)]
        refine Int.le_trans (mnK_le _ _ _) ?_
        exact ((mnK_iff _).1 (Int.le_refl _)).2 b h2 (by omega)
      unfold fwA at h4
      rw [fw_same h2] at h4
      unfold sqF at *
      rw [show max a b = a by omega, show min a b = b by omega, eu_less h2 h3]
      omega
    rcases Nat.lt_trichotomy a b with h3 | rfl | h3
    · rw [fw_comm h1 h2]
      have := key b a (by omega) h1 h3
      unfold sqF at *
      rw [Nat.max_comm, Nat.min_comm]
      exact this
    · rw [fw_same h1]
      obtain ⟨L, hL⟩ := sq_ne h1 (Nat.le_refl a)
      unfold sqF
      rw [Nat.max_self, Nat.min_self, hL]
      simp
      omega
    · exact key a b h h2 h3
end Go.Proofs.Ythoniopkeiifnaa
