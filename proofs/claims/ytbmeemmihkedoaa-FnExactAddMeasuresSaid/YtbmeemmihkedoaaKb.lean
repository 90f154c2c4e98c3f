/-
  Walks and facts of this seat, part Kb (merged by a script of this repo out of smaller texts).
-/
import Derived.Test.YtbmeemmihkedoaaKa
import Derived.WalkSpells
import Derived.RegionTactic
import Derived.Maps.OwnSet
import Derived.Maps.RangeWalk
import Derived.DeepKeys4
import Derived.WideKeyEntry
import Derived.Deep.RegionLaw
import Derived.Lib.AppendZerosOnto
import Derived.Lib.SliceRun
/-! Inside -/
namespace Go.Proofs.Ytbmeemmihkedoaa
open Go.RowKit Go.Shelf Go.Sort
attribute [local go_sem] Oper.semAt_some

def onQ (a b p : Int × Int) : Bool := onV a.1 a.2 b.1 b.2 p.1 p.2
theorem onQ_ok {a b p : Int × Int} (ha : okP a.1 a.2 = true) (hb : okP b.1 b.2 = true) (hp : okP p.1 p.2 = true) : onQ a b p = onP a b p := by
  unfold onQ onV onP
  rw [ha, hb, hp]; rfl
theorem crossV_ok {ax ay bx by' px py : Int} (ha : okP ax ay = true) (hb : okP bx by' = true) (hp : okP px py = true) : crossV ax ay bx by' px py = crossI ax ay bx by' px py := by
  unfold crossV
  rw [ha, hb, hp]; rfl
theorem on_pt (a b p : Int × Int) (w : World) :
    Calls Try.prog 120 #[(.agg #[.int .i64 a.1, .int .i64 a.2]), (.agg #[.int .i64 b.1, .int .i64 b.2]), (.agg #[.int .i64 p.1, .int .i64 p.2])] w fun e w' => e = .returned (.bool (onQ a b p)) ∧ Below w.heap.size w w' := impl_on a.1 a.2 b.1 b.2 p.1 p.2 w
set_option maxRecDepth 100000 in
set_option maxHeartbeats 4000000 in
theorem impl_inside_yes (A : Option Addr) (c : Nat) (L : List (Int × Int)) (p : Int × Int) (w : World) (hA : PtsA w A L) (hp : polyB L = true) (hq : okP p.1 p.2 = true) :
    Calls Try.prog 58 #[.slice A L.length c, (.agg #[.int .i64 p.1, .int .i64 p.2])] w fun e w' => e = .returned (.bool (insideB L p)) ∧ Below w.heap.size w w' := by
  obtain ⟨h3, h10, hok⟩ := polyB_all hp
  refine (callsIn_wide (n := 6)).1 ?_
  refine callsIn_of_wp_marks Try.func58 rfl trivial ?_ rfl
  simp only [Try.ntmps58, List.size_toArray, List.length_cons, List.length_nil, Nat.reduceAdd, Nat.reduceSub, Array.replicate_succ, Array.replicate_zero, List.push_toArray, List.append_toArray, List.nil_append, List.cons_append]
  have PC := Lib.hid (fun (W : World) (hb : Below w.heap.size w W) => impl_poly A c L W (ptsA_on hA hb) (by omega))
  rw [hp] at PC
  have bX := at_new w p.1 p.2 27
  have hB0 := below2 w (.cells #[.int .i64 p.1, .int .i64 p.2] 27) (.cells #[.bool false] 4)
  gi_wp2
  refine ⟨trivial, (wide0.calls (PC.out _ hB0)).mono ?_⟩
  rintro e w1 ⟨rfl, hb1⟩
  have hB1 := hB0.trans (hb1.mono hB0.size)
  have bX1 := (bX.alloc (.cells #[.bool false] 4)).step hb1
  have bR1 := boxed_on (Boxed.new (w.alloc (.cells #[.int .i64 p.1, .int .i64 p.2] 27)) 4 (.bool false)) hb1
  simp only [size_alloc] at bR1
  have hs1 : w.heap.size + 2 ≤ w1.heap.size := by have := hb1.size; simp at this; omega
  have c0 := bX1.c0; have c1 := bX1.c1
  clear hb1 bX hB0
  gi_wp2
  refine ⟨trivial, (wide0.calls (impl_ok p.1 p.2 w1)).mono ?_⟩
  rintro e w2 ⟨rfl, hb2⟩
  rw [hq]
  have hB2 := hB1.trans (hb2.mono hB1.size)
  have bX2 := bX1.step hb2
  have bR2 := boxed_on bR1 hb2
  have hs2 : w.heap.size + 2 ≤ w2.heap.size := by have := hb2.size; omega
  have c0 := bX2.c0; have c1 := bX2.c1
  clear hb2 hB1 bX1 bR1 hs1
  gi_wp2
  refine ⟨trivial, (wide0.calls (sides_any A L.length c _)).mono ?_⟩
  rintro e w3 ⟨rfl, rfl⟩
  gi_wp2
  have bX3 := bX2.alloc (.cells #[.slice A L.length c] 35)
  have bR3 := bR2.alloc (.cells #[.slice A L.length c] 35)
  have bN := Boxed.new w2 35 (.slice A L.length c)
  have hB0 : Below w.heap.size w (w2.alloc (.cells #[.slice A L.length c] 35)) := hB2.alloc (by omega) _
  have hsz : (w2.alloc (.cells #[.slice A L.length c] 35)).heap.size = w2.heap.size + 1 := by simp
  obtain ⟨W0, hW0⟩ : ∃ W0, w2.alloc (.cells #[.slice A L.length c] 35) = W0 := ⟨_, rfl⟩
  rw [hW0] at bX3 bR3 bN hB0 hsz ⊢
  clear hW0 c0 c1
  refine wpIn_rangeFunc_ownH rfl (by decide) (gf := 160) (lb := #[.pointer (some ⟨w2.heap.size, 0, none⟩)]) rfl trivial (enters_of Try.func160 (by kernel_rfl) rfl)
    (sides_stops 5 w2.heap.size A c L w W0 (by omega) (by omega) hA hB0 (by omega) bN.cell) keepP_t (keepP_b (by omega) (by omega)) (Below.refl _ _) (fun _ => rfl)
    (fun pre W => ((((∀ i ∈ pre, onQ (gt L i) (gt L (nx L i)) p = false) ∧ Boxed W (w.heap.size + 1) 4 (.bool false)) ∧ Boxed W w2.heap.size 35 (.slice A L.length c)) ∧ At W w.heap.size p.1 p.2 27) ∧ Below w.heap.size w W)
    (fun co pre W => ((co = .ret ∧ ∃ i ∈ pre, onQ (gt L i) (gt L (nx L i)) p = true) ∧ Boxed W (w.heap.size + 1) 4 (.bool true)) ∧ Below w.heap.size w W)
    (OwnFrom.and (OwnFrom.and (OwnFrom.and (OwnFrom.and (ownFrom_pure _ _) (Own.from (boxed_own _ _ _) _)) (Own.from (boxed_own _ _ _) _)) (fun s X Y row hs hg hr => at_own _ _ _ _ _ () X Y row hs hg hr)) (ownFrom_below (Nat.le_refl _) (by omega)))
    (fun co => OwnFrom.and (OwnFrom.and (ownFrom_pure _ _) (Own.from (boxed_own _ _ _) _)) (ownFrom_below (Nat.le_refl _) (by omega)))
    ⟨⟨⟨⟨by simp, bR3⟩, bN⟩, bX3⟩, hB0⟩
    (fun x a' W => ∃ Bx, w2.heap.size < Bx ∧ SideAt W Bx L x ∧ a' = { tmps := #[.slice A L.length c, .agg #[.int .i64 p.1, .int .i64 p.2], undef, .pointer (some ⟨w.heap.size, 0, none⟩), .pointer (some ⟨w.heap.size + 1, 0, none⟩), undef, .pointer (some ⟨Bx, 0, none⟩), .slice A L.length c, .bool true, .bool false, .bool false, .agg #[.int .i64 p.1, .int .i64 p.2], .bool true, .bool false, .bool false, .slice A L.length c, .func (.func 160) #[] #[.pointer (some ⟨w2.heap.size, 0, none⟩)], .int .i64 (x : Int), .agg #[.int .i64 (gt L x).1, .int .i64 (gt L x).2, .int .i64 (gt L (nx L x)).1, .int .i64 (gt L (nx L x)).2], undef, undef, undef, undef, undef, undef, undef, undef, undef], defers := [] })
    (fun x a' _ X Y row hs hg hr => by obtain ⟨Bx, e1, e2, e3⟩ := hs; exact ⟨Bx, e1, sideAt_own Bx L x _ () X Y row e2 hg hr, e3⟩)
    ?assign ?body ?done ?stop
  case assign =>
    rintro l pre x W K ⟨⟨⟨⟨hq1, bR4⟩, bN4⟩, bX4⟩, hB4⟩ hK
    simp only [sideV]
    gi_wp2
    have hs4 := hB4.size
    have hb := below1 W (.cells #[.int .i64 (gt L x).1, .int .i64 (gt L x).2, .int .i64 (gt L (nx L x)).1, .int .i64 (gt L (nx L x)).2] 77)
    exact hK _ _ (keepsFrom_below hb) (KeepP.of_below hb hs4 bN4.lt) ⟨⟨⟨⟨hq1, boxed_on bR4 hb⟩, boxed_on bN4 hb⟩, bX4.step hb⟩, hB4.trans (hb.mono hs4)⟩ ⟨W.heap.size, bN4.lt, sideAt_new W L x, rfl⟩
  case body =>
    rintro l pre x a' W hl - ⟨⟨⟨⟨hq1, bR4⟩, bN4⟩, bX4⟩, hB4⟩ ⟨Bx, hBx, sX, rfl⟩ hlt
    have hs4 := hB4.size
    have HO := Lib.hid (fun W => on_pt (gt L x) (gt L (nx L x)) p W)
    obtain ⟨x0, x1, x2, x3⟩ := sX.cells
    have c0 := bX4.c0; have c1 := bX4.c1
    cases hon : onQ (gt L x) (gt L (nx L x)) p
    · rw [hon] at HO
      have HN : Hid (∀ i ∈ pre ++ [x], onQ (gt L i) (gt L (nx L i)) p = false) := fun z hz => (List.mem_append.1 hz).elim (hq1 z) (fun e => by simp at e; subst e; exact hon)
      clear hon hq1
      gi_wp2
      refine ⟨trivial, ((wideR l).calls (HO.out _)).mono ?_⟩
      rintro e W5 ⟨rfl, hb5⟩
      gi_wp2
      exact ⟨keepsFrom_below (B := W0.heap.size) hb5, KeepP.of_below hb5 hs4 bN4.lt, ⟨⟨⟨HN.out, boxed_on bR4 hb5⟩, boxed_on bN4 hb5⟩, bX4.step hb5⟩, hB4.trans (hb5.mono hs4)⟩
    · rw [hon] at HO
      gi_wp2
      refine ⟨trivial, ((wideR l).calls (HO.out _)).mono ?_⟩
      rintro e W5 ⟨rfl, hb5⟩
      have hB5 := hB4.trans (hb5.mono hs4)
      have bR5 := boxed_on bR4 hb5
      have cR := bR5.cell
      have fR := bR5.frozen
      gi_wp2
      exact ⟨(keepsFrom_below hb5).trans ((KeepsOthers.setCell _ _ _).from _), ⟨⟨rfl, x, List.mem_append.2 (.inr (by simp)), hon⟩, bR5.set _⟩, hB5.setCell (p := ⟨w.heap.size + 1, 0, none⟩) (by simp) _⟩
  case done =>
    rintro D zs W hD rfl ⟨⟨⟨⟨hq1, bR4⟩, bN4⟩, bX4⟩, hB4⟩ hK
    have c0 := bX4.c0; have c1 := bX4.c1
    have HR := Lib.hid (around_sm A c L p W (ptsA_on hA hB4) (by omega) h10 (fun i => smP_ok (gt_ok hok i)) (smP_ok hq))
    have hv : insideB L p = aroundB L p := by
      rw [insideB, onRim_false (fun i hi => by rw [← onQ_ok (gt_ok hok i) (gt_ok hok (nx L i)) hq]; exact hq1 i (List.mem_range.2 hi)), Bool.false_or]; rfl
    generalize aroundB L p = fb at *
    gi_wp2
    refine ⟨trivial, (wide0.calls HR.out).mono ?_⟩
    rintro e W5 ⟨rfl, hb5⟩
    have hB5 := hB4.trans (hb5.mono hB4.size)
    have bR5 := boxed_on bR4 hb5
    have cR := bR5.cell
    have fR := bR5.frozen
    have hK5 := (hb5.block D (Array.getElem?_eq_some_iff.1 hK).1).trans hK
    gi_wp2
    have hK' := (KeepsOthers.setCell W5 ⟨w.heap.size + 1, 0, none⟩ (.bool fb)).same D _ hK5 rfl
    refine ⟨by simp, .inl ⟨_, _, rfl, run_takeDeferred hK', ?_⟩⟩
    have hc5 := cell_kept (bR5.set (.bool fb)).cell (grownBy_putObj' _ D (.deferred none)) (fun r e => by cases e; exact ⟨_, hK', rfl⟩)
    refine ⟨.bool fb, ?_, by rw [hv], (hB5.setCell (p := ⟨w.heap.size + 1, 0, none⟩) (by simp) _).trans (belowK_b (w := w) (Nat.le_refl _) _ D _ _ (by omega) hK' rfl rfl)⟩
    simp [results, Try.f58, go_sem, hc5]
  case stop =>
    rintro D co pre W hD ⟨k, hk, rfl⟩ ⟨⟨⟨rfl, j, hj, hjb⟩, bR1⟩, hB1⟩ hK
    gi_wp2
    refine ⟨by simp, .inl ⟨_, _, rfl, run_takeDeferred hK, ?_⟩⟩
    have hc5 := cell_kept bR1.cell (grownBy_putObj' _ D (.deferred none)) (fun r e => by cases e; exact ⟨_, hK, rfl⟩)
    refine ⟨.bool true, ?_, ?_, hB1.trans (belowK_b (w := w) (Nat.le_refl _) _ D _ _ (by omega) hK rfl rfl)⟩
    · simp [results, Try.f58, go_sem, hc5]
    · rw [onQ_ok (gt_ok hok j) (gt_ok hok (nx L j)) hq] at hjb
      rw [insideB, onRim_true (i := j) (by simp only [List.mem_range] at hj; omega) hjb]; rfl

theorem impl_inside (A : Option Addr) (c : Nat) (L : List (Int × Int)) (px py : Int) (w : World) (hA : PtsA w A L) (hL : L.length ≤ 1048576) :
    Calls Try.prog 58 #[.slice A L.length c, (.agg #[.int .i64 px, .int .i64 py])] w fun e w' => e = .returned (.bool (insideV L (px, py))) ∧ Below w.heap.size w w' := by
  cases hp : polyB L
  · have HV : Hid (insideV L (px, py) = false) := by
      show _ = _
      rw [insideV, hp]; rfl
    have PC := Lib.hid (fun (W : World) (hb : Below w.heap.size w W) => impl_poly A c L W (ptsA_on hA hb) hL)
    rw [hp] at PC
    have hB0 := below2 w (.cells #[.int .i64 px, .int .i64 py] 27) (.cells #[.bool false] 4)
    go_enter Try.func58, Try.ntmps58
    go_wp2_with fail
    refine (PC.out _ hB0).mono ?_
    rintro e w1 ⟨rfl, hb1⟩
    have bR1 := boxed_on (Boxed.new (w.alloc (.cells #[.int .i64 px, .int .i64 py] 27)) 4 (.bool false)) hb1
    simp only [size_alloc] at bR1
    have hB1 := hB0.trans (hb1.mono hB0.size)
    have cR := bR1.cell
    have fR := bR1.frozen
    clear hb1 hB0
    go_wp2_with fail
    have cR' := (bR1.set (.bool false)).cell
    refine bodyPost_ret (v := .bool false) (by simp [results, Try.results58, go_sem, cR']) rfl ⟨ret_bool HV.out.symm, hB1.setCell (p := ⟨w.heap.size + 1, 0, none⟩) (by simp) _⟩
  · cases hq : okP px py
    · have HV : Hid (insideV L (px, py) = false) := by
        show _ = _
        rw [insideV, hp, okQ_pair, hq]; rfl
      have PC := Lib.hid (fun (W : World) (hb : Below w.heap.size w W) => impl_poly A c L W (ptsA_on hA hb) hL)
      rw [hp] at PC
      have hB0 := below2 w (.cells #[.int .i64 px, .int .i64 py] 27) (.cells #[.bool false] 4)
      have bX := at_new w px py 27
      go_enter Try.func58, Try.ntmps58
      go_wp2_with fail
      refine (PC.out _ hB0).mono ?_
      rintro e w1 ⟨rfl, hb1⟩
      have bX1 := (bX.alloc (.cells #[.bool false] 4)).step hb1
      have bR1 := boxed_on (Boxed.new (w.alloc (.cells #[.int .i64 px, .int .i64 py] 27)) 4 (.bool false)) hb1
      simp only [size_alloc] at bR1
      have hB1 := hB0.trans (hb1.mono hB0.size)
      have c0 := bX1.c0; have c1 := bX1.c1
      clear hb1 hB0 bX
      go_wp2_with fail
      refine (impl_ok px py w1).mono ?_
      rintro e w2 ⟨rfl, hb2⟩
      rw [hq]
      have bR2 := boxed_on bR1 hb2
      have hB2 := hB1.trans (hb2.mono hB1.size)
      have cR := bR2.cell
      have fR := bR2.frozen
      clear hb2 hB1 bR1
      go_wp2_with fail
      have cR' := (bR2.set (.bool false)).cell
      refine bodyPost_ret (v := .bool false) (by simp [results, Try.results58, go_sem, cR']) rfl ⟨ret_bool HV.out.symm, hB2.setCell (p := ⟨w.heap.size + 1, 0, none⟩) (by simp) _⟩
    · have hv : insideV L (px, py) = insideB L (px, py) := by rw [insideV, hp, okQ_pair, hq]; rfl
      rw [hv]
      exact impl_inside_yes A c L (px, py) w hA hp hq
end Go.Proofs.Ytbmeemmihkedoaa

/-! Straight -/
namespace Go.Proofs.Ytbmeemmihkedoaa
open Go.RowKit Go.Shelf Go.Sort
attribute [local go_sem] Oper.semAt_some

theorem at_frozen {W : World} {g : Nat} {x y : Int} {t : TypeId} (h : At W g x y t) (o : Nat) : W.frozen? ⟨g, o, none⟩ = false := by simp [World.frozen?, show W.heap[g]? = _ from h]
theorem side_kept {W W' : World} {g B k : Nat} {L : List (Int × Int)} {i : Nat} {v : Value} {xs : List Value} (h : SideAt W g L i) (hg : W.grownBy W' v.ownBlock) (hr : W.ownsRow B 27 2 v k xs) : SideAt W' g L i := by
  refine (hg.block g h.lt ?_).trans h
  rcases hr.2 with ⟨rfl, _⟩ | ⟨g', cap, cur, rfl, _, hgb, _⟩
  · simp [Value.ownBlock]
  · intro e
    obtain rfl : g = g' := by simpa [Value.ownBlock] using e
    have := (show W.heap[g]? = _ from h).symm.trans hgb
    simp at this
theorem side_set {W : World} {b G : Nat} {L : List (Int × Int)} {i : Nat} (h : SideAt W G L i) (hne : G ≠ b) (o : Nat) (v : Value) : SideAt (W.setCell ⟨b, o, none⟩ v) G L i := (Below.heap_setCell W ⟨b, o, none⟩ v G hne).trans h
theorem hrow_other {W : World} {B b k : Nat} {e : TypeId} {size : Nat} {v : Value} {xs : List Value} (h : W.ownsRow B e size v k xs) (o : Nat) (hb : b < B) (u : Value) : (W.setCell ⟨b, o, none⟩ u).ownsRow B e size v k xs :=
  h.kept (only_set (World.grownBy.refl W (some b)) o u) (by
    cases hv : v.ownBlock with
    | none => exact .inl rfl
    | some q => exact .inr (fun e => by simp only [Option.some.injEq] at e; have := (h.lt q hv).1; omega))
theorem box_set {W : World} {B b : Nat} {t : TypeId} {v : Value} (h : Boxed W B t v) (o : Nat) (hne : B ≠ b) (u : Value) : Boxed (W.setCell ⟨b, o, none⟩ u) B t v := (Below.heap_setCell W ⟨b, o, none⟩ u B hne).trans h
theorem at_store {W : World} {g : Nat} {x y : Int} {t : TypeId} (h : At W g x y t) (a : Int) (o : Nat) (ho : o = 0 := by rfl) : At (W.setCell ⟨g, o, none⟩ (.int .i64 a)) g a y t := by
  subst ho
  obtain ⟨hlt, hk⟩ := Array.getElem?_eq_some_iff.1 h
  show (W.heap.modify g _)[g]? = _
  rw [Array.getElem?_eq_getElem (by rw [Array.size_modify]; exact hlt), Array.getElem_modify_self, hk]
  rfl
theorem at_store1 {W : World} {g : Nat} {x y : Int} {t : TypeId} (h : At W g x y t) (a : Int) : At (W.setCell ⟨g, 1, none⟩ (.int .i64 a)) g x a t := by
  obtain ⟨hlt, hk⟩ := Array.getElem?_eq_some_iff.1 h
  show (W.heap.modify g _)[g]? = _
  rw [Array.getElem?_eq_getElem (by rw [Array.size_modify]; exact hlt), Array.getElem_modify_self, hk]
  rfl
def stStep (L : List (Int × Int)) (s : Nat × List (Int × Int)) (i : Nat) : Nat × List (Int × Int) := (i, bif onQ (gt L s.1) (gt L (nx L i)) (gt L i) then s.2 else s.2 ++ [gt L i])
def stP (L : List (Int × Int)) (l : List Nat) : Nat × List (Int × Int) := l.foldl (stStep L) (L.length - 1, [])
theorem stP_snoc (L : List (Int × Int)) (l : List Nat) (x : Nat) : stP L (l ++ [x]) = stStep L (stP L l) x := by simp [stP]
theorem stP_len (L : List (Int × Int)) (l : List Nat) : (stP L l).2.length ≤ l.length := by
  have key : ∀ (l : List Nat) (s : Nat × List (Int × Int)), (l.foldl (stStep L) s).2.length ≤ s.2.length + l.length := by
    intro l
    induction l with
    | nil => intro s; simp
    | cons x l ih =>
      intro s
      have h1 := ih (stStep L s x)
      have h2 : (stStep L s x).2.length ≤ s.2.length + 1 := by
        unfold stStep
        cases onQ (gt L s.1) (gt L (nx L x)) (gt L x) <;> simp
      rw [List.foldl_cons, List.length_cons]
      omega
  have := key l (L.length - 1, [])
  simpa [stP] using this

set_option maxRecDepth 100000 in
set_option maxHeartbeats 8000000 in
theorem impl_straight_yes (A : Option Addr) (c : Nat) (L : List (Int × Int)) (w : World) (hA : PtsA w A L) (hp : polyB L = true) :
    Calls Try.prog 118 #[.slice A L.length c] w (Lists w (stP L (List.range L.length)).2) := by
  obtain ⟨i0, hi0, hz0, hz1, hz2⟩ := info_parts infoPt
  obtain ⟨h3, h10, hok⟩ := polyB_all hp
  obtain ⟨g, rfl, -⟩ := hA 0 (by omega)
  have HU : Hid (Lists w (stP L (List.range L.length)).2 = fun e w' => ∃ v, e = .returned v ∧ w'.ownsRow w.heap.size 27 2 v (stP L (List.range L.length)).2.length (flat (stP L (List.range L.length)).2) ∧ Below w.heap.size w w') := rfl
  refine (callsIn_wide (n := 6)).1 ?_
  refine callsIn_of_wp_marks Try.func118 rfl trivial ?_ rfl
  simp only [Try.ntmps118, List.size_toArray, List.length_cons, List.length_nil, Nat.reduceAdd, Nat.reduceSub, Array.replicate_succ, Array.replicate_zero, List.push_toArray, List.append_toArray, List.nil_append, List.cons_append]
  have PC := Lib.hid (impl_poly _ c L w hA (by omega))
  rw [hp] at PC
  gi_wp2
  refine ⟨trivial, (wide0.calls PC.out).mono ?_⟩
  rintro e w1 ⟨rfl, hb1⟩
  have hA1 := ptsA_on hA hb1
  obtain ⟨m, hm⟩ : ∃ m, m = L.length - 1 := ⟨_, rfl⟩
  obtain ⟨c0, c1⟩ := gt_cells hA1 (i := m) (by omega)
  have hm1 : (L.length : Int) - 1 = (m : Int) := by omega
  have HM := Lib.hid hm
  have hn1 := below1 w1 (.cells #[.slice none 0 0] 35)
  have d0 := cell_on hn1 rfl c0
  have d1 := cell_on hn1 rfl c1
  obtain ⟨bx, hbx⟩ : ∃ bx, bx = (gt L m).1 := ⟨_, rfl⟩
  obtain ⟨by', hby⟩ : ∃ by', by' = (gt L m).2 := ⟨_, rfl⟩
  have HBX := Lib.hid hbx
  have HBY := Lib.hid hby
  rw [← hbx] at d0
  rw [← hby] at d1
  have hm3 : (m : Int) < (L.length : Int) := by omega
  clear hm c0 c1 hn1 hbx hby
  gi_wp2
  refine ⟨trivial, (wide0.calls (sides_any _ L.length c _)).mono ?_⟩
  rintro e w3 ⟨rfl, rfl⟩
  gi_wp2
  have hs1 := hb1.size
  have bB := ((Boxed.new w1 35 (.slice none 0 0)).alloc (.cells #[.int .i64 bx, .int .i64 by'] 27)).alloc (.cells #[.slice (some ⟨g, 0, none⟩) L.length c] 35)
  have bF := (at_new (w1.alloc (.cells #[.slice none 0 0] 35)) bx by' 27).alloc (.cells #[.slice (some ⟨g, 0, none⟩) L.length c] 35)
  have bN := Boxed.new ((w1.alloc (.cells #[.slice none 0 0] 35)).alloc (.cells #[.int .i64 bx, .int .i64 by'] 27)) 35 (.slice (some ⟨g, 0, none⟩) L.length c)
  simp only [World.size_alloc] at bF bN
  have hB0 : Below w.heap.size w (((w1.alloc (.cells #[.slice none 0 0] 35)).alloc (.cells #[.int .i64 bx, .int .i64 by'] 27)).alloc (.cells #[.slice (some ⟨g, 0, none⟩) L.length c] 35)) := hb1.trans ((below3 w1 _ _ _).mono hs1)
  have hsz : (((w1.alloc (.cells #[.slice none 0 0] 35)).alloc (.cells #[.int .i64 bx, .int .i64 by'] 27)).alloc (.cells #[.slice (some ⟨g, 0, none⟩) L.length c] 35)).heap.size = w1.heap.size + 3 := by simp
  obtain ⟨W0, hW0⟩ : ∃ W0, ((w1.alloc (.cells #[.slice none 0 0] 35)).alloc (.cells #[.int .i64 bx, .int .i64 by'] 27)).alloc (.cells #[.slice (some ⟨g, 0, none⟩) L.length c] 35) = W0 := ⟨_, rfl⟩
  rw [hW0] at bB bF bN hB0 hsz ⊢
  have bF0 : At W0 (w1.heap.size + 1) (gt L (stP L []).1).1 (gt L (stP L []).1).2 27 := by
    have e1 : (stP L []).1 = m := HM.out.symm
    rw [e1, ← HBX.out, ← HBY.out]; exact bF
  clear hW0 bF
  refine wpIn_rangeFunc_ownH rfl (by decide) (gf := 160) (lb := #[.pointer (some ⟨w1.heap.size + 1 + 1, 0, none⟩)]) rfl trivial (enters_of Try.func160 (by kernel_rfl) rfl)
    (sides_stops 5 (w1.heap.size + 1 + 1) _ c L w W0 (by omega) (by omega) hA hB0 (by omega) bN.cell) keepP_t (keepP_b (by omega) (by omega)) (Below.refl _ _) (fun _ => rfl)
    (fun pre W => (((∃ v, Boxed W w1.heap.size 35 v ∧ W.ownsRow (w1.heap.size + 3) 27 2 v (stP L pre).2.length (flat (stP L pre).2) ∧ True) ∧ At W (w1.heap.size + 1) (gt L (stP L pre).1).1 (gt L (stP L pre).1).2 27) ∧ Boxed W (w1.heap.size + 1 + 1) 35 (.slice (some ⟨g, 0, none⟩) L.length c)) ∧ Below w.heap.size w W)
    (fun _ _ _ => False)
    (OwnFrom.and (OwnFrom.and (OwnFrom.and (Own.from (holdsRow_own (w1.heap.size + 3) w1.heap.size 35 27 2 (fun pre => (stP L pre).2.length) (fun pre => flat (stP L pre).2) (fun _ _ => True)) _) (fun s X Y row hs hg hr => at_own _ _ _ _ _ () X Y row hs hg hr)) (Own.from (boxed_own _ _ _) _)) (ownFrom_below (Nat.le_refl _) (by omega)))
    (fun _ => ownFrom_pure _ (fun _ => False))
    ⟨⟨⟨⟨_, bB, World.ownsRow_nil _ _ _ _, trivial⟩, bF0⟩, bN⟩, hB0⟩
    (fun x a' W => ∃ Bx, w1.heap.size + 1 + 1 < Bx ∧ SideAt W Bx L x ∧ a' = { tmps := #[.slice (some ⟨g, 0, none⟩) L.length c, undef, .slice none 0 0, .pointer (some ⟨w1.heap.size, 0, none⟩), .pointer (some ⟨w1.heap.size + 1, 0, none⟩), undef, .pointer (some ⟨Bx, 0, none⟩), .slice (some ⟨g, 0, none⟩) L.length c, .bool true, .bool false, .slice (some ⟨g, 0, none⟩) L.length c, .slice (some ⟨g, 0, none⟩) L.length c, .int .i64 (L.length : Int), .int .i64 (m : Int), .pointer (some ⟨g, m * 2, none⟩), .agg #[.int .i64 bx, .int .i64 by'], .slice (some ⟨g, 0, none⟩) L.length c, .func (.func 160) #[] #[.pointer (some ⟨w1.heap.size + 1 + 1, 0, none⟩)], .int .i64 (x : Int), .agg #[.int .i64 (gt L x).1, .int .i64 (gt L x).2, .int .i64 (gt L (nx L x)).1, .int .i64 (gt L (nx L x)).2], undef, undef, undef, undef, undef, undef, undef, undef, undef, undef, undef, undef, undef, undef, undef], defers := [] })
    (fun x a' _ X Y row hs hg hr => by obtain ⟨Bx, e1, e2, e3⟩ := hs; exact ⟨Bx, e1, sideAt_own Bx L x _ () X Y row e2 hg hr, e3⟩)
    ?assign ?body ?done ?stop
  case assign =>
    rintro l pre x W K ⟨⟨⟨⟨v, bB4, own4, -⟩, bF4⟩, bN4⟩, hB4⟩ hK
    simp only [sideV]
    gi_wp2
    have hs4 := hB4.size
    have hb := below1 W (.cells #[.int .i64 (gt L x).1, .int .i64 (gt L x).2, .int .i64 (gt L (nx L x)).1, .int .i64 (gt L (nx L x)).2] 77)
    exact hK _ _ (keepsFrom_below hb) (KeepP.of_below hb hs4 bN4.lt) ⟨⟨⟨⟨v, boxed_on bB4 hb, own_below own4 hb, trivial⟩, bF4.step hb⟩, boxed_on bN4 hb⟩, hB4.trans (hb.mono hs4)⟩ ⟨W.heap.size, bN4.lt, sideAt_new W L x, rfl⟩
  case body =>
    rintro l pre x a' W hl - ⟨⟨⟨⟨v, bB4, own4, -⟩, bF4⟩, bN4⟩, hB4⟩ ⟨Bx, hBx, sX, rfl⟩ hlt
    have hs4 := hB4.size
    have HO := Lib.hid (fun W => on_pt (gt L (stP L pre).1) (gt L (nx L x)) (gt L x) W)
    have HST := Lib.hid (stP_snoc L pre x)
    have hlen := stP_len L pre
    obtain ⟨x0, x1, x2, x3⟩ := sX.cells
    have c0 := bF4.c0; have c1 := bF4.c1
    obtain ⟨j, hj⟩ : ∃ j, j = (stP L pre).1 := ⟨_, rfl⟩
    obtain ⟨M, hM⟩ : ∃ M, M = (stP L pre).2 := ⟨_, rfl⟩
    have HSS : Hid (stP L (pre ++ [x]) = (x, bif onQ (gt L j) (gt L (nx L x)) (gt L x) then M else M ++ [gt L x])) := by
      show _ = _
      rw [HST.out, hj, hM]; rfl
    rw [← hj] at HO c0 c1 bF4
    rw [← hM] at own4 hlen
    clear hj hM HST
    gi_wp2
    refine ⟨trivial, ((wideR l).calls (HO.out _)).mono ?_⟩
    rintro e W5 ⟨rfl, hb5⟩
    have hB5 := hB4.trans (hb5.mono hs4)
    have bB5 := boxed_on bB4 hb5
    have bN5 := boxed_on bN4 hb5
    have bF5 := bF4.step hb5
    have sX5 := boxed_side sX hb5
    have own5 := own_below own4 hb5
    have hK5 := KeepP.of_below hb5 hs4 bN4.lt
    have hF5 := keepsFrom_below (B := W0.heap.size) hb5
    have hs5 := hB5.size
    clear hb5 hB4 bB4 bN4 bF4 sX x0 x1 x2 x3 c0 c1 HO own4 hs4
    obtain ⟨x0, x1, x2, x3⟩ := sX5.cells
    have c0 := bF5.c0; have c1 := bF5.c1
    have cB := bB5.cell
    have fB := bB5.frozen
    have f0 := at_frozen bF5 0
    have f1 := at_frozen bF5 1
    cases hon : onQ (gt L j) (gt L (nx L x)) (gt L x)
    · rw [hon] at HSS
      have hrw := fun k hk => (own5.lt k hk).1
      obtain ⟨px, hpx⟩ : ∃ px, px = (gt L x).1 := ⟨_, rfl⟩
      obtain ⟨py, hpy⟩ : ∃ py, py = (gt L x).2 := ⟨_, rfl⟩
      have HP : Hid (gt L x = (px, py)) := by
        show _ = _
        rw [hpx, hpy]
      simp only [← hpx, ← hpy] at x0 x1 ⊢
      clear hpx hpy
      have hl10 : M.length ≤ 9 := by omega
      have hs6 := hB5.size
      have hlt3 : w1.heap.size + 3 ≤ W5.heap.size := by have := sX5.lt; omega
      gi_wp2_with (gi_at_builtin; refine wpListIn_append_own _ rfl _ _ 35 rfl (w1.heap.size + 3) 27 i0 (.agg #[.int .i64 0, .int .i64 0]) 2 16 Try.underlying35 hi0 hz0 hz1 hz2 rfl (by decide) _ _ _ rfl (own5.alloc _) ⟨W5.heap.size, 0, none⟩ 1 1 [.int .i64 px, .int .i64 py] rfl rfl ?d1 ?d2 ?d3 ?d4 ?d5 ?_)
      case d1 => exact World.news_of_block (cs := #[.int .i64 px, .int .i64 py]) (t := 27) (fr := (0, 0)) (heap_alloc_new W5 _)
      case d2 => simp [Value.oneCell']
      case d3 => unfold maxLen; omega
      case d4 => omega
      case d5 => simp; omega
      intro v' w6 own6 hgrow _
      obtain ⟨g6, cp6, rfl⟩ := ownsRow_succ own6
      obtain ⟨hv1, hv2, hr2, hk2, hb2⟩ := bB5.appended (by decide) (own_base own5 (show w.heap.size ≤ w1.heap.size + 3 by omega)) hs6 hs1 (own_base own6 (show w.heap.size ≤ w1.heap.size + 3 by omega)) hgrow
      have hc6 := hv1.cell
      have hf6 := hv1.frozen
      have bF6 := (bF5.alloc (.cells #[.int .i64 px, .int .i64 py] 27)).grown hgrow (fun e => by have := hrw _ e.symm; omega)
      have bN6 := (bN5.alloc (.cells #[.int .i64 px, .int .i64 py] 27)).kept hgrow (fun e => by have := hrw _ e.symm; omega)
      have sX6 := side_kept (boxed_side sX5 (below1 W5 (.cells #[.int .i64 px, .int .i64 py] 27))) hgrow (own5.alloc _)
      have hv3 := hrow_other own6 0 (show w1.heap.size < w1.heap.size + 3 by omega) (.slice (some ⟨g6, 0, none⟩) (M.length + 1) cp6)
      have bF7 := at_set bF6 (b := w1.heap.size) (by omega) 0 (.slice (some ⟨g6, 0, none⟩) (M.length + 1) cp6)
      have bN7 := bN6.other (B' := w1.heap.size) (by omega) (.slice (some ⟨g6, 0, none⟩) (M.length + 1) cp6)
      have sX7 := side_set sX6 (b := w1.heap.size) (by omega) 0 (.slice (some ⟨g6, 0, none⟩) (M.length + 1) cp6)
      have hB7 := hB5.trans hb2
      have hlN : w1.heap.size + 1 + 1 ≠ w1.heap.size := by omega
      have hKB : w6.heap[w1.heap.size + 1 + 1]? = W5.heap[w1.heap.size + 1 + 1]? := ((hgrow.block _ (by simp; omega) (fun e => by have := hrw _ e.symm; omega))).trans (Below.heap_alloc _ _ _ (by omega))
      have hK7 : KeepP w.heap.size (w1.heap.size + 1 + 1) W (w6.setCell ⟨w1.heap.size, 0, none⟩ (.slice (some ⟨g6, 0, none⟩) (M.length + 1) cp6)) := keepP_t hK5 ⟨hb2, (Below.heap_setCell w6 ⟨w1.heap.size, 0, none⟩ _ _ hlN).trans hKB⟩
      have hF7 := hF5.trans (hk2.from W0.heap.size)
      have R := Lib.hid (And.intro hv2 (And.intro hv3 (And.intro bN7 (And.intro hB7 (And.intro hK7 hF7)))))
      clear x0 x1 x2 x3 c0 c1 f0 f1 hv2 hr2 hk2 hb2 hv3 bN7 hB7 hK7 hF7 hKB hgrow own6 own5 bF6 bN6 sX6 bF5 bN5 bB5 sX5 cB fB hK5 hF5 hB5 hv1
      obtain ⟨x0, x1, x2, x3⟩ := sX7.cells
      simp only [HP.out] at x0 x1
      have c0 := bF7.c0; have c1 := bF7.c1
      have f0 := at_frozen bF7 0
      have f1 := at_frozen bF7 1
      have c2 : ((w6.setCell ⟨w1.heap.size, 0, none⟩ (.slice (some ⟨g6, 0, none⟩) (M.length + 1) cp6)).setCell ⟨w1.heap.size + 1, 0, none⟩ (.int .i64 px)).cell? ⟨w1.heap.size + 1, 1, none⟩ = some (.int .i64 (gt L j).2) := (at_store bF7 px 0).c1
      clear sX7
      gi_wp2
      obtain ⟨r1, r2, r3, r4, r5, r6⟩ := R.out
      refine ⟨(r6.trans ((KeepsOthers.setCell _ _ _).from _)).trans ((KeepsOthers.setCell _ _ _).from _), (r5.setCell (by omega) (by omega) _ _).setCell (by omega) (by omega) _ _, ?_⟩
      simp only [HSS.out, cond_false, HP.out, List.length_append, List.length_cons, List.length_nil, flat_append]
      exact ⟨⟨⟨⟨_, box_set (box_set r1 0 (by omega) _) 1 (by omega) _, hrow_other (hrow_other r2 0 (by omega) _) 1 (by omega) _, trivial⟩, at_store1 (at_store bF7 px 0) py⟩, box_set (box_set r3 0 (by omega) _) 1 (by omega) _⟩, (r4.setCell (p := ⟨w1.heap.size + 1, 0, none⟩) (Nat.le_trans hs1 (Nat.le_succ _)) _).setCell (p := ⟨w1.heap.size + 1, 1, none⟩) (Nat.le_trans hs1 (Nat.le_succ _)) _⟩
    · rw [hon] at HSS
      obtain ⟨px, hpx⟩ : ∃ px, px = (gt L x).1 := ⟨_, rfl⟩
      obtain ⟨py, hpy⟩ : ∃ py, py = (gt L x).2 := ⟨_, rfl⟩
      have HP : Hid (gt L x = (px, py)) := by
        show _ = _
        rw [hpx, hpy]
      simp only [← hpx, ← hpy] at x0 x1 ⊢
      clear hpx hpy
      have c2 : (W5.setCell ⟨w1.heap.size + 1, 0, none⟩ (.int .i64 px)).cell? ⟨w1.heap.size + 1, 1, none⟩ = some (.int .i64 (gt L j).2) := (at_store bF5 px 0).c1
      have hs7 : w.heap.size ≤ w1.heap.size + 1 := Nat.le_trans hs1 (Nat.le_succ _)
      have R := Lib.hid (And.intro bB5 (And.intro own5 (And.intro bN5 (And.intro hB5 (And.intro hK5 hF5)))))
      clear bB5 own5 bN5 hB5 hK5 hF5
      gi_wp2
      obtain ⟨r1, r2, r3, r4, r5, r6⟩ := R.out
      refine ⟨(r6.trans ((KeepsOthers.setCell _ _ _).from _)).trans ((KeepsOthers.setCell _ _ _).from _), (r5.setCell hs7 (by omega) _ _).setCell hs7 (by omega) _ _, ?_⟩
      simp only [HSS.out, cond_true, HP.out]
      exact ⟨⟨⟨⟨_, box_set (box_set r1 0 (by omega) _) 1 (by omega) _, hrow_other (hrow_other r2 0 (by omega) _) 1 (by omega) _, trivial⟩, at_store1 (at_store bF5 px 0) py⟩, box_set (box_set r3 0 (by omega) _) 1 (by omega) _⟩, (r4.setCell (p := ⟨w1.heap.size + 1, 0, none⟩) hs7 _).setCell (p := ⟨w1.heap.size + 1, 1, none⟩) hs7 _⟩
  case done =>
    rintro D zs W hD rfl ⟨⟨⟨⟨v, bB4, own4, -⟩, bF4⟩, bN4⟩, hB4⟩ hK
    have cB := bB4.cell
    have hs9 := hB0.size
    gi_wp2
    refine ⟨by simp, .inl ⟨_, _, rfl, run_takeDeferred hK, ?_⟩⟩
    rw [HU.out]
    exact ⟨_, results_tmp rfl _ _ _, v, rfl, ownsRow_putObj (own_base own4 (show w.heap.size ≤ w1.heap.size + 3 by omega)) _ hK rfl, hB4.trans (belowK_b (w := w) (Nat.le_refl _) W D _ _ (by omega) hK rfl rfl)⟩
  case stop =>
    rintro D k pre W hD hpre h hK
    exact h.elim
end Go.Proofs.Ytbmeemmihkedoaa

/-! PtFacts -/
namespace Go.Proofs.Ytbmeemmihkedoaa
open Go.RowKit

theorem cross_flip (ax ay bx by' cx cy : Int) : crossI ax ay bx by' cx cy = -crossI bx by' ax ay cx cy := by
  unfold crossI
  simp only [Int.mul_sub, Int.mul_comm]
  omega
theorem cross_turn (ax ay bx by' cx cy : Int) : crossI ax ay bx by' cx cy = crossI bx by' cx cy ax ay := by
  unfold crossI
  simp only [Int.mul_sub, Int.mul_comm]
  omega
theorem cross_swap (ax ay bx by' cx cy : Int) : crossI ax ay bx by' cx cy = -crossI ax ay cx cy bx by' := by
  unfold crossI
  simp only [Int.mul_sub, Int.mul_comm]
  omega
theorem steps_flip (ax ay bx by' : Int) : stepsN bx by' ax ay = stepsN ax ay bx by' := by
  unfold stepsN
  have h1 : (ax - bx).natAbs = (bx - ax).natAbs := by omega
  have h2 : (ay - by').natAbs = (by' - ay).natAbs := by omega
  rw [h1, h2]
theorem steps_zero (ax ay bx by' : Int) : stepsN ax ay bx by' = 0 ↔ ax = bx ∧ ay = by' := by
  unfold stepsN
  rw [Nat.gcd_eq_zero_iff]
  omega
/-- The steps divide both differences. -/
theorem steps_div (ax ay bx by' : Int) : (stepsN ax ay bx by' : Int) * Int.tdiv (bx - ax) (stepsN ax ay bx by') = bx - ax ∧ (stepsN ax ay bx by' : Int) * Int.tdiv (by' - ay) (stepsN ax ay bx by') = by' - ay := by
  have h1 : (stepsN ax ay bx by' : Int) ∣ bx - ax := Int.ofNat_dvd_left.2 (Nat.gcd_dvd_left _ _)
  have h2 : (stepsN ax ay bx by' : Int) ∣ by' - ay := Int.ofNat_dvd_left.2 (Nat.gcd_dvd_right _ _)
  exact ⟨Int.mul_tdiv_cancel' h1, Int.mul_tdiv_cancel' h2⟩
/-- One step is no multiple. -/
theorem step_one {ax ay bx by' qx qy : Int} {n : Nat} (hn : 0 < n) (e : stepsN ax ay bx by' = n) (hx : (n : Int) * qx = bx - ax) (hy : (n : Int) * qy = by' - ay) : Nat.gcd qx.natAbs qy.natAbs = 1 := by
  have h : Nat.gcd (n * qx.natAbs) (n * qy.natAbs) = n := by
    have e1 : n * qx.natAbs = (bx - ax).natAbs := by rw [← hx, Int.natAbs_mul]; rfl
    have e2 : n * qy.natAbs = (by' - ay).natAbs := by rw [← hy, Int.natAbs_mul]; rfl
    rw [e1, e2]; exact e
  rw [Nat.gcd_mul_left] at h
  exact Nat.eq_of_mul_eq_mul_left hn (by omega)
/-- A point on the way lies on the line, and in the box. -/
theorem cross_way (ax ay qx qy : Int) (n i : Int) : crossI ax ay (ax + n * qx) (ay + n * qy) (ax + qx * i) (ay + qy * i) = 0 := by
  unfold crossI
  have e1 : ax + n * qx - ax = n * qx := by omega
  have e2 : ay + qy * i - ay = qy * i := by omega
  have e3 : ay + n * qy - ay = n * qy := by omega
  have e4 : ax + qx * i - ax = qx * i := by omega
  rw [e1, e2, e3, e4]
  have : n * qx * (qy * i) = n * qy * (qx * i) := by
    rw [Int.mul_assoc, Int.mul_assoc, ← Int.mul_assoc qx, ← Int.mul_assoc qy, Int.mul_comm qx qy]
  omega
theorem box_way (a q : Int) (n i : Nat) (h : i ≤ n) : min a (a + n * q) ≤ a + q * i ∧ a + q * i ≤ max a (a + n * q) := by
  have hi : (i : Int) ≤ n := by omega
  rcases Int.le_total 0 q with hq | hq
  · have h1 : 0 ≤ q * (i : Int) := Int.mul_nonneg hq (by omega)
    have h2 : q * (i : Int) ≤ q * n := Int.mul_le_mul_of_nonneg_left hi hq
    rw [Int.mul_comm q n] at h2
    generalize q * (i : Int) = u at *
    generalize (n : Int) * q = v at *
    omega
  · have h1 : q * (i : Int) ≤ 0 := Int.mul_nonpos_of_nonpos_of_nonneg hq (by omega)
    have h2 : q * (n : Int) ≤ q * i := Int.mul_le_mul_of_nonpos_left hq hi
    rw [Int.mul_comm q n] at h2
    generalize q * (i : Int) = u at *
    generalize (n : Int) * q = v at *
    omega
theorem square_zero (x y : Int) : x * x + y * y = 0 ↔ x = 0 ∧ y = 0 := by
  have h1 : 0 ≤ x * x := by rw [← Int.natAbs_mul_self (a := x)]; omega
  have h2 : 0 ≤ y * y := by rw [← Int.natAbs_mul_self (a := y)]; omega
  constructor
  · intro h
    have e1 : x * x = 0 := by omega
    have e2 : y * y = 0 := by omega
    exact ⟨(Int.mul_eq_zero.1 e1).elim id id, (Int.mul_eq_zero.1 e2).elim id id⟩
  · rintro ⟨rfl, rfl⟩; rfl
theorem sgn_minus (n : Int) : sgn (-n) = -sgn n := by
  rcases sgn_cases n with ⟨h, e⟩ | ⟨h, e⟩ | ⟨h, e⟩
  · rw [e, sgn_neg (by omega)]
  · rw [e, sgn_pos (by omega)]; rfl
  · rw [h]; rfl
theorem sgn_mul_neg (p q : Int) : sgn p * sgn q < 0 ↔ p * q < 0 := by
  rcases sgn_cases p with ⟨h, e⟩ | ⟨h, e⟩ | ⟨h, e⟩ <;> rcases sgn_cases q with ⟨h2, e2⟩ | ⟨h2, e2⟩ | ⟨h2, e2⟩ <;> rw [e, e2]
  · have := Int.mul_pos h h2; constructor <;> omega
  · have := Int.mul_neg_of_pos_of_neg h h2; constructor <;> omega
  · rw [h2]; simp
  · have := Int.mul_neg_of_neg_of_pos h h2; constructor <;> omega
  · have := Int.mul_pos_of_neg_of_neg h h2; constructor <;> omega
  · rw [h2]; simp
  · rw [h]; simp
  · rw [h]; simp
  · rw [h]; simp
/-- What meets depends on the shared ends as a set. -/
theorem same_set {M N : List (Int × Int)} (h : ∀ p, p ∈ M ↔ p ∈ N) : M.isEmpty = N.isEmpty ∧ sameAll M = sameAll N := by
  have key : ∀ M : List (Int × Int), sameAll M = true ↔ ∀ p ∈ M, ∀ q ∈ M, p = q := by
    intro M
    cases M with
    | nil => simp [sameAll]
    | cons x t =>
      simp only [sameAll, List.all_eq_true, Bool.and_eq_true, beq_iff_eq]
      constructor
      · intro h p hp q hq
        have e : ∀ r ∈ x :: t, r = x := fun r hr => by
          rcases List.mem_cons.1 hr with rfl | hr
          · rfl
          · exact Prod.ext (h r hr).1 (h r hr).2
        rw [e p hp, e q hq]
      · intro h y hy
        have := h y (List.mem_cons_of_mem _ hy) x (List.mem_cons_self)
        rw [this]; exact ⟨rfl, rfl⟩
  constructor
  · cases M with
    | nil =>
      cases N with
      | nil => rfl
      | cons y t => exact absurd ((h y).2 (List.mem_cons_self)) (by simp)
    | cons x t =>
      cases N with
      | nil => exact absurd ((h x).1 (List.mem_cons_self)) (by simp)
      | cons y u => rfl
  · have : sameAll M = true ↔ sameAll N = true := by
      rw [key, key]
      constructor
      · intro g p hp q hq; exact g p ((h p).2 hp) q ((h q).2 hq)
      · intro g p hp q hq; exact g p ((h p).1 hp) q ((h q).1 hq)
    cases h1 : sameAll M <;> cases h2 : sameAll N <;> simp_all
theorem meetI_of {a b c d a' b' c' d' : Int × Int} (ho : (opp a b c d && opp c d a b) = (opp a' b' c' d' && opp c' d' a' b')) (h : ∀ p, p ∈ sharedS a b c d ↔ p ∈ sharedS a' b' c' d') : meetI a b c d = meetI a' b' c' d' := by
  unfold meetI
  rw [ho, (same_set h).1, (same_set h).2]
theorem meetI_swap (a b c d : Int × Int) : meetI a b c d = meetI c d a b :=
  meetI_of (Bool.and_comm _ _) fun p => by
    unfold sharedS
    rw [List.mem_append, List.mem_append]
    exact Or.comm
theorem crossP_flip (a b p : Int × Int) : crossP b a p = -crossP a b p := by
  unfold crossP
  rw [cross_flip b.1]
theorem onP_flip (a b p : Int × Int) : onP b a p = onP a b p := by
  have hz : (crossI b.1 b.2 a.1 a.2 p.1 p.2 == 0) = (crossI a.1 a.2 b.1 b.2 p.1 p.2 == 0) := by
    rw [cross_flip b.1]
    cases h : (crossI a.1 a.2 b.1 b.2 p.1 p.2 == 0) <;> simp_all <;> omega
  unfold onP onI boxB
  rw [hz, Int.min_comm b.1, Int.max_comm b.1, Int.min_comm b.2, Int.max_comm b.2]
theorem opp_flip (a b c d : Int × Int) : opp b a d c = opp a b c d := by
  unfold opp
  rw [crossP_flip a b d, crossP_flip a b c, sgn_minus, sgn_minus, Int.neg_mul_neg, Int.mul_comm]
theorem meetI_flip (a b c d : Int × Int) : meetI b a d c = meetI a b c d :=
  meetI_of (by rw [opp_flip a b, opp_flip c d]) fun p => by
    simp only [sharedS, List.mem_append, List.mem_filter, List.mem_cons, List.not_mem_nil, or_false, onP_flip]
    constructor
    · rintro (⟨h1 | h1, h2⟩ | ⟨h1 | h1, h2⟩)
      · exact .inl ⟨.inr h1, h2⟩
      · exact .inl ⟨.inl h1, h2⟩
      · exact .inr ⟨.inr h1, h2⟩
      · exact .inr ⟨.inl h1, h2⟩
    · rintro (⟨h1 | h1, h2⟩ | ⟨h1 | h1, h2⟩)
      · exact .inl ⟨.inr h1, h2⟩
      · exact .inl ⟨.inl h1, h2⟩
      · exact .inr ⟨.inr h1, h2⟩
      · exact .inr ⟨.inl h1, h2⟩
theorem eqQ_comm (a b : Int × Int) : eqQ b a = eqQ a b := by
  unfold eqQ
  rw [Bool.beq_comm (a := b.1), Bool.beq_comm (a := b.2)]
theorem meetV_swap (a b c d : Int × Int) : meetV c d a b = meetV a b c d := by
  unfold meetV
  rw [meetI_swap a b c d]
  cases okQ a <;> cases okQ b <;> cases okQ c <;> cases okQ d <;> cases eqQ a b <;> cases eqQ c d <;> rfl
theorem meetV_flip (a b c d : Int × Int) : meetV b a d c = meetV a b c d := by
  unfold meetV
  rw [meetI_flip a b c d, eqQ_comm a b, eqQ_comm c d]
  cases okQ a <;> cases okQ b <;> cases okQ c <;> cases okQ d <;> cases eqQ a b <;> cases eqQ c d <;> rfl
theorem meetV_along {a b : Int × Int} (ha : okQ a = true) (hb : okQ b = true) (h : eqQ a b = false) : meetV a b b a = 3 := by
  have hn : ¬ a = b := fun e => by rw [e] at h; simp [eqQ] at h
  have h1 : opp a b b a = false := by
    have : crossP a b b = 0 := by simp [crossP, crossI, Int.mul_comm]
    simp [opp, this, sgn]
  have hS : sharedS a b b a = [a, b, b, a] := by
    simp [sharedS, on_left, on_right]
  have hs : sameAll [a, b, b, a] = false := by
    simp only [eqQ] at h
    simp only [sameAll, List.all_cons, List.all_nil]
    rw [Bool.beq_comm (a := b.1), Bool.beq_comm (a := b.2), h]; rfl
  unfold meetV meetI
  rw [ha, hb, h, eqQ_comm a b, h, h1, hS, hs]; rfl
/-- A crossing, by the four cross products. -/
theorem meetV_cross {a b c d : Int × Int} (ha : okQ a = true) (hb : okQ b = true) (hc : okQ c = true) (hd : okQ d = true) :
    (meetV a b c d == 2) = (decide (crossP a b c * crossP a b d < 0) && decide (crossP c d a * crossP c d b < 0)) := by
  have e1 : ∀ a b c d : Int × Int, opp a b c d = decide (crossP a b c * crossP a b d < 0) := fun a b c d => by
    unfold opp; simp only [sgn_mul_neg]
  rw [← e1, ← e1]
  have hz : ∀ a b c d : Int × Int, eqQ a b = true → opp a b c d = false := fun a b c d h => by
    simp only [eqQ, Bool.and_eq_true, beq_iff_eq] at h
    have : ∀ p, crossP a b p = 0 := fun p => by simp [crossP, crossI, h.1, h.2]
    simp [opp, this, sgn]
  unfold meetV
  rw [ha, hb, hc, hd]
  cases h1 : eqQ a b
  · cases h2 : eqQ c d
    · unfold meetI
      cases opp a b c d && opp c d a b <;> cases (sharedS a b c d).isEmpty <;> cases sameAll (sharedS a b c d) <;> rfl
    · rw [hz c d a b h2]; cases opp a b c d <;> rfl
  · rw [hz a b c d h1]; rfl
end Go.Proofs.Ytbmeemmihkedoaa

/-! Geo -/
namespace Go.Proofs.Ytbmeemmihkedoaa
open Go.RowKit

theorem mul_signs (x y : Int) : (0 < x → 0 < y → 0 < x * y) ∧ (x < 0 → y < 0 → 0 < x * y) ∧ (0 < x → y < 0 → x * y < 0) ∧ (x < 0 → 0 < y → x * y < 0) ∧ (x = 0 → x * y = 0) ∧ (y = 0 → x * y = 0) := by
  refine ⟨Int.mul_pos, Int.mul_pos_of_neg_of_neg, Int.mul_neg_of_pos_of_neg, Int.mul_neg_of_neg_of_pos, fun h => by rw [h, Int.zero_mul], fun h => by rw [h, Int.mul_zero]⟩
theorem prop_le {p q r s : Nat} (h : p * s = q * r) (hp : 0 < p) (hr : p ≤ r) : q ≤ s := by
  rcases Nat.lt_or_ge s q with h1 | h1
  · exfalso
    have h2 : p * s < p * q := Nat.mul_lt_mul_of_pos_left h1 hp
    have h3 : q * p ≤ q * r := Nat.mul_le_mul_left q hr
    rw [Nat.mul_comm q p] at h3
    omega
  · exact h1
theorem prop_ge {p q r s : Nat} (h : p * s = q * r) (hp : 0 < p) (hr : r ≤ p) : s ≤ q := by
  rcases Nat.lt_or_ge q s with h1 | h1
  · exfalso
    have h2 : p * q < p * s := Nat.mul_lt_mul_of_pos_left h1 hp
    have h3 : q * r ≤ q * p := Nat.mul_le_mul_left q hr
    rw [Nat.mul_comm q p] at h3
    omega
  · exact h1
theorem opp_x {ux uy vx vy : Int} (h : ux * vy = uy * vx) (hx : (0 < ux ∧ vx < 0) ∨ (ux < 0 ∧ 0 < vx)) :
    (0 < uy → vy < 0) ∧ (uy < 0 → 0 < vy) ∧ (uy = 0 → vy = 0) ∧ (ux.natAbs ≤ vx.natAbs → uy.natAbs ≤ vy.natAbs) ∧ (vx.natAbs ≤ ux.natAbs → vy.natAbs ≤ uy.natAbs) := by
  have hn : ux.natAbs * vy.natAbs = uy.natAbs * vx.natAbs := by rw [← Int.natAbs_mul, ← Int.natAbs_mul, h]
  have hp : 0 < ux.natAbs := by omega
  have m1 := mul_signs ux vy
  have m2 := mul_signs uy vx
  rw [h] at m1
  generalize uy * vx = z at *
  refine ⟨?_, ?_, ?_, prop_le hn hp, prop_ge hn hp⟩
  · intro hu
    rcases Int.lt_trichotomy vy 0 with hz | hz | hz
    · exact hz
    · exfalso
      rcases hx with hx | hx
      · have := m2.2.2.1 hu hx.2; have := m1.2.2.2.2.2 hz; omega
      · have := m2.1 hu hx.2; have := m1.2.2.2.2.2 hz; omega
    · exfalso
      rcases hx with hx | hx
      · have := m2.2.2.1 hu hx.2; have := m1.1 hx.1 hz; omega
      · have := m2.1 hu hx.2; have := m1.2.2.2.1 hx.1 hz; omega
  · intro hu
    rcases Int.lt_trichotomy vy 0 with hz | hz | hz
    · exfalso
      rcases hx with hx | hx
      · have := m2.2.1 hu hx.2; have := m1.2.2.1 hx.1 hz; omega
      · have := m2.2.2.2.1 hu hx.2; have := m1.2.1 hx.1 hz; omega
    · exfalso
      rcases hx with hx | hx
      · have := m2.2.1 hu hx.2; have := m1.2.2.2.2.2 hz; omega
      · have := m2.2.2.2.1 hu hx.2; have := m1.2.2.2.2.2 hz; omega
    · exact hz
  · intro hu
    have := m2.2.2.2.2.1 hu
    rcases Int.lt_trichotomy vy 0 with hz | hz | hz
    · exfalso
      rcases hx with hx | hx
      · have := m1.2.2.1 hx.1 hz; omega
      · have := m1.2.1 hx.1 hz; omega
    · exact hz
    · exfalso
      rcases hx with hx | hx
      · have := m1.1 hx.1 hz; omega
      · have := m1.2.2.2.1 hx.1 hz; omega
/-- x is between a and b. -/
def bt (a b x : Int) : Prop := (a ≤ x ∧ x ≤ b) ∨ (b ≤ x ∧ x ≤ a)
/-- Three points 0, u, u + v on a line: one is between the others. -/
theorem between3 {ux uy vx vy : Int} (h : ux * vy = uy * vx) :
    (bt 0 (ux + vx) ux ∧ bt 0 (uy + vy) uy) ∨ (bt ux (ux + vx) 0 ∧ bt uy (uy + vy) 0) ∨ (bt 0 ux (ux + vx) ∧ bt 0 uy (uy + vy)) := by
  unfold bt
  by_cases hx : (0 < ux ∧ vx < 0) ∨ (ux < 0 ∧ 0 < vx)
  · obtain ⟨k1, k2, k3, k4, k5⟩ := opp_x h hx
    right
    rcases Nat.le_total ux.natAbs vx.natAbs with hm | hm
    · have := k4 hm
      left
      constructor
      · omega
      · rcases Int.lt_trichotomy uy 0 with hu | hu | hu
        · have := k2 hu; omega
        · have := k3 hu; omega
        · have := k1 hu; omega
    · have := k5 hm
      right
      constructor
      · omega
      · rcases Int.lt_trichotomy uy 0 with hu | hu | hu
        · have := k2 hu; omega
        · have := k3 hu; omega
        · have := k1 hu; omega
  · by_cases hy : (0 < uy ∧ vy < 0) ∨ (uy < 0 ∧ 0 < vy)
    · obtain ⟨k1, k2, k3, k4, k5⟩ := opp_x h.symm hy
      right
      rcases Nat.le_total uy.natAbs vy.natAbs with hm | hm
      · have := k4 hm
        left
        constructor
        · rcases Int.lt_trichotomy ux 0 with hu | hu | hu
          · have := k2 hu; omega
          · have := k3 hu; omega
          · have := k1 hu; omega
        · omega
      · have := k5 hm
        right
        constructor
        · rcases Int.lt_trichotomy ux 0 with hu | hu | hu
          · have := k2 hu; omega
          · have := k3 hu; omega
          · have := k1 hu; omega
        · omega
    · left
      constructor <;> omega
theorem boxB_iff (ax ay bx by' px py : Int) : boxB ax ay bx by' px py = true ↔ bt ax bx px ∧ bt ay by' py := by
  unfold bt boxB
  simp only [Bool.and_eq_true, inB_spec]
  omega
theorem onP_iff (a b p : Int × Int) : onP a b p = true ↔ crossP a b p = 0 ∧ bt a.1 b.1 p.1 ∧ bt a.2 b.2 p.2 := by
  unfold onP onI crossP
  rw [Bool.and_eq_true, beq_iff_eq, boxB_iff]
/-- One of three points on a line is between the others. -/
theorem on_line {a b c : Int × Int} (h : crossP a b c = 0) : onP a c b = true ∨ onP b c a = true ∨ onP a b c = true := by
  have h' : (b.1 - a.1) * (c.2 - b.2) = (b.2 - a.2) * (c.1 - b.1) := by
    unfold crossP crossI at h
    have e1 : c.2 - a.2 = (b.2 - a.2) + (c.2 - b.2) := by omega
    have e2 : c.1 - a.1 = (b.1 - a.1) + (c.1 - b.1) := by omega
    rw [e1, e2, Int.mul_add, Int.mul_add, Int.mul_comm (b.2 - a.2) (b.1 - a.1)] at h
    omega
  have f1 : crossP a c b = 0 := by
    have := h
    unfold crossP at this ⊢
    rw [cross_swap] at this; omega
  have f2 : crossP b c a = 0 := by
    have := h
    unfold crossP at this ⊢
    rw [cross_turn] at this; exact this
  simp only [onP_iff]
  have := between3 h'
  unfold bt at *
  rcases this with h1 | h1 | h1
  · exact .inl ⟨f1, by omega, by omega⟩
  · exact .inr (.inl ⟨f2, by omega, by omega⟩)
  · exact .inr (.inr ⟨h, by omega, by omega⟩)
theorem eqQ_iff (p q : Int × Int) : eqQ p q = true ↔ p = q := by
  unfold eqQ
  rw [Bool.and_eq_true, beq_iff_eq, beq_iff_eq, Prod.ext_iff]
theorem sameAll_iff (x : Int × Int) (t : List (Int × Int)) : sameAll (x :: t) = true ↔ ∀ y ∈ x :: t, y = x := by
  simp only [sameAll, List.all_eq_true, Bool.and_eq_true, beq_iff_eq]
  constructor
  · intro h y hy
    rcases List.mem_cons.1 hy with rfl | hy
    · rfl
    · exact Prod.ext (h y hy).1 (h y hy).2
  · intro h y hy
    rw [h y (List.mem_cons_of_mem _ hy)]
    exact ⟨rfl, rfl⟩
theorem meet_one {a b c d : Int × Int} (h : meetI a b c d = 1) : ∀ p q, p ∈ sharedS a b c d → q ∈ sharedS a b c d → p = q := by
  unfold meetI at h
  cases h1 : (opp a b c d && opp c d a b)
  · rw [h1] at h
    cases hS : sharedS a b c d with
    | nil => intro p q hp; simp at hp
    | cons x t =>
      rw [hS] at h
      cases h2 : sameAll (x :: t)
      · rw [h2] at h; simp at h
      · have := (sameAll_iff x t).1 h2
        intro p q hp hq
        rw [this p hp, this q hq]
  · rw [h1] at h; simp at h
theorem mem_shared {a b c d p : Int × Int} : p ∈ sharedS a b c d ↔ ((p = a ∨ p = b) ∧ onP c d p = true) ∨ ((p = c ∨ p = d) ∧ onP a b p = true) := by
  simp [sharedS, List.mem_filter]
/-- Two sides that touch at their common corner: on a line only if the corner is between the others. -/
theorem touch_between {a b c : Int × Int} (hab : a ≠ b) (hbc : b ≠ c) (h : meetI a b b c = 1) (hc : crossP a b c = 0) : onP a c b = true := by
  have hb : b ∈ sharedS a b b c := mem_shared.2 (.inl ⟨.inr rfl, on_left b c⟩)
  rcases on_line hc with h1 | h1 | h1
  · exact h1
  · exact absurd (meet_one h a b (mem_shared.2 (.inl ⟨.inl rfl, h1⟩)) hb) hab
  · exact absurd (meet_one h b c hb (mem_shared.2 (.inr ⟨.inr rfl, h1⟩))) hbc

/-! ### A polygon's sides -/
theorem polyB_spec {L : List (Int × Int)} (h : polyB L = true) : (3 ≤ L.length ∧ L.length ≤ 10) ∧ allOk L = true ∧ (∀ i, i < L.length → gt L i ≠ gt L (nx L i)) ∧
    (∀ i k, i < k → k < L.length → pairM L i k = bif adjB L.length i k then 1 else 0) := by
  simp only [polyB, Bool.and_eq_true] at h
  obtain ⟨⟨⟨h1, h2⟩, h3⟩, h4⟩ := h
  have hn := inB_spec.1 h1
  refine ⟨by omega, h2, fun i hi he => ?_, fun i k hi hk => ?_⟩
  · have := List.all_eq_true.1 h3 i (List.mem_range.2 hi)
    rw [show eqQ (gt L i) (gt L ((i + 1) % L.length)) = true from (eqQ_iff _ _).2 he] at this
    simp at this
  · have h5 := List.all_eq_true.1 (List.all_eq_true.1 h4 i (List.mem_range.2 (by omega))) k (List.mem_range.2 hk)
    simp only [Bool.or_eq_true, decide_eq_true_eq] at h5
    rcases h5 with h5 | h5
    · omega
    · unfold pairOk at h5
      cases ha : adjB L.length i k
      · rw [ha] at h5; simpa using h5
      · rw [ha] at h5; simpa using h5
theorem nx_lt {L : List (Int × Int)} (h : 0 < L.length) (i : Nat) : nx L i < L.length := Nat.mod_lt _ h
theorem pv_lt {L : List (Int × Int)} (h : 0 < L.length) (i : Nat) : pv L i < L.length := Nat.mod_lt _ h
theorem nx_eq {L : List (Int × Int)} {i : Nat} (hi : i < L.length) : nx L i = if i + 1 = L.length then 0 else i + 1 := by
  unfold nx
  by_cases h : i + 1 = L.length
  · rw [if_pos h, h, Nat.mod_self]
  · rw [if_neg h, Nat.mod_eq_of_lt (by omega)]
theorem pv_eq {L : List (Int × Int)} {i : Nat} (hi : i < L.length) : pv L i = if i = 0 then L.length - 1 else i - 1 := by
  unfold pv
  by_cases h : i = 0
  · rw [if_pos h, h, Nat.zero_add, Nat.mod_eq_of_lt (by omega)]
  · rw [if_neg h, show i + L.length - 1 = (i - 1) + L.length by omega, Nat.add_mod_right, Nat.mod_eq_of_lt (by omega)]
theorem nx_pv {L : List (Int × Int)} {i : Nat} (hi : i < L.length) : nx L (pv L i) = i := by
  rw [nx_eq (pv_lt (by omega) i), pv_eq hi]
  by_cases h : i = 0
  · rw [if_pos h]; rw [if_pos (by omega)]; omega
  · rw [if_neg h]; rw [if_neg (by omega)]; omega
/-- The side to a corner and the side from it touch. -/
theorem meet_next {L : List (Int × Int)} (h : polyB L = true) {i : Nat} (hi : i < L.length) : meetI (gt L (pv L i)) (gt L i) (gt L i) (gt L (nx L i)) = 1 := by
  obtain ⟨hn, _, _, hp⟩ := polyB_spec h
  by_cases h0 : i = 0
  · subst h0
    have h1 := hp 0 (L.length - 1) (by omega) (by omega)
    have e : adjB L.length 0 (L.length - 1) = true := by simp [adjB]
    rw [e] at h1
    have h2 : nx L (L.length - 1) = 0 := by rw [nx_eq (by omega), if_pos (by omega)]
    have h3 : pv L 0 = L.length - 1 := by rw [pv_eq hi, if_pos rfl]
    rw [h3, meetI_swap]
    unfold pairM at h1
    rw [show (L.length - 1 + 1) % L.length = nx L (L.length - 1) from rfl, h2] at h1
    exact h1
  · have h1 := hp (i - 1) i (by omega) hi
    have e : adjB L.length (i - 1) i = true := by simp [adjB]; omega
    rw [e] at h1
    have h3 : pv L i = i - 1 := by rw [pv_eq hi, if_neg h0]
    rw [h3]
    unfold pairM at h1
    rw [show (i - 1 + 1) % L.length = nx L (i - 1) from rfl, nx_eq (by omega), if_neg (by omega), show i - 1 + 1 = i by omega] at h1
    exact h1
theorem on_bent {L : List (Int × Int)} (h : polyB L = true) {i : Nat} (hi : i < L.length) : onQ (gt L (pv L i)) (gt L (nx L i)) (gt L i) = !(bentB L i) := by
  obtain ⟨hn, hok, hne, _⟩ := polyB_spec h
  rw [onQ_ok (gt_ok hok _) (gt_ok hok _) (gt_ok hok _), bentB, Bool.not_not]
  have h1 := hne (pv L i) (pv_lt (by omega) i)
  rw [nx_pv hi] at h1
  rw [Bool.eq_iff_iff, beq_iff_eq]
  constructor
  · intro h2
    have := ((onP_iff _ _ _).1 h2).1
    unfold crossP at this ⊢
    rw [cross_swap, this]; rfl
  · exact touch_between h1 (hne i hi) (meet_next h hi)
theorem stP_range {L : List (Int × Int)} (h : polyB L = true) : ∀ k, k ≤ L.length → stP L (List.range k) = (if k = 0 then L.length - 1 else k - 1, straightTill L k) := by
  intro k
  induction k with
  | zero => intro _; rfl
  | succ k ih =>
    intro hk
    rw [List.range_succ, stP_snoc, ih (by omega)]
    unfold stStep
    have e : (if k = 0 then L.length - 1 else k - 1) = pv L k := (pv_eq (by omega)).symm
    simp only [e, on_bent h (show k < L.length by omega)]
    rw [if_neg (by omega), show k + 1 - 1 = k by omega, straightTill]
    cases bentB L k <;> rfl
theorem stP_straight {L : List (Int × Int)} (h : polyB L = true) : (stP L (List.range L.length)).2 = straightL L := by
  rw [stP_range h _ (Nat.le_refl _)]; rfl

theorem impl_straight (A : Option Addr) (c : Nat) (L : List (Int × Int)) (w : World) (hA : PtsA w A L) (hL : L.length ≤ 1048576) :
    Calls Try.prog 118 #[.slice A L.length c] w (Lists w (straightV L)) := by
  cases hp : polyB L
  · have HU : Hid (Lists w (straightV L) = fun e w' => ∃ v, e = .returned v ∧ w'.ownsRow w.heap.size 27 2 v 0 [] ∧ Below w.heap.size w w') := by
      show _ = _
      unfold straightV
      rw [hp]; rfl
    have PC := Lib.hid (impl_poly A c L w hA hL)
    rw [hp] at PC
    go_enter Try.func118, Try.ntmps118
    go_wp2_with fail
    refine PC.out.mono ?_
    rintro e w1 ⟨rfl, hb1⟩
    go_wp2_with fail
    go_ret
    rw [HU.out]
    exact ⟨_, rfl, World.ownsRow_nil _ _ _ _, hb1⟩
  · have := impl_straight_yes A c L w hA hp
    rw [stP_straight hp] at this
    unfold straightV
    rw [hp]
    exact this
end Go.Proofs.Ytbmeemmihkedoaa

/-! Clone -/
namespace Go.Proofs.Ytbmeemmihkedoaa
open Go.RowKit

theorem ptsA_news {w : World} {g : Nat} {L : List (Int × Int)} (h : PtsA w (some ⟨g, 0, none⟩) L) (k : Nat) : ∀ j u, (flat (L.drop k))[j]? = some u → w.cell? (Addr.add ⟨g, k * 2, none⟩ j) = some u := by
  intro j u hu
  have hj : j < (flat (L.drop k)).length := by
    rcases Nat.lt_or_ge j (flat (L.drop k)).length with h1 | h1
    · exact h1
    · rw [List.getElem?_eq_none h1] at hu; cases hu
  rw [flat_len, List.length_drop] at hj
  have hq : k + j / 2 < L.length := by omega
  obtain ⟨g', hg', h1, h2⟩ := h (k + j / 2) hq
  cases hg'
  have hf := flat_at (L.drop k) (j / 2) (by rw [List.length_drop]; omega)
  have hadd : Addr.add ⟨g, k * 2, none⟩ j = ⟨g, k * 2 + j, none⟩ := by
    unfold Addr.add
    split
    · rename_i h0; subst h0; rfl
    · rfl
  rw [hadd]
  have hd : (L.drop k)[j / 2]'(by rw [List.length_drop]; omega) = L[k + j / 2] := List.getElem_drop ..
  rw [hd] at hf
  rcases Nat.mod_two_eq_zero_or_one j with hm | hm
  · have e : j = j / 2 * 2 := by omega
    have e2 : k * 2 + j = (k + j / 2) * 2 := by omega
    rw [e2, h1, ← hu]
    rw [show (flat (L.drop k))[j]? = (flat (L.drop k))[j / 2 * 2]? from by rw [← e]]
    exact hf.1.symm
  · have e : j = j / 2 * 2 + 1 := by omega
    have e2 : k * 2 + j = (k + j / 2) * 2 + 1 := by omega
    rw [e2, h2, ← hu]
    rw [show (flat (L.drop k))[j]? = (flat (L.drop k))[j / 2 * 2 + 1]? from by rw [← e]]
    exact hf.2.symm
theorem flat_one (L : List (Int × Int)) : ∀ u ∈ flat L, u.oneCell' = true := by
  intro u hu
  simp only [flat, List.mem_flatMap, List.mem_cons, List.not_mem_nil, or_false] at hu
  obtain ⟨p, -, h | h⟩ := hu <;> subst h <;> rfl

set_option maxRecDepth 100000 in
set_option maxHeartbeats 1000000 in
theorem clone_any (A : Option Addr) (c : Nat) (L : List (Int × Int)) (w : World) (hA : PtsA w A L) (h1 : 1 ≤ L.length) (h2 : L.length ≤ 1048576) :
    Calls Try.prog 181 #[.slice A L.length c] w (Lists w L) := by
  obtain ⟨i0, hi0, hz0, hz1, hz2⟩ := info_parts infoPt
  obtain ⟨g, rfl, -⟩ := hA 0 h1
  have HU : Hid (Lists w L = fun e w' => ∃ v, e = .returned v ∧ w'.ownsRow w.heap.size 27 2 v L.length (flat L) ∧ Below w.heap.size w w') := rfl
  have hn := Lib.run_eql_slice_nil (P := Try.prog)
  have own0 := World.ownsRow_lit (base := w.heap.size) (e := 27) (size := 2) w #[] 0 (Nat.le_refl _) (by unfold maxLen; omega) (by rfl)
  have hb0 := below1 w (.cells #[] 27)
  have hA1 := ptsA_on hA hb0
  go_enter Try.func181, Try.ntmps181
  have HN := Lib.hid (ptsA_news hA1 0)
  rw [List.drop_zero, Nat.zero_mul] at HN
  clear hA hA1
  go_wp2_with (at_builtin; refine wpList_append_own _ rfl _ _ 35 rfl w.heap.size 27 i0 (.agg #[.int .i64 0, .int .i64 0]) 2 16 Try.underlying35 hi0 hz0 hz1 hz2 rfl (by decide) _ _ _ rfl own0 ⟨g, 0, none⟩ L.length c (flat L) rfl (flat_len L) HN.out (flat_one L) ?d3 ?d4 (by simp) ?_)
  case d3 => unfold maxLen; omega
  case d4 => omega
  intro v' w6 own6 hgrow _
  have R : Hid (w6.ownsRow w.heap.size 27 2 v' L.length (flat L) ∧ Below w.heap.size w w6) :=
    ⟨by simpa using own6, hb0.grown hgrow (by simp) (fun k hk => (own0.lt k hk).1)⟩
  clear own0 own6 hgrow hb0
  go_wp2_with fail
  go_ret
  rw [HU.out]
  exact ⟨_, rfl, R.out.1, R.out.2⟩

/-! ### slices.Reverse behind the first element -/
/-- After k rounds. -/
def revAt (M : List (Int × Int)) (k t : Nat) : Int × Int := if 1 ≤ t ∧ (t ≤ k ∨ M.length - k ≤ t) then gt M (M.length - t) else gt M t
def revK (M : List (Int × Int)) (k : Nat) : List (Int × Int) := (List.range M.length).map (revAt M k)
theorem revK_len (M : List (Int × Int)) (k : Nat) : (revK M k).length = M.length := by simp [revK]
theorem revK_zero (M : List (Int × Int)) : revK M 0 = M := by
  apply List.ext_getElem (by simp [revK])
  intro t h1 h2
  simp only [revK, List.getElem_map, List.getElem_range, revAt]
  rw [if_neg (by omega), gt_at h2]
theorem revK_all (M : List (Int × Int)) {k : Nat} (h : M.length ≤ 2 * k + 2) (h0 : 1 ≤ M.length) : revK M k = turnL M := by
  apply List.ext_getElem (by simp [revK, turnL, turnTill]; omega)
  intro t h1 h2
  have ht : t < M.length := by simpa [revK] using h1
  simp only [revK, List.getElem_map, List.getElem_range, revAt]
  cases t with
  | zero => rw [if_neg (by omega)]; rfl
  | succ t =>
    have e : (turnL M)[t + 1]'h2 = gt M (M.length - 1 - t) := by simp [turnL, turnTill]
    rw [e]
    by_cases hc : t + 1 ≤ k ∨ M.length - k ≤ t + 1
    · rw [if_pos ⟨by omega, hc⟩]; congr 1; omega
    · rw [if_neg (by omega)]; congr 1; omega
theorem gt_revK (M : List (Int × Int)) (k t : Nat) (ht : t < M.length) : gt (revK M k) t = revAt M k t := by
  rw [gt_at (by rw [revK_len]; exact ht)]
  simp [revK]
theorem revK_step (M : List (Int × Int)) (k : Nat) (h : 2 * k + 2 < M.length) :
    revK M (k + 1) = ((revK M k).set (1 + k) (gt (revK M k) (M.length - 1 - k))).set (M.length - 1 - k) (gt (revK M k) (1 + k)) := by
  rw [gt_revK _ _ _ (by omega), gt_revK _ _ _ (by omega)]
  apply List.ext_getElem (by simp [revK])
  intro t h1 h2
  have ht : t < M.length := by simpa [revK] using h1
  rw [List.getElem_set, List.getElem_set]
  simp only [revK, List.getElem_map, List.getElem_range, revAt]
  by_cases e1 : M.length - 1 - k = t
  · rw [if_pos e1, if_pos (by omega), if_neg (by omega)]; congr 1; omega
  · rw [if_neg e1]
    by_cases e2 : 1 + k = t
    · rw [if_pos e2, if_pos (by omega), if_neg (by omega)]; congr 1; omega
    · rw [if_neg e2]
      by_cases hc : 1 ≤ t ∧ (t ≤ k ∨ M.length - k ≤ t)
      · rw [if_pos (by omega), if_pos hc]
      · rw [if_neg (by omega), if_neg hc]
theorem flat_set1 (M : List (Int × Int)) : ∀ i (p : Int × Int), i < M.length → flat (M.set i p) = ((flat M).set (i * 2) (.int .i64 p.1)).set (i * 2 + 1) (.int .i64 p.2) := by
  induction M with
  | nil => intro i p h; simp at h
  | cons q M ih =>
    intro i p h
    have e : ∀ (r : Int × Int) (N : List (Int × Int)), flat (r :: N) = .int .i64 r.1 :: .int .i64 r.2 :: flat N := fun _ _ => rfl
    cases i with
    | zero => rw [List.set_cons_zero, e, e]; rfl
    | succ i =>
      rw [List.set_cons_succ, e, e, ih i p (by simpa using h)]
      have h1 : (i + 1) * 2 = i * 2 + 1 + 1 := by omega
      have h2 : (i + 1) * 2 + 1 = i * 2 + 1 + 1 + 1 := by omega
      rw [h2, h1]
      simp

theorem pts_own {w : World} {B g n cap : Nat} {L : List (Int × Int)} (h : w.ownsRow B 27 2 (.slice (some ⟨g, 0, none⟩) n cap) n (flat L)) (hn : L.length = n) : ∀ k, k < n → w.cell? ⟨g, k * 2, none⟩ = some (.int .i64 (gt L k).1) ∧ w.cell? ⟨g, k * 2 + 1, none⟩ = some (.int .i64 (gt L k).2) := by
  intro k hk
  have hk' : k < L.length := by omega
  rw [h.cellAt (k * 2) (by omega), h.cellAt (k * 2 + 1) (by omega), gt_at hk']
  exact flat_at L k hk'

theorem grown_drew {w w' : World} {r : Option Nat} (h : w.grownBy w' r) : w.grownBy w'.drew r := ⟨h.os, h.tape, h.output, h.size, h.block⟩
set_option maxRecDepth 100000 in
set_option maxHeartbeats 4000000 in
theorem rev_any (B g cap : Nat) (M : List (Int × Int)) (w : World) (hown : w.ownsRow B 27 2 (.slice (some ⟨g, 0, none⟩) M.length cap) M.length (flat M)) (h1 : 2 ≤ M.length) (h2 : M.length ≤ 1048576) :
    Calls Try.prog 114 #[.slice (some ⟨g, 2, none⟩) (M.length - 1) (cap - 1)] w fun e w' => (∃ v, e = .returned v) ∧ w'.ownsRow B 27 2 (.slice (some ⟨g, 0, none⟩) M.length cap) M.length (flat (turnL M)) ∧ w.grownBy w' (some g) := by
  obtain ⟨n, hn⟩ : ∃ n, n = M.length := ⟨_, rfl⟩
  have HN := Lib.hid hn
  rw [← hn] at hown h1 h2 ⊢
  clear hn
  have f1 : ((n - 1 : Nat) : Int) - 1 = ((n - 2 : Nat) : Int) := by omega
  go_enter Try.func114, Try.ntmps114
  go_wp2_with fail
  go_loopw [2, 3] (fun i j wr => ∃ k q : Nat, i = .int .i64 k ∧ j = .int .i64 q ∧ Hid (k + q + 2 = n ∧ k ≤ q + 1) ∧ wr.ownsRow B 27 2 (.slice (some ⟨g, 0, none⟩) n cap) n (flat (revK M k)) ∧ w.grownBy wr (some g)) (fun i j _ => n - (intOf i).toNat)
  case atStart => exact ⟨0, n - 2, rfl, rfl, ⟨by omega, by omega⟩, by rw [revK_zero]; exact hown, World.grownBy.refl _ _⟩
  case round =>
    obtain ⟨k, q, rfl, rfl, HK, own, hgr⟩ := hrel
    have hk1 := HK.out.1
    by_cases hlt : k < q
    · obtain ⟨x, hx⟩ : ∃ x, x = (gt (revK M k) (1 + k)).1 := ⟨_, rfl⟩
      obtain ⟨y, hy⟩ : ∃ y, y = (gt (revK M k) (1 + k)).2 := ⟨_, rfl⟩
      obtain ⟨x', hx'⟩ : ∃ x', x' = (gt (revK M k) (1 + q)).1 := ⟨_, rfl⟩
      obtain ⟨y', hy'⟩ : ∃ y', y' = (gt (revK M k) (1 + q)).2 := ⟨_, rfl⟩
      have hP := pts_own own (by rw [revK_len]; exact HN.out.symm)
      have p1 := hP (1 + k) (by omega)
      have p2 := hP (1 + q) (by omega)
      rw [← hx, ← hy] at p1
      rw [← hx', ← hy'] at p2
      have e1 : (1 + k) * 2 = 2 + k * 2 := by omega
      have e2 : (1 + q) * 2 = 2 + q * 2 := by omega
      rw [e1] at p1
      rw [e2] at p2
      obtain ⟨c1, c2⟩ := p1
      obtain ⟨c3, c4⟩ := p2
      have f2 := own.frozenAt (2 + k * 2)
      have f3 := own.frozenAt (2 + k * 2 + 1)
      have f4 := own.frozenAt (2 + q * 2)
      have f5 := own.frozenAt (2 + q * 2 + 1)
      have hk2 : (k : Int) < ((n - 1 : Nat) : Int) := by omega
      have hq2 : (q : Int) < ((n - 1 : Nat) : Int) := by omega
      have hml : (revK M k).length = n := by rw [revK_len]; exact HN.out.symm
      have own4 := ((((own.stored (2 + k * 2) (.int .i64 x')).1.stored (2 + k * 2 + 1) (.int .i64 y')).1.stored (2 + q * 2) (.int .i64 x)).1.stored (2 + q * 2 + 1) (.int .i64 y)).1
      have hq1 : M.length - 1 - k = 1 + q := by have := HN.out; omega
      have hstep : revK M (k + 1) = ((revK M k).set (1 + k) (x', y')).set (1 + q) (x, y) := by
        rw [revK_step M k (by have := HN.out; omega), hq1, hx, hy, hx', hy']
      have hflat : ((((flat (revK M k)).set (2 + k * 2) (.int .i64 x')).set (2 + k * 2 + 1) (.int .i64 y')).set (2 + q * 2) (.int .i64 x)).set (2 + q * 2 + 1) (.int .i64 y) = flat (revK M (k + 1)) := by
        rw [hstep, flat_set1 _ _ _ (by rw [List.length_set]; omega), flat_set1 _ _ _ (by omega), e1, e2]
      rw [hflat] at own4
      have hgr4 := only_set (only_set (only_set (only_set hgr (2 + k * 2) (.int .i64 x')) (2 + k * 2 + 1) (.int .i64 y')) (2 + q * 2) (.int .i64 x)) (2 + q * 2 + 1) (.int .i64 y)
      have R := Lib.hid (And.intro own4 hgr4)
      clear own own4 hgr hgr4 hP e1 e2 hx hy hx' hy' hk1 hown hflat hstep hq1 hml
      have hq0 : (0 : Int) ≤ (q : Int) - 1 := by omega
      have g1 : (q : Int) - 1 = ((q - 1 : Nat) : Int) := by omega
      go_wp2_with fail
      go_region
      go_wp2_with fail
      go_roundw
      case rel => exact ⟨k + 1, q - 1, by go_num, by first | rfl | go_num | exact congrArg _ g1, ⟨by have := HK.out.1; omega, by omega⟩, own_drew R.out.1, grown_drew R.out.2⟩
      case measure => simp [intOf]; omega
    · have e : revK M k = turnL M := revK_all M (by have := HN.out; have := HK.out; omega) (by have := HN.out; omega)
      rw [e] at own
      have R := Lib.hid (And.intro own hgr)
      clear own hgr hown hk1 e
      go_wp2_with fail
      go_end0
      exact ⟨⟨_, rfl⟩, R.out.1, R.out.2⟩

theorem own_cap {w : World} {B g n cap : Nat} {e : TypeId} {size : Nat} {xs : List Value} (h : w.ownsRow B e size (.slice (some ⟨g, 0, none⟩) n cap) n xs) : n ≤ cap := by
  rcases h.2 with ⟨h1, _⟩ | ⟨g', cap', cur, hv, hB, hg, h3⟩
  · cases h1
  · simp only [Value.slice.injEq] at hv
    obtain ⟨-, -, rfl⟩ := hv
    exact h3.1

set_option maxRecDepth 100000 in
set_option maxHeartbeats 2000000 in
theorem impl_turn (A : Option Addr) (c : Nat) (L : List (Int × Int)) (w : World) (hA : PtsA w A L) (hL : L.length ≤ 1048576) :
    Calls Try.prog 140 #[.slice A L.length c] w (Lists w (turnV L)) := by
  cases hp : polyB L
  · have HU : Hid (Lists w (turnV L) = fun e w' => ∃ v, e = .returned v ∧ w'.ownsRow w.heap.size 27 2 v 0 [] ∧ Below w.heap.size w w') := by
      show _ = _
      unfold turnV
      rw [hp]; rfl
    have PC := Lib.hid (impl_poly A c L w hA hL)
    rw [hp] at PC
    go_enter Try.func140, Try.ntmps140
    go_wp2_with fail
    refine PC.out.mono ?_
    rintro e w1 ⟨rfl, hb1⟩
    go_wp2_with fail
    go_ret
    rw [HU.out]
    exact ⟨_, rfl, World.ownsRow_nil _ _ _ _, hb1⟩
  · obtain ⟨h3, h10, hok⟩ := polyB_all hp
    have hlen : (turnL L).length = L.length := by simp [turnL, turnTill]; omega
    have HU : Hid (Lists w (turnV L) = fun e w' => ∃ v, e = .returned v ∧ w'.ownsRow w.heap.size 27 2 v L.length (flat (turnL L)) ∧ Below w.heap.size w w') := by
      show _ = _
      unfold turnV
      rw [hp, ← hlen]; rfl
    have PC := Lib.hid (impl_poly A c L w hA hL)
    rw [hp] at PC
    have HC := Lib.hid (fun (W : World) (hb : Below w.heap.size w W) => clone_any A c L W (ptsA_on hA hb) (by omega) hL)
    unfold Lists at HC
    clear hA hlen
    go_enter Try.func140, Try.ntmps140
    go_wp2_with fail
    refine PC.out.mono ?_
    rintro e w1 ⟨rfl, hb1⟩
    go_wp2_with fail
    refine (HC.out _ hb1).mono ?_
    rintro e w2 ⟨v, rfl, own, hb2⟩
    have hb12 := hb1.trans (hb2.mono hb1.size)
    replace own := own_base own hb1.size
    have hv : ∃ g cap, v = .slice (some ⟨g, 0, none⟩) L.length cap := by
      rcases own.2 with ⟨_, h0⟩ | ⟨g, cap, _, rfl, _⟩
      · omega
      · exact ⟨g, cap, rfl⟩
    obtain ⟨g, cap, rfl⟩ := hv
    have hcap := own_cap own
    have hgl := (own.lt g rfl).1
    have HR := Lib.hid (rev_any w.heap.size g cap L w2 own (by omega) hL)
    have hc1 : ¬ cap = 1 := by omega
    have hc2 : ¬ 1 = cap := by omega
    have hl1 : (1 : Int) ≤ (L.length : Int) := by omega
    have hl2 : 1 ≤ L.length := by omega
    clear hb1 hb2 own
    go_wp2_with fail
    refine HR.out.mono ?_
    rintro e w3 ⟨⟨u, rfl⟩, own3, hg3⟩
    have hb3 := hb12.grown hg3 hb12.size (fun k e => by cases e; exact hgl)
    have R := Lib.hid own3
    clear own3 hg3 hb12
    go_wp2_with fail
    go_ret
    rw [HU.out]
    exact ⟨_, rfl, R.out, hb3⟩
end Go.Proofs.Ytbmeemmihkedoaa

/-! CmpPt -/
namespace Go.Proofs.Ytbmeemmihkedoaa
open Go.RowKit

def befP (a b : Int × Int) : Bool := beforeB a.1 a.2 b.1 b.2
def cmpI (a b : Int × Int) : Int := bif befP a b then -1 else bif befP b a then 1 else 0
theorem befP_iff (a b : Int × Int) : befP a b = true ↔ a.2 < b.2 ∨ (a.2 = b.2 ∧ a.1 < b.1) := by
  simp [befP, beforeB]
theorem befP_no (a b : Int × Int) : befP a b = false ↔ ¬ (a.2 < b.2 ∨ (a.2 = b.2 ∧ a.1 < b.1)) := by
  rw [← befP_iff, Bool.not_eq_true]
theorem bef_grow (ax ay bx by' : Int) (w : World) :
    Calls Try.prog 59 #[(.agg #[.int .i64 ax, .int .i64 ay]), (.agg #[.int .i64 bx, .int .i64 by'])] w fun e w' => e = .returned (.bool (beforeB ax ay bx by')) ∧ ∃ os, w' = Go.Sort.grow w os := by
  cases h1 : decide (ay < by')
  · cases h2 : (ay == by')
    · go_enter Try.func59, Try.ntmps59
      go_wp2_with fail
      go_ret
      exact ⟨ret_bool (by simp only [beforeB, h1, h2]; rfl), _, by rw [Go.Sort.alloc_eq_grow, Go.Sort.alloc_eq_grow, Go.Sort.grow_grow]⟩
    · go_enter Try.func59, Try.ntmps59
      go_wp2_with fail
      go_ret
      exact ⟨ret_bool (by simp only [beforeB, h1, h2, Bool.false_or, Bool.true_and]), _, by rw [Go.Sort.alloc_eq_grow, Go.Sort.alloc_eq_grow, Go.Sort.grow_grow]⟩
  · go_enter Try.func59, Try.ntmps59
    go_wp2_with fail
    go_ret
    exact ⟨ret_bool (by simp only [beforeB, h1]; rfl), _, by rw [Go.Sort.alloc_eq_grow, Go.Sort.alloc_eq_grow, Go.Sort.grow_grow]⟩
theorem below_grow (w : World) (os : Array Obj) : Below w.heap.size w (Go.Sort.grow w os) := below_regrown w w.drawn os
theorem two_grow (w : World) (o p : Obj) (os : Array Obj) : Go.Sort.grow ((w.alloc o).alloc p) os = Go.Sort.grow w (#[o] ++ #[p] ++ os) := by
  rw [Go.Sort.alloc_eq_grow, Go.Sort.alloc_eq_grow, Go.Sort.grow_grow, Go.Sort.grow_grow, Array.append_assoc]
theorem cmp_any (ax ay bx by' : Int) (w : World) :
    Calls Try.prog 138 #[(.agg #[.int .i64 ax, .int .i64 ay]), (.agg #[.int .i64 bx, .int .i64 by'])] w fun e w' => e = .returned (.int .i64 (cmpI (ax, ay) (bx, by'))) ∧ ∃ os, w' = Go.Sort.grow w os := by
  have hb0 := two_grow w (.cells #[.int .i64 ax, .int .i64 ay] 27) (.cells #[.int .i64 bx, .int .i64 by'] 27)
  have t0 := two0 w ax ay bx by' 27
  have c1 := t0.1.c0; have c2 := t0.1.c1; have c3 := t0.2.c0; have c4 := t0.2.c1
  have HV : Hid (cmpI (ax, ay) (bx, by') = bif beforeB ax ay bx by' then -1 else bif beforeB bx by' ax ay then 1 else 0) := rfl
  have HT := Lib.hid t0
  have HG := Lib.hid hb0
  clear hb0 t0
  cases h1 : beforeB ax ay bx by'
  · have H1 := Lib.hid (fun w => bef_grow ax ay bx by' w)
    rw [h1] at H1 HV
    go_enter Try.func138, Try.ntmps138
    go_wp2_with fail
    refine (H1.out _).mono ?_
    rintro e w1 ⟨rfl, os1, rfl⟩
    have t1 := HT.out.step (below_grow _ os1)
    have d1 := t1.1.c0; have d2 := t1.1.c1; have d3 := t1.2.c0; have d4 := t1.2.c1
    rw [HG.out] at d1 d2 d3 d4 ⊢
    clear c1 c2 c3 c4 t1
    generalize #[Obj.cells #[.int .i64 ax, .int .i64 ay] 27] ++ #[Obj.cells #[.int .i64 bx, .int .i64 by'] 27] ++ os1 = os2 at *
    obtain ⟨w2, hw2⟩ : ∃ w2, w2 = Go.Sort.grow w os2 := ⟨_, rfl⟩
    have HW := Lib.hid hw2
    rw [← hw2] at d1 d2 d3 d4 ⊢
    clear hw2
    cases h2 : beforeB bx by' ax ay
    all_goals (
      have H2 := Lib.hid (fun w => bef_grow bx by' ax ay w)
      rw [h2] at H2 HV
      go_wp2_with fail
      refine (H2.out _).mono ?_
      rintro e w3 ⟨rfl, os3, rfl⟩
      have HW3 : Hid (Go.Sort.grow w2 os3 = Go.Sort.grow w (os2 ++ os3)) := by
        show _ = _
        rw [HW.out, Go.Sort.grow_grow]
      rw [HW3.out]
      clear d1 d2 d3 d4
      generalize os2 ++ os3 = os4 at *
      go_wp2_with fail
      go_ret
      exact ⟨ret_int HV.out.symm, _, rfl⟩)
  · have H1 := Lib.hid (fun w => bef_grow ax ay bx by' w)
    rw [h1] at H1 HV
    go_enter Try.func138, Try.ntmps138
    go_wp2_with fail
    refine (H1.out _).mono ?_
    rintro e w1 ⟨rfl, os1, rfl⟩
    rw [HG.out]
    clear c1 c2 c3 c4
    generalize #[Obj.cells #[.int .i64 ax, .int .i64 ay] 27] ++ #[Obj.cells #[.int .i64 bx, .int .i64 by'] 27] ++ os1 = os2 at *
    go_wp2_with fail
    go_ret
    exact ⟨ret_int HV.out.symm, _, rfl⟩
end Go.Proofs.Ytbmeemmihkedoaa

/-! Head -/
namespace Go.Proofs.Ytbmeemmihkedoaa
open Go.RowKit

theorem before_down (ax ay bx by' : Int) : beforeB bx by' ax ay = down (bx - ax) (by' - ay) := by
  unfold beforeB down
  rw [Bool.eq_iff_iff]
  simp only [Bool.or_eq_true, Bool.and_eq_true, decide_eq_true_eq, beq_iff_eq]
  omega
theorem impl_bef (ax ay bx by' : Int) (w : World) :
    Calls Try.prog 59 #[(.agg #[.int .i64 ax, .int .i64 ay]), (.agg #[.int .i64 bx, .int .i64 by'])] w fun e w' => e = .returned (.bool (beforeB ax ay bx by')) ∧ Below w.heap.size w w' :=
  (bef_grow ax ay bx by' w).mono (by rintro e w' ⟨rfl, os, rfl⟩; exact ⟨rfl, below_grow _ _⟩)
/-- A boxed side. -/
def SideB (W : World) (g : Nat) (ax ay bx by' : Int) : Prop := W.heap[g]? = some (.cells #[.int .i64 ax, .int .i64 ay, .int .i64 bx, .int .i64 by'] 77 (0, 0))
theorem SideB.lt {W : World} {g : Nat} {ax ay bx by' : Int} (h : SideB W g ax ay bx by') : g < W.heap.size := (Array.getElem?_eq_some_iff.1 h).1
theorem SideB.step {W W' : World} {g : Nat} {ax ay bx by' : Int} (h : SideB W g ax ay bx by') (hb : Below W.heap.size W W') : SideB W' g ax ay bx by' := (hb.block g h.lt).trans h
theorem sideB_new (W : World) (ax ay bx by' : Int) (o : Obj) : SideB ((W.alloc (.cells #[.int .i64 ax, .int .i64 ay, .int .i64 bx, .int .i64 by'] 77)).alloc o) W.heap.size ax ay bx by' :=
  (Below.heap_alloc _ o W.heap.size (by simp)).trans (heap_alloc_new W _)
theorem SideB.cells {W : World} {g : Nat} {ax ay bx by' : Int} (h : SideB W g ax ay bx by') :
    W.cell? ⟨g, 0, none⟩ = some (.int .i64 ax) ∧ W.cell? ⟨g, 1, none⟩ = some (.int .i64 ay) ∧ W.cell? ⟨g, 2, none⟩ = some (.int .i64 bx) ∧ W.cell? ⟨g, 3, none⟩ = some (.int .i64 by') :=
  ⟨cell_of_row W g 0 _ _ _ h, cell_of_row W g 1 _ _ _ h, cell_of_row W g 2 _ _ _ h, cell_of_row W g 3 _ _ _ h⟩
def headV (dx dy : Int) : Value := .tuple #[(.agg #[.int .i64 (dirP dx dy).1, .int .i64 (dirP dx dy).2]), .int .i64 (stp dx dy)]
set_option maxRecDepth 100000 in
set_option maxHeartbeats 2000000 in
theorem head_any (ax ay bx by' : Int) (w : World) (ha : okP ax ay = true) (hb : okP bx by' = true) (hne : ¬ (bx - ax = 0 ∧ by' - ay = 0)) :
    Calls Try.prog 73 #[.agg #[.int .i64 ax, .int .i64 ay, .int .i64 bx, .int .i64 by']] w fun e w' => e = .returned (headV (bx - ax) (by' - ay)) ∧ Below w.heap.size w w' := by
  have h1 := okP_bounds ha; have h2 := okP_bounds hb
  have hn := stp_ne hne
  have hab := stp_abs (bx - ax) (by' - ay)
  have hle : gN (bx - ax) (by' - ay) ≤ 40 := gN_le (by omega) (by omega)
  obtain ⟨hd1, hd2⟩ := dir_small hne (m := 40) (by omega) (by omega)
  have HS := fun W => impl_steps ax ay bx by' W
  have e0 : stepsV ax ay bx by' = (gN (bx - ax) (by' - ay) : Int) := by rw [stepsV, ha, hb]; rfl
  rw [e0] at HS
  have HB := fun W => impl_bef bx by' ax ay W
  rw [before_down] at HB
  have HM := fun W => minus_any bx by' ax ay W
  rw [wrap_id (x := bx - ax) (by omega), wrap_id (x := by' - ay) (by omega)] at HM
  have HV : Hid (headV (bx - ax) (by' - ay) = .tuple #[(.agg #[.int .i64 ((bx - ax).tdiv (stp (bx - ax) (by' - ay))), .int .i64 ((by' - ay).tdiv (stp (bx - ax) (by' - ay)))]), .int .i64 (stp (bx - ax) (by' - ay))]) := rfl
  have hdd : dirP (bx - ax) (by' - ay) = ((bx - ax).tdiv (stp (bx - ax) (by' - ay)), (by' - ay).tdiv (stp (bx - ax) (by' - ay))) := rfl
  have hsd : stp (bx - ax) (by' - ay) = bif down (bx - ax) (by' - ay) then -(gN (bx - ax) (by' - ay) : Int) else (gN (bx - ax) (by' - ay) : Int) := rfl
  rw [hdd] at hd1 hd2
  clear hdd
  generalize stp (bx - ax) (by' - ay) = s at *
  generalize gN (bx - ax) (by' - ay) = g at *
  generalize down (bx - ax) (by' - ay) = d at *
  generalize bx - ax = dx at *
  generalize by' - ay = dy at *
  obtain ⟨q1, hq1⟩ : ∃ q, q = dx.tdiv s := ⟨_, rfl⟩
  obtain ⟨q2, hq2⟩ : ∃ q, q = dy.tdiv s := ⟨_, rfl⟩
  simp only [← hq1, ← hq2] at hd1 hd2 HV
  have HS := Lib.hid HS; have HB := Lib.hid HB; have HM := Lib.hid HM
  have n1 : wrap64 q1 = q1 := wrap_id (by omega)
  have n2 : wrap64 q2 = q2 := wrap_id (by omega)
  have n3 : wrap64 (-(g : Int)) = -(g : Int) := wrap_id (by omega)
  have hG : 0 ≤ (g : Int) := by omega
  clear hab hle e0
  generalize (g : Int) = g at *
  have hb0 := below2 w (.cells #[.int .i64 ax, .int .i64 ay, .int .i64 bx, .int .i64 by'] 77) (.cells #[.int .i64 0, .int .i64 0] 27)
  go_enter Try.func73, Try.ntmps73
  go_wp2_with fail
  refine (HS.out _).mono ?_
  rintro e w3 ⟨rfl, hb3⟩
  have t3 := (sideB_new w ax ay bx by' (.cells #[.int .i64 0, .int .i64 0] 27)).step hb3
  have r3 := (at_new (w.alloc (.cells #[.int .i64 ax, .int .i64 ay, .int .i64 bx, .int .i64 by'] 77)) 0 0 27).step hb3
  have b3 := below_on hb0 hb3
  simp only [World.size_alloc] at r3
  clear hb3 hb0
  obtain ⟨c0, c1, c2, c3⟩ := t3.cells
  go_wp2_with fail
  refine (HB.out _).mono ?_
  rintro e w4 ⟨rfl, hb4⟩
  have t4 := t3.step hb4
  have r4 := r3.step hb4
  have b4 := below_on b3 hb4
  clear hb4 b3 r3 t3 c0 c1 c2 c3
  obtain ⟨c0, c1, c2, c3⟩ := t4.cells
  have RS : ∀ (W : World), At W (w.heap.size + 1) 0 0 27 → Below w.heap.size w W → At ((W.setCell ⟨w.heap.size + 1, 0, none⟩ (.int .i64 q1)).setCell ⟨w.heap.size + 1, 1, none⟩ (.int .i64 q2)) (w.heap.size + 1) q1 q2 27 ∧ Below w.heap.size w (((W.setCell ⟨w.heap.size + 1, 0, none⟩ (.int .i64 q1)).setCell ⟨w.heap.size + 1, 1, none⟩ (.int .i64 q2)).drew) := fun W hr hb =>
    ⟨at_st1 (at_st0 hr q1 0) q2, ((hb.setCell (p := ⟨w.heap.size + 1, 0, none⟩) (Nat.le_succ _) _).setCell (p := ⟨w.heap.size + 1, 1, none⟩) (Nat.le_succ _) _).drew⟩
  have RS := Lib.hid RS
  have hs0 : s ≠ 0 := hn
  have e3 : IntKind.i64.wrap q1 = q1 := IntWalk.i64_in _ (by omega)
  have e4 : IntKind.i64.wrap q2 = q2 := IntWalk.i64_in _ (by omega)
  cases d
  all_goals simp only [cond_true, cond_false] at hsd
  case' false => subst hsd
  case' true => have n4 := n3.trans hsd.symm; clear n3 hsd
  all_goals
    go_wp2_with fail
    refine (HM.out _).mono ?_
    rintro e w5 ⟨rfl, hb5⟩
    have r6 := (r4.step hb5).alloc (.cells #[.int .i64 dx, .int .i64 dy] 27)
    have b5 := (below_on b4 hb5).alloc (Nat.le_trans b4.size hb5.size) (.cells #[.int .i64 dx, .int .i64 dy] 27)
    have a5 := at_new w5 dx dy 27
    clear hb5 b4 r4 t4 c0 c1 c2 c3
    go_wp2_with fail
    have d1 := a5.c0; have d2 := a5.c1
    have d3 := r6.c0; have d4 := r6.c1
    have d5 := at_froz r6 0; have d6 := at_froz r6 1
    obtain ⟨R1, R2⟩ := RS.out _ r6 b5
    have g1 := R1.c0; have g2 := R1.c1
    have f1 : wrap64 (_ : Int) = q1 := (congrArg wrap64 hq1.symm).trans n1
    have f2 : wrap64 (_ : Int) = q2 := (congrArg wrap64 hq2.symm).trans n2
    have f3 : IntKind.i64.wrap (_ : Int) = q1 := (congrArg IntKind.i64.wrap hq1.symm).trans e3
    have f4 : IntKind.i64.wrap (_ : Int) = q2 := (congrArg IntKind.i64.wrap hq2.symm).trans e4
    have R2 := Lib.hid R2
    clear hq1 hq2 n1 n2 e3 e4 R1 RS r6 b5 a5
    go_region
    go_wp2_with fail
    refine bodyPost_ret (v := .tuple #[.agg #[.int .i64 q1, .int .i64 q2], .int .i64 _]) (by simp [results, Try.results73, go_sem, g1, g2]; first | done | rfl) rfl ⟨by rw [HV.out], R2.out⟩
end Go.Proofs.Ytbmeemmihkedoaa

/-! Key -/
namespace Go.Proofs.Ytbmeemmihkedoaa
open Go.RowKit
open Go.Maps (Keyed)

/-- What a key reads as. -/
def kl (a b : Int) : Lit := .string (keyBytes [.int .i64 a, .int .i64 b])
def wf64 (a : Int) : Prop := (Lit.int .i64 a).wf = true
/-- A struct of two ints, as the program's table has it. -/
structure TwoInts (P : Program) (k i : TypeId) : Prop where
  row : ∃ f0 f1 : Field, P.underlying k = some (.struct #[f0, f1]) ∧ f0.type = i ∧ f1.type = i ∧ f0.offset = 0 ∧ f1.offset = 1 ∧ (f0.name != "_") = true ∧ (f1.name != "_") = true
  key : P.keyType k = true
  two : P.cellsOf k = 2
  one : P.cellsOf i = 1
  int : P.underlying i = some (.int .i64)
  size : ∃ n, P.types.size + 1 = n + 2
theorem lits_of {P : Program} {k i : TypeId} (T : TwoInts P k i) (n : Nat) (x y : Value) : P.keyLits (n + 2) k [x, y] = ((P.keyLits (n + 1) i [x]).bind fun l => (P.keyLits (n + 1) i [y]).map fun m => [l, m]).map List.flatten := by
  obtain ⟨f0, f1, hu, h0, h1, o0, o1, n0, n1⟩ := T.row
  have ht := T.two
  have ho := T.one
  obtain ⟨X, hX⟩ : ∃ X, P.keyLits (n + 1) i [x] = X := ⟨_, rfl⟩
  obtain ⟨Y, hY⟩ : ∃ Y, P.keyLits (n + 1) i [y] = Y := ⟨_, rfl⟩
  rw [hX, hY]
  conv => lhs; unfold Program.keyLits
  rw [hu]
  simp only [ht]
  simp [n0, n1, h0, h1, o0, o1, ho, List.mapM_cons, List.mapM_nil, hX, hY]
  cases X <;> cases Y <;> rfl
theorem lit_int {P : Program} {k i : TypeId} (T : TwoInts P k i) (n : Nat) {a : Int} (ha : wf64 a) : P.keyLits (n + 1) i [.int .i64 a] = some [.int .i64 a] := by
  unfold wf64 at ha
  unfold Program.keyLits
  rw [T.int]
  simp [ha]
theorem lit_int_inv {P : Program} {k i : TypeId} (T : TwoInts P k i) (n : Nat) {v : Value} {l : List Lit} (h : P.keyLits (n + 1) i [v] = some l) : ∃ a, v = .int .i64 a ∧ l = [.int .i64 a] ∧ wf64 a := by
  unfold Program.keyLits at h
  rw [T.int] at h
  cases v <;> simp at h
  obtain ⟨⟨rfl, hw⟩, rfl⟩ := h
  exact ⟨_, rfl, rfl, hw⟩
theorem key_of {P : Program} {k i : TypeId} (T : TwoInts P k i) {a b : Int} (ha : wf64 a) (hb : wf64 b) : keyOf P k (.agg #[.int .i64 a, .int .i64 b]) = some (kl a b) := by
  obtain ⟨n, hn⟩ := T.size
  obtain ⟨f0, f1, hu, -⟩ := T.row
  have hf : (Value.agg #[.int .i64 a, .int .i64 b]).formed P k = true := by simp [Value.formed, hu, T.two]
  unfold keyOf
  rw [hu]
  simp only [T.key, hf, Bool.and_self, if_true, hn]
  show ((P.keyLits (n + 2) k [.int .i64 a, .int .i64 b]).map fun ls => Lit.string (keyBytes ls)) = _
  rw [lits_of T, lit_int T n ha, lit_int T n hb]
  rfl
theorem key_inv {P : Program} {k i : TypeId} (T : TwoInts P k i) {v : Value} {l : Lit} (h : keyOf P k v = some l) : ∃ a b, v = (.agg #[.int .i64 a, .int .i64 b]) ∧ l = kl a b ∧ wf64 a ∧ wf64 b := by
  obtain ⟨n, hn⟩ := T.size
  obtain ⟨f0, f1, hu, -⟩ := T.row
  unfold keyOf at h
  rw [hu] at h
  simp only [T.key, Bool.true_and, hn] at h
  split at h
  case isFalse => cases h
  case isTrue hf =>
    cases v <;> simp [Value.formed, hu, T.two] at hf
    rename_i cs
    obtain ⟨x, y, rfl⟩ : ∃ x y, cs = #[x, y] := by
      rcases cs with ⟨_ | ⟨x, _ | ⟨y, _ | ⟨z, r⟩⟩⟩⟩ <;> simp at hf ⊢
    have e : (Value.agg #[x, y]).cells.toList = [x, y] := rfl
    rw [e, lits_of T] at h
    cases h1 : P.keyLits (n + 1) i [x] with
    | none => rw [h1] at h; cases h
    | some l1 =>
      cases h2 : P.keyLits (n + 1) i [y] with
      | none => rw [h1, h2] at h; cases h
      | some l2 =>
        obtain ⟨a, rfl, rfl, wa⟩ := lit_int_inv T n h1
        obtain ⟨b, rfl, rfl, wb⟩ := lit_int_inv T n h2
        rw [h1, h2] at h
        simp at h
        exact ⟨a, b, rfl, h.symm, wa, wb⟩
theorem pr_laidOut : laidOutB Try.prog = true := by kernel_rfl
theorem pr_row : (139 : TypeId) < Try.prog.types.size := of_decide_eq_true (by kernel_rfl)
theorem pr_at : Try.prog.keyTypeAt 2 139 = true := by kernel_rfl
theorem pr_law : WideMaps.KeyLaw Try.prog 139 := deep_law_laid (m := 2) pr_laidOut (by omega) pr_row pr_at (by rw [Try.underlying139])
theorem pr_keyed : Keyed Try.prog 139 := Keyed.of_law pr_law
theorem pr_is : Try.prog.keyType 139 = true := by kernel_rfl
theorem pr_cells : Try.prog.cellsOf 139 = 2 := by kernel_rfl
theorem pr_cellI : Try.prog.cellsOf 3 = 1 := by kernel_rfl
theorem pr_size : ∃ n, Try.prog.types.size + 1 = n + 2 := ⟨Try.prog.types.size - 1, by have h : 0 < Try.prog.types.size := Nat.lt_of_le_of_lt (Nat.zero_le _) pr_row; omega⟩
theorem pr_two : TwoInts Try.prog 139 3 := ⟨⟨_, _, Try.underlying139, rfl, rfl, rfl, rfl, rfl, rfl⟩, pr_is, pr_cells, pr_cellI, Try.underlying3, pr_size⟩
theorem pr_key {a b : Int} (ha : wf64 a) (hb : wf64 b) : keyOf Try.prog 139 (.agg #[.int .i64 a, .int .i64 b]) = some (kl a b) := key_of pr_two ha hb
theorem pr_inv {v : Value} {l : Lit} (h : keyOf Try.prog 139 v = some l) : ∃ a b, v = (.agg #[.int .i64 a, .int .i64 b]) ∧ l = kl a b ∧ wf64 a ∧ wf64 b := key_inv pr_two h
theorem kl_inj {a b c d : Int} (ha : wf64 a) (hb : wf64 b) (hc : wf64 c) (hd : wf64 d) (h : kl a b = kl c d) : a = c ∧ b = d := by
  have := pr_keyed.inj (pr_key ha hb) ((pr_key hc hd).trans (by rw [h]))
  simpa using this
end Go.Proofs.Ytbmeemmihkedoaa

/-! KeyT -/
namespace Go.Proofs.Ytbmeemmihkedoaa
open Go.RowKit
open Go.Maps (Keyed)

theorem pt_laidOut : laidOutB Try.prog = true := by kernel_rfl
theorem pt_row : (27 : TypeId) < Try.prog.types.size := of_decide_eq_true (by kernel_rfl)
theorem pt_at : Try.prog.keyTypeAt 2 27 = true := by kernel_rfl
theorem pt_law : WideMaps.KeyLaw Try.prog 27 := deep_law_laid (m := 2) pt_laidOut (by omega) pt_row pt_at (by rw [Try.underlying27])
theorem pt_keyed : Keyed Try.prog 27 := Keyed.of_law pt_law
theorem pt_is : Try.prog.keyType 27 = true := by kernel_rfl
theorem pt_cells : Try.prog.cellsOf 27 = 2 := by kernel_rfl
theorem pt_cellI : Try.prog.cellsOf 3 = 1 := by kernel_rfl
theorem pt_size : ∃ n, Try.prog.types.size + 1 = n + 2 := ⟨Try.prog.types.size - 1, by have h : 0 < Try.prog.types.size := Nat.lt_of_le_of_lt (Nat.zero_le _) pt_row; omega⟩
theorem pt_two : TwoInts Try.prog 27 3 := ⟨⟨_, _, Try.underlying27, rfl, rfl, rfl, rfl, rfl, rfl⟩, pt_is, pt_cells, pt_cellI, Try.underlying3, pt_size⟩
theorem pt_key {a b : Int} (ha : wf64 a) (hb : wf64 b) : keyOf Try.prog 27 (.agg #[.int .i64 a, .int .i64 b]) = some (kl a b) := key_of pt_two ha hb
theorem pt_inv {v : Value} {l : Lit} (h : keyOf Try.prog 27 v = some l) : ∃ a b, v = (.agg #[.int .i64 a, .int .i64 b]) ∧ l = kl a b ∧ wf64 a ∧ wf64 b := key_inv pt_two h
theorem klT_inj {a b c d : Int} (ha : wf64 a) (hb : wf64 b) (hc : wf64 c) (hd : wf64 d) (h : kl a b = kl c d) : a = c ∧ b = d := by
  have := pt_keyed.inj (pt_key ha hb) ((pt_key hc hd).trans (by rw [h]))
  simpa using this
theorem klT_ne {a c x y : Int} (ha : wf64 a) (hc : wf64 c) (hx : wf64 x) (hy : wf64 y) (h : (a, c) ≠ (x, y)) : kl a c ≠ kl x y := fun q => h (by obtain ⟨rfl, rfl⟩ := klT_inj ha hc hx hy q; rfl)
theorem zeroT (w : World) : (zeroValue 3).run Try.prog w = .ok (.int .i64 0) w := by kernel_rfl
theorem litT_inj {a b : Int} (h : (DataW.lit (.int .i64 a) : DataW Unit) = .lit (.int .i64 b)) : a = b := by injection h with h; injection h
theorem belowT_grown {w w' : World} (hb : Below w.heap.size w w') : w.grownBy w' none := ⟨hb.os, hb.tape, hb.output, hb.size, fun k hk _ => hb.block k hk⟩
theorem grownT_refl (w : World) (r : Option Nat) : w.grownBy w r := ⟨rfl, rfl, rfl, Nat.le_refl _, fun _ _ _ => rfl⟩
/-- Block b is a map that tells V, with the keys K. -/
structure MapV (w : World) (b : Nat) (K : List (Int × Int)) (V : Int × Int → Int) (n : Nat) (D : DataW Unit) : Prop where
  own : w.ownsMap Try.prog 27 (plainElem Try.prog 3) b n D
  has : ∀ a c, wf64 a → wf64 c → (Maps.has D (kl a c) = true ↔ (a, c) ∈ K)
  at' : ∀ a c, wf64 a → wf64 c → D.atKey (kl a c) (.lit (.int .i64 0)) = .lit (.int .i64 (V (a, c)))
  wf : ∀ z ∈ K, wf64 z.1 ∧ wf64 z.2
theorem MapV.grown {w w' : World} {b n : Nat} {K : List (Int × Int)} {V : Int × Int → Int} {D : DataW Unit} (h : MapV w b K V n D) {row : Option Nat} (hg : w.grownBy w' row) (hne : some b ≠ row) : MapV w' b K V n D :=
  ⟨h.own.kept hg hne, h.has, h.at', h.wf⟩
theorem mapV_put {w w' : World} {b n : Nat} {K : List (Int × Int)} {V : Int × Int → Int} {D : DataW Unit} {p q v : Int} (hp : wf64 p) (hq : wf64 q) (h : MapV w b K V n D)
    (ho : w'.ownsMap Try.prog 27 (plainElem Try.prog 3) b (n + 1) (D.put (kl p q) (.lit (.int .i64 v)))) :
    MapV w' b ((p, q) :: K) (fun z => if z = (p, q) then v else V z) (n + 1) (D.put (kl p q) (.lit (.int .i64 v))) := by
  have hk := pt_keyed.key (pt_key hp hq)
  have hD := h.own.isMap
  refine ⟨ho, ?_, ?_, ?_⟩
  · intro a c ha hc
    by_cases e : (a, c) = (p, q)
    · simp only [Prod.mk.injEq] at e
      obtain ⟨rfl, rfl⟩ := e
      rw [Maps.has_put_same hD hk]
      simp
    · rw [Maps.has_put_other (klT_ne ha hc hp hq e), h.has a c ha hc, List.mem_cons]
      exact ⟨.inr, fun x => x.resolve_left e⟩
  · intro a c ha hc
    by_cases e : (a, c) = (p, q)
    · rw [if_pos e]
      simp only [Prod.mk.injEq] at e
      obtain ⟨rfl, rfl⟩ := e
      rw [Maps.atKey_put_same hD hk]
    · rw [if_neg e, Maps.atKey_put_other (klT_ne ha hc hp hq e), h.at' a c ha hc]
  · intro z hz
    rcases List.mem_cons.1 hz with rfl | hz
    · exact ⟨hp, hq⟩
    · exact h.wf z hz
/-- Block b is a map that tells the measures M. -/
def MapM (w : World) (b : Nat) (M : Ms) (n : Nat) : Prop := ∃ D, MapV w b (M.map Prod.fst) (valM M) n D
theorem MapM.kept {w w' : World} {b n : Nat} {M : Ms} (h : MapM w b M n) {row : Option Nat} (hg : w.grownBy w' row) (hne : some b ≠ row) : MapM w' b M n := by
  obtain ⟨D, h⟩ := h; exact ⟨D, h.grown hg hne⟩
theorem MapM.on {w w' : World} {b n : Nat} {M : Ms} (h : MapM w b M n) (hb : Below w.heap.size w w') : MapM w' b M n := h.kept (belowT_grown hb) (by simp)
theorem MapM.lt {w : World} {b n : Nat} {M : Ms} (h : MapM w b M n) : b < w.heap.size := by obtain ⟨D, h⟩ := h; exact h.own.lt
theorem mapM_made (w : World) : MapM (w.alloc (.map #[] 0)) w.heap.size [] 0 :=
  ⟨.map [], World.ownsMap_made _ _ _ _, fun _ _ _ _ => ⟨fun h => absurd h Bool.false_ne_true, fun h => absurd h List.not_mem_nil⟩, fun _ _ _ _ => rfl, fun _ hz => absurd hz List.not_mem_nil⟩
/-- Behind 't[key] += n', with the sum not zero. -/
theorem mapM_put {w w' : World} {b n : Nat} {M : Ms} {D : DataW Unit} {p q v : Int} (hM : OrdM M) (hp : wf64 p) (hq : wf64 q) (h : MapV w b (M.map Prod.fst) (valM M) n D) (hv : valM M (p, q) + v ≠ 0)
    (ho : w'.ownsMap Try.prog 27 (plainElem Try.prog 3) b (n + 1) (D.put (kl p q) (.lit (.int .i64 (valM M (p, q) + v))))) : MapM w' b (putM M (p, q) v) (n + 1) := by
  have h1 := mapV_put hp hq h ho
  have hO := putM_ord hM (p, q) v
  have hV : ∀ z, valM (putM M (p, q) v) z = if z = (p, q) then valM M (p, q) + v else valM M z := fun z => by
    rw [valM_put hM]
    by_cases e : z = (p, q)
    · subst e; simp
    · rw [if_neg e, if_neg e, Int.add_zero]
  refine ⟨_, h1.own, fun a c ha hc => (h1.has a c ha hc).trans ?_, fun a c ha hc => by rw [h1.at' a c ha hc, hV], fun z hz => ?_⟩
  · rw [← valM_iff hO, hV, List.mem_cons]
    by_cases e : (a, c) = (p, q)
    · rw [if_pos e]; exact ⟨fun _ => hv, fun _ => .inl e⟩
    · rw [if_neg e, valM_iff hM]; exact ⟨fun x => x.resolve_left e, .inr⟩
  · rw [← valM_iff hO, hV] at hz
    by_cases e : z = (p, q)
    · rw [e]; exact ⟨hp, hq⟩
    · rw [if_neg e, valM_iff hM] at hz; exact h.wf z hz
/-- Behind 'delete', with the sum zero. -/
theorem mapM_del {w w' : World} {b n : Nat} {M : Ms} {D : DataW Unit} {p q v : Int} (hM : OrdM M) (hp : wf64 p) (hq : wf64 q) (h : MapV w b ((p, q) :: M.map Prod.fst) (fun z => if z = (p, q) then valM M (p, q) + v else valM M z) n D) (hv : valM M (p, q) + v = 0)
    (ho : w'.ownsMap Try.prog 27 (plainElem Try.prog 3) b n (D.del (kl p q))) : MapM w' b (putM M (p, q) v) n := by
  have hO := putM_ord hM (p, q) v
  have hV : ∀ z, valM (putM M (p, q) v) z = if z = (p, q) then 0 else valM M z := fun z => by
    rw [valM_put hM]
    by_cases e : z = (p, q)
    · subst e; simp [hv]
    · rw [if_neg e, if_neg e, Int.add_zero]
  refine ⟨_, ho, fun a c ha hc => ?_, fun a c ha hc => ?_, fun z hz => ?_⟩
  · rw [← valM_iff hO, hV]
    by_cases e : (a, c) = (p, q)
    · rw [if_pos e]
      simp only [Prod.mk.injEq] at e
      obtain ⟨rfl, rfl⟩ := e
      rw [Maps.has_del_same]; simp
    · rw [if_neg e, Maps.has_del_other (klT_ne ha hc hp hq e), h.has a c ha hc, valM_iff hM, List.mem_cons]
      exact ⟨fun x => x.resolve_left e, .inr⟩
  · by_cases e : (a, c) = (p, q)
    · rw [hV, if_pos e]
      simp only [Prod.mk.injEq] at e
      obtain ⟨rfl, rfl⟩ := e
      rw [Maps.atKey_del_same]
    · have := h.at' a c ha hc
      rw [if_neg e] at this
      rw [Maps.atKey_del_other (klT_ne ha hc hp hq e), this, hV, if_neg e]
  · rw [← valM_iff hO, hV] at hz
    by_cases e : z = (p, q)
    · rw [e]; exact ⟨hp, hq⟩
    · rw [if_neg e, valM_iff hM] at hz; exact h.wf z (List.mem_cons_of_mem _ hz)
end Go.Proofs.Ytbmeemmihkedoaa

/-! Maker -/
namespace Go.Proofs.Ytbmeemmihkedoaa
open Go.Sort Go.RowKit

/-- No way but the normal one. -/
def Bot : Exit → Act → World → Prop := fun _ _ _ => False
def pureOpB : Op → Bool
  | .move _ | .load _ _ | .fieldAddr _ _ _ | .indexAddr _ _ _ => true
  | _ => false
theorem value_only (P : Program) (s : Sem Value) (w w' : World) (x : Next) (h : (do pure (Next.value (← s)) : Sem Next).run P w = .ok x w') : ∃ u, x = .value u := by
  rw [Sem.run_bind] at h
  cases hs : s.run P w with
  | ok v w1 =>
    rw [hs] at h
    simp only [Result.andThen, Sem.run_pure, Result.ok.injEq] at h
    exact ⟨v, h.1.symm⟩
  | halt y w1 => rw [hs] at h; simp [Result.andThen] at h
theorem pure_value (P : Program) (o : Oper) (a : Act) (w w' : World) (x : Next) (hp : pureOpB o.op = true) (h : (execOp a.eval o).run P w = .ok x w') : ∃ u, x = .value u := by
  unfold execOp at h
  revert hp h
  cases o.op <;> intro hp h <;> first
    | (simp [pureOpB] at hp; done)
    | exact value_only _ _ _ _ _ h
    | (simp only [Sem.run_pure, Result.ok.injEq] at h; exact ⟨_, h.1.symm⟩)
theorem pure_upon {P : Program} {C : World → Prop} {o : Oper} (hp : pureOpB o.op = true) {a : Act} {w : World} {v : Value} (h : o.quietAt P a C w v) : (execOp a.eval o).run P w = .ok (.value v) w := by
  have hv := fun x w' => pure_value P o a w w' x hp
  unfold Oper.quietAt at h
  generalize (execOp a.eval o).run P w = r at *
  cases r with
  | ok x w' =>
    obtain ⟨u, rfl⟩ := hv _ _ rfl
    simp only [Oper.quietUpon] at h
    obtain ⟨rfl, rfl⟩ := h; rfl
  | halt x w' => simp only [Oper.quietUpon] at h

section
variable {F : Fence} {n : Nat} {P : Program} {ops : Array Oper} {md : Region.Mode} {C : World → Prop} {Q : Exit → Act → World → Prop}

theorem oper_bot {o : Oper} {a : Act} {w : World} {K K' K1 : Act → World → Prop} (h : ∀ a w, K a w → K' a w) (hh : o.wpIn F n P a w K (Exit.then K1 Bot)) : o.wpIn F n P a w K' Q := by
  unfold Oper.wpIn at *
  refine ⟨hh.1, ?_⟩
  have hh := hh.2
  generalize (o.semAt F.round a.eval).run P w = r at *
  cases r with
  | ok x w' =>
    cases x <;> simp only [Oper.uponIn] at hh ⊢ <;>
      first
        | exact h _ _ hh
        | exact ⟨hh.1, RowsIn.mono hh.2 (fun _ _ he => h _ _ he)⟩
        | exact ⟨hh.1, CallsIn.mono hh.2 (fun e w'' he => by cases e <;> first | exact h _ _ he | exact False.elim he | (obtain ⟨_, _, he⟩ := he; exact False.elim he))⟩
        | exact ⟨hh.1, RoundIn.mono hh.2 (fun e w'' he => by cases e <;> first | exact h _ _ he | exact False.elim he | (obtain ⟨_, _, he⟩ := he; exact False.elim he))⟩
  | halt x w' => cases x <;> simp only [Oper.uponIn] at hh ⊢ <;> first | exact hh | exact False.elim hh

def wpAnyC (F : Fence) (n : Nat) (P : Program) (md : Region.Mode) (ops : Array Oper) (C : World → Prop) (K : Act → World → Prop) (q : Nat) : Nat → Array Bool → Act → World → Prop
  | 0, listed, a, w => Region.ready md ops listed = [] ∧ K a w
  | fuel + 1, listed, a, w =>
    (Region.ready md ops listed = [] → K a w) ∧
    ∀ i ∈ Region.ready md ops listed, wpOpIn F n P ops (Exit.then K Bot) i (fun a' w' => (i < q → C w') ∧ wpAnyC F n P md ops C K q fuel (listed.setIfInBounds i true) a' w') a w

theorem wpAnyC_any {K : Act → World → Prop} {q : Nat} : ∀ (fuel : Nat) (listed : Array Bool) (a : Act) (w : World), wpAnyC F n P md ops C K q fuel listed a w → wpAnyIn F n P md ops (Exit.then K Bot) fuel listed a w
  | 0, _, _, _, h => h
  | fuel + 1, _, _, _, h => ⟨h.1, fun i hi => wpOpIn_mono (fun a' w' h' => wpAnyC_any fuel _ a' w' h'.2) (h.2 i hi)⟩

/-- In every world of the class the operation yields v and nothing else happens. -/
def PureAt (P : Program) (ops : Array Oper) (C : World → Prop) (o : Oper) (v : Value) (a : Act) : Prop :=
  (Region.wanted o (yielded ops a.tmps) = true ∧ ∀ w, C w → (execOp a.eval o).run P w = .ok (.value v) w) ∨ (Region.wanted o (yielded ops a.tmps) = false ∧ v = undef)
theorem PureAt.of_same {o : Oper} {v : Value} {a a' : Act} (hy : PureAt P ops C o v a) (he : execOp a'.eval o = execOp a.eval o)
    (hw : Region.wanted o (yielded ops a'.tmps) = Region.wanted o (yielded ops a.tmps)) : PureAt P ops C o v a' := by
  unfold PureAt at *
  rw [he, hw]; exact hy
theorem PureAt.step {i : Nat} {o : Oper} {v : Value} {a : Act} {w : World} {K : Act → World → Prop} (hF : IsWide F) (hd : noDeferB ops = true) (hi : ops[i]? = some o) (hC : C w) (hy : PureAt P ops C o v a) (h : K (a.put o.dst v) w) : wpOpIn F n P ops Q i K a w := by
  unfold Go.wpOpIn
  simp only [hi]
  rcases hy with ⟨hw, hv⟩ | ⟨hw, rfl⟩
  · simp only [hw, if_true, Oper.wpIn, semAt_any (noDefer_at hd hi), hv w hC, Oper.uponIn]; exact ⟨fun f _ => hF.fn f, h⟩
  · simp only [hw, Bool.false_eq_true, if_false]; exact ⟨fun f _ => hF.fn f, h⟩

theorem op_putC {j : Nat} {oi oj : Oper} {v : Value} {K0 : Act → World → Prop} (hF : IsWide F) (hd : noDeferB ops = true) (hj : ops[j]? = some oj) (hap : oi.apart ops oj = true)
    (hsi : ∀ cs b, oi.op ≠ .select cs b) (hsj : ∀ cs b, oj.op ≠ .select cs b) {K : Act → World → Prop} {a : Act} {w : World}
    (hy : PureAt P ops C oi v a) (h : wpOpIn F n P ops (Exit.then K0 Bot) j K (a.put oi.dst v) w) :
    wpOpIn F n P ops (Exit.then K0 Bot) j (fun a' w' => PureAt P ops C oi v a' ∧ K (a'.put oi.dst v) w') a w := by
  obtain ⟨h1, h2, h3⟩ := Oper.apart_spec hap
  have keep : ∀ (a : Act), PureAt P ops C oi v a → ∀ u, PureAt P ops C oi v (a.put oj.dst u) := fun a hy u =>
    hy.of_same (execOp_put oi hsi a oj.dst u h3) (wanted_put oi a oj.dst u h3)
  have keepD : ∀ d, PureAt P ops C oi v { a with defers := d :: a.defers } := fun d => hy.of_same rfl rfl
  have hnd := noDefer_at hd hj
  unfold wpOpIn at *
  simp only [hj] at h ⊢
  rw [wanted_put oj a oi.dst v h1] at h
  split
  · rename_i hw
    simp only [hw, if_true] at h
    unfold Oper.wpIn at *
    refine ⟨fun f _ => hF.fn f, ?_⟩
    have h := h.2
    rw [semAt_any hnd, execOp_put oj hsj a oi.dst v h1] at h
    rw [semAt_any hnd]
    generalize (execOp a.eval oj).run P w = r at *
    cases r with
    | ok x w' =>
      cases x <;> simp only [Oper.uponIn] at h ⊢
      case value u => exact ⟨keep a hy u, by rw [← Act.put_comm a v u h2]; exact h⟩
      case skip => exact ⟨keep a hy _, by rw [← Act.put_comm a v undef h2]; exact h⟩
      case defer d =>
        refine ⟨keep _ (keepD d) _, ?_⟩
        rw [← Act.put_comm _ v undef h2, ← Act.put_defers]
        exact h
      case enter f args =>
        refine ⟨h.1, CallsIn.mono h.2 fun e w'' he => ?_⟩
        cases e with
        | returned u => exact ⟨keep a hy u, by rw [← Act.put_comm a v u h2]; exact he⟩
        | panicked c => exact False.elim he
        | outgrown => obtain ⟨_, _, he⟩ := he; exact False.elim he
      case row row args => exact ⟨h.1, RowsIn.mono h.2 fun u w'' he => ⟨keep a hy u, by rw [← Act.put_comm a v u h2]; exact he⟩⟩
      case round l f tmps assign body =>
        refine ⟨h.1, RoundIn.mono h.2 fun e w'' he => ?_⟩
        cases e with
        | returned u => exact ⟨keep a hy u, by rw [← Act.put_comm a v u h2]; exact he⟩
        | panicked c => exact False.elim he
        | outgrown => obtain ⟨_, _, he⟩ := he; exact False.elim he
    | halt x w' =>
      cases x <;> simp only [Oper.uponIn] at h ⊢
      case panic u => exact False.elim h
  · rename_i hw
    simp only [hw] at h
    exact ⟨fun f _ => hF.fn f, keep a hy _, by rw [← Act.put_comm a v undef h2]; exact h.2⟩

theorem firstC {i q : Nat} {oi : Oper} {v : Value} {K0 : Act → World → Prop} (hF : IsWide F) (hd : noDeferB ops = true) (hi : ops[i]? = some oi) (hsel : ∀ (j : Nat) (o : Oper) cs b, ops[j]? = some o → o.op ≠ .select cs b)
    (hs : Region.sinkB md ops q = true) (hc : Region.chainB md ops q = true) (hn : q < ops.size) (hin : i < q) :
    ∀ (fuel : Nat) (listed : Array Bool) (a : Act) (w : World), HeadInv md ops q listed →
      (∀ j oj, ops[j]? = some oj → j ≠ i → listed.getD j true = false → (∀ e ∈ oj.after, Region.binds md e = true → e.on ≠ i) → oi.apart ops oj = true) →
      i ∈ Region.ready md ops listed → PureAt P ops C oi v a → C w →
      wpAnyC F n P md ops C K0 q fuel (listed.setIfInBounds i true) (a.put oi.dst v) w → wpAnyC F n P md ops C K0 q (fuel + 1) listed a w := by
  intro fuel
  induction fuel with
  | zero =>
    intro listed a w inv _ hr hy hC H
    have hun := (mem_ready.1 hr).1
    refine ⟨fun h => (by rw [h] at hr; cases hr), fun j hj => ?_⟩
    by_cases hji : j = i
    · subst hji; exact hy.step hF hd hi hC ⟨fun _ => hC, H⟩
    · have := ready_mono hj hji
      rw [H.1] at this
      cases this
  | succ fuel ih =>
    intro listed a w inv hfree hr hy hC H
    have hun := (mem_ready.1 hr).1
    refine ⟨fun h => (by rw [h] at hr; cases hr), fun j hj => ?_⟩
    have hjn : j < q := by
      rcases Nat.lt_or_ge j q with h | h
      · exact h
      · exact absurd hj (tail_waits hs hc hn inv _ i rfl hin hun j h)
    by_cases hji : j = i
    · subst hji; exact hy.step hF hd hi hC ⟨fun _ => hC, H⟩
    · have h1 := H.2 j (ready_mono hj hji)
      obtain ⟨hjun, oj, hoj, hall⟩ := mem_ready.1 hj
      have hnot : ∀ e ∈ oj.after, Region.binds md e = true → e.on ≠ i := fun e he hb heq => by
        have h1 := hall e he hb
        rw [heq, getD_both hun] at h1
        cases h1
      have h2 := op_putC hF hd hoj (hfree j oj hoj hji hjun hnot) (fun cs b => hsel i oi cs b hi) (fun cs b => hsel j oj cs b hoj) hy h1
      have hfree' : ∀ k ok, ops[k]? = some ok → k ≠ i → (listed.setIfInBounds j true).getD k true = false →
          (∀ e ∈ ok.after, Region.binds md e = true → e.on ≠ i) → oi.apart ops ok = true := fun k ok hk hki hun hno => by
        refine hfree k ok hk hki ?_ hno
        by_cases hjk : j = k
        · subst hjk; exact hjun
        · rw [getD_set_ne true hjk] at hun; exact hun
      refine wpOpIn_mono (fun a' w' h3 => ⟨h3.2.1, ih (listed.setIfInBounds j true) a' w' (inv.set hj hjn) hfree' (ready_mono hr (Ne.symm hji)) h3.1 (h3.2.1 hjn) ?_⟩) h2
      rw [Array.setIfInBounds_comm _ _ hji]
      exact h3.2.2

theorem lexC {m q g : Nat} {K0 : Act → World → Prop} {Lq : Act → Prop} (hF : IsWide F) (hd : noDeferB ops = true) (hsel : Region.noSelect ops = true) (hs : Region.sinkB md ops q = true) (hc : Region.chainB md ops q = true) (hn : q < ops.size) (hmq : m ≤ q)
    (hT : ∀ listed a w, C w → Region.seqB md ops g m listed = true → Lq a → wpAnyC F n P md ops C K0 q g listed a w) :
    ∀ (l : List Oper) (k : Nat) (listed : Array Bool) (a : Act) (w : World), (∀ j, j < l.length → l[j]? = ops[k + j]?) → k + l.length = m → HeadInv md ops q listed →
    Region.lexHead md ops g l.length k listed = true → (l.all fun o => pureOpB o.op) = true → C w → wpQuiet P ops C Lq l a → wpAnyC F n P md ops C K0 q (l.length + g) listed a w
  | [], k, listed, a, w, _, hk, _, hB, _, hC, h => by
    have : k = m := by simpa using hk
    subst this
    rw [List.length_nil, Nat.zero_add]
    exact hT listed a w hC (by simpa [Region.lexHead] using hB) h
  | o :: l, k, listed, a, w, hl, hk, inv, hB, hp, hC, h => by
    have h0 : ops[k]? = some o := by simpa using (hl 0 (by simp)).symm
    simp only [List.length_cons, Region.lexHead, Bool.and_eq_true] at hB
    obtain ⟨⟨hr, hf⟩, hB'⟩ := hB
    simp only [List.all_cons, Bool.and_eq_true] at hp
    have hkn : k < m := by simp only [List.length_cons] at hk; omega
    have hr' : k ∈ Region.ready md ops listed := by simpa using hr
    have hy : ∃ v, PureAt P ops C o v a ∧ wpQuiet P ops C Lq l (a.put o.dst v) := by
      unfold wpQuiet at h
      cases hw : Region.wanted o (yielded ops a.tmps)
      · rw [hw] at h
        exact ⟨undef, .inr ⟨hw, rfl⟩, by simpa using h⟩
      · rw [hw] at h
        simp only [if_true] at h
        obtain ⟨v, hv, hK⟩ := h
        exact ⟨v, .inl ⟨hw, fun w' hw' => pure_upon hp.1 (hv w' hw')⟩, hK⟩
    obtain ⟨v, hy, hK⟩ := hy
    rw [List.length_cons, show l.length + 1 + g = (l.length + g) + 1 by omega]
    exact firstC hF hd h0 (Region.noSelect_spec hsel) hs hc hn (by omega) _ listed a w inv (Region.free_spec h0 hf) hr' hy hC
      (lexC hF hd hsel hs hc hn hmq hT l (k + 1) _ _ w (fun j hj => by have := hl (j + 1) (by simp; omega); simpa [Nat.add_assoc, Nat.add_comm 1 j] using this) (by simp only [List.length_cons] at hk; omega) (inv.set hr' (by omega)) hB' hp.2 hC hK)

theorem seqC {q : Nat} {K0 : Act → World → Prop} : ∀ (l : List Oper) (k : Nat) (listed : Array Bool) (a : Act) (w : World), q ≤ k → (∀ j, l[j]? = ops[k + j]?) →
    Region.seqB md ops l.length k listed = true → wpListIn F n P ops (Exit.then K0 Bot) l a w → wpAnyC F n P md ops C K0 q l.length listed a w
  | [], _, _, _, _, _, _, hB, h => ⟨by simpa [Region.seqB] using hB, h⟩
  | o :: l, k, listed, a, w, hq, hl, hB, h => by
    have h0 : ops[k]? = some o := by simpa using (hl 0).symm
    simp only [List.length_cons, Region.seqB, Bool.and_eq_true, decide_eq_true_eq] at hB
    refine ⟨fun h1 => (by rw [hB.1] at h1; cases h1), fun i hi => ?_⟩
    rw [hB.1] at hi
    have hik : i = k := by simpa using hi
    subst hik
    have hw : wpOpIn F n P ops (Exit.then K0 Bot) i (wpListIn F n P ops (Exit.then K0 Bot) l) a w := by unfold wpOpIn; simp only [h0]; exact h
    exact wpOpIn_mono (fun a' w' h' => ⟨fun h1 => by omega, seqC l (i + 1) _ a' w' (by omega) (fun j => by have := hl (j + 1); simpa [Nat.add_assoc, Nat.add_comm 1 j] using this) hB.2 h'⟩) hw

/-- One operation that is ready alone, behind which the class still holds. -/
theorem oneC {q g : Nat} {K0 K1 : Act → World → Prop} {o : Oper} {k : Nat} {listed : Array Bool} {a : Act} {w : World} (h0 : ops[k]? = some o)
    (hB : Region.seqB md ops (g + 1) k listed = true) (h : wpListIn F n P ops (Exit.then K1 Bot) [o] a w)
    (hK : ∀ listed' a' w', Region.seqB md ops g (k + 1) listed' = true → K1 a' w' → C w' ∧ wpAnyC F n P md ops C K0 q g listed' a' w') : wpAnyC F n P md ops C K0 q (g + 1) listed a w := by
  simp only [Region.seqB, Bool.and_eq_true, decide_eq_true_eq] at hB
  refine ⟨fun h1 => (by rw [hB.1] at h1; cases h1), fun i hi => ?_⟩
  rw [hB.1] at hi
  have hik : i = k := by simpa using hi
  subst hik
  unfold wpOpIn
  simp only [h0]
  unfold wpListIn at h
  split
  · rename_i hw
    rw [if_pos hw] at h
    exact oper_bot (fun a' w' h' => by
      obtain ⟨h1, h2⟩ := hK _ a' w' hB.2 h'
      exact ⟨fun _ => h1, h2⟩) h
  · rename_i hw
    rw [if_neg hw] at h
    refine ⟨h.1, ?_⟩
    obtain ⟨h1, h2⟩ := hK _ _ w hB.2 h.2
    exact ⟨fun _ => h1, h2⟩

def makeB (md : Region.Mode) (ops : Array Oper) (m : Nat) : Bool :=
  Region.noSelect ops && decide (m + 2 < ops.size) && Region.sinkB md ops (m + 2) && Region.chainB md ops (m + 2) && Region.lexHead md ops (ops.size - m) m 0 (Array.replicate ops.size false) && ((ops.toList.take m).all fun o => pureOpB o.op)

/-- **m operations that only look, a call, a maker, a tail in sequence.** -/
theorem region_make_in {id : Nat} {a : Act} {w : World} {l : List Oper} (m : Nat) (hF : IsWide F) (hd : noDeferB l.toArray = true) (hm : P.follows .mixedOrders = true) (hB : makeB .any l.toArray m = true)
    (h : wpQuiet P l.toArray (fun w' => ∃ p : Regrown, w' = grow (redrawn w p.d) p.os) (fun a' => ∀ w', (∃ p : Regrown, w' = grow (redrawn w p.d) p.os) →
      wpListIn F n P l.toArray (Exit.then (fun a1 w1 => Below w.heap.size w w1 ∧ wpListIn F n P l.toArray (Exit.then (fun a2 w2 => Below w.heap.size w w2 ∧ wpListIn F n P l.toArray (Exit.then (Q .normal) Bot) (l.drop (m + 2)) a2 w2) Bot) ((l.drop (m + 1)).take 1) a1 w1) Bot) ((l.drop m).take 1) a' w') (l.take m) a) :
    (Code.region id l.toArray true).wpIn F n P Q a w := by
  simp only [makeB, Bool.and_eq_true, decide_eq_true_eq] at hB
  obtain ⟨⟨⟨⟨⟨hsel, hn⟩, hs⟩, hc⟩, hlex⟩, hpu⟩ := hB
  have hn' : m + 2 < l.length := by simpa using hn
  have htl : (l.take m).length = m := by simp; omega
  have inv0 : HeadInv .any l.toArray (m + 2) (Array.replicate l.toArray.size false) :=
    ⟨by simp, fun j oj _ hl => (by rw [getD_replicate_false] at hl; cases hl), fun t _ ht => getD_in (by simpa using ht) (getD_replicate_false _ _)⟩
  have hC : ∃ p : Regrown, ({ w with drawn := w.drawn + 1 } : World) = grow (redrawn w p.d) p.os := ⟨⟨w.drawn + 1, #[]⟩, by rw [grow_empty]; rfl⟩
  obtain ⟨g, hg⟩ : ∃ g, l.toArray.size - m = g + 1 + 1 := ⟨l.toArray.size - m - 2, by simp; omega⟩
  have e0 : (l.drop m).take 1 = [l[m]'(by omega)] := by rw [List.drop_eq_getElem_cons (by omega)]; rfl
  have e1 : (l.drop (m + 1)).take 1 = [l[m + 1]'(by omega)] := by rw [List.drop_eq_getElem_cons (by omega)]; rfl
  have hdl : (l.drop (m + 2)).length = g := by simp at hg ⊢; omega
  have H := lexC (md := .any) (P := P) (F := F) (n := n) (C := fun w' => ∃ p : Regrown, w' = grow (redrawn w p.d) p.os) (K0 := Q .normal) (m := m) (q := m + 2) (g := l.toArray.size - m) hF hd hsel hs hc hn (by omega)
    (fun listed a' w' hC' hseq hL => by
      rw [hg] at hseq ⊢
      have h1 := hL w' hC'
      rw [e0] at h1
      refine oneC (k := m) (by simp) hseq h1 fun listed1 a1 w1 hseq1 ⟨hb1, h2⟩ => ⟨regrown_of_below hb1, ?_⟩
      rw [e1] at h2
      refine oneC (k := m + 1) (by simp) hseq1 h2 fun listed2 a2 w2 hseq2 ⟨hb2, h3⟩ => ⟨regrown_of_below hb2, ?_⟩
      have := seqC (md := .any) (C := fun w' => ∃ p : Regrown, w' = grow (redrawn w p.d) p.os) (q := m + 2) (l.drop (m + 2)) (m + 2) listed2 a2 w2 (Nat.le_refl _) (fun j => by simp [List.getElem?_drop]) (by rw [hdl]; exact hseq2) h3
      rwa [hdl] at this)
    (l.take m) 0 _ a _ (fun j hj => by
      have hj' : j < m := by rw [htl] at hj; exact hj
      simp [hj']) (by simpa using htl) inv0 (by rw [htl]; exact hlex) (by simpa using hpu) hC h
  rw [htl, show m + (l.toArray.size - m) = l.toArray.size by simp at hn ⊢; omega] at H
  refine Go.wpIn_mono (wpIn_region_any hm (wpAnyC_any _ _ _ _ H)) ?_
  intro e a' w' h'
  cases e <;> first | exact h' | exact False.elim h'
end
end Go.Proofs.Ytbmeemmihkedoaa

/-! Entry -/
namespace Go.Proofs.Ytbmeemmihkedoaa
open Go.Sort Go.RowKit

def lookOpB : Op → Bool
  | .move _ | .load _ _ | .fieldAddr _ _ _ | .indexAddr _ _ _ | .build _ _ | .binOp _ _ _ _ _ | .lookup _ _ _ _ => true
  | _ => false
theorem look_value (P : Program) (o : Oper) (a : Act) (w w' : World) (x : Next) (hp : lookOpB o.op = true) (h : (execOp a.eval o).run P w = .ok x w') : ∃ u, x = .value u := by
  unfold execOp at h
  revert hp h
  cases o.op <;> intro hp h <;> first
    | (simp [lookOpB] at hp; done)
    | exact value_only _ _ _ _ _ h
    | (simp only [Sem.run_pure, Result.ok.injEq] at h; exact ⟨_, h.1.symm⟩)
theorem look_upon {P : Program} {C : World → Prop} {o : Oper} (hp : lookOpB o.op = true) {a : Act} {w : World} {v : Value} (h : o.quietAt P a C w v) : (execOp a.eval o).run P w = .ok (.value v) w := by
  have hv := fun x w' => look_value P o a w w' x hp
  unfold Oper.quietAt at h
  generalize (execOp a.eval o).run P w = r at *
  cases r with
  | ok x w' =>
    obtain ⟨u, rfl⟩ := hv _ _ rfl
    simp only [Oper.quietUpon] at h
    obtain ⟨rfl, rfl⟩ := h; rfl
  | halt x w' => simp only [Oper.quietUpon] at h

section
variable {F : Fence} {n : Nat} {P : Program} {ops : Array Oper} {md : Region.Mode} {C : World → Prop}
theorem lexC0 {m q g : Nat} {K0 : Act → World → Prop} {Lq : Act → Prop} (hF : IsWide F) (hd : noDeferB ops = true) (hsel : Region.noSelect ops = true) (hs : Region.sinkB md ops q = true) (hc : Region.chainB md ops q = true) (hn : q < ops.size) (hmq : m ≤ q) (w : World) (hC : C w)
    (hT : ∀ listed a, Region.seqB md ops g m listed = true → Lq a → wpAnyC F n P md ops C K0 q g listed a w) :
    ∀ (l : List Oper) (k : Nat) (listed : Array Bool) (a : Act), (∀ j, j < l.length → l[j]? = ops[k + j]?) → k + l.length = m → HeadInv md ops q listed →
    Region.lexHead md ops g l.length k listed = true → (l.all fun o => lookOpB o.op) = true → wpQuiet P ops C Lq l a → wpAnyC F n P md ops C K0 q (l.length + g) listed a w
  | [], k, listed, a, _, hk, _, hB, _, h => by
    have : k = m := by simpa using hk
    subst this
    rw [List.length_nil, Nat.zero_add]
    exact hT listed a (by simpa [Region.lexHead] using hB) h
  | o :: l, k, listed, a, hl, hk, inv, hB, hp, h => by
    have h0 : ops[k]? = some o := by simpa using (hl 0 (by simp)).symm
    simp only [List.length_cons, Region.lexHead, Bool.and_eq_true] at hB
    obtain ⟨⟨hr, hf⟩, hB'⟩ := hB
    simp only [List.all_cons, Bool.and_eq_true] at hp
    have hkn : k < m := by simp only [List.length_cons] at hk; omega
    have hr' : k ∈ Region.ready md ops listed := by simpa using hr
    have hy : ∃ v, PureAt P ops C o v a ∧ wpQuiet P ops C Lq l (a.put o.dst v) := by
      unfold wpQuiet at h
      cases hw : Region.wanted o (yielded ops a.tmps)
      · rw [hw] at h
        exact ⟨undef, .inr ⟨hw, rfl⟩, by simpa using h⟩
      · rw [hw] at h
        simp only [if_true] at h
        obtain ⟨v, hv, hK⟩ := h
        exact ⟨v, .inl ⟨hw, fun w' hw' => look_upon hp.1 (hv w' hw')⟩, hK⟩
    obtain ⟨v, hy, hK⟩ := hy
    rw [List.length_cons, show l.length + 1 + g = (l.length + g) + 1 by omega]
    exact firstC hF hd h0 (Region.noSelect_spec hsel) hs hc hn (by omega) _ listed a w inv (Region.free_spec h0 hf) hr' hy hC
      (lexC0 hF hd hsel hs hc hn hmq w hC hT l (k + 1) _ _ (fun j hj => by have := hl (j + 1) (by simp; omega); simpa [Nat.add_assoc, Nat.add_comm 1 j] using this) (by simp only [List.length_cons] at hk; omega) (inv.set hr' (by omega)) hB' hp.2 hK)

/-- One operation that is ready alone, by its run. -/
theorem runC {q g : Nat} {K0 : Act → World → Prop} {o : Oper} {k : Nat} {listed : Array Bool} {a : Act} {w w1 : World} {x : Next} {v : Value} (hF : IsWide F) (hd : noDeferB ops = true) (h0 : ops[k]? = some o) (hg : o.guard = none)
    (hB : Region.seqB md ops (g + 1) k listed = true) (hx : x = .value v ∨ (x = .skip ∧ v = undef)) (hr : (execOp a.eval o).run P w = .ok x w1)
    (hK : ∀ listed', Region.seqB md ops g (k + 1) listed' = true → (k < q → C w1) ∧ wpAnyC F n P md ops C K0 q g listed' (a.put o.dst v) w1) : wpAnyC F n P md ops C K0 q (g + 1) listed a w := by
  simp only [Region.seqB, Bool.and_eq_true, decide_eq_true_eq] at hB
  refine ⟨fun h1 => (by rw [hB.1] at h1; cases h1), fun i hi => ?_⟩
  rw [hB.1] at hi
  have hik : i = k := by simpa using hi
  subst hik
  unfold wpOpIn
  simp only [h0]
  rw [if_pos (by simp [Region.wanted, hg])]
  refine ⟨fun f _ => hF.fn f, ?_⟩
  rw [semAt_any (noDefer_at hd h0), hr]
  rcases hx with rfl | ⟨rfl, rfl⟩
  · simp only [Oper.uponIn]
    exact hK _ hB.2
  · simp only [Oper.uponIn]
    exact hK _ hB.2

def looksB (md : Region.Mode) (ops : Array Oper) (m : Nat) : Bool :=
  noDeferB ops && Region.noSelect ops && decide (m + 3 = ops.size) && Region.sinkB md ops (m + 2) && Region.chainB md ops (m + 2) && Region.lexHead md ops 3 m 0 (Array.replicate ops.size false) && ((ops.toList.take m).all fun o => lookOpB o.op)
/-- **m operations that only look, an entry's making, its extract, a store.** -/
theorem region_entry {id : Nat} {Q : Exit → Act → World → Prop} {a : Act} {w : World} {l : List Oper} (m : Nat) {S : Type} (sel : S → World) (s0 : S) (hs0 : sel s0 = { w with drawn := w.drawn + 1 }) (o1 o2 o3 : Oper)
    (h1 : l.toArray[m]? = some o1) (h2 : l.toArray[m + 1]? = some o2) (h3 : l.toArray[m + 2]? = some o3) (g1 : o1.guard = none) (g2 : o2.guard = none) (g3 : o3.guard = none)
    (hm : P.follows .mixedOrders = true) (hB : looksB .any l.toArray m = true)
    (h : wpQuiet P l.toArray (fun w' => ∃ s, w' = sel s) (fun a' => ∃ v1 s v2 w3, (execOp a'.eval o1).run P (sel s0) = .ok (.value v1) (sel s) ∧ (execOp (a'.put o1.dst v1).eval o2).run P (sel s) = .ok (.value v2) (sel s) ∧
      (execOp ((a'.put o1.dst v1).put o2.dst v2).eval o3).run P (sel s) = .ok .skip w3 ∧ Q .normal (((a'.put o1.dst v1).put o2.dst v2).put o3.dst undef) w3) (l.take m) a) :
    (Code.region id l.toArray true).wp P Q a w := by
  simp only [looksB, Bool.and_eq_true, decide_eq_true_eq] at hB
  obtain ⟨⟨⟨⟨⟨⟨hd, hsel⟩, hn⟩, hs⟩, hc⟩, hlex⟩, hpu⟩ := hB
  have hn' : m + 3 = l.length := by simpa using hn
  have htl : (l.take m).length = m := by simp; omega
  have inv0 : HeadInv .any l.toArray (m + 2) (Array.replicate l.toArray.size false) :=
    ⟨by simp, fun j oj _ hl => (by rw [getD_replicate_false] at hl; cases hl), fun t _ ht => getD_in (by simpa using ht) (getD_replicate_false _ _)⟩
  have H := lexC0 (md := .any) (P := P) (F := Fence.wide) (n := 0) (C := fun w' => ∃ s, w' = sel s) (K0 := Q .normal) (m := m) (q := m + 2) (g := 3) wide0 hd hsel hs hc (by omega) (by omega) (sel s0) ⟨s0, rfl⟩
    (fun listed a' hseq hL => by
      obtain ⟨v1, s, v2, w3, r1, r2, r3, hq⟩ := hL
      refine runC wide0 hd h1 g1 hseq (.inl rfl) r1 fun listed1 hseq1 => ⟨fun _ => ⟨s, rfl⟩, ?_⟩
      refine runC wide0 hd h2 g2 hseq1 (.inl rfl) r2 fun listed2 hseq2 => ⟨fun _ => ⟨s, rfl⟩, ?_⟩
      refine runC wide0 hd h3 g3 hseq2 (.inr ⟨rfl, rfl⟩) r3 fun listed3 hseq3 => ⟨fun h => by omega, ?_⟩
      exact ⟨by simpa [Region.seqB] using hseq3, hq⟩)
    (l.take m) 0 _ a (fun j hj => by
      have hj' : j < m := by rw [htl] at hj; exact hj
      simp [hj']) (by simpa using htl) inv0 (by rw [htl]; exact hlex) (by simpa using hpu) h
  rw [htl, show m + 3 = l.toArray.size from hn, hs0] at H
  refine wpIn_wide.1 (Go.wpIn_mono (wpIn_region_any hm (wpAnyC_any _ _ _ _ H)) ?_)
  intro e a' w' h'
  cases e <;> first | exact h' | exact False.elim h'
end
theorem entry_op {P : Program} {o : Oper} {a : Act} {w w' : World} {t : TypeId} {m x : Operand} {M X v : Value} (ho : o.op = .mapEntry t m x) (hm : a.eval m = M) (hx : a.eval x = X) (h : (Instr.mapEntry t M X).run P w = .ok v w') : (execOp a.eval o).run P w = .ok (.value v) w' := by
  unfold execOp
  rw [ho]
  simp only [hm, hx, Sem.run_bind, h, Result.andThen, Sem.run_pure]
theorem extract_op {P : Program} {o : Oper} {a : Act} {w : World} {m : Operand} {i : Nat} {vs : Array Value} {v : Value} (ho : o.op = .extract m i) (hm : a.eval m = .tuple vs) (h : vs[i]? = some v) : (execOp a.eval o).run P w = .ok (.value v) w := by
  unfold execOp
  rw [ho]
  simp only [hm]
  simp [go_sem, h]
theorem store_op {P : Program} {o : Oper} {a : Act} {w w' : World} {t : TypeId} {m x y : Operand} {M X Y : Value} (ho : o.op = .entryStore t m x y) (hm : a.eval m = M) (hx : a.eval x = X) (hy : a.eval y = Y) (h : (Instr.entryStore t M X Y).run P w = .ok () w') : (execOp a.eval o).run P w = .ok .skip w' := by
  unfold execOp
  rw [ho]
  simp only [hm, hx, hy, Sem.run_bind, h, Result.andThen, Sem.run_pure]
end Go.Proofs.Ytbmeemmihkedoaa

/-! Tally -/
namespace Go.Proofs.Ytbmeemmihkedoaa
open Go.RowKit
open Go.Maps (Keyed)
open Go.ChangeMaps Go.MapKept

theorem setBlockT_same {w : World} {b : Nat} {o : Obj} (h : w.heap[b]? = some o) : setBlock w b o = w := by
  obtain ⟨hl, he⟩ := Array.getElem?_eq_some_iff.1 h
  unfold setBlock
  have e : w.heap.set! b o = w.heap := by
    rw [Array.set!_eq_setIfInBounds, Array.setIfInBounds, dif_pos hl]
    apply Array.ext (by simp)
    intro i h1 h2
    rw [Array.getElem_set]
    by_cases q : b = i
    · subst q; rw [if_pos rfl]; exact he.symm
    · rw [if_neg q]
  cases w
  simp_all
theorem setBlockT_twice {w : World} {b : Nat} {o o' : Obj} : setBlock (setBlock w b o) b o' = setBlock w b o' := by
  unfold setBlock
  simp
/-- The operations of 't[key] += n' one by one; the look-up is the same ahead of the entry's making and behind it. -/
theorem addT_runs {w : World} {b n : Nat} {K : List (Int × Int)} {V : Int × Int → Int} {D : DataW Unit} {p q v : Int} (h : MapV w b K V n D) (hp : wf64 p) (hq : wf64 q) (hn : n < 1000) (hV : wf64 (V (p, q) + v)) :
    ∃ (v0 : Value) (st : Nat) (w1 w2 : World), (Instr.mapEntry 81 (.map (some b)) (.agg #[.int .i64 p, .int .i64 q])).run Try.prog w = .ok (.tuple #[v0, goInt st]) w1 ∧
      (Instr.lookup 81 (.map (some b)) (.agg #[.int .i64 p, .int .i64 q]) false).run Try.prog w = .ok (.int .i64 (V (p, q))) w ∧
      (Instr.lookup 81 (.map (some b)) (.agg #[.int .i64 p, .int .i64 q]) false).run Try.prog w1 = .ok (.int .i64 (V (p, q))) w1 ∧
      (Instr.entryStore 81 (.map (some b)) (goInt st) (.int .i64 (V (p, q) + v))).run Try.prog w1 = .ok () w2 ∧
      w.grownBy w1 (some b) ∧ w.grownBy w2 (some b) ∧ w2.ownsMap Try.prog 27 (plainElem Try.prog 3) b (n + 1) (D.put (kl p q) (.lit (.int .i64 (V (p, q) + v)))) := by
  have hM := h
  have hml : n < maxLen := by unfold maxLen; omega
  obtain ⟨c, hlk, hat, -⟩ := hM.own.lookup_int pt_keyed Try.underlying81 Try.underlying3 (zeroT w) (pt_key hp hq)
  have hce : c = V (p, q) := by
    have q1 := hM.at' p q hp hq
    rw [hat] at q1
    exact litT_inj q1
  rw [hce] at hlk
  obtain ⟨wz, hrz, hoz, hgz⟩ := hM.own.update pt_keyed Try.underlying81 hml (pt_key hp hq) (plainElem_int Try.underlying3 (a := 0) (q := .i64) (by decide))
  obtain ⟨w2, hr2, ho2, hg2⟩ := hM.own.update pt_keyed Try.underlying81 hml (pt_key hp hq) (plainElem_int Try.underlying3 (a := V (p, q) + v) (q := .i64) hV)
  obtain ⟨es, clock, hb, F, hs, hD⟩ := hM.own
  obtain ⟨v0, st, es1, clock1, hme, -, hst⟩ := WideElems.entry_then_store pt_law Try.underlying81 (fun u => zeroT u) hb F (pt_key hp hq)
  have h1b : (setBlock w b (.map es1 clock1)).heap[b]? = some (.map es1 clock1) := heap_setBlock_same hb _
  obtain ⟨es', clock', hes, hmu⟩ := hst (setBlock w b (.map es1 clock1)) (.int .i64 (V (p, q) + v)) h1b
  have hw2 : w2 = setBlock w b (.map es' clock') := by
    rw [hr2] at hmu
    exact (Result.ok.inj hmu).2
  rw [setBlockT_twice, ← hw2] at hes
  rcases pt_law.find w (pt_key hp hq) es.toList F.keys with ⟨h1, h2⟩ | ⟨j, e0, h1, h2, h3⟩
  · have hme2 : (Instr.mapEntry 81 (.map (some b)) (.agg #[.int .i64 p, .int .i64 q])).run Try.prog w = .ok (.tuple #[.int .i64 0, goInt clock]) (setBlock w b (.map (es.push ⟨(.agg #[.int .i64 p, .int .i64 q]), .int .i64 0, clock⟩) (clock + 1))) := by
      simp [Instr.mapEntry, run_underlying Try.underlying81, MapKept.run_getObj_map hb, pt_law.check w false (pt_key hp hq), h1, MapKept.run_setObj_map _ hb, Result.andThen, setBlock]
    have hmu2 : (Instr.mapUpdate 81 (.map (some b)) (.agg #[.int .i64 p, .int .i64 q]) (.int .i64 0)).run Try.prog w = .ok () (setBlock w b (.map (es.push ⟨(.agg #[.int .i64 p, .int .i64 q]), .int .i64 0, clock⟩) (clock + 1))) := by
      simp [Instr.mapUpdate, run_underlying Try.underlying81, MapKept.run_getObj_map hb, pt_law.check w false (pt_key hp hq), h1, MapKept.run_setObj_map _ hb, Result.andThen, setBlock]
    have hw1 : setBlock w b (.map es1 clock1) = wz := by
      rw [hme] at hme2
      rw [hrz] at hmu2
      exact (Result.ok.inj hme2).2.trans (Result.ok.inj hmu2).2.symm
    rw [hw1] at hme hes
    have hc0 : V (p, q) = 0 := by
      rcases Maps.fit_look false pt_keyed Try.underlying81 (zeroT w) hb F (pt_key hp hq) with ⟨hrun, -, -⟩ | ⟨e0, y, hm0, hk0, -⟩
      · rw [hlk] at hrun
        exact Value.int.inj (Result.ok.inj hrun).1 |>.2
      · exact absurd hk0 (h2 e0 hm0)
    obtain ⟨c1, hlk1, hat1, -⟩ := hoz.lookup_int pt_keyed Try.underlying81 Try.underlying3 (zeroT wz) (pt_key hp hq)
    have hc1 : c1 = V (p, q) := by
      rw [Maps.atKey_put_same hM.own.isMap (pt_keyed.key (pt_key hp hq))] at hat1
      rw [hc0]
      exact (litT_inj hat1).symm
    rw [hc1] at hlk1
    exact ⟨v0, st, wz, w2, hme, hlk, hlk1, hes, hgz, hg2, ho2⟩
  · have hj : es[j]? = some e0 := by simpa using h2
    have hsame : es.modify j (fun e => { e with key := (.agg #[.int .i64 p, .int .i64 q]) }) = es := by
      apply Array.ext'
      rw [Array.toList_modify, modify_eq_set _ _ _ _ h2]
      have : ({ e0 with key := (.agg #[.int .i64 p, .int .i64 q]) } : MapEntry) = e0 := by rw [← h3]
      rw [this]
      exact WideElems.set_self _ _ _ h2
    have hme2 : (Instr.mapEntry 81 (.map (some b)) (.agg #[.int .i64 p, .int .i64 q])).run Try.prog w = .ok (.tuple #[e0.val, goInt e0.born]) (setBlock w b (.map es clock)) := by
      simp [Instr.mapEntry, run_underlying Try.underlying81, MapKept.run_getObj_map hb, pt_law.check w false (pt_key hp hq), h1, hj, h3, pt_law.stays w (pt_key hp hq), hsame, MapKept.run_setObj_map _ hb, Result.andThen, setBlock]
    have hw1 : setBlock w b (.map es1 clock1) = w := by
      rw [hme, setBlockT_same hb] at hme2
      exact (Result.ok.inj hme2).2
    rw [hw1] at hme hes
    exact ⟨v0, st, w, w2, hme, hlk, hlk, hes, grownT_refl _ _, hg2, ho2⟩
/-- The same, with the two worlds in one letter. -/
theorem addT_sel {w : World} {b n : Nat} {K : List (Int × Int)} {V : Int × Int → Int} {D : DataW Unit} {p q v : Int} (h : MapV w b K V n D) (hp : wf64 p) (hq : wf64 q) (hn : n < 1000) (hV : wf64 (V (p, q) + v)) :
    ∃ (sel : Nat → World) (v0 : Value) (st : Nat) (w3 : World), sel 0 = { w with drawn := w.drawn + 1 } ∧
      (Instr.mapEntry 81 (.map (some b)) (.agg #[.int .i64 p, .int .i64 q])).run Try.prog (sel 0) = .ok (.tuple #[v0, goInt st]) (sel 1) ∧
      (∀ s, (Instr.lookup 81 (.map (some b)) (.agg #[.int .i64 p, .int .i64 q]) false).run Try.prog (sel s) = .ok (.int .i64 (V (p, q))) (sel s)) ∧
      (Instr.entryStore 81 (.map (some b)) (goInt st) (.int .i64 (V (p, q) + v))).run Try.prog (sel 1) = .ok () w3 ∧
      (∀ s, w.grownBy (sel s) (some b)) ∧ w.grownBy w3 (some b) ∧ w3.ownsMap Try.prog 27 (plainElem Try.prog 3) b (n + 1) (D.put (kl p q) (.lit (.int .i64 (V (p, q) + v)))) := by
  have hd : w.grownBy ({ w with drawn := w.drawn + 1 } : World) (some b) := ⟨rfl, rfl, rfl, Nat.le_refl _, fun _ _ _ => rfl⟩
  have h' : MapV ({ w with drawn := w.drawn + 1 } : World) b K V n D := h.grown (belowT_grown ((Below.refl _ w).drew)) (by simp)
  obtain ⟨v0, st, w1, w2, r1, r2, r3, r4, g1, g2, hC⟩ := addT_runs h' hp hq hn hV
  obtain ⟨sel, e0, e1⟩ : ∃ sel : Nat → World, sel 0 = { w with drawn := w.drawn + 1 } ∧ ∀ n, sel (n + 1) = w1 := ⟨fun s => Nat.casesOn s { w with drawn := w.drawn + 1 } fun _ => w1, rfl, fun _ => rfl⟩
  have e1' : sel 1 = w1 := e1 0
  refine ⟨sel, v0, st, w2, e0, by rw [e0, e1']; exact r1, fun s => ?_, by rw [e1']; exact r4, fun s => ?_, hd.andThen g2 (fun j hj => by cases hj; exact .inr rfl), hC⟩
  · cases s with
    | zero => rw [e0]; exact r2
    | succ s => rw [e1 s]; exact r3
  · cases s with
    | zero => rw [e0]; exact hd
    | succ s => rw [e1 s]; exact hd.andThen g1 (fun j hj => by cases hj; exact .inr rfl)
theorem cell_sel1 {w w' : World} {b g o : Nat} {v : Value} (h : w.cell? ⟨g, o, none⟩ = some v) (hg : w.grownBy w' (some b)) (hne : g ≠ b) : w'.cell? ⟨g, o, none⟩ = some v := by
  have hlt : g < w.heap.size := by
    rcases Nat.lt_or_ge g w.heap.size with q | q
    · exact q
    · simp [World.cell?, Array.getElem?_eq_none q] at h
  have e : w'.heap[g]? = w.heap[g]? := hg.block g hlt (fun e => hne (Option.some.inj e))
  simpa only [World.cell?, e] using h
set_option maxRecDepth 100000 in
set_option maxHeartbeats 4000000 in
/-- **t.count(key, n)**. -/
theorem tally_any (b n : Nat) (M : Ms) (p q v : Int) (w : World) (h : MapM w b M n) (hM : OrdM M) (hp : wf64 p) (hq : wf64 q) (hn : n < 1000) (hv : (valM M (p, q)).natAbs ≤ 1000000) (hv2 : v.natAbs ≤ 1000000) :
    Calls Try.prog 95 #[.map (some b), (.agg #[.int .i64 p, .int .i64 q]), .int .i64 v] w fun e w' => (∃ r, e = .returned r) ∧ MapM w' b (putM M (p, q) v) (n + 1) ∧ w.grownBy w' (some b) := by
  obtain ⟨D, hD⟩ := h
  have hbl := hD.own.lt
  have a0 := at_new w p q 27
  have hb0 := below1 w (.cells #[.int .i64 p, .int .i64 q] 27)
  have hD0 := hD.grown (belowT_grown hb0) (by simp)
  have hg0 : w.grownBy (w.alloc (.cells #[.int .i64 p, .int .i64 q] 27)) (some b) := ⟨hb0.os, hb0.tape, hb0.output, hb0.size, fun k hk _ => hb0.block k hk⟩
  obtain ⟨x, hx⟩ : ∃ x, x = valM M (p, q) := ⟨_, rfl⟩
  have hwf : wf64 (valM M (p, q) + v) := WalkArith.wf_i64 (by omega)
  obtain ⟨sel, v0, st, w3, es0, r1, r2, r3, gs, g3, ho⟩ := addT_sel hD0 hp hq hn hwf
  have hP : MapV w3 b ((p, q) :: M.map Prod.fst) (fun z => if z = (p, q) then valM M (p, q) + v else valM M z) (n + 1) _ := mapV_put hp hq hD0 ho
  have c0 : ∀ s, (sel s).cell? ⟨w.heap.size, 0, none⟩ = some (.int .i64 p) := fun s => cell_sel1 a0.c0 (gs s) (by omega)
  have c1 : ∀ s, (sel s).cell? ⟨w.heap.size, 1, none⟩ = some (.int .i64 q) := fun s => cell_sel1 a0.c1 (gs s) (by omega)
  have d0 : w3.cell? ⟨w.heap.size, 0, none⟩ = some (.int .i64 p) := cell_sel1 a0.c0 g3 (by omega)
  have d1 : w3.cell? ⟨w.heap.size, 1, none⟩ = some (.int .i64 q) := cell_sel1 a0.c1 g3 (by omega)
  have hgw : w.grownBy w3 (some b) := hg0.andThen g3 (fun j hj => by cases hj; exact .inr rfl)
  have h3 := hP.own.lookup_int pt_keyed Try.underlying81 Try.underlying3 (zeroT w3) (pt_key hp hq)
  obtain ⟨c, hlk, hat, -⟩ := h3
  have hce : c = valM M (p, q) + v := by
    have q1 := hP.at' p q hp hq
    rw [hat, if_pos rfl] at q1
    exact litT_inj q1
  rw [hce] at hlk
  have HE := Lib.hid (fun hv0 => mapM_put (w := w.alloc (.cells #[.int .i64 p, .int .i64 q] 27)) hM hp hq hD0 hv0 ho)
  have HX : Hid (wrap64 (x + v) = x + v ∧ IntKind.i64.wrap (x + v) = x + v) := ⟨IntWalk.wrap64_in _ (by omega), IntWalk.i64_in _ (by omega)⟩
  have HP := Lib.hid hP
  rw [← hx] at r2 r3 hlk HE
  obtain ⟨s, hs⟩ : ∃ s, s = x + v := ⟨_, rfl⟩
  have f1 : wrap64 (x + v) = s := by rw [HX.out.1, hs]
  have f2 : IntKind.i64.wrap (x + v) = s := by rw [HX.out.2, hs]
  rw [← hs] at r3 hlk HE
  have HS := Lib.hid (And.intro hx hs)
  have R1 := Lib.hid r1; have R3 := Lib.hid r3
  have HG := Lib.hid hgw
  clear hx hs r1 r3 HX hce hat hwf hP ho hD hD0 hg0 hb0 a0 g3 gs hv hv2 hgw
  go_enter Try.func95, Try.ntmps95
  go_wp2_with fail
  refine region_entry 5 sel 0 es0 _ _ _ (by rfl) (by rfl) (by rfl) (by rfl) (by rfl) (by rfl) (by kernel_rfl) (by kernel_rfl) ?_
  simp only [List.take_succ_cons, List.take_zero]
  repeat (first
    | go_big_quiet_step (fail)
    | quiet_step (fail))
  refine wpQuiet_nil ?_
  refine ⟨.tuple #[v0, goInt st], 1, goInt st, w3, entry_op rfl rfl rfl R1.out, extract_op rfl rfl rfl, store_op rfl rfl rfl rfl R3.out, ?_⟩
  clear r2 es0 c0 c1 R1 R3 f1 f2
  go_simp
  by_cases hz : s = 0
  · have HO := HP.out.own
    subst hz
    go_wp2_with (first
      | (at_delete; refine wpList_delete_own _ rfl _ _ 81 27 rfl 3 pt_keyed Try.underlying81 _ b (n + 1) _ rfl HO (.agg #[.int .i64 p, .int .i64 q]) (kl p q) rfl (pt_key hp hq) ?_; intro w4 hown4 hturn4)
      | go_in)
    go_end0
    exact ⟨⟨_, rfl⟩, mapM_del hM hp hq HP.out (by have := HS.out.2; have := HS.out.1; omega) hown4, HG.out.andThen hturn4.grown (fun j hj => by cases hj; exact .inr rfl)⟩
  · have hz' : (s == 0) = false := beq_eq_false_iff_ne.2 hz
    go_wp2_with fail
    go_end0
    exact ⟨⟨_, rfl⟩, HE.out (by have := HS.out.2; have := HS.out.1; omega), HG.out⟩
end Go.Proofs.Ytbmeemmihkedoaa

/-! Sum -/
namespace Go.Proofs.Ytbmeemmihkedoaa
open Go.RowKit Go.Shelf Go.Sort
attribute [local go_sem] Oper.semAt_some

def sumL (f : Nat → Int) (l : List Nat) : Int := l.foldl (fun s i => s + f i) 0
theorem sumL_snoc (f : Nat → Int) (l : List Nat) (x : Nat) : sumL f (l ++ [x]) = sumL f l + f x := by simp [sumL]
theorem sumL_range (f : Nat → Int) (n : Nat) : sumL f (List.range n) = sumT f n := by
  induction n with
  | zero => rfl
  | succ n ih => rw [List.range_succ, sumL_snoc, ih]; rfl
theorem sumL_abs {f : Nat → Int} {m : Nat} (h : ∀ i, (f i).natAbs ≤ m) (l : List Nat) : (sumL f l).natAbs ≤ l.length * m := by
  have key : ∀ (l : List Nat) (s : Int), (l.foldl (fun s i => s + f i) s).natAbs ≤ s.natAbs + l.length * m := by
    intro l
    induction l with
    | nil => intro s; simp
    | cons x l ih =>
      intro s
      have h1 := ih (s + f x)
      have h2 := h x
      have e : (x :: l).length * m = l.length * m + m := Nat.succ_mul _ _
      rw [List.foldl_cons]
      omega
  have := key l 0
  simp only [Int.natAbs_zero, Nat.zero_add] at this
  exact this

theorem prod_bd {x y : Int} (hx : 0 ≤ x ∧ x ≤ 40) (hy : 0 ≤ y ∧ y ≤ 40) : 0 ≤ x * y ∧ x * y ≤ 1600 :=
  ⟨Int.mul_nonneg hx.1 hy.1, Int.le_trans (Int.mul_le_mul hx.2 hy.2 hy.1 (by omega)) (by omega)⟩
theorem area_bd {ax ay bx by' : Int} (ha : okP ax ay = true) (hb : okP bx by' = true) : (ax * by' - ay * bx).natAbs ≤ 1600 := by
  have h1 := okP_bounds ha; have h2 := okP_bounds hb
  have p1 := prod_bd (x := ax) (y := by') (by omega) (by omega)
  have p2 := prod_bd (x := ay) (y := bx) (by omega) (by omega)
  omega
theorem crossM_ok (ax ay bx by' : Int) (w : World) (ha : okP ax ay = true) (hb : okP bx by' = true) :
    Calls Try.prog 111 #[(.agg #[.int .i64 ax, .int .i64 ay]), (.agg #[.int .i64 bx, .int .i64 by'])] w fun e w' => e = .returned (.int .i64 (ax * by' - ay * bx)) ∧ Below w.heap.size w w' := by
  have h1 := okP_bounds ha; have h2 := okP_bounds hb
  have p1 := prod_bd (x := ax) (y := by') (by omega) (by omega)
  have p2 := prod_bd (x := ay) (y := bx) (by omega) (by omega)
  have e : wrap64 (wrap64 (ax * by') - wrap64 (ay * bx)) = ax * by' - ay * bx := by
    rw [IntWalk.wrap64_in (ax * by') (by omega), IntWalk.wrap64_in (ay * bx) (by omega), IntWalk.wrap64_in _ (by omega)]
  rw [← e]
  exact crossM_any ax ay bx by' w

set_option maxRecDepth 100000 in
set_option maxHeartbeats 4000000 in
theorem impl_twice_yes (A : Option Addr) (c : Nat) (L : List (Int × Int)) (w : World) (hA : PtsA w A L) (hp : polyB L = true) :
    Calls Try.prog 54 #[.slice A L.length c] w fun e w' => e = .returned (.int .i64 (twiceI L)) ∧ Below w.heap.size w w' := by
  obtain ⟨h3, h10, hok⟩ := polyB_all hp
  refine (callsIn_wide (n := 6)).1 ?_
  refine callsIn_of_wp_marks Try.func54 rfl trivial ?_ rfl
  simp only [Try.ntmps54, List.size_toArray, List.length_cons, List.length_nil, Nat.reduceAdd, Nat.reduceSub, Array.replicate_succ, Array.replicate_zero, List.push_toArray, List.append_toArray, List.nil_append, List.cons_append]
  have PC := Lib.hid (impl_poly A c L w hA (by omega))
  rw [hp] at PC
  gi_wp2
  refine ⟨trivial, (wide0.calls PC.out).mono ?_⟩
  rintro e w1 ⟨rfl, hb1⟩
  gi_wp2
  refine ⟨trivial, (wide0.calls (sides_any A L.length c _)).mono ?_⟩
  rintro e w2 ⟨rfl, rfl⟩
  gi_wp2
  have bS := (Boxed.new w1 3 (.int .i64 0)).alloc (.cells #[.slice A L.length c] 35)
  have bN := Boxed.new (w1.alloc (.cells #[.int .i64 0] 3)) 35 (.slice A L.length c)
  simp only [World.size_alloc] at bN
  have hs1 := hb1.size
  have hB0 : Below w.heap.size w ((w1.alloc (.cells #[.int .i64 0] 3)).alloc (.cells #[.slice A L.length c] 35)) := (hb1.alloc hs1 _).alloc (by simp; omega) _
  have hsz : ((w1.alloc (.cells #[.int .i64 0] 3)).alloc (.cells #[.slice A L.length c] 35)).heap.size = w1.heap.size + 2 := by simp
  obtain ⟨W0, hW0⟩ : ∃ W0, (w1.alloc (.cells #[.int .i64 0] 3)).alloc (.cells #[.slice A L.length c] 35) = W0 := ⟨_, rfl⟩
  rw [hW0] at bS bN hB0 hsz ⊢
  clear hW0
  refine wpIn_rangeFunc_ownH rfl (by decide) (gf := 160) (lb := #[.pointer (some ⟨w1.heap.size + 1, 0, none⟩)]) rfl trivial (enters_of Try.func160 (by kernel_rfl) rfl)
    (sides_stops 5 (w1.heap.size + 1) A c L w W0 (by omega) (by omega) hA hB0 (by omega) bN.cell) keepP_t (keepP_b (by omega) (by omega)) (Below.refl _ _) (fun _ => rfl)
    (fun pre W => (Boxed W w1.heap.size 3 (.int .i64 (sumL (twiceT L) pre)) ∧ Boxed W (w1.heap.size + 1) 35 (.slice A L.length c)) ∧ Below w.heap.size w W)
    (fun _ _ _ => False)
    (OwnFrom.and (OwnFrom.and (Own.from (boxed_own _ _ _) _) (Own.from (boxed_own _ _ _) _)) (ownFrom_below (Nat.le_refl _) (by omega)))
    (fun _ => ownFrom_pure _ (fun _ => False))
    ⟨⟨bS, bN⟩, hB0⟩
    (fun x a' W => ∃ Bx, w1.heap.size + 1 < Bx ∧ SideAt W Bx L x ∧ a' = { tmps := #[.slice A L.length c, undef, .int .i64 0, .pointer (some ⟨w1.heap.size, 0, none⟩), undef, .pointer (some ⟨Bx, 0, none⟩), .slice A L.length c, .bool true, .bool false, .slice A L.length c, .func (.func 160) #[] #[.pointer (some ⟨w1.heap.size + 1, 0, none⟩)], .int .i64 (x : Int), .agg #[.int .i64 (gt L x).1, .int .i64 (gt L x).2, .int .i64 (gt L (nx L x)).1, .int .i64 (gt L (nx L x)).2], undef, undef, undef, undef, undef, undef, undef, undef], defers := [] })
    (fun x a' _ X Y row hs hg hr => by obtain ⟨Bx, e1, e2, e3⟩ := hs; exact ⟨Bx, e1, sideAt_own Bx L x _ () X Y row e2 hg hr, e3⟩)
    ?assign ?body ?done ?stop
  case assign =>
    rintro l pre x W K ⟨⟨bS1, bN1⟩, hB1⟩ hK
    simp only [sideV]
    gi_wp2
    have hs2 := hB1.size
    exact hK _ _ (keepsFrom_below (below1 _ _)) (KeepP.of_below (below1 _ _) hs2 bN1.lt) ⟨⟨bS1.alloc _, bN1.alloc _⟩, hB1.alloc hs2 _⟩ ⟨W.heap.size, bN1.lt, sideAt_new W L x, rfl⟩
  case body =>
    rintro l pre x a' W hl - ⟨⟨bS1, bN1⟩, hB1⟩ ⟨Bx, hBx, bX, rfl⟩ hlt
    have cS := bS1.cell
    have fS := bS1.frozen
    obtain ⟨x0, x1, x2, x3⟩ := bX.cells
    obtain ⟨ax, ha⟩ : ∃ ax, ax = (gt L x).1 := ⟨_, rfl⟩
    obtain ⟨ay, hay⟩ : ∃ ay, ay = (gt L x).2 := ⟨_, rfl⟩
    obtain ⟨bx, hbx⟩ : ∃ bx, bx = (gt L (nx L x)).1 := ⟨_, rfl⟩
    obtain ⟨by', hby⟩ : ∃ by', by' = (gt L (nx L x)).2 := ⟨_, rfl⟩
    have oa := gt_ok hok x
    have ob := gt_ok hok (nx L x)
    obtain ⟨s, hs⟩ : ∃ s, s = sumL (twiceT L) pre := ⟨_, rfl⟩
    have sb : s.natAbs ≤ 16000 := by
      have h1 := sumL_abs (f := twiceT L) (m := 1600) (fun i => area_bd (gt_ok hok i) (gt_ok hok (nx L i))) pre
      rw [← hs] at h1
      exact Nat.le_trans h1 (by have := Nat.mul_le_mul_right 1600 (show pre.length ≤ 10 by omega); omega)
    have tb := area_bd oa ob
    have HS : Hid (sumL (twiceT L) (pre ++ [x]) = s + (ax * by' - ay * bx)) := by
      show _ = _
      rw [sumL_snoc, hs, ha, hay, hbx, hby]; rfl
    rw [← ha, ← hay] at oa; rw [← hbx, ← hby] at ob
    rw [← ha, ← hay, ← hbx, ← hby] at tb
    rw [← ha] at x0; rw [← hay] at x1; rw [← hbx] at x2; rw [← hby] at x3
    simp only [← ha, ← hay, ← hbx, ← hby, ← hs] at cS bS1 ⊢
    clear ha hay hbx hby hs
    obtain ⟨t, ht⟩ : ∃ t, t = ax * by' - ay * bx := ⟨_, rfl⟩
    have XC := Lib.hid (fun W => crossM_ok ax ay bx by' W oa ob)
    rw [← ht] at tb HS XC
    clear ht
    have e9 : IntKind.i64.wrap (s + t) = s + t := IntWalk.i64_in _ (by omega)
    have k0 := cell_regrown x0; have k1 := cell_regrown x1; have k2 := cell_regrown x2; have k3 := cell_regrown x3; have k4 := cell_regrown cS
    gi_wp2
    refine region_tail_in 7 (wideR l) (by kernel_rfl) (by kernel_rfl) (by kernel_rfl) ?_
    simp only [List.take_succ_cons, List.take_zero, List.drop_succ_cons, List.drop_zero]
    repeat (first
      | go_big_quiet_step (first | exact Calls.regrown_of (XC.out _))
      | quiet_step (first | exact Calls.regrown_of (XC.out _)))
    refine wpQuiet_nil ?_
    rintro _ ⟨⟨dq, osq⟩, rfl⟩
    have hg := below_regrown W dq osq
    clear k0 k1 k2 k3 k4 x0 x1 x2 x3
    generalize grow (redrawn W dq) osq = W2 at *
    have bS2 := boxed_on bS1 hg
    have bN2 := boxed_on bN1 hg
    have cS2 := bS2.cell
    have fS2 := bS2.frozen
    have hs2 := hB1.size
    gi_wp2
    exact ⟨(keepsFrom_below hg).trans ((KeepsOthers.setCell _ _ _).from _), (KeepP.of_below hg hs2 bN1.lt).setCell (by omega) (by omega) _ _,
      ⟨⟨by rw [HS.out]; exact bS2.set _, bN2.other (by omega) _⟩, (hB1.trans (hg.mono hs2)).setCell (p := ⟨w1.heap.size, 0, none⟩) hs1 _⟩⟩
  case done =>
    rintro D ys W hD rfl ⟨⟨bS1, bN1⟩, hB1⟩ hK
    have cS := bS1.cell
    gi_wp2
    refine ⟨by simp, .inl ⟨_, _, rfl, run_takeDeferred hK, ?_⟩⟩
    exact ⟨_, results_tmp rfl _ _ _, by rw [sumL_range]; rfl, hB1.trans (belowK_b (w := w) (Nat.le_refl _) W D _ _ (by have := hB0.size; omega) hK rfl rfl)⟩
  case stop =>
    rintro D k pre W hD hpre h hK
    exact h.elim
theorem impl_twice (A : Option Addr) (c : Nat) (L : List (Int × Int)) (w : World) (hA : PtsA w A L) (hL : L.length ≤ 1048576) :
    Calls Try.prog 54 #[.slice A L.length c] w fun e w' => e = .returned (.int .i64 (bif polyB L then twiceI L else 0)) ∧ Below w.heap.size w w' := by
  cases hp : polyB L
  · have PC := Lib.hid (impl_poly A c L w hA hL)
    rw [hp] at PC
    go_enter Try.func54, Try.ntmps54
    go_wp2_with fail
    refine PC.out.mono ?_
    rintro e w1 ⟨rfl, hb1⟩
    go_wp2_with fail
    go_ret
    exact ⟨rfl, hb1⟩
  · exact impl_twice_yes A c L w hA hp
end Go.Proofs.Ytbmeemmihkedoaa

/-! SidesG -/
namespace Go.Proofs.Ytbmeemmihkedoaa
open Go.RowKit Go.Shelf Go.Sort
attribute [local go_sem] Oper.semAt_some

def KeepG (g B : Nat) (X Y : World) : Prop := X.heap.size ≤ Y.heap.size ∧ Y.heap[g]? = X.heap[g]? ∧ Y.heap[B]? = X.heap[B]?
theorem KeepG.refl (g B : Nat) (W : World) : KeepG g B W W := ⟨Nat.le_refl _, rfl, rfl⟩
theorem keepG_t {g B : Nat} {X Y Z : World} (h : KeepG g B X Y) (k : KeepG g B Y Z) : KeepG g B X Z := ⟨Nat.le_trans h.1 k.1, k.2.1.trans h.2.1, k.2.2.trans h.2.2⟩
theorem keepG_b {g B : Nat} {w : World} (hg : g < w.heap.size) (hB : B < w.heap.size) (W : World) (l : Nat) (o o' : Obj) (hl : w.heap.size ≤ l) (_ : W.heap[l]? = some o) (_ : o.isCells = false) (_ : o.isWalk = false) : KeepG g B W (W.putObj l o') :=
  ⟨by simp, World.putObj_heap_other (by omega), World.putObj_heap_other (by omega)⟩
theorem KeepG.of_below {g B : Nat} {W W' : World} (h : Below W.heap.size W W') (hg : g < W.heap.size) (hB : B < W.heap.size) : KeepG g B W W' := ⟨h.size, h.block g hg, h.block B hB⟩
theorem KeepG.of_grown {g B b : Nat} {W W' : World} (h : W.grownBy W' (some b)) (hg : g < W.heap.size) (hB : B < W.heap.size) (h1 : g ≠ b) (h2 : B ≠ b) : KeepG g B W W' :=
  ⟨h.size, h.block g hg (fun e => h1 (Option.some.inj e)), h.block B hB (fun e => h2 (Option.some.inj e))⟩
theorem ptsA_same {X Y : World} {g : Nat} {L : List (Int × Int)} (h : Y.heap[g]? = X.heap[g]?) (hA : PtsA X (some ⟨g, 0, none⟩) L) : PtsA Y (some ⟨g, 0, none⟩) L := fun k hk => by
  obtain ⟨g', e, h1, h2⟩ := hA k hk
  cases e
  exact ⟨g, rfl, cell_same h h1, cell_same h h2⟩
set_option maxRecDepth 100000 in
set_option maxHeartbeats 4000000 in
theorem sidesG1 (n l Bs g c : Nat) (L : List (Int × Int)) (h1 : 1 ≤ L.length) (h2 : L.length ≤ 1048576) (J Jx : List Nat → World → Prop) (W : World) (hJ : AbidesFrom W.heap.size J)
    (hY : ∀ (pre : List Nat) (x : Nat) (W1 : World), x < L.length → J pre W1 → pre.length < L.length → YieldAt Fence.wide (n - 1) Try.prog l #[.int .i64 (x : Int), sideV L x] W1 fun e W' =>
      (e = .returned (.bool true) ∧ J (pre ++ [x]) W' ∧ KeepG g Bs W1 W') ∨ (e = .returned (.bool false) ∧ Jx (pre ++ [x]) W'))
    (hgl : g < W.heap.size) (hA : PtsA W (some ⟨g, 0, none⟩) L) (hBl : Bs < W.heap.size) (hBs : W.cell? ⟨Bs, 0, none⟩ = some (.slice (some ⟨g, 0, none⟩) L.length c)) (h0 : J [] W) :
    CallsIn Fence.wide n Try.prog 160 #[.func (.yield l) #[] #[], .pointer (some ⟨Bs, 0, none⟩)] W fun e W' => (∃ v, e = .returned v) ∧
      ((∃ ys, ys = List.range L.length ∧ J ys W') ∨ (∃ pre, (∃ k, k ≤ L.length ∧ pre = List.range k) ∧ Jx pre W')) := by
  have HA := Lib.hid hA; clear hA
  refine callsIn_of_wp Try.func160 rfl trivial ?_ rfl
  simp only [Try.ntmps160, List.size_toArray, List.length_cons, List.length_nil, Nat.reduceAdd, Nat.reduceSub, Array.replicate_succ, Array.replicate_zero, List.push_toArray, List.append_toArray, List.nil_append, List.cons_append]
  gi_wp2
  gi_loopw [7] (fun i wr => ∃ k : Nat, k ≤ L.length ∧ i = .int .i64 k ∧ J (List.range k) wr ∧ KeepG g Bs W wr)
    (fun i _ => L.length - (intOf i).toNat)
  case atStart => exact ⟨0, Nat.zero_le _, rfl, h0, KeepG.refl _ _ _⟩
  case round =>
    obtain ⟨k, hk, rfl, hJs, hnx⟩ := hrel
    have hsz : W.heap.size ≤ wr.heap.size := hnx.1
    have hbox : wr.cell? ⟨Bs, 0, none⟩ = some (.slice (some ⟨g, 0, none⟩) L.length c) := cell_same hnx.2.2 hBs
    by_cases hlt : k < L.length
    · obtain ⟨c1, c2⟩ := gt_cells (ptsA_same hnx.2.1 HA.out) hlt
      obtain ⟨m, hm⟩ : ∃ m, m = nx L k := ⟨_, rfl⟩
      have hml : m < L.length := by rw [hm]; exact (next_int (i := k) h1).2
      have e2 : ((k : Int) + 1) % (L.length : Int) = (m : Int) := by rw [hm]; unfold nx; exact (Int.natCast_emod (k + 1) L.length).symm
      obtain ⟨d1, d2⟩ := gt_cells (ptsA_same hnx.2.1 HA.out) hml
      obtain ⟨x, hx⟩ : ∃ x, x = (gt L k).1 := ⟨_, rfl⟩
      obtain ⟨y, hy⟩ : ∃ y, y = (gt L k).2 := ⟨_, rfl⟩
      obtain ⟨x', hx'⟩ : ∃ x', x' = (gt L m).1 := ⟨_, rfl⟩
      obtain ⟨y', hy'⟩ : ∃ y', y' = (gt L m).2 := ⟨_, rfl⟩
      rw [← hx] at c1; rw [← hy] at c2; rw [← hx'] at d1; rw [← hy'] at d2
      have HV : Hid (sideV L k = .agg #[.int .i64 x, .int .i64 y, .int .i64 x', .int .i64 y']) := by
        show _ = _
        rw [hx, hy, hx', hy', hm]; rfl
      clear hx hy hx' hy' hm
      have hb0 := below1 wr (.cells #[.int .i64 x, .int .i64 y] 27)
      have A0 := at_new wr x y 27
      have k1 := cell_regrown A0.c0
      have k2 := cell_regrown A0.c1
      have k3 := cell_regrown (cell_on hb0 rfl d1)
      have k4 := cell_regrown (cell_on hb0 rfl d2)
      have k5 := cell_regrown (cell_on hb0 rfl hbox)
      have hJ1 : J (List.range k) (wr.alloc (.cells #[.int .i64 x, .int .i64 y] 27)) := hJ _ _ _ none hJs (grown_of_below hb0) (fun r e => by cases e)
      gi_wp2
      refine region_tail_in 12 wide0 (by kernel_rfl) (by kernel_rfl) (by kernel_rfl) ?_
      simp only [List.take_succ_cons, List.take_zero, List.drop_succ_cons, List.drop_zero]
      repeat (first
        | go_big_quiet_step (fail)
        | quiet_step (fail))
      refine wpQuiet_nil ?_
      rintro _ ⟨⟨dq, osq⟩, rfl⟩
      have hb1 := hb0.trans ((below_regrown _ dq osq).mono (by simp))
      have hJ2 : J (List.range k) (grow (redrawn (wr.alloc (.cells #[.int .i64 x, .int .i64 y] 27)) dq) osq) := hJ _ _ _ none hJs (grown_of_below hb1) (fun r e => by cases e)
      clear k1 k2 k3 k4 k5 c1 c2 d1 d2 hJ1 A0
      generalize grow (redrawn (wr.alloc (.cells #[.int .i64 x, .int .i64 y] 27)) dq) osq = w2 at *
      obtain ⟨fn, tmps, assign, body, hy, hR⟩ := hY _ k w2 hlt hJ2 (by rw [List.length_range]; exact hlt)
      rw [HV.out] at hy
      gi_wp2
      refine ⟨fun e => (by cases e), hR.mono ?_⟩
      have hk2 : KeepG g Bs W w2 := keepG_t hnx (KeepG.of_below hb1 (by omega) (by omega))
      rintro e W3 (⟨rfl, hJ3, hk3⟩ | ⟨rfl, hJx3⟩)
      · gi_wp2
        go_roundw
        case rel => exact ⟨k + 1, by omega, by go_num, by rw [List.range_succ]; exact hJ3, keepG_t hk2 hk3⟩
        case measure => simp [intOf]; omega
      · gi_wp2
        refine bodyPost_ret (results_none rfl _ _ _) rfl ?_
        exact ⟨⟨_, rfl⟩, .inr ⟨_, ⟨k + 1, by omega, List.range_succ.symm⟩, hJx3⟩⟩
    · obtain rfl : k = L.length := by omega
      gi_wp2
      go_end0
      exact ⟨⟨_, rfl⟩, .inl ⟨_, rfl, hJs⟩⟩
/-- **The iterator of the sides.** -/
theorem sidesG_stops (n Bs g c : Nat) (L : List (Int × Int)) (w : World) (h1 : 1 ≤ L.length) (h2 : L.length ≤ 1048576) (hgl : g < w.heap.size) (hA : PtsA w (some ⟨g, 0, none⟩) L) (hBl : Bs < w.heap.size) (hBs : w.cell? ⟨Bs, 0, none⟩ = some (.slice (some ⟨g, 0, none⟩) L.length c)) :
    SeqStopsK Fence.wide n Try.prog 160 #[.pointer (some ⟨Bs, 0, none⟩)] (fun i : Nat => #[.int .i64 (i : Int), sideV L (i % L.length)]) (KeepG g Bs) (fun ys => ys = List.range L.length) (fun pre => ∃ k, k ≤ L.length ∧ pre = List.range k) L.length w := fun l J Jx W hW hJ _ hY h0 =>
  sidesG1 n l Bs g c L h1 h2 J Jx W hJ (fun pre x W1 hx => by have := hY pre x W1; simp only [Nat.mod_eq_of_lt hx] at this; exact this) (Nat.lt_of_lt_of_le hgl hW.size) (ptsA_on hA hW) (Nat.lt_of_lt_of_le hBl hW.size) ((hW.cell (p := ⟨Bs, 0, none⟩) hBl).trans hBs) h0
/-- The iterator over no points. -/
theorem sidesN_stops (n Bs c : Nat) (A : Option Addr) (w : World) (hBl : Bs < w.heap.size) (hBs : w.cell? ⟨Bs, 0, none⟩ = some (.slice A 0 c)) :
    SeqStopsK Fence.wide n Try.prog 160 #[.pointer (some ⟨Bs, 0, none⟩)] (fun i : Nat => #[.int .i64 (i : Int), sideV [] i]) (KeepG 0 Bs) (fun ys => ys = []) (fun pre => pre = []) 0 w := fun l J Jx W hW hJ _ hY h0 => by
  have hbox := (hW.cell (p := ⟨Bs, 0, none⟩) hBl).trans hBs
  refine callsIn_of_wp Try.func160 rfl trivial ?_ rfl
  simp only [Try.ntmps160, List.size_toArray, List.length_cons, List.length_nil, Nat.reduceAdd, Nat.reduceSub, Array.replicate_succ, Array.replicate_zero, List.push_toArray, List.append_toArray, List.nil_append, List.cons_append]
  gi_wp2
  gi_loopw [7] (fun i wr => i = .int .i64 0 ∧ J [] wr) (fun i _ => 0)
  case atStart => exact ⟨rfl, h0⟩
  case round =>
    obtain ⟨rfl, hJs⟩ := hrel
    gi_wp2
    go_end0
    exact ⟨⟨_, rfl⟩, .inl ⟨_, rfl, hJs⟩⟩
end Go.Proofs.Ytbmeemmihkedoaa

/-! Ints -/
namespace Go.Proofs.Ytbmeemmihkedoaa
open Go.RowKit

/-- The cells of a slice of ints. -/
def ints (M : List Int) : List Value := M.map fun n => .int .i64 n
theorem ints_len (M : List Int) : (ints M).length = M.length := by simp [ints]
theorem ints_snoc (M : List Int) (n : Int) : ints (M ++ [n]) = ints M ++ [.int .i64 n] := by simp [ints]
def IntsA (w : World) (A : Option Addr) (M : List Int) : Prop := ∀ k (h : k < M.length), ∃ g, A = some ⟨g, 0, none⟩ ∧ w.cell? ⟨g, k, none⟩ = some (.int .i64 M[k])
theorem intsA_on {w w' : World} {A : Option Addr} {M : List Int} (h : IntsA w A M) (hb : Below w.heap.size w w') : IntsA w' A M := fun k hk => by
  obtain ⟨g, hA, h1⟩ := h k hk
  exact ⟨g, hA, cell_on hb rfl h1⟩
theorem own_ints {w : World} {B : Nat} {e : TypeId} {v : Value} {n : Nat} {M : List Int} (h : w.ownsRow B e 1 v n (ints M)) :
    n = M.length ∧ ∃ A c, v = .slice A M.length c ∧ IntsA w A M := by
  have hl : M.length = n := by have := h.1; rw [ints_len] at this; omega
  refine ⟨hl.symm, ?_⟩
  subst hl
  rcases h.2 with ⟨rfl, h0⟩ | ⟨g, cap, cur, rfl, hg, hh, _⟩
  · exact ⟨none, 0, by rw [h0], fun k hk => by omega⟩
  · refine ⟨some ⟨g, 0, none⟩, cap, rfl, fun k hk => ⟨g, rfl, ?_⟩⟩
    rw [h.cellAt k (by omega)]
    simp [ints, hk]
def IxAt (M : List Int) (x z : Int) : Prop := (z = -1 ∧ x ∉ M) ∨ ∃ k : Nat, k < M.length ∧ z = k ∧ x ∈ M
set_option maxRecDepth 100000 in
set_option maxHeartbeats 1000000 in
theorem ix_any (A : Option Addr) (c : Nat) (M : List Int) (x : Int) (w : World) (hP : IntsA w A M) (hL : M.length ≤ 1048576) :
    Calls Try.prog 186 #[.slice A M.length c, .int .i64 x] w fun e w' => (∃ z : Int, e = .returned (.int .i64 z) ∧ IxAt M x z) ∧ w' = w := by
  have HP := Lib.hid hP; clear hP
  have HID : Hid (∀ z, IxAt M x z ↔ ((z = -1 ∧ x ∉ M) ∨ ∃ k : Nat, k < M.length ∧ z = k ∧ x ∈ M)) := fun _ => Iff.rfl
  go_enter Try.func186, Try.ntmps186
  go_wp2_with fail
  go_loop [5, 8] (fun _ i => ∃ k : Nat, k ≤ M.length ∧ i = .int .i64 k ∧ Hid (∀ j (h : j < M.length), j < k → M[j] ≠ x)) (fun _ i => M.length - (intOf i).toNat)
  case atStart => exact ⟨0, Nat.zero_le _, rfl, fun j _ hj => by omega⟩
  case round =>
    obtain ⟨k, hk, rfl, HN⟩ := hrel
    by_cases hlt : k < M.length
    · obtain ⟨g1, rfl, hc⟩ := HP.out k hlt
      obtain ⟨p, hp⟩ : ∃ p, p = M[k] := ⟨_, rfl⟩
      rw [← hp] at hc
      have HPQ := Lib.hid hp
      clear hp
      by_cases he : x = p
      · have HY : Hid (IxAt M x k) := .inr ⟨k, hlt, rfl, by rw [he, HPQ.out]; exact List.getElem_mem hlt⟩
        subst he
        go_wp2_with fail
        go_ret
        exact ⟨⟨_, rfl, HY.out⟩, rfl⟩
      · have HN2 : Hid (∀ j (h : j < M.length), j < k + 1 → M[j] ≠ x) := fun j h hj => by
          rcases Nat.lt_or_ge j k with h1 | h1
          · exact HN.out j h h1
          · obtain rfl : j = k := by omega
            intro e
            exact he (by rw [HPQ.out, e])
        have he2 : (x == p) = false := by simpa using he
        go_wp2_with fail
        go_round
        case rel => exact ⟨k + 1, by omega, by go_num, HN2⟩
        case measure => simp [intOf]; omega
    · have HY : Hid (IxAt M x (-1)) := .inl ⟨rfl, fun h => by
        obtain ⟨j, hj, e⟩ := List.getElem_of_mem h
        exact HN.out j hj (by omega) e⟩
      go_wp2_with fail
      go_ret
      exact ⟨⟨_, rfl, HY.out⟩, rfl⟩
theorem hasI_any (A : Option Addr) (c : Nat) (M : List Int) (x : Int) (w : World) (hP : IntsA w A M) (hL : M.length ≤ 1048576) :
    Calls Try.prog 163 #[.slice A M.length c, .int .i64 x] w fun e w' => e = .returned (.bool (decide (x ∈ M))) ∧ w' = w := by
  have HX := Lib.hid (fun w hP => ix_any A c M x w hP hL)
  have HP := Lib.hid hP; clear hP
  go_enter Try.func163, Try.ntmps163
  go_wp2_with fail
  refine (HX.out w HP.out).mono ?_
  rintro e w1 ⟨⟨z, rfl, hz⟩, rfl⟩
  have HD : Hid (decide (0 ≤ z) = decide (x ∈ M)) := by
    show _ = _
    rcases hz with ⟨rfl, h⟩ | ⟨k, _, rfl, h⟩
    · simp [h]
    · simp [h]
  clear hz
  go_wp2_with fail
  go_ret
  exact ⟨ret_bool HD.out, rfl⟩
def bothB (M : List Int) : Bool := decide ((1 : Int) ∈ M) && decide ((-1 : Int) ∈ M)
theorem both_any (A : Option Addr) (c : Nat) (M : List Int) (w : World) (hP : IntsA w A M) (hL : M.length ≤ 1048576) :
    Calls Try.prog 116 #[.slice A M.length c] w fun e w' => e = .returned (.bool (bothB M)) ∧ w' = w := by
  have HX := Lib.hid (fun x w hP => hasI_any A c M x w hP hL)
  have HP := Lib.hid hP; clear hP
  have HB : Hid (bothB M = (decide ((1 : Int) ∈ M) && decide ((-1 : Int) ∈ M))) := rfl
  cases h1 : decide ((1 : Int) ∈ M)
  all_goals (
    rw [h1] at HB
    have H1 := HX.out 1 w HP.out
    rw [h1] at H1
    have H1 := Lib.hid H1
    go_enter Try.func116, Try.ntmps116
    go_wp2_with fail
    refine H1.out.mono ?_
    rintro e w1 ⟨rfl, rfl⟩
    go_wp2_with fail)
  · go_ret
    exact ⟨ret_bool HB.out.symm, rfl⟩
  · refine (HX.out (-1) _ HP.out).mono ?_
    rintro e w1 ⟨rfl, rfl⟩
    go_wp2_with fail
    go_ret
    exact ⟨ret_bool HB.out.symm, rfl⟩

/-! ### The least and the greatest of signs -/
def loT (f : Nat → Int) : Nat → Int
  | 0 => 0
  | k + 1 => if f k < loT f k then f k else loT f k
def hiT (f : Nat → Int) : Nat → Int
  | 0 => 0
  | k + 1 => if hiT f k < f k then f k else hiT f k
theorem lohi_aux {f : Nat → Int} (hf : ∀ i, f i = 1 ∨ f i = -1 ∨ f i = 0) : ∀ k, (loT f k = if ∃ j, j < k ∧ f j = -1 then -1 else 0) ∧ (hiT f k = if ∃ j, j < k ∧ f j = 1 then 1 else 0) := by
  intro k
  induction k with
  | zero => simp [loT, hiT]
  | succ k ih =>
    obtain ⟨h1, h2⟩ := ih
    have hs : ∀ c : Int, (∃ j, j < k + 1 ∧ f j = c) ↔ (∃ j, j < k ∧ f j = c) ∨ f k = c := by
      intro c
      constructor
      · rintro ⟨j, hj, e⟩
        rcases Nat.lt_or_ge j k with h | h
        · exact .inl ⟨j, h, e⟩
        · obtain rfl : j = k := by omega
          exact .inr e
      · rintro (⟨j, hj, e⟩ | e)
        · exact ⟨j, by omega, e⟩
        · exact ⟨k, by omega, e⟩
    simp only [loT, hiT, h1, h2, hs]
    constructor
    · by_cases h : ∃ j, j < k ∧ f j = -1
      · rcases hf k with e | e | e <;> simp [h, e]
      · rcases hf k with e | e | e <;> simp [h, e]
    · by_cases h : ∃ j, j < k ∧ f j = 1
      · rcases hf k with e | e | e <;> simp [h, e]
      · rcases hf k with e | e | e <;> simp [h, e]
theorem lohi {f : Nat → Int} (hf : ∀ i, f i = 1 ∨ f i = -1 ∨ f i = 0) (k : Nat) : (loT f k == 0 || hiT f k == 0) = !(bothB ((List.range k).map f)) := by
  obtain ⟨h1, h2⟩ := lohi_aux hf k
  have m1 : ∀ c : Int, c ∈ (List.range k).map f ↔ ∃ j, j < k ∧ f j = c := by intro c; simp
  unfold bothB
  rw [h1, h2]
  simp only [m1]
  by_cases a : ∃ j, j < k ∧ f j = -1 <;> by_cases b : ∃ j, j < k ∧ f j = 1 <;> simp [a, b]
theorem lohi_le {f : Nat → Int} (hf : ∀ i, f i = 1 ∨ f i = -1 ∨ f i = 0) (k : Nat) : (loT f k).natAbs ≤ 1 ∧ (hiT f k).natAbs ≤ 1 := by
  obtain ⟨h1, h2⟩ := lohi_aux hf k
  rw [h1, h2]
  constructor <;> split <;> decide
theorem sgn_three (n : Int) : sgn n = 1 ∨ sgn n = -1 ∨ sgn n = 0 := by
  rcases sgn_cases n with h | h | h
  · exact .inl h.2
  · exact .inr (.inl h.2)
  · exact .inr (.inr h.2)
/-- A function that hands back a new list of ints. -/
def ListsI (w : World) (M : List Int) (e : Ending) (w' : World) : Prop := ∃ v, e = .returned v ∧ w'.ownsRow w.heap.size 3 1 v M.length (ints M) ∧ Below w.heap.size w w'
theorem infoI : (Try.prog.info? 3).map (fun i => (i.zero, i.size, i.bytes)) = some (some (.int .i64 0), 1, 8) := by kernel_rfl
end Go.Proofs.Ytbmeemmihkedoaa

/-! Box -/
namespace Go.Proofs.Ytbmeemmihkedoaa
open Go.RowKit

def minI (x y : Int) : Int := if y < x then y else x
def maxI (x y : Int) : Int := if x < y then y else x
theorem run_minI (w : World) (x y : Int) (ts : Array TypeId) (t : TypeId) : (Builtin.min_ ts t #[.int .i64 x, .int .i64 y]).run Try.prog w = .ok (.int .i64 (minI x y)) w := by
  simp [go_sem, minI]
theorem run_maxI (w : World) (x y : Int) (ts : Array TypeId) (t : TypeId) : (Builtin.max_ ts t #[.int .i64 x, .int .i64 y]).run Try.prog w = .ok (.int .i64 (maxI x y)) w := by
  simp [go_sem, maxI]
def boxStep (s : (Int × Int) × (Int × Int)) (p : Int × Int) : (Int × Int) × (Int × Int) := ((minI s.1.1 p.1, minI s.1.2 p.2), (maxI s.2.1 p.1, maxI s.2.2 p.2))
def boxTill (L : List (Int × Int)) : Nat → (Int × Int) × (Int × Int)
  | 0 => (gt L 0, gt L 0)
  | k + 1 => boxStep (boxTill L k) (gt L k)
def ptV (p : Int × Int) : Value := .agg #[.int .i64 p.1, .int .i64 p.2]
def boxR (L : List (Int × Int)) : Value := bif polyB L then .tuple #[ptV (boxTill L L.length).1, ptV (boxTill L L.length).2, .bool true] else .tuple #[ptV (0, 0), ptV (0, 0), .bool false]


set_option maxRecDepth 100000 in
set_option maxHeartbeats 4000000 in
theorem impl_box (A : Option Addr) (c : Nat) (L : List (Int × Int)) (w : World) (hA : PtsA w A L) (hL : L.length ≤ 1048576) :
    Calls Try.prog 103 #[.slice A L.length c] w fun e w' => e = .returned (boxR L) ∧ Below w.heap.size w w' := by
  have hb0 := below2 w (.cells #[.int .i64 0, .int .i64 0] 27) (.cells #[.int .i64 0, .int .i64 0] 27)
  have PC := Lib.hid (fun (W : World) (hb : Below w.heap.size w W) => impl_poly A c L W (ptsA_on hA hb) hL)
  have a1 := (at_new w 0 0 27).alloc (.cells #[.int .i64 0, .int .i64 0] 27)
  have a2 := at_new (w.alloc (.cells #[.int .i64 0, .int .i64 0] 27)) 0 0 27
  rw [size_alloc] at a2
  cases hp : polyB L
  · have HR : Hid (boxR L = .tuple #[.agg #[.int .i64 0, .int .i64 0], .agg #[.int .i64 0, .int .i64 0], .bool false]) := by
      show _ = _
      rw [boxR, hp]; rfl
    rw [hp] at PC
    clear hA
    go_enter Try.func103, Try.ntmps103
    go_wp2_with fail
    refine (PC.out _ hb0).mono ?_
    rintro e w1 ⟨rfl, hb1⟩
    have b1 := hb0.trans (hb1.mono hb0.size)
    have r1 := a1.step hb1
    have r2 := a2.step hb1
    have c1 := r1.c0; have c2 := r1.c1; have c3 := r2.c0; have c4 := r2.c1
    have f1 := at_frozen r1 0; have f2 := at_frozen r1 1; have f3 := at_frozen r2 0; have f4 := at_frozen r2 1
    have e1 := at_store1 (at_store r1 0 0) 0
    have e2 := at_set (at_set r2 (b := w.heap.size) (by omega) 0 (.int .i64 0)) (b := w.heap.size) (by omega) 1 (.int .i64 0)
    have e3 := at_store1 (at_store e2 0 0) 0
    have e4 := at_set (at_set e1 (b := w.heap.size + 1) (by omega) 0 (.int .i64 0)) (b := w.heap.size + 1) (by omega) 1 (.int .i64 0)
    have q1 := e2.c0; have q2 := e2.c1; have q3 := at_frozen e2 0; have q4 := at_frozen e2 1
    have d1 := e4.c0; have d2 := e4.c1; have d3 := e3.c0; have d4 := e3.c1
    have hsw : w.heap.size ≤ w.heap.size + 1 := Nat.le_succ _
    have bE := (((b1.setCell (p := ⟨w.heap.size, 0, none⟩) (Nat.le_refl _) (.int .i64 0)).setCell (p := ⟨w.heap.size, 1, none⟩) (Nat.le_refl _) (.int .i64 0)).setCell (p := ⟨w.heap.size + 1, 0, none⟩) hsw (.int .i64 0)).setCell (p := ⟨w.heap.size + 1, 1, none⟩) hsw (.int .i64 0)
    clear hb1 b1 r1 r2 e1 e2 e3 e4
    go_wp2_with fail
    exact bodyPost_ret (v := .tuple #[.agg #[.int .i64 0, .int .i64 0], .agg #[.int .i64 0, .int .i64 0], .bool false]) (by simp [results, Try.results103, go_sem, d1, d2, d3, d4]) rfl ⟨by rw [HR.out], bE⟩
  · obtain ⟨h3, h10, hok⟩ := polyB_all hp
    obtain ⟨g, rfl, -⟩ := hA 0 (by omega)
    have hmin : ∀ (w : World) (x y : Int) (ts : Array TypeId) (t : TypeId), (Builtin.min_ ts t #[.int .i64 x, .int .i64 y]).run Try.prog w = .ok (.int .i64 (minI x y)) w := run_minI
    have hmax : ∀ (w : World) (x y : Int) (ts : Array TypeId) (t : TypeId), (Builtin.max_ ts t #[.int .i64 x, .int .i64 y]).run Try.prog w = .ok (.int .i64 (maxI x y)) w := run_maxI
    have HR : Hid (boxR L = .tuple #[ptV (boxTill L L.length).1, ptV (boxTill L L.length).2, .bool true]) := by
      show _ = _
      rw [boxR, hp]; rfl
    rw [hp] at PC
    go_enter Try.func103, Try.ntmps103
    go_wp2_with fail
    refine (PC.out _ hb0).mono ?_
    rintro e w1 ⟨rfl, hb1⟩
    have b1 := hb0.trans (hb1.mono hb0.size)
    have hs1 : w.heap.size + 2 ≤ w1.heap.size := by have := hb1.size; simp at this; omega
    have r1 := a1.step hb1
    have r2 := a2.step hb1
    have HA := Lib.hid (ptsA_on hA b1)
    obtain ⟨c1, c2⟩ := gt_cells HA.out (i := 0) (by omega)
    simp only [Nat.zero_mul, Nat.zero_add] at c1 c2
    obtain ⟨X, hX⟩ : ∃ X, X = (gt L 0).1 := ⟨_, rfl⟩
    obtain ⟨Y, hY⟩ : ∃ Y, Y = (gt L 0).2 := ⟨_, rfl⟩
    have H0 : Hid (boxTill L 0 = ((X, Y), (X, Y))) := by
      show _ = _
      rw [hX, hY]; rfl
    rw [← hX] at c1; rw [← hY] at c2
    have d1 := cell_on (below1 w1 (.cells #[.int .i64 X, .int .i64 Y] 27)) rfl c1
    have d2 := cell_on (below1 w1 (.cells #[.int .i64 X, .int .i64 Y] 27)) rfl c2
    have hn1 : (0 : Int) < (L.length : Int) := by omega
    have m1 := fun o => cell_on (below1 w1 o) rfl c1
    have m2 := fun o => cell_on (below1 w1 o) rfl c2
    have m3 := fun o p => cell_on (below2 w1 o p) rfl c1
    have m4 := fun o p => cell_on (below2 w1 o p) rfl c2
    clear hX hY hA hb1 hb0 a1 a2 PC d1 d2
    go_wp2_with fail
    go_region
    · go_wp2_with fail
      obtain ⟨W, hW⟩ : ∃ W, W = ((w1.alloc (.cells #[.int .i64 X, .int .i64 Y] 27)).alloc (.cells #[.int .i64 X, .int .i64 Y] 27)).drew := ⟨_, rfl⟩
      have aL : At W (w1.heap.size) X Y 27 := by rw [hW]; exact (at_new w1 X Y 27).alloc _
      have aH : At W (w1.heap.size + 1) X Y 27 := by rw [hW]; have := at_new (w1.alloc (.cells #[.int .i64 X, .int .i64 Y] 27)) X Y 27; rwa [size_alloc] at this
      have z3 : At W w.heap.size 0 0 27 := by rw [hW]; exact (r1.alloc _).alloc _
      have z4 : At W (w.heap.size + 1) 0 0 27 := by rw [hW]; exact (r2.alloc _).alloc _
      have b3 : Below w.heap.size w W := by rw [hW]; exact (b1.trans ((below2 w1 _ _).mono (by omega))).drew
      have b13 : Below w1.heap.size w1 W := by rw [hW]; exact (below2 w1 _ _).drew
      rw [← hW]
      clear hW c1 c2 r1 r2 b1 m1 m2 m3 m4
      go_loopw [22] (fun i wr => ∃ k : Nat, k ≤ L.length ∧ i = .int .i64 k ∧ At wr (w1.heap.size) (boxTill L k).1.1 (boxTill L k).1.2 27 ∧ At wr (w1.heap.size + 1) (boxTill L k).2.1 (boxTill L k).2.2 27 ∧ At wr w.heap.size 0 0 27 ∧ At wr (w.heap.size + 1) 0 0 27 ∧ Below w.heap.size w wr ∧ Below w1.heap.size w1 wr) (fun i _ => L.length - (intOf i).toNat)
      case atStart => exact ⟨0, Nat.zero_le _, rfl, by rw [H0.out]; exact aL, by rw [H0.out]; exact aH, z3, z4, b3, b13⟩
      case round =>
        clear aL aH z3 z4 b3 b13
        obtain ⟨k, hk, rfl, aL, aH, z3, z4, b3, b13⟩ := hrel
        by_cases hlt : k < L.length
        · obtain ⟨c1, c2⟩ := gt_cells (ptsA_on HA.out b13) hlt
          have HS : Hid (boxTill L (k + 1) = boxStep (boxTill L k) (gt L k)) := rfl
          have hsk := b13.size
          obtain ⟨x, hx⟩ : ∃ x, x = (gt L k).1 := ⟨_, rfl⟩
          obtain ⟨y, hy⟩ : ∃ y, y = (gt L k).2 := ⟨_, rfl⟩
          obtain ⟨lx, hlx⟩ : ∃ lx, lx = (boxTill L k).1.1 := ⟨_, rfl⟩
          obtain ⟨ly, hly⟩ : ∃ ly, ly = (boxTill L k).1.2 := ⟨_, rfl⟩
          obtain ⟨hx', hhx⟩ : ∃ hx', hx' = (boxTill L k).2.1 := ⟨_, rfl⟩
          obtain ⟨hy', hhy⟩ : ∃ hy', hy' = (boxTill L k).2.2 := ⟨_, rfl⟩
          have HT : Hid (boxTill L (k + 1) = ((minI lx x, minI ly y), (maxI hx' x, maxI hy' y))) := by
            show _ = _
            rw [HS.out, hx, hy, hlx, hly, hhx, hhy]; rfl
          rw [← hx] at c1; rw [← hy] at c2; rw [← hlx, ← hly] at aL; rw [← hhx, ← hhy] at aH
          clear hx hy hlx hly hhx hhy HS
          have hl1 := aL.lt
          have hl2 := aH.lt
          have a0 := at_new wr x y 27
          have aL1 := aL.alloc (.cells #[.int .i64 x, .int .i64 y] 27)
          have aH1 := aH.alloc (.cells #[.int .i64 x, .int .i64 y] 27)
          have y3 := z3.alloc (.cells #[.int .i64 x, .int .i64 y] 27)
          have y4 := z4.alloc (.cells #[.int .i64 x, .int .i64 y] 27)
          have bb := b3.alloc b3.size (.cells #[.int .i64 x, .int .i64 y] 27)
          have bb13 := b13.alloc hsk (.cells #[.int .i64 x, .int .i64 y] 27)
          have l1 := aL1.c0; have l2 := aL1.c1; have p1 := a0.c0; have p2 := a0.c1
          have g1 := at_frozen aL1 0; have g2 := at_frozen aL1 1
          have aL2 := at_store1 (at_store aL1 (minI lx x) 0) (minI ly y)
          have aH2 := at_set (at_set aH1 (b := w1.heap.size) (by omega) 0 (.int .i64 (minI lx x))) (b := w1.heap.size) (by omega) 1 (.int .i64 (minI ly y))
          have a02 := at_set (at_set a0 (b := w1.heap.size) (by omega) 0 (.int .i64 (minI lx x))) (b := w1.heap.size) (by omega) 1 (.int .i64 (minI ly y))
          have l3 := (at_store aL1 (minI lx x) 0).c1
          have h1 := aH2.c0; have h2 := aH2.c1; have p3 := a02.c0; have p4 := a02.c1
          have g3 := at_frozen aH2 0; have g4 := at_frozen aH2 1
          have h4 := (at_store aH2 (maxI hx' x) 0).c1
          have aH3 := at_store1 (at_store aH2 (maxI hx' x) 0) (maxI hy' y)
          have aL3 := at_set (at_set aL2 (b := w1.heap.size + 1) (by omega) 0 (.int .i64 (maxI hx' x))) (b := w1.heap.size + 1) (by omega) 1 (.int .i64 (maxI hy' y))
          have y3' := at_set (at_set (at_set (at_set y3 (b := w1.heap.size) (by omega) 0 (.int .i64 (minI lx x))) (b := w1.heap.size) (by omega) 1 (.int .i64 (minI ly y))) (b := w1.heap.size + 1) (by omega) 0 (.int .i64 (maxI hx' x))) (b := w1.heap.size + 1) (by omega) 1 (.int .i64 (maxI hy' y))
          have y4' := at_set (at_set (at_set (at_set y4 (b := w1.heap.size) (by omega) 0 (.int .i64 (minI lx x))) (b := w1.heap.size) (by omega) 1 (.int .i64 (minI ly y))) (b := w1.heap.size + 1) (by omega) 0 (.int .i64 (maxI hx' x))) (b := w1.heap.size + 1) (by omega) 1 (.int .i64 (maxI hy' y))
          have hle1 : w.heap.size ≤ w1.heap.size := by omega
          have hle2 : w.heap.size ≤ w1.heap.size + 1 := by omega
          have hle3 : w1.heap.size ≤ w1.heap.size := by omega
          have hle4 : w1.heap.size ≤ w1.heap.size + 1 := by omega
          have bb' := (((bb.setCell (p := ⟨w1.heap.size, 0, none⟩) hle1 (.int .i64 (minI lx x))).setCell (p := ⟨w1.heap.size, 1, none⟩) hle1 (.int .i64 (minI ly y))).setCell (p := ⟨w1.heap.size + 1, 0, none⟩) hle2 (.int .i64 (maxI hx' x))).setCell (p := ⟨w1.heap.size + 1, 1, none⟩) hle2 (.int .i64 (maxI hy' y))
          have bb13' := (((bb13.setCell (p := ⟨w1.heap.size, 0, none⟩) hle3 (.int .i64 (minI lx x))).setCell (p := ⟨w1.heap.size, 1, none⟩) hle3 (.int .i64 (minI ly y))).setCell (p := ⟨w1.heap.size + 1, 0, none⟩) hle4 (.int .i64 (maxI hx' x))).setCell (p := ⟨w1.heap.size + 1, 1, none⟩) hle4 (.int .i64 (maxI hy' y))
          have R := Lib.hid (And.intro aL3 (And.intro aH3 (And.intro y3' (And.intro y4' (And.intro bb' bb13')))))
          have d1 := cell_on (below1 wr (.cells #[.int .i64 x, .int .i64 y] 27)) rfl c1
          have d2 := cell_on (below1 wr (.cells #[.int .i64 x, .int .i64 y] 27)) rfl c2
          clear aL aH z3 z4 b3 b13 aL1 aH1 y3 y4 bb bb13 aL2 aH2 a02 aH3 aL3 y3' y4' bb' bb13' a0 hl1 hl2 hle1 hle2 hle3 hle4
          go_wp2_with fail
          go_roundw
          case rel => exact ⟨k + 1, by omega, by go_num, by rw [HT.out]; exact R.out.1, by rw [HT.out]; exact R.out.2.1, R.out.2.2.1, R.out.2.2.2.1, R.out.2.2.2.2.1, R.out.2.2.2.2.2⟩
          case measure => simp [intOf]; omega
        · obtain rfl : k = L.length := by omega
          obtain ⟨lx, hlx⟩ : ∃ lx, lx = (boxTill L L.length).1.1 := ⟨_, rfl⟩
          obtain ⟨ly, hly⟩ : ∃ ly, ly = (boxTill L L.length).1.2 := ⟨_, rfl⟩
          obtain ⟨hx', hhx⟩ : ∃ hx', hx' = (boxTill L L.length).2.1 := ⟨_, rfl⟩
          obtain ⟨hy', hhy⟩ : ∃ hy', hy' = (boxTill L L.length).2.2 := ⟨_, rfl⟩
          have HT : Hid (boxR L = .tuple #[.agg #[.int .i64 lx, .int .i64 ly], .agg #[.int .i64 hx', .int .i64 hy'], .bool true]) := by
            show _ = _
            rw [HR.out, hlx, hly, hhx, hhy]; rfl
          rw [← hlx, ← hly] at aL; rw [← hhx, ← hhy] at aH
          clear hlx hly hhx hhy
          have l1 := aL.c0; have l2 := aL.c1; have h1 := aH.c0; have h2 := aH.c1
          have f1 := at_frozen z3 0; have f2 := at_frozen z3 1; have f3 := at_frozen z4 0; have f4 := at_frozen z4 1
          have v1 := z3.c0; have v2 := z3.c1; have v3 := z4.c0; have v4 := z4.c1
          have v5 := (at_store z3 lx 0).c1
          have e1 := at_store1 (at_store z3 lx 0) ly
          have e2 := at_set (at_set z4 (b := w.heap.size) (by omega) 0 (.int .i64 lx)) (b := w.heap.size) (by omega) 1 (.int .i64 ly)
          have q1 := e2.c0; have q2 := e2.c1; have q3 := at_frozen e2 0; have q4 := at_frozen e2 1
          have q5 := (at_store e2 hx' 0).c1
          have e3 := at_store1 (at_store e2 hx' 0) hy'
          have e4 := at_set (at_set e1 (b := w.heap.size + 1) (by omega) 0 (.int .i64 hx')) (b := w.heap.size + 1) (by omega) 1 (.int .i64 hy')
          have d1 := e4.c0; have d2 := e4.c1; have d3 := e3.c0; have d4 := e3.c1
          have hsw : w.heap.size ≤ w.heap.size + 1 := Nat.le_succ _
          have bE := (((b3.setCell (p := ⟨w.heap.size, 0, none⟩) (Nat.le_refl _) (.int .i64 lx)).setCell (p := ⟨w.heap.size, 1, none⟩) (Nat.le_refl _) (.int .i64 ly)).setCell (p := ⟨w.heap.size + 1, 0, none⟩) hsw (.int .i64 hx')).setCell (p := ⟨w.heap.size + 1, 1, none⟩) hsw (.int .i64 hy')
          have R := Lib.hid (And.intro bE.drew (And.intro e3 e4))
          clear aL aH z3 z4 b3 b13 e1 e2 e3 e4 bE HR
          go_wp2_with fail
          go_region
          go_wp2_with fail
          exact bodyPost_ret (v := .tuple #[.agg #[.int .i64 lx, .int .i64 ly], .agg #[.int .i64 hx', .int .i64 hy'], .bool true]) (by simp [results, Try.results103, go_sem, d1, d2, d3, d4]) rfl ⟨by rw [HT.out], R.out.1⟩
    · go_wp2_with fail
      obtain ⟨W, hW⟩ : ∃ W, W = ((w1.alloc (.cells #[.int .i64 X, .int .i64 Y] 27)).alloc (.cells #[.int .i64 X, .int .i64 Y] 27)).drew := ⟨_, rfl⟩
      have aL : At W (w1.heap.size + 1) X Y 27 := by rw [hW]; have := at_new (w1.alloc (.cells #[.int .i64 X, .int .i64 Y] 27)) X Y 27; rwa [size_alloc] at this
      have aH : At W (w1.heap.size) X Y 27 := by rw [hW]; exact (at_new w1 X Y 27).alloc _
      have z3 : At W w.heap.size 0 0 27 := by rw [hW]; exact (r1.alloc _).alloc _
      have z4 : At W (w.heap.size + 1) 0 0 27 := by rw [hW]; exact (r2.alloc _).alloc _
      have b3 : Below w.heap.size w W := by rw [hW]; exact (b1.trans ((below2 w1 _ _).mono (by omega))).drew
      have b13 : Below w1.heap.size w1 W := by rw [hW]; exact (below2 w1 _ _).drew
      rw [← hW]
      clear hW c1 c2 r1 r2 b1 m1 m2 m3 m4
      go_loopw [22] (fun i wr => ∃ k : Nat, k ≤ L.length ∧ i = .int .i64 k ∧ At wr (w1.heap.size + 1) (boxTill L k).1.1 (boxTill L k).1.2 27 ∧ At wr (w1.heap.size) (boxTill L k).2.1 (boxTill L k).2.2 27 ∧ At wr w.heap.size 0 0 27 ∧ At wr (w.heap.size + 1) 0 0 27 ∧ Below w.heap.size w wr ∧ Below w1.heap.size w1 wr) (fun i _ => L.length - (intOf i).toNat)
      case atStart => exact ⟨0, Nat.zero_le _, rfl, by rw [H0.out]; exact aL, by rw [H0.out]; exact aH, z3, z4, b3, b13⟩
      case round =>
        clear aL aH z3 z4 b3 b13
        obtain ⟨k, hk, rfl, aL, aH, z3, z4, b3, b13⟩ := hrel
        by_cases hlt : k < L.length
        · obtain ⟨c1, c2⟩ := gt_cells (ptsA_on HA.out b13) hlt
          have HS : Hid (boxTill L (k + 1) = boxStep (boxTill L k) (gt L k)) := rfl
          have hsk := b13.size
          obtain ⟨x, hx⟩ : ∃ x, x = (gt L k).1 := ⟨_, rfl⟩
          obtain ⟨y, hy⟩ : ∃ y, y = (gt L k).2 := ⟨_, rfl⟩
          obtain ⟨lx, hlx⟩ : ∃ lx, lx = (boxTill L k).1.1 := ⟨_, rfl⟩
          obtain ⟨ly, hly⟩ : ∃ ly, ly = (boxTill L k).1.2 := ⟨_, rfl⟩
          obtain ⟨hx', hhx⟩ : ∃ hx', hx' = (boxTill L k).2.1 := ⟨_, rfl⟩
          obtain ⟨hy', hhy⟩ : ∃ hy', hy' = (boxTill L k).2.2 := ⟨_, rfl⟩
          have HT : Hid (boxTill L (k + 1) = ((minI lx x, minI ly y), (maxI hx' x, maxI hy' y))) := by
            show _ = _
            rw [HS.out, hx, hy, hlx, hly, hhx, hhy]; rfl
          rw [← hx] at c1; rw [← hy] at c2; rw [← hlx, ← hly] at aL; rw [← hhx, ← hhy] at aH
          clear hx hy hlx hly hhx hhy HS
          have hl1 := aL.lt
          have hl2 := aH.lt
          have a0 := at_new wr x y 27
          have aL1 := aL.alloc (.cells #[.int .i64 x, .int .i64 y] 27)
          have aH1 := aH.alloc (.cells #[.int .i64 x, .int .i64 y] 27)
          have y3 := z3.alloc (.cells #[.int .i64 x, .int .i64 y] 27)
          have y4 := z4.alloc (.cells #[.int .i64 x, .int .i64 y] 27)
          have bb := b3.alloc b3.size (.cells #[.int .i64 x, .int .i64 y] 27)
          have bb13 := b13.alloc hsk (.cells #[.int .i64 x, .int .i64 y] 27)
          have l1 := aL1.c0; have l2 := aL1.c1; have p1 := a0.c0; have p2 := a0.c1
          have g1 := at_frozen aL1 0; have g2 := at_frozen aL1 1
          have aL2 := at_store1 (at_store aL1 (minI lx x) 0) (minI ly y)
          have aH2 := at_set (at_set aH1 (b := w1.heap.size + 1) (by omega) 0 (.int .i64 (minI lx x))) (b := w1.heap.size + 1) (by omega) 1 (.int .i64 (minI ly y))
          have a02 := at_set (at_set a0 (b := w1.heap.size + 1) (by omega) 0 (.int .i64 (minI lx x))) (b := w1.heap.size + 1) (by omega) 1 (.int .i64 (minI ly y))
          have l3 := (at_store aL1 (minI lx x) 0).c1
          have h1 := aH2.c0; have h2 := aH2.c1; have p3 := a02.c0; have p4 := a02.c1
          have g3 := at_frozen aH2 0; have g4 := at_frozen aH2 1
          have h4 := (at_store aH2 (maxI hx' x) 0).c1
          have aH3 := at_store1 (at_store aH2 (maxI hx' x) 0) (maxI hy' y)
          have aL3 := at_set (at_set aL2 (b := w1.heap.size) (by omega) 0 (.int .i64 (maxI hx' x))) (b := w1.heap.size) (by omega) 1 (.int .i64 (maxI hy' y))
          have y3' := at_set (at_set (at_set (at_set y3 (b := w1.heap.size + 1) (by omega) 0 (.int .i64 (minI lx x))) (b := w1.heap.size + 1) (by omega) 1 (.int .i64 (minI ly y))) (b := w1.heap.size) (by omega) 0 (.int .i64 (maxI hx' x))) (b := w1.heap.size) (by omega) 1 (.int .i64 (maxI hy' y))
          have y4' := at_set (at_set (at_set (at_set y4 (b := w1.heap.size + 1) (by omega) 0 (.int .i64 (minI lx x))) (b := w1.heap.size + 1) (by omega) 1 (.int .i64 (minI ly y))) (b := w1.heap.size) (by omega) 0 (.int .i64 (maxI hx' x))) (b := w1.heap.size) (by omega) 1 (.int .i64 (maxI hy' y))
          have hle1 : w.heap.size ≤ w1.heap.size + 1 := by omega
          have hle2 : w.heap.size ≤ w1.heap.size := by omega
          have hle3 : w1.heap.size ≤ w1.heap.size + 1 := by omega
          have hle4 : w1.heap.size ≤ w1.heap.size := by omega
          have bb' := (((bb.setCell (p := ⟨w1.heap.size + 1, 0, none⟩) hle1 (.int .i64 (minI lx x))).setCell (p := ⟨w1.heap.size + 1, 1, none⟩) hle1 (.int .i64 (minI ly y))).setCell (p := ⟨w1.heap.size, 0, none⟩) hle2 (.int .i64 (maxI hx' x))).setCell (p := ⟨w1.heap.size, 1, none⟩) hle2 (.int .i64 (maxI hy' y))
          have bb13' := (((bb13.setCell (p := ⟨w1.heap.size + 1, 0, none⟩) hle3 (.int .i64 (minI lx x))).setCell (p := ⟨w1.heap.size + 1, 1, none⟩) hle3 (.int .i64 (minI ly y))).setCell (p := ⟨w1.heap.size, 0, none⟩) hle4 (.int .i64 (maxI hx' x))).setCell (p := ⟨w1.heap.size, 1, none⟩) hle4 (.int .i64 (maxI hy' y))
          have R := Lib.hid (And.intro aL3 (And.intro aH3 (And.intro y3' (And.intro y4' (And.intro bb' bb13')))))
          have d1 := cell_on (below1 wr (.cells #[.int .i64 x, .int .i64 y] 27)) rfl c1
          have d2 := cell_on (below1 wr (.cells #[.int .i64 x, .int .i64 y] 27)) rfl c2
          clear aL aH z3 z4 b3 b13 aL1 aH1 y3 y4 bb bb13 aL2 aH2 a02 aH3 aL3 y3' y4' bb' bb13' a0 hl1 hl2 hle1 hle2 hle3 hle4
          go_wp2_with fail
          go_roundw
          case rel => exact ⟨k + 1, by omega, by go_num, by rw [HT.out]; exact R.out.1, by rw [HT.out]; exact R.out.2.1, R.out.2.2.1, R.out.2.2.2.1, R.out.2.2.2.2.1, R.out.2.2.2.2.2⟩
          case measure => simp [intOf]; omega
        · obtain rfl : k = L.length := by omega
          obtain ⟨lx, hlx⟩ : ∃ lx, lx = (boxTill L L.length).1.1 := ⟨_, rfl⟩
          obtain ⟨ly, hly⟩ : ∃ ly, ly = (boxTill L L.length).1.2 := ⟨_, rfl⟩
          obtain ⟨hx', hhx⟩ : ∃ hx', hx' = (boxTill L L.length).2.1 := ⟨_, rfl⟩
          obtain ⟨hy', hhy⟩ : ∃ hy', hy' = (boxTill L L.length).2.2 := ⟨_, rfl⟩
          have HT : Hid (boxR L = .tuple #[.agg #[.int .i64 lx, .int .i64 ly], .agg #[.int .i64 hx', .int .i64 hy'], .bool true]) := by
            show _ = _
            rw [HR.out, hlx, hly, hhx, hhy]; rfl
          rw [← hlx, ← hly] at aL; rw [← hhx, ← hhy] at aH
          clear hlx hly hhx hhy
          have l1 := aL.c0; have l2 := aL.c1; have h1 := aH.c0; have h2 := aH.c1
          have f1 := at_frozen z3 0; have f2 := at_frozen z3 1; have f3 := at_frozen z4 0; have f4 := at_frozen z4 1
          have v1 := z3.c0; have v2 := z3.c1; have v3 := z4.c0; have v4 := z4.c1
          have v5 := (at_store z3 lx 0).c1
          have e1 := at_store1 (at_store z3 lx 0) ly
          have e2 := at_set (at_set z4 (b := w.heap.size) (by omega) 0 (.int .i64 lx)) (b := w.heap.size) (by omega) 1 (.int .i64 ly)
          have q1 := e2.c0; have q2 := e2.c1; have q3 := at_frozen e2 0; have q4 := at_frozen e2 1
          have q5 := (at_store e2 hx' 0).c1
          have e3 := at_store1 (at_store e2 hx' 0) hy'
          have e4 := at_set (at_set e1 (b := w.heap.size + 1) (by omega) 0 (.int .i64 hx')) (b := w.heap.size + 1) (by omega) 1 (.int .i64 hy')
          have d1 := e4.c0; have d2 := e4.c1; have d3 := e3.c0; have d4 := e3.c1
          have hsw : w.heap.size ≤ w.heap.size + 1 := Nat.le_succ _
          have bE := (((b3.setCell (p := ⟨w.heap.size, 0, none⟩) (Nat.le_refl _) (.int .i64 lx)).setCell (p := ⟨w.heap.size, 1, none⟩) (Nat.le_refl _) (.int .i64 ly)).setCell (p := ⟨w.heap.size + 1, 0, none⟩) hsw (.int .i64 hx')).setCell (p := ⟨w.heap.size + 1, 1, none⟩) hsw (.int .i64 hy')
          have R := Lib.hid (And.intro bE.drew (And.intro e3 e4))
          clear aL aH z3 z4 b3 b13 e1 e2 e3 e4 bE HR
          go_wp2_with fail
          go_region
          go_wp2_with fail
          exact bodyPost_ret (v := .tuple #[.agg #[.int .i64 lx, .int .i64 ly], .agg #[.int .i64 hx', .int .i64 hy'], .bool true]) (by simp [results, Try.results103, go_sem, d1, d2, d3, d4]) rfl ⟨by rw [HT.out], R.out.1⟩
end Go.Proofs.Ytbmeemmihkedoaa

/-! Conv -/
namespace Go.Proofs.Ytbmeemmihkedoaa
open Go.RowKit

/-- The side to which a polygon turns at a corner. -/
def turnI (L : List (Int × Int)) (i : Nat) : Int := sgn (crossP (gt L (pv L i)) (gt L i) (gt L (nx L i)))
def convB (L : List (Int × Int)) : Bool := !(bothB ((List.range L.length).map (turnI L)))
def convV (L : List (Int × Int)) : Bool := polyB L && convB L
theorem turnI_three (L : List (Int × Int)) (i : Nat) : turnI L i = 1 ∨ turnI L i = -1 ∨ turnI L i = 0 := sgn_three _
set_option maxRecDepth 100000 in
set_option maxHeartbeats 4000000 in
theorem conv_any (A : Option Addr) (c : Nat) (L : List (Int × Int)) (w : World) (hA : PtsA w A L) (h1 : 1 ≤ L.length) (h2 : L.length ≤ 10) (hok : allOk L = true) :
    Calls Try.prog 188 #[.slice A L.length c] w fun e w' => e = .returned (.bool (convB L)) ∧ Below w.heap.size w w' := by
  obtain ⟨g, rfl, -⟩ := hA 0 h1
  have hmin : ∀ (w : World) (x y : Int) (ts : Array TypeId) (t : TypeId), (Builtin.min_ ts t #[.int .i64 x, .int .i64 y]).run Try.prog w = .ok (.int .i64 (minI x y)) w := run_minI
  have hmax : ∀ (w : World) (x y : Int) (ts : Array TypeId) (t : TypeId), (Builtin.max_ ts t #[.int .i64 x, .int .i64 y]).run Try.prog w = .ok (.int .i64 (maxI x y)) w := run_maxI
  have HA := Lib.hid hA; have HOK := Lib.hid hok
  have HLH : Hid ((loT (turnI L) L.length == 0 || hiT (turnI L) L.length == 0) = convB L) := lohi (turnI_three L) _
  clear hA hok
  go_enter Try.func188, Try.ntmps188
  go_wp2_with fail
  go_loopw [3, 4, 6, 7, 8, 13] (fun lo hi _ _ _ i wr => ∃ k : Nat, k ≤ L.length ∧ i = .int .i64 k ∧ lo = .int .i64 (loT (turnI L) k) ∧ hi = .int .i64 (hiT (turnI L) k) ∧ Below w.heap.size w wr) (fun _ _ _ _ _ i _ => L.length - (intOf i).toNat)
  case atStart => exact ⟨0, Nat.zero_le _, rfl, rfl, rfl, Below.refl _ _⟩
  case round =>
    obtain ⟨wo, rfl⟩ : ∃ wo : World, wo = wr := ⟨_, rfl⟩
    obtain ⟨k, hk, rfl, rfl, rfl, hb⟩ := hrel
    by_cases hlt : k < L.length
    · obtain ⟨hr, hrl⟩ := next_int (i := k) h1
      have hpl : (k + L.length - 1) % L.length < L.length := Nat.mod_lt _ (by omega)
      have hpr : Int.tmod ((k : Int) + (L.length : Int) - 1) (L.length : Int) = (((k + L.length - 1) % L.length : Nat) : Int) := by
        have : (k : Int) + (L.length : Int) - 1 = ((k + L.length - 1 : Nat) : Int) := by omega
        rw [this, tmod_nat]
      have hap := ptsA_on HA.out hb
      obtain ⟨c1, c2⟩ := gt_cells hap hlt
      obtain ⟨c3, c4⟩ := gt_cells hap hrl
      obtain ⟨c5, c6⟩ := gt_cells hap hpl
      have HCR := Lib.hid (fun w => crossS_on _ _ _ _ _ _ w (all_at HOK.out hpl) (all_at HOK.out hlt) (all_at HOK.out hrl))
      have HLO : Hid (loT (turnI L) (k + 1) = minI (loT (turnI L) k) (turnI L k)) := rfl
      have HHI : Hid (hiT (turnI L) (k + 1) = maxI (hiT (turnI L) k) (turnI L k)) := rfl
      have HBE : Hid (turnI L k = sgn (crossP ((gt L ((k + L.length - 1) % L.length)).1, (gt L ((k + L.length - 1) % L.length)).2) ((gt L k).1, (gt L k).2) ((gt L ((k + 1) % L.length)).1, (gt L ((k + 1) % L.length)).2))) := rfl
      clear hap
      generalize (k + 1) % L.length = r at *
      generalize (k + L.length - 1) % L.length = t at *
      generalize (gt L k).1 = x at *
      generalize (gt L k).2 = y at *
      generalize (gt L r).1 = x' at *
      generalize (gt L r).2 = y' at *
      generalize (gt L t).1 = x'' at *
      generalize (gt L t).2 = y'' at *
      generalize crossP (x'', y'') (x, y) (x', y') = C at *
      generalize loT (turnI L) k = lo at *
      generalize hiT (turnI L) k = hi at *
      have f1 : IntKind.i64.wrap ((k : Int) + 1) = (k : Int) + 1 := IntWalk.i64_in _ (by omega)
      have f2 : IntKind.i64.wrap ((k : Int) + (L.length : Int)) = (k : Int) + (L.length : Int) := IntWalk.i64_in _ (by omega)
      have f3 : IntKind.i64.wrap ((k : Int) + (L.length : Int) - 1) = (k : Int) + (L.length : Int) - 1 := IntWalk.i64_in _ (by omega)
      have f4 : IntKind.i64.wrap (r : Int) = (r : Int) := IntWalk.i64_in _ (by omega)
      have f5 : IntKind.i64.wrap (t : Int) = (t : Int) := IntWalk.i64_in _ (by omega)
      have hp1 : (r : Int) < (L.length : Int) := by omega
      have hp2 : (0 : Int) ≤ (r : Int) := by omega
      have hp3 : (t : Int) < (L.length : Int) := by omega
      have hp4 : (0 : Int) ≤ (t : Int) := by omega
      have hne : ¬ L.length = 0 := by omega
      have hal := (Below.refl wo.heap.size wo).alloc (Nat.le_refl _) (.cells #[.int .i64 x, .int .i64 y] 27)
      have d3 := cell_on hal rfl c3; have d4 := cell_on hal rfl c4; have d5 := cell_on hal rfl c5; have d6 := cell_on hal rfl c6
      have n1 := at_new wo x y 27
      have d1 := n1.c0; have d2 := n1.c1
      have b2 := hb.alloc hb.size (.cells #[.int .i64 x, .int .i64 y] 27)
      have k1 := cell_regrown d1; have k2 := cell_regrown d2; have k3 := cell_regrown d3; have k4 := cell_regrown d4; have k5 := cell_regrown d5; have k6 := cell_regrown d6
      have HSG := Lib.hid (fun n w => (sign_any n w).mono fun e w' (h : _ ∧ w' = w) => And.intro h.1 (show Below w.heap.size w w' by rw [h.2]; exact Below.refl _ _))
      clear hal hb
      go_wp2_with fail
      refine wp_region_quiet_below (by kernel_rfl) (by kernel_rfl) ?_
      repeat (first
        | go_big_quiet_step (first | exact Calls.regrown_of (HCR.out _) | exact Calls.regrown_of (HSG.out _ _))
        | quiet_step (first | exact Calls.regrown_of (HCR.out _) | exact Calls.regrown_of (HSG.out _ _)))
      refine wpQuiet_nil ?_
      rintro _ ⟨⟨dq, osq⟩, rfl⟩
      have hst := below_regrown (wo.alloc (.cells #[.int .i64 x, .int .i64 y] 27)) dq osq
      have b3 := below_on b2 hst
      clear k1 k2 k3 k4 k5 k6 d1 d2 d3 d4 d5 d6 b2 n1 hst c1 c2 c3 c4 c5 c6
      simp only at *
      generalize Go.Sort.grow (redrawn (wo.alloc (.cells #[.int .i64 x, .int .i64 y] 27)) dq) osq = w3 at *
      clear hr hpr f1 f2 f3 f4 f5 hp1 hp2 hp3 hp4
      go_wp2_with fail
      go_roundw
      case rel => exact ⟨k + 1, by omega, by go_num, by rw [HLO.out, HBE.out], by rw [HHI.out, HBE.out], b3⟩
      case measure => simp [intOf]; omega
    · have e : k = L.length := by omega
      have HQ : Hid ((loT (turnI L) k == 0 || hiT (turnI L) k == 0) = convB L) := by
        show _ = _
        rw [e]; exact HLH.out
      clear e HLH
      generalize loT (turnI L) k = lo at *
      generalize hiT (turnI L) k = hi at *
      cases hlo : (lo == 0)
      all_goals (
        rw [hlo] at HQ
        go_wp2_with fail
        go_ret
        exact ⟨ret_bool HQ.out, hb⟩)
theorem spec_conv (A : Option Addr) (c : Nat) (L : List (Int × Int)) (w : World) (hA : PtsA w A L) (hL : L.length ≤ 1048576) :
    Calls Try.prog 168 #[.slice A L.length c] w fun e w' => e = .returned (.bool (convV L)) ∧ Below w.heap.size w w' := by
  have HA := Lib.hid hA
  have HP := Lib.hid (spec_poly A c L w hA hL)
  have HV : Hid (convV L = (polyB L && convB L)) := rfl
  clear hA
  cases hp : polyB L
  all_goals (
    rw [hp] at HP HV
    go_enter Try.func168, Try.ntmps168
    go_wp2_with fail
    refine HP.out.mono ?_
    rintro e w1 ⟨rfl, b1⟩)
  · go_wp2_with fail
    go_ret
    exact ⟨ret_bool HV.out.symm, b1⟩
  · obtain ⟨q1, q2, q3⟩ := polyB_all hp
    have HT := Lib.hid (conv_any A c L w1 (ptsA_on HA.out b1) (by omega) q2 q3)
    clear q1 q2 q3
    go_wp2_with fail
    refine HT.out.mono ?_
    rintro e w2 ⟨rfl, hb2⟩
    have b2 := below_on b1 hb2
    clear b1 hb2
    go_wp2_with fail
    go_ret
    exact ⟨ret_bool HV.out.symm, b2⟩
end Go.Proofs.Ytbmeemmihkedoaa

/-! Cyc -/
namespace Go.Proofs.Ytbmeemmihkedoaa

/-- A point at a fraction of the way. -/
theorem frac_bt {m q b e f : Int} (hm : 0 < m) (h0 : 0 ≤ q) (h1 : q ≤ m) (h : m * (b - e) = q * (f - e)) : bt e f b := by
  rcases Int.le_total e f with hf | hf
  · left
    have a1 : 0 ≤ q * (f - e) := Int.mul_nonneg h0 (by omega)
    have a2 : q * (f - e) ≤ m * (f - e) := Int.mul_le_mul_of_nonneg_right h1 (by omega)
    rw [← h] at a1 a2
    constructor
    · have := Int.le_of_mul_le_mul_left (a := m) (b := 0) (c := b - e) (by omega) hm; omega
    · have := Int.le_of_mul_le_mul_left a2 hm; omega
  · right
    have a1 : 0 ≤ q * (e - f) := Int.mul_nonneg h0 (by omega)
    have a2 : q * (e - f) ≤ m * (e - f) := Int.mul_le_mul_of_nonneg_right h1 (by omega)
    have e1 : q * (e - f) = m * (e - b) := by grind
    rw [e1] at a1 a2
    constructor
    · have := Int.le_of_mul_le_mul_left a2 hm; omega
    · have := Int.le_of_mul_le_mul_left (a := m) (b := 0) (c := e - b) (by omega) hm; omega
/-- b is at q / (p + q) of the way from a to c. -/
structure Wt (a c b : Int × Int) (p q : Int) : Prop where
  p0 : 0 ≤ p
  q0 : 0 ≤ q
  pq : 0 < p + q
  e1 : (p + q) * b.1 = p * a.1 + q * c.1
  e2 : (p + q) * b.2 = p * a.2 + q * c.2
theorem on_wt {a c b : Int × Int} (h : onP a c b = true) (hac : a ≠ c) : ∃ p q, Wt a c b p q := by
  obtain ⟨h1, h2, h3⟩ := (onP_iff _ _ _).1 h
  obtain ⟨ax, ay⟩ := a
  obtain ⟨bx, by'⟩ := b
  obtain ⟨cx, cy⟩ := c
  simp only [crossP, crossI] at h1 h2 h3
  have hne : ¬ (ax = cx ∧ ay = cy) := fun e => hac (by rw [e.1, e.2])
  unfold bt at h2 h3
  rcases Int.le_total ax cx with hx | hx <;> rcases Int.le_total ay cy with hy | hy
  · exact ⟨(cx - bx) + (cy - by'), (bx - ax) + (by' - ay), by omega, by omega, by omega, by grind, by grind⟩
  · exact ⟨(cx - bx) + (by' - cy), (bx - ax) + (ay - by'), by omega, by omega, by omega, by grind, by grind⟩
  · exact ⟨(bx - cx) + (cy - by'), (ax - bx) + (by' - ay), by omega, by omega, by omega, by grind, by grind⟩
  · exact ⟨(bx - cx) + (by' - cy), (ax - bx) + (ay - by'), by omega, by omega, by omega, by grind, by grind⟩
theorem Wt.ne_a {a c b : Int × Int} {p q : Int} (h : Wt a c b p q) (hb : b ≠ a) : 0 < q := by
  rcases Int.lt_or_eq_of_le h.q0 with h1 | h1
  · exact h1
  · exfalso
    subst h1
    have := h.pq
    have e1 := h.e1
    have e2 := h.e2
    simp only [Int.add_zero, Int.zero_mul] at e1 e2 this
    exact hb (Prod.ext (Int.eq_of_mul_eq_mul_left (by omega) e1) (Int.eq_of_mul_eq_mul_left (by omega) e2))
theorem Wt.ne_c {a c b : Int × Int} {p q : Int} (h : Wt a c b p q) (hb : b ≠ c) : 0 < p := by
  rcases Int.lt_or_eq_of_le h.p0 with h1 | h1
  · exact h1
  · exfalso
    subst h1
    have := h.pq
    have e1 := h.e1
    have e2 := h.e2
    simp only [Int.zero_add, Int.zero_mul] at e1 e2 this
    exact hb (Prod.ext (Int.eq_of_mul_eq_mul_left (by omega) e1) (Int.eq_of_mul_eq_mul_left (by omega) e2))
theorem Wt.cross3 {a c b : Int × Int} {p q : Int} (h : Wt a c b p q) (e f : Int × Int) : (p + q) * crossP e f b = p * crossP e f a + q * crossP e f c := by
  have e1 := h.e1
  have e2 := h.e2
  simp only [crossP, crossI]
  grind
theorem Wt.cross_ab {a c b : Int × Int} {p q : Int} (h : Wt a c b p q) (e : Int × Int) : (p + q) * crossP a b e = q * crossP a c e := by
  have e1 := h.e1
  have e2 := h.e2
  simp only [crossP, crossI]
  grind
theorem Wt.cross_bc {a c b : Int × Int} {p q : Int} (h : Wt a c b p q) (e : Int × Int) : (p + q) * crossP b c e = p * crossP a c e := by
  have e1 := h.e1
  have e2 := h.e2
  simp only [crossP, crossI]
  grind
theorem mul_zero_of {m x : Int} (hm : 0 < m) (h : m * x = 0) : x = 0 := by
  rcases Int.mul_eq_zero.1 h with h1 | h1
  · omega
  · exact h1
/-- What is on the whole is on one of the parts. -/
theorem on_part {a c b e : Int × Int} (hb : onP a c b = true) (he : onP a c e = true) : onP a b e = true ∨ onP b c e = true := by
  by_cases hac : a = c
  · subst hac
    left
    obtain ⟨_, h2, h3⟩ := (onP_iff _ _ _).1 he
    have : e = a := by unfold bt at h2 h3; exact Prod.ext (by omega) (by omega)
    rw [this]; exact on_left _ _
  obtain ⟨p, q, hw⟩ := on_wt hb hac
  obtain ⟨b1, b2, b3⟩ := (onP_iff _ _ _).1 hb
  obtain ⟨e1, e2, e3⟩ := (onP_iff _ _ _).1 he
  have c1 : crossP a b e = 0 := mul_zero_of hw.pq (by rw [hw.cross_ab, e1, Int.mul_zero])
  have c2 : crossP b c e = 0 := mul_zero_of hw.pq (by rw [hw.cross_bc, e1, Int.mul_zero])
  rcases on_line c1 with h | h | h
  · right
    obtain ⟨_, h2, h3⟩ := (onP_iff _ _ _).1 h
    exact (onP_iff _ _ _).2 ⟨c2, by unfold bt at *; omega, by unfold bt at *; omega⟩
  · obtain ⟨_, h2, h3⟩ := (onP_iff _ _ _).1 h
    have k1 : a.1 = b.1 ∨ a.1 = e.1 := by unfold bt at *; omega
    have k2 : a.2 = b.2 ∨ a.2 = e.2 := by unfold bt at *; omega
    have hba : b = a → onP b c e = true := fun h => by rw [h]; exact he
    have hea : e = a → onP a b e = true := fun h => by rw [h]; exact on_left _ _
    unfold crossP crossI at b1 e1
    rcases k1 with k1 | k1 <;> rcases k2 with k2 | k2
    · exact .inr (hba (Prod.ext k1.symm k2.symm))
    · have : (c.1 - a.1) * (b.2 - a.2) = 0 := by grind
      rcases Int.mul_eq_zero.1 this with h4 | h4
      · exact .inl (hea (Prod.ext (by unfold bt at *; omega) k2.symm))
      · exact .inr (hba (Prod.ext k1.symm (by omega)))
    · have : (c.2 - a.2) * (b.1 - a.1) = 0 := by grind
      rcases Int.mul_eq_zero.1 this with h4 | h4
      · exact .inl (hea (Prod.ext k1.symm (by unfold bt at *; omega)))
      · exact .inr (hba (Prod.ext (by omega) k2.symm))
    · exact .inl (hea (Prod.ext k1.symm k2.symm))
  · exact .inl h
/-- What is on a part is on the whole. -/
theorem on_whole {a c b e : Int × Int} (hac : a ≠ c) (hb : onP a c b = true) (he : onP a b e = true) : onP a c e = true := by
  by_cases hba : b = a
  · subst hba
    obtain ⟨_, h2, h3⟩ := (onP_iff _ _ _).1 he
    have : e = b := by unfold bt at h2 h3; exact Prod.ext (by omega) (by omega)
    rw [this]; exact on_left _ _
  obtain ⟨p, q, hw⟩ := on_wt hb hac
  have hq := hw.ne_a hba
  obtain ⟨b1, b2, b3⟩ := (onP_iff _ _ _).1 hb
  obtain ⟨e1, e2, e3⟩ := (onP_iff _ _ _).1 he
  have c1 : crossP a c e = 0 := mul_zero_of hq (by rw [← hw.cross_ab, e1, Int.mul_zero])
  exact (onP_iff _ _ _).2 ⟨c1, by unfold bt at *; omega, by unfold bt at *; omega⟩
theorem on_flip (a b p : Int × Int) : onP b a p = onP a b p := by
  rw [Bool.eq_iff_iff, onP_iff, onP_iff, crossP_flip]
  unfold bt
  constructor <;> (rintro ⟨h1, h2, h3⟩; exact ⟨by omega, by omega, by omega⟩)
theorem meet_zero {a b c d : Int × Int} : meetI a b c d = 0 ↔ (opp a b c d && opp c d a b) = false ∧ onP c d a = false ∧ onP c d b = false ∧ onP a b c = false ∧ onP a b d = false := by
  unfold meetI
  have hs : (sharedS a b c d).isEmpty = (!(onP c d a) && !(onP c d b) && !(onP a b c) && !(onP a b d)) := by
    simp only [sharedS, List.filter_cons, List.filter_nil]
    cases onP c d a <;> cases onP c d b <;> cases onP a b c <;> cases onP a b d <;> rfl
  cases opp a b c d && opp c d a b
  · rw [hs]
    cases onP c d a <;> cases onP c d b <;> cases onP a b c <;> cases onP a b d <;> simp
    all_goals (cases sameAll (sharedS a b c d) <;> simp)
  · simp
theorem sgn_tri (n : Int) : (0 < n ∧ sgn n = 1) ∨ (n = 0 ∧ sgn n = 0) ∨ (n < 0 ∧ sgn n = -1) := by
  unfold sgn
  rcases Int.lt_trichotomy n 0 with h | h | h
  · right; right; exact ⟨h, by rw [if_neg (by omega), if_pos h]⟩
  · right; left; exact ⟨h, by rw [if_neg (by omega), if_neg (by omega)]⟩
  · left; exact ⟨h, by rw [if_pos h]⟩
theorem opp_iff (a b c d : Int × Int) : opp a b c d = true ↔ (0 < crossP a b c ∧ crossP a b d < 0) ∨ (crossP a b c < 0 ∧ 0 < crossP a b d) := by
  unfold opp
  rw [decide_eq_true_eq]
  rcases sgn_tri (crossP a b c) with ⟨h1, h2⟩ | ⟨h1, h2⟩ | ⟨h1, h2⟩ <;> rcases sgn_tri (crossP a b d) with ⟨h3, h4⟩ | ⟨h3, h4⟩ | ⟨h3, h4⟩ <;> rw [h2, h4] <;> omega
/-- Lines that cross: their common point is on a segment whose ends are on both sides. -/
theorem on_crossing {a c e f b : Int × Int} (h1 : crossP a c b = 0) (h2 : crossP e f b = 0) (ho : opp a c e f = true) : onP e f b = true := by
  rw [onP_iff]
  refine ⟨h2, ?_, ?_⟩
  · rcases (opp_iff _ _ _ _).1 ho with ⟨k1, k2⟩ | ⟨k1, k2⟩
    · exact frac_bt (m := crossP a c e - crossP a c f) (q := crossP a c e) (by omega) (by omega) (by omega) (by unfold crossP crossI at *; grind)
    · exact frac_bt (m := crossP a c f - crossP a c e) (q := -crossP a c e) (by omega) (by omega) (by omega) (by unfold crossP crossI at *; grind)
  · rcases (opp_iff _ _ _ _).1 ho with ⟨k1, k2⟩ | ⟨k1, k2⟩
    · exact frac_bt (m := crossP a c e - crossP a c f) (q := crossP a c e) (by omega) (by omega) (by omega) (by unfold crossP crossI at *; grind)
    · exact frac_bt (m := crossP a c f - crossP a c e) (q := -crossP a c e) (by omega) (by omega) (by omega) (by unfold crossP crossI at *; grind)
theorem pos_of_mul {m x y q : Int} (hm : 0 < m) (hq : 0 < q) (h : m * x = q * y) : (0 < y → 0 < x) ∧ (y < 0 → x < 0) := by
  constructor
  · intro hy
    have : 0 < m * x := by rw [h]; exact Int.mul_pos hq hy
    rcases Int.lt_trichotomy x 0 with h1 | h1 | h1
    · have := Int.mul_neg_of_pos_of_neg hm h1; omega
    · rw [h1, Int.mul_zero] at this; omega
    · exact h1
  · intro hy
    have : m * x < 0 := by rw [h]; exact Int.mul_neg_of_pos_of_neg hq hy
    rcases Int.lt_trichotomy x 0 with h1 | h1 | h1
    · exact h1
    · rw [h1, Int.mul_zero] at this; omega
    · have := Int.mul_pos hm h1; omega
/-- **Two parts that a segment does not meet: the whole does not, either.** -/
theorem meet_merge {a c b e f : Int × Int} (hb : onP a c b = true) (hba : b ≠ a) (hbc : b ≠ c) (h1 : meetI a b e f = 0) (h2 : meetI b c e f = 0) : meetI a c e f = 0 := by
  have hac : a ≠ c := by
    intro h
    subst h
    obtain ⟨_, k2, k3⟩ := (onP_iff _ _ _).1 hb
    exact hba (by unfold bt at k2 k3; exact Prod.ext (by omega) (by omega))
  obtain ⟨p, q, hw⟩ := on_wt hb hac
  have hp := hw.ne_c hbc
  have hq := hw.ne_a hba
  obtain ⟨o1, x1, x2, x3, x4⟩ := meet_zero.1 h1
  obtain ⟨o2, y1, y2, y3, y4⟩ := meet_zero.1 h2
  rw [meet_zero]
  refine ⟨?_, x1, y2, ?_, ?_⟩
  · cases ho : (opp a c e f && opp e f a c)
    · rfl
    · exfalso
      rw [Bool.and_eq_true] at ho
      obtain ⟨k1, k2⟩ := ho
      have hB := hw.cross3 e f
      rw [Bool.and_eq_false_iff] at o1 o2
      have n1 : opp a b e f = true := by
        have g1 := pos_of_mul hw.pq hq (hw.cross_ab e)
        have g2 := pos_of_mul hw.pq hq (hw.cross_ab f)
        rw [opp_iff] at k1 ⊢
        rcases k1 with k1 | k1
        · exact .inl ⟨g1.1 k1.1, g2.2 k1.2⟩
        · exact .inr ⟨g1.2 k1.1, g2.1 k1.2⟩
      have n2 : opp b c e f = true := by
        have g1 := pos_of_mul hw.pq hp (hw.cross_bc e)
        have g2 := pos_of_mul hw.pq hp (hw.cross_bc f)
        rw [opp_iff] at k1 ⊢
        rcases k1 with k1 | k1
        · exact .inl ⟨g1.1 k1.1, g2.2 k1.2⟩
        · exact .inr ⟨g1.2 k1.1, g2.1 k1.2⟩
      have m1 : ¬ opp e f a b = true := fun h => by rcases o1 with o | o <;> simp_all
      have m2 : ¬ opp e f b c = true := fun h => by rcases o2 with o | o <;> simp_all
      rw [opp_iff] at m1 m2 k2
      have hz : crossP e f b = 0 := by omega
      have hcb : crossP a c b = 0 := ((onP_iff _ _ _).1 hb).1
      have := on_crossing hcb hz k1
      rw [this] at x2
      cases x2
  · cases h : onP a c e
    · rfl
    · rcases on_part hb h with h3 | h3
      · rw [x3] at h3; cases h3
      · rw [y3] at h3; cases h3
  · cases h : onP a c f
    · rfl
    · rcases on_part hb h with h3 | h3
      · rw [x4] at h3; cases h3
      · rw [y4] at h3; cases h3
end Go.Proofs.Ytbmeemmihkedoaa

/-! Ring -/
namespace Go.Proofs.Ytbmeemmihkedoaa
open Go.RowKit

abbrev Pt := Int × Int
def consec (l : List Pt) : List (Pt × Pt) := l.zip l.tail
def sidesL : List Pt → List (Pt × Pt)
  | [] => []
  | x :: xs => consec (x :: xs ++ [x])
def Good (L : List Pt) : Prop := (3 ≤ L.length ∧ L.length ≤ 10) ∧ allOk L = true ∧ L.Nodup ∧ ∀ s ∈ sidesL L, ∀ t ∈ sidesL L, s ≠ t →
  (s.2 = t.1 → onP t.1 t.2 s.1 = false ∧ onP s.1 s.2 t.2 = false) ∧ (s.2 ≠ t.1 → t.2 ≠ s.1 → meetI s.1 s.2 t.1 t.2 = 0)
theorem sides_eq (L : List Pt) : sidesL L = (List.range L.length).map fun i => (gt L i, gt L (nx L i)) := by
  cases L with
  | nil => rfl
  | cons x xs =>
    apply List.ext_getElem
    · simp [sidesL, consec]
    · intro i h1 h2
      have hi : i < xs.length + 1 := by simpa using h2
      have hn : nx (x :: xs) i = if i + 1 = xs.length + 1 then 0 else i + 1 := nx_eq (L := x :: xs) (by simpa using hi)
      simp only [sidesL, consec, List.getElem_zip, List.getElem_map, List.getElem_range, hn, List.cons_append, List.tail_cons]
      have e1 : (x :: (xs ++ [x]))[i]'(by simp; omega) = gt (x :: xs) i := by
        rw [gt_at (by simpa using hi)]
        cases i with
        | zero => rfl
        | succ i =>
          simp only [List.getElem_cons_succ]
          rw [List.getElem_append_left (by omega)]
      rw [e1]
      congr 1
      by_cases h : i + 1 = xs.length + 1
      · rw [if_pos h, List.getElem_append_right (by omega)]
        simp [gt]
      · rw [if_neg h, List.getElem_append_left (by omega), gt_at (by simp; omega)]
        rfl
theorem mem_sides {L : List Pt} {s : Pt × Pt} : s ∈ sidesL L ↔ ∃ i, i < L.length ∧ s = (gt L i, gt L (nx L i)) := by
  rw [sides_eq]
  simp only [List.mem_map, List.mem_range]
  constructor
  · rintro ⟨i, hi, rfl⟩; exact ⟨i, hi, rfl⟩
  · rintro ⟨i, hi, rfl⟩; exact ⟨i, hi, rfl⟩
theorem nodup_iff {L : List Pt} : L.Nodup ↔ ∀ i k, i < k → k < L.length → gt L i ≠ gt L k := by
  rw [List.nodup_iff_pairwise_ne, List.pairwise_iff_getElem]
  constructor
  · intro h i k hi hk
    rw [gt_at (by omega), gt_at hk]
    exact h i k (by omega) hk hi
  · intro h i k hi hk hik
    have := h i k hik hk
    rw [gt_at hi, gt_at hk] at this
    exact this
theorem gt_inj {L : List Pt} (h : L.Nodup) {i k : Nat} (hi : i < L.length) (hk : k < L.length) (e : gt L i = gt L k) : i = k := by
  rcases Nat.lt_trichotomy i k with h1 | h1 | h1
  · exact absurd e (nodup_iff.1 h i k h1 hk)
  · exact h1
  · exact absurd e.symm (nodup_iff.1 h k i h1 hi)
theorem touch_one {a b c : Pt} (h1 : onP b c a = false) (h2 : onP a b c = false) : meetI a b b c = 1 := by
  have ho : opp a b b c = false := by
    have : crossP a b b = 0 := by unfold crossP crossI; grind
    cases h : opp a b b c
    · rfl
    · rw [opp_iff] at h; omega
  have hs : sharedS a b b c = [b, b] := by
    simp only [sharedS, List.filter_cons, List.filter_nil, h1, h2, on_left, on_right]
    rfl
  unfold meetI
  rw [ho, hs, Bool.false_and]
  simp [sameAll]
theorem one_touch {a b c : Pt} (hab : a ≠ b) (hbc : b ≠ c) (h : meetI a b b c = 1) : onP b c a = false ∧ onP a b c = false := by
  have hb : b ∈ sharedS a b b c := mem_shared.2 (.inl ⟨.inr rfl, on_left b c⟩)
  constructor
  · cases h1 : onP b c a
    · rfl
    · exact absurd (meet_one h a b (mem_shared.2 (.inl ⟨.inl rfl, h1⟩)) hb) hab
  · cases h1 : onP a b c
    · rfl
    · exact absurd (meet_one h b c hb (mem_shared.2 (.inr ⟨.inr rfl, h1⟩))) hbc
theorem poly_good {L : List Pt} (h : polyB L = true) : Good L := by
  obtain ⟨hn, hok, hne, hp⟩ := polyB_spec h
  have hnd : L.Nodup := by
    rw [nodup_iff]
    intro i k hik hk e
    have h1 := hp i k hik hk
    have hs : meetI (gt L i) (gt L (nx L i)) (gt L k) (gt L (nx L k)) ≠ 0 := by
      intro h0
      obtain ⟨_, h2, _⟩ := meet_zero.1 h0
      rw [e, on_left] at h2
      cases h2
    have ha : adjB L.length i k = true := by
      cases ha : adjB L.length i k
      · rw [ha] at h1; exact absurd h1 hs
      · rfl
    simp only [adjB, Bool.or_eq_true, Bool.and_eq_true, beq_iff_eq] at ha
    rcases ha with ha | ha
    · have := hne i (by omega)
      rw [nx_eq (by omega), if_neg (by omega), ← ha] at this
      exact this e
    · have := hne k hk
      rw [nx_eq hk, if_pos (by omega), ← ha.1] at this
      exact this e.symm
  have key : ∀ i k, i < k → k < L.length → (meetI (gt L i) (gt L (nx L i)) (gt L k) (gt L (nx L k)) = if nx L i = k ∨ nx L k = i then 1 else 0) := by
    intro i k hik hk
    have h1 := hp i k hik hk
    unfold pairM at h1
    have e : adjB L.length i k = true ↔ (nx L i = k ∨ nx L k = i) := by
      rw [nx_eq (by omega), nx_eq hk]
      simp only [adjB, Bool.or_eq_true, Bool.and_eq_true, beq_iff_eq]
      rw [if_neg (by omega)]
      by_cases hl : k + 1 = L.length
      · rw [if_pos hl]; omega
      · rw [if_neg hl]; omega
    cases ha : adjB L.length i k
    · rw [ha] at h1
      rw [if_neg (fun h => by rw [e.2 h] at ha; cases ha)]
      exact h1
    · rw [ha] at h1
      rw [if_pos (e.1 ha)]
      exact h1
  have key2 : ∀ i k, i ≠ k → i < L.length → k < L.length → (meetI (gt L i) (gt L (nx L i)) (gt L k) (gt L (nx L k)) = if nx L i = k ∨ nx L k = i then 1 else 0) := by
    intro i k hik hi hk
    rcases Nat.lt_or_gt_of_ne hik with h1 | h1
    · exact key i k h1 hk
    · have := key k i h1 hi
      rw [meetI_swap, this]
      by_cases hc : nx L i = k ∨ nx L k = i
      · rw [if_pos hc, if_pos hc.symm]
      · rw [if_neg hc, if_neg (fun h => hc h.symm)]
  refine ⟨hn, hok, hnd, ?_⟩
  intro s hs t ht hst
  obtain ⟨i, hi, rfl⟩ := mem_sides.1 hs
  obtain ⟨k, hk, rfl⟩ := mem_sides.1 ht
  have hik : i ≠ k := fun e => hst (by rw [e])
  have hm := key2 i k hik hi hk
  constructor
  · intro e
    have e' : nx L i = k := gt_inj hnd (nx_lt (by omega) i) hk e
    rw [if_pos (.inl e'), e'] at hm
    show onP (gt L k) (gt L (nx L k)) (gt L i) = false ∧ onP (gt L i) (gt L (nx L i)) (gt L (nx L k)) = false
    rw [e']
    have h1 := hne i hi
    rw [e'] at h1
    exact one_touch h1 (hne k hk) hm
  · intro e1 e2
    rw [if_neg (fun h => by
      rcases h with h | h
      · exact e1 (congrArg (gt L) h)
      · exact e2 (congrArg (gt L) h))] at hm
    exact hm
theorem good_poly {L : List Pt} (h : Good L) : polyB L = true := by
  obtain ⟨hn, hok, hnd, hg⟩ := h
  have hin : inB (L.length : Int) 3 10 = true := inB_spec.2 (by omega)
  have hne : ∀ i, i < L.length → gt L i ≠ gt L (nx L i) := fun i hi e => by
    have := gt_inj hnd hi (nx_lt (by omega) i) e
    rw [nx_eq hi] at this
    by_cases hl : i + 1 = L.length
    · rw [if_pos hl] at this; omega
    · rw [if_neg hl] at this; omega
  have h1 : nbB L = true := nb_true (fun i hi => by
    cases he : eqQ (gt L i) (gt L ((i + 1) % L.length))
    · rfl
    · exact absurd ((eqQ_iff _ _).1 he) (hne i hi))
  have h2 : pairsB L = true := pairs_true (fun i hi k hik hk => by
    have hs : (gt L i, gt L (nx L i)) ∈ sidesL L := mem_sides.2 ⟨i, hi, rfl⟩
    have ht : (gt L k, gt L (nx L k)) ∈ sidesL L := mem_sides.2 ⟨k, hk, rfl⟩
    have hst : (gt L i, gt L (nx L i)) ≠ (gt L k, gt L (nx L k)) := fun e => by
      have := gt_inj hnd hi hk (Prod.ext_iff.1 e).1; omega
    have hg1 := hg _ hs _ ht hst
    have hg2 := hg _ ht _ hs (Ne.symm hst)
    have hm : meetI (gt L i) (gt L (nx L i)) (gt L k) (gt L (nx L k)) = if nx L i = k ∨ nx L k = i then 1 else 0 := by
      by_cases h1 : nx L i = k
      · rw [if_pos (.inl h1)]
        have := hg1.1 (congrArg (gt L) h1)
        simp only [h1] at this ⊢
        exact touch_one this.1 this.2
      · by_cases h2 : nx L k = i
        · rw [if_pos (.inr h2)]
          have := hg2.1 (congrArg (gt L) h2)
          rw [meetI_swap]
          simp only [h2] at this ⊢
          exact touch_one this.1 this.2
        · rw [if_neg (by rintro (h | h) <;> contradiction)]
          exact hg1.2 (fun e => h1 (gt_inj hnd (nx_lt (by omega) i) hk e)) (fun e => h2 (gt_inj hnd (nx_lt (by omega) k) hi e))
    have e : adjB L.length i k = true ↔ (nx L i = k ∨ nx L k = i) := by
      rw [nx_eq (by omega), nx_eq hk]
      simp only [adjB, Bool.or_eq_true, Bool.and_eq_true, beq_iff_eq]
      rw [if_neg (by omega)]
      by_cases hl : k + 1 = L.length
      · rw [if_pos hl]; omega
      · rw [if_neg hl]; omega
    unfold pairOk pairM
    rw [show (i + 1) % L.length = nx L i from rfl, show (k + 1) % L.length = nx L k from rfl, hm]
    cases ha : adjB L.length i k
    · rw [if_neg (fun h => by rw [e.2 h] at ha; cases ha)]; rfl
    · rw [if_pos (e.1 ha)]; rfl)
  rw [polyB, hin, hok, h1, h2]; rfl
theorem poly_iff (L : List Pt) : polyB L = true ↔ Good L := ⟨poly_good, good_poly⟩
end Go.Proofs.Ytbmeemmihkedoaa

/-! Start -/
namespace Go.Proofs.Ytbmeemmihkedoaa
open Go.RowKit

def rotL (L : List (Int × Int)) (k : Nat) : List (Int × Int) := L.drop k ++ L.take k
theorem rotL_len (L : List (Int × Int)) (k : Nat) : (rotL L k).length = L.length := by simp [rotL]; omega

theorem step_append_any {P : Program} {ops : Array Oper} {o : Oper} {a : Act} {w : World} {K : Act → World → Prop} {Q : Exit → Act → World → Prop} {E : Prop} (hgd : o.guard = none) (s x : Operand) (t : TypeId)
    (ho : o.op = .call { callee := .builtin .append, args := #[s, x], argTypes := #[t, t] })
    (base : Nat) (e : TypeId) (i : TypeInfo) (z : Value) (size bytes : Nat) (ht : P.underlying t = some (.slice e)) (hi : P.info? e = some i) (hz : i.zero = some z)
    (hsize : i.size = size) (hby : i.bytes = bytes) (hzs : z.cells.size = size) (hsz : 0 < size)
    (v : Value) (n : Nat) (xs : List Value) (hs : a.eval s = v) (hown : w.ownsRow base e size v n xs)
    (ad : Addr) (m c : Nat) (news : List Value) (hx : a.eval x = .slice (some ad) m c) (hl : news.length = m * size) (hnews : ∀ j u, news[j]? = some u → w.cell? (ad.add j) = some u) (h1 : ∀ u ∈ news, u.oneCell' = true)
    (h63 : n + m ≤ maxLen) (hbytes : (n + m) * bytes ≤ 140737488355328) (hbase : base ≤ w.heap.size)
    (h : ∀ v' w', w'.ownsRow base e size v' (n + m) (xs ++ news) → w.grownBy w' v.ownBlock → K (a.put o.dst v') w') :
    if Region.wanted o (yielded ops a.tmps) = true then Oper.wp P o a w K Q else E := by
  have hw : Region.wanted o (yielded ops a.tmps) = true := by simp [Region.wanted, hgd]
  rw [if_pos hw]
  obtain ⟨v', w', hrun, r1, r2, _⟩ := run_append_own (P := P) w base t o.type e i z size bytes ht hi hz hsize hby hzs hsz v n xs hown ad m c news hl hnews h1 h63 hbytes hbase
  unfold Oper.wp
  simp [execOp, ho, resolve, invoke, builtin, hs, hx, hrun, Result.andThen]
  exact h v' w' r1 r2

theorem ptsA_take {w : World} {g : Nat} {L : List (Int × Int)} (h : PtsA w (some ⟨g, 0, none⟩) L) (k : Nat) : ∀ j u, (flat (L.take k))[j]? = some u → w.cell? (Addr.add ⟨g, 0, none⟩ j) = some u := by
  intro j u hu
  have h0 := ptsA_news h 0 j u
  rw [List.drop_zero, Nat.zero_mul] at h0
  refine h0 ?_
  have e : flat L = flat (L.take k) ++ flat (L.drop k) := by rw [← flat_append, List.take_append_drop]
  have hj : j < (flat (L.take k)).length := by
    rcases Nat.lt_or_ge j (flat (L.take k)).length with h1 | h1
    · exact h1
    · rw [List.getElem?_eq_none h1] at hu; cases hu
  rw [e, List.getElem?_append_left hj]
  exact hu


set_option maxRecDepth 100000 in
set_option maxHeartbeats 2000000 in
theorem grow_any (n : Nat) (w : World) (h1 : 1 ≤ n) (h2 : n ≤ 1048576) :
    Calls Try.prog 199 #[.slice none 0 0, .int .i64 n] w fun e w' => ∃ g cap, e = .returned (.slice (some ⟨g, 0, none⟩) 0 cap) ∧ w'.ownsRow w.heap.size 27 2 (.slice (some ⟨g, 0, none⟩) 0 cap) 0 [] ∧ Below w.heap.size w w' := by
  obtain ⟨i0, hi0, hz0, hz1, hz2⟩ := info_parts infoPt
  have hn0 : ¬ ((n : Int) < 0) := by omega
  have hn1 : (n : Int) > 0 := by omega
  have hold : (Builtin.firstCells i0.size 0 (.slice none 0 0)).run Try.prog w.drew = .ok ([] : List Value).toArray w.drew := run_firstCells_none _ i0.size 0 0 0
  have hrz : ∀ ty, (Builtin.append_ #[35, 3] ty #[.slice none 0 0, .int .i64 n]).run Try.prog w =
      .ok (.slice (some ⟨w.heap.size, 0, none⟩) n (grownCap w n 0 27)) (w.drew.alloc (.cells (([] : List Value).toArray ++ Builtin.zeroCells (Value.agg #[.int .i64 0, .int .i64 0]).cells n ++ Builtin.zeroCells (Value.agg #[.int .i64 0, .int .i64 0]).cells (grownCap w n 0 27 - n)) 27)) := fun ty => by
    have h := Lib.run_append_grow_zeros w 35 3 ty 27 i0 (.agg #[.int .i64 0, .int .i64 0]) .i64 .i64 Try.underlying35 Try.underlying3 hi0 hz0 none 0 0 [] hold n (by omega) (by omega) (by omega) (by omega)
      (by rw [hz2]; omega) (by rw [Nat.zero_add]; exact growslice_fits (by omega) (by rw [hz2]; omega))
    rw [Nat.zero_add] at h
    exact h
  have hGn : n ≤ grownCap w n 0 27 := grownCap_ge w _ _ _
  obtain ⟨G, hG⟩ : ∃ G, G = grownCap w n 0 27 := ⟨_, rfl⟩
  rw [← hG] at hrz hGn
  have hGm : G ≤ maxLen := by rw [hG]; exact grownCap_le_maxLen w n 0 27 (by unfold maxLen; omega)
  have hG63 : G ≤ 9223372036854775807 := by unfold maxLen at hGm; omega
  obtain ⟨C, hC⟩ : ∃ C, C = ([] : List Value).toArray ++ Builtin.zeroCells (Value.agg #[.int .i64 0, .int .i64 0]).cells n ++ Builtin.zeroCells (Value.agg #[.int .i64 0, .int .i64 0]).cells (G - n) := ⟨_, rfl⟩
  have hCs : C.size = G * 2 := by
    have e : (Value.agg #[.int .i64 0, .int .i64 0]).cells.size = 2 := rfl
    rw [hC, Array.size_append, Array.size_append, size_zeroCells, size_zeroCells, e]
    simp; omega
  rw [← hC] at hrz
  have R : Hid ((w.drew.alloc (.cells C 27)).ownsRow w.heap.size 27 2 (.slice (some ⟨w.heap.size, 0, none⟩) 0 G) 0 [] ∧ Below w.heap.size w (w.drew.alloc (.cells C 27))) :=
    ⟨⟨rfl, .inr ⟨w.heap.size, G, C, rfl, Nat.le_refl _, heap_alloc_new w.drew _, Nat.zero_le _, hGm, hCs, rfl⟩⟩, ((Below.refl _ w).drew).alloc (Nat.le_refl _) _⟩
  clear hold hG hC hCs hGm
  go_enter Try.func199, Try.ntmps199
  go_wp2_with (at_builtin; refine Lib.wpList_append_run _ rfl _ _ _ _ rfl _ _ rfl rfl _ _ (hrz _) ?_)
  go_ret
  exact ⟨_, _, rfl, R.out.1, R.out.2⟩

def catN (L : List (Int × Int)) (k : Nat) : Nat → Nat
  | 0 => 0
  | 1 => L.length - k
  | _ => L.length
def catL (L : List (Int × Int)) (k : Nat) : Nat → List (Int × Int)
  | 0 => []
  | 1 => L.drop k
  | _ => rotL L k
set_option maxRecDepth 100000 in
set_option maxHeartbeats 4000000 in
theorem concat_any (g gs c1 c2 k : Nat) (L : List (Int × Int)) (w : World) (hA : PtsA w (some ⟨g, 0, none⟩) L) (hk : k < L.length) (h2 : L.length ≤ 1048576)
    (s0 : w.cell? ⟨gs, 0, none⟩ = some (.slice (some ⟨g, k * 2, none⟩) (L.length - k) c1)) (s1 : w.cell? ⟨gs, 1, none⟩ = some (.slice (some ⟨g, 0, none⟩) k c2)) :
    Calls Try.prog 182 #[.slice (some ⟨gs, 0, none⟩) 2 2] w (Lists w (rotL L k)) := by
  obtain ⟨i0, hi0, hz0, hz1, hz2⟩ := info_parts infoPt
  have HU : Hid (Lists w (rotL L k) = fun e w' => ∃ v, e = .returned v ∧ w'.ownsRow w.heap.size 27 2 v (catN L k 2) (flat (catL L k 2)) ∧ Below w.heap.size w w') := by
    show _ = _
    unfold Lists
    rw [rotL_len]; rfl
  have HA := Lib.hid hA
  have HK := Lib.hid hk
  have HS0 := Lib.hid s0
  have HS1 := Lib.hid s1
  have f1 : ((L.length - k : Nat) : Int) + (k : Int) = (L.length : Int) := by omega
  clear hA
  go_enter Try.func182, Try.ntmps182
  go_wp2_with fail
  go_loop [3, 11] (fun s i => ∃ j : Nat, j ≤ 2 ∧ i = .int .i64 j ∧ s = .int .i64 (catN L k j)) (fun _ i => 2 - (intOf i).toNat)
  case atStart => exact ⟨0, by omega, rfl, rfl⟩
  case round =>
    obtain ⟨j, hj, rfl, rfl⟩ := hrel
    match j, hj with
    | 0, _ =>
      have e0 : catN L k 0 = 0 := rfl
      rw [e0]
      clear e0 s1
      go_wp2_with fail
      go_round
      case rel => exact ⟨1, by omega, by first | rfl | go_num, by first | rfl | go_num⟩
      case measure => simp [intOf]
    | 1, _ =>
      have e0 : catN L k 1 = L.length - k := rfl
      rw [e0]
      clear e0 s0
      go_wp2_with fail
      go_round
      case rel => exact ⟨2, by omega, by first | rfl | go_num, by first | rfl | go_num | exact congrArg _ f1⟩
      case measure => simp [intOf]
    | 2, _ =>
      have e0 : catN L k 2 = L.length := rfl
      rw [e0]
      clear e0 s0 s1 f1
      go_wp2_with fail
      refine (grow_any L.length w (by omega) h2).mono ?_
      rintro e w1 ⟨g1, cp1, rfl, own1, b1⟩
      have R1 := Lib.hid (And.intro own1 b1)
      clear own1 b1
      go_wp2_with fail
      go_loopw [6, 27] (fun v i wr => ∃ j : Nat, j ≤ 2 ∧ i = .int .i64 j ∧ wr.ownsRow w.heap.size 27 2 v (catN L k j) (flat (catL L k j)) ∧ Below w.heap.size w wr) (fun _ i _ => 2 - (intOf i).toNat)
      case atStart => exact ⟨0, by omega, by first | rfl | go_num, R1.out.1, R1.out.2⟩
      case round =>
        obtain ⟨j, hj, rfl, own, b⟩ := hrel
        match j, hj with
        | 0, _ =>
          have s0 := cell_on b rfl HS0.out
          have HN := Lib.hid (ptsA_news (ptsA_on HA.out b) k)
          have hsz := b.size
          have own0 : wr.ownsRow w.heap.size 27 2 u6 0 [] := own
          have HB := Lib.hid b
          clear own b
          go_wp2_with (at_builtin; refine wpList_append_own _ rfl _ _ 35 rfl w.heap.size 27 i0 (.agg #[.int .i64 0, .int .i64 0]) 2 16 Try.underlying35 hi0 hz0 hz1 hz2 rfl (by decide) _ _ _ rfl own0 ⟨g, k * 2, none⟩ (L.length - k) c1 (flat (L.drop k)) rfl (by rw [flat_len, List.length_drop]) HN.out (flat_one _) ?d3 ?d4 hsz ?_)
          case d3 => unfold maxLen; omega
          case d4 => omega
          intro v' w6 own6 hgrow _
          have R : Hid (w6.ownsRow w.heap.size 27 2 v' (catN L k 1) (flat (catL L k 1)) ∧ Below w.heap.size w w6) :=
            ⟨show w6.ownsRow w.heap.size 27 2 v' (L.length - k) (flat (L.drop k)) from by simpa using own6, HB.out.grown hgrow hsz (fun q hq => (own0.lt q hq).1)⟩
          clear own0 own6 hgrow s0
          go_wp2_with fail
          go_roundw
          case rel => exact ⟨1, by omega, by first | rfl | go_num, R.out.1, R.out.2⟩
          case measure => simp [intOf]
        | 1, _ =>
          have s0 := cell_on b rfl HS1.out
          have HN := Lib.hid (ptsA_take (ptsA_on HA.out b) k)
          have hsz := b.size
          have own0 : wr.ownsRow w.heap.size 27 2 u6 (L.length - k) (flat (L.drop k)) := own
          have HB := Lib.hid b
          clear own b
          go_wp2_with (at_builtin; refine wpList_append_own _ rfl _ _ 35 rfl w.heap.size 27 i0 (.agg #[.int .i64 0, .int .i64 0]) 2 16 Try.underlying35 hi0 hz0 hz1 hz2 rfl (by decide) _ _ _ rfl own0 ⟨g, 0, none⟩ k c2 (flat (L.take k)) rfl (by rw [flat_len, List.length_take]; have := HK.out; omega) HN.out (flat_one _) ?d3 ?d4 hsz ?_)
          case d3 => unfold maxLen; omega
          case d4 => omega
          intro v' w6 own6 hgrow _
          have R : Hid (w6.ownsRow w.heap.size 27 2 v' (catN L k 2) (flat (catL L k 2)) ∧ Below w.heap.size w w6) := by
            refine ⟨?_, HB.out.grown hgrow hsz (fun q hq => (own0.lt q hq).1)⟩
            have e1 : catN L k 2 = L.length - k + k := by show L.length = _; have := HK.out; omega
            have e2 : flat (catL L k 2) = flat (L.drop k) ++ flat (L.take k) := by show flat (rotL L k) = _; rw [rotL, flat_append]
            rw [e1, e2]; exact own6
          clear own0 own6 hgrow s0
          go_wp2_with fail
          go_roundw
          case rel => exact ⟨2, by omega, by first | rfl | go_num, R.out.1, R.out.2⟩
          case measure => simp [intOf]
        | 2, _ =>
          have R := Lib.hid (And.intro own b)
          clear own b
          go_wp2_with fail
          go_ret
          rw [HU.out]
          exact ⟨_, rfl, R.out.1, R.out.2⟩

/-! ### StartAt -/
def startV (L : List (Int × Int)) (k : Int) : List (Int × Int) := bif polyB L && inB k 0 ((L.length : Int) - 1) then rotL L k.toNat else []
theorem startV_len (L : List (Int × Int)) (k : Int) : (startV L k).length ≤ 1048576 := by
  unfold startV
  cases h : polyB L
  · simp
  · have := polyB_all h
    cases inB k 0 ((L.length : Int) - 1)
    · simp
    · simp only [Bool.and_self, cond_true, rotL_len]; omega

set_option maxRecDepth 100000 in
set_option maxHeartbeats 2000000 in
theorem impl_start (A : Option Addr) (c : Nat) (L : List (Int × Int)) (k : Int) (w : World) (hA : PtsA w A L) (hc : L.length ≤ c) (hL : L.length ≤ 1048576) :
    Calls Try.prog 155 #[.slice A L.length c, .int .i64 k] w (Lists w (startV L k)) := by
  have PC := Lib.hid (impl_poly A c L w hA hL)
  have no : startV L k = [] → Hid (Lists w (startV L k) = fun e w' => ∃ v, e = .returned v ∧ w'.ownsRow w.heap.size 27 2 v 0 [] ∧ Below w.heap.size w w') := fun h => by
    show _ = _
    rw [h]; rfl
  cases hp : polyB L
  · have HU := no (by rw [startV, hp]; rfl)
    rw [hp] at PC
    clear no hA
    go_enter Try.func155, Try.ntmps155
    go_wp2_with fail
    refine PC.out.mono ?_
    rintro e w1 ⟨rfl, hb1⟩
    go_wp2_with fail
    go_ret
    rw [HU.out]
    exact ⟨_, rfl, World.ownsRow_nil _ _ _ _, hb1⟩
  · obtain ⟨h3, h10, hok⟩ := polyB_all hp
    rw [hp] at PC
    have HI := Lib.hid (fun w => from_any k 0 ((L.length : Int) - 1) w)
    cases hk : inB k 0 ((L.length : Int) - 1)
    · have HU := no (by rw [startV, hp, hk]; rfl)
      rw [hk] at HI
      clear no hA
      go_enter Try.func155, Try.ntmps155
      go_wp2_with fail
      refine PC.out.mono ?_
      rintro e w1 ⟨rfl, hb1⟩
      go_wp2_with fail
      refine (HI.out _).mono ?_
      rintro e w2 ⟨rfl, rfl⟩
      go_wp2_with fail
      go_ret
      rw [HU.out]
      exact ⟨_, rfl, World.ownsRow_nil _ _ _ _, hb1⟩
    · have hkb := inB_spec.1 hk
      obtain ⟨q, rfl⟩ : ∃ q : Nat, k = (q : Int) := ⟨k.toNat, by omega⟩
      have hq : q < L.length := by omega
      have HU : Hid (Lists w (startV L q) = fun e w' => ∃ v, e = .returned v ∧ w'.ownsRow w.heap.size 27 2 v (rotL L q).length (flat (rotL L q)) ∧ Below w.heap.size w w') := by
        show _ = _
        rw [startV, hp, hk]; rfl
      rw [hk] at HI
      obtain ⟨g, rfl, -⟩ := hA 0 (by omega)
      have HA := Lib.hid hA
      have HT := Lib.hid (fun (gs c1 c2 : Nat) (W : World) (hb : Below w.heap.size w W) s0 s1 => concat_any g gs c1 c2 q L W (ptsA_on hA hb) hq hL s0 s1)
      unfold Lists at HT
      have hkc : ¬ q = c := by omega
      have hkc' : ¬ c = q := by omega
      have hkn : (q : Int) ≤ (L.length : Int) := by omega
      have hkc2 : (q : Int) ≤ (c : Int) := by omega
      have hnc : (L.length : Int) ≤ (c : Int) := by omega
      clear no hA hkb
      go_enter Try.func155, Try.ntmps155
      go_wp2_with fail
      refine PC.out.mono ?_
      rintro e w1 ⟨rfl, hb1⟩
      go_wp2_with fail
      refine (HI.out _).mono ?_
      rintro e w2 ⟨rfl, rfl⟩
      go_wp2_with fail
      have hz := hb1.size
      have hal := (hb1.drew).alloc hz (.cells #[.slice (some ⟨g, q * 2, none⟩) (L.length - q) (c - q), .slice (some ⟨g, 0, none⟩) q c] 35)
      have hh := heap_alloc_new w2.drew (.cells #[.slice (some ⟨g, q * 2, none⟩) (L.length - q) (c - q), .slice (some ⟨g, 0, none⟩) q c] 35)
      go_region_with (go_at_call 182; refine (HT.out w2.heap.size (c - q) c _ hal (cell_of_row _ _ 0 _ _ _ hh) (cell_of_row _ _ 1 _ _ _ hh)).mono ?_; rintro e w3 ⟨v, rfl, own, hb3⟩)
      all_goals
        have R := Lib.hid (And.intro (own_base own hal.size) (hal.trans (hb3.mono hal.size)))
        clear own hb1 hb3 hal hh
        go_wp2_with fail
        go_ret
        rw [HU.out]
        exact ⟨_, rfl, R.out.1, R.out.2⟩
end Go.Proofs.Ytbmeemmihkedoaa

/-! Same -/
namespace Go.Proofs.Ytbmeemmihkedoaa
open Go.RowKit

theorem consec_snoc (l : List Pt) (a b : Pt) : consec (l ++ [a] ++ [b]) = consec (l ++ [a]) ++ [(a, b)] := by
  induction l with
  | nil => rfl
  | cons x l ih =>
    cases l with
    | nil => rfl
    | cons y l =>
      have e1 : consec (x :: y :: l ++ [a] ++ [b]) = (x, y) :: consec (y :: l ++ [a] ++ [b]) := rfl
      have e2 : consec (x :: y :: l ++ [a]) = (x, y) :: consec (y :: l ++ [a]) := rfl
      rw [e1, e2, ih]; rfl
theorem good_of {L M : List Pt} (hl : M.length = L.length) (hm : ∀ p, p ∈ M ↔ p ∈ L) (hd : M.Nodup) (hs : ∀ s, s ∈ sidesL M → s ∈ sidesL L) (h : Good L) : Good M := by
  obtain ⟨h1, h2, h3, h4⟩ := h
  refine ⟨by rw [hl]; exact h1, ?_, hd, fun s hs1 t ht1 hst => h4 s (hs s hs1) t (hs t ht1) hst⟩
  simp only [allOk, List.all_eq_true] at h2 ⊢
  exact fun p hp => h2 p ((hm p).1 hp)
theorem sides_step (x y : Pt) (ys : List Pt) (s : Pt × Pt) : s ∈ sidesL (y :: ys ++ [x]) ↔ s ∈ sidesL (x :: y :: ys) := by
  have e1 : sidesL (x :: y :: ys) = (x, y) :: consec (y :: ys ++ [x]) := rfl
  have e2 : sidesL (y :: ys ++ [x]) = consec (y :: ys ++ [x] ++ [y]) := rfl
  rw [e1, e2, consec_snoc]
  rw [List.mem_append, List.mem_singleton, List.mem_cons]
  exact Or.comm
theorem good_step (x : Pt) (xs : List Pt) : Good (xs ++ [x]) ↔ Good (x :: xs) := by
  cases xs with
  | nil => exact Iff.rfl
  | cons y ys =>
    constructor
    · intro h
      refine good_of (L := y :: ys ++ [x]) (by simp) (fun p => by simp only [List.mem_cons, List.mem_append, List.not_mem_nil, or_false]; constructor <;> (intro h; rcases h with h | h | h <;> simp [h]) ) ?_ (fun s hs => (sides_step x y ys s).2 hs) h
      exact (List.perm_append_comm (l₁ := y :: ys) (l₂ := [x])).nodup_iff.1 h.2.2.1
    · intro h
      refine good_of (L := x :: y :: ys) (by simp) (fun p => by simp only [List.mem_cons, List.mem_append, List.not_mem_nil, or_false]; constructor <;> (intro h; rcases h with h | h | h <;> simp [h]) ) ?_ (fun s hs => (sides_step x y ys s).1 hs) h
      exact (List.perm_append_comm (l₁ := y :: ys) (l₂ := [x])).nodup_iff.2 h.2.2.1
theorem rotL_zero (L : List Pt) : rotL L 0 = L := by simp [rotL]
theorem rotL_succ {L : List Pt} {k : Nat} (hk : k < L.length) : ∃ x xs, rotL L k = x :: xs ∧ rotL L (k + 1) = xs ++ [x] := by
  refine ⟨L[k], L.drop (k + 1) ++ L.take k, ?_, ?_⟩
  · rw [rotL, List.drop_eq_getElem_cons hk]; rfl
  · rw [rotL, List.take_succ_eq_append_getElem hk, List.append_assoc]
theorem good_rot {L : List Pt} (h : Good L) : ∀ k, k ≤ L.length → Good (rotL L k) := by
  intro k
  induction k with
  | zero => intro _; rw [rotL_zero]; exact h
  | succ k ih =>
    intro hk
    obtain ⟨x, xs, e1, e2⟩ := rotL_succ (L := L) (k := k) (by omega)
    have := ih (by omega)
    rw [e1] at this
    rw [e2]
    exact (good_step x xs).2 this

/-! ### Without a straight corner -/
theorem cross_z (a b : Pt) : crossP a b b = 0 := by unfold crossP crossI; grind
theorem good_drop {b : Pt} {Y : List Pt} (h : Good (b :: Y)) (h4 : 3 ≤ Y.length) (hs : onP (gt Y (Y.length - 1)) (gt Y 0) b = true) : Good Y := by
  obtain ⟨h1, h2, h3, hg⟩ := h
  have hb : b ∉ Y := (List.nodup_cons.1 h3).1
  have hY : Y.Nodup := (List.nodup_cons.1 h3).2
  obtain ⟨c, Y', rfl⟩ : ∃ c Y', Y = c :: Y' := by
    cases Y with
    | nil => simp at h4
    | cons c Y' => exact ⟨c, Y', rfl⟩
  obtain ⟨a, ha⟩ : ∃ a, a = gt (c :: Y') ((c :: Y').length - 1) := ⟨_, rfl⟩
  have hc : gt (c :: Y') 0 = c := rfl
  rw [← ha, hc] at hs
  have hlast : c :: Y' = (c :: Y').dropLast ++ [a] := by
    have hl : (c :: Y').getLast (by simp) = a := by
      rw [ha, gt_at (by simp), List.getLast_eq_getElem]
    rw [← hl]
    exact (List.dropLast_concat_getLast _).symm
  have eL : sidesL (b :: c :: Y') = (b, c) :: consec (c :: Y') ++ [(a, b)] := by
    have e1 : sidesL (b :: c :: Y') = (b, c) :: consec (c :: Y' ++ [b]) := rfl
    rw [e1, hlast, consec_snoc]
    rfl
  have eY : sidesL (c :: Y') = consec (c :: Y') ++ [(a, c)] := by
    have e1 : sidesL (c :: Y') = consec (c :: Y' ++ [c]) := rfl
    rw [e1]
    conv => lhs; rw [hlast]
    rw [consec_snoc, ← hlast]
  have hbc : (b, c) ∈ sidesL (b :: c :: Y') := by rw [eL]; simp
  have hab : (a, b) ∈ sidesL (b :: c :: Y') := by rw [eL]; simp
  have hin : ∀ t, t ∈ consec (c :: Y') → t ∈ sidesL (b :: c :: Y') := fun t ht => by rw [eL]; simp [ht]
  have hmem : ∀ t, t ∈ consec (c :: Y') → t.1 ∈ c :: Y' ∧ t.2 ∈ c :: Y' := fun t ht => by
    have := List.of_mem_zip (a := t.1) (b := t.2) (l₁ := c :: Y') (l₂ := (c :: Y').tail) ht
    exact ⟨this.1, List.mem_of_mem_tail this.2⟩
  have haY : a ∈ c :: Y' := by rw [hlast]; simp
  have hba : b ≠ a := fun e => hb (e ▸ haY)
  have hbcn : b ≠ c := fun e => hb (e ▸ List.mem_cons_self)
  have hne1 : ∀ t, t ∈ consec (c :: Y') → t.1 ≠ b ∧ t.2 ≠ b := fun t ht => ⟨fun e => hb (e ▸ (hmem t ht).1), fun e => hb (e ▸ (hmem t ht).2)⟩
  -- a side from c does not lead to a
  have hca : ∀ t, t ∈ consec (c :: Y') → t.1 = c → t.2 ≠ a := fun t ht e1 e2 => by
    obtain ⟨i, hi, hti⟩ := mem_sides.1 (hin t ht)
    rw [hti] at e1 e2
    have k1 : gt (b :: c :: Y') i = gt (b :: c :: Y') 1 := e1
    have k2 := gt_inj h3 hi (by simp) k1
    have k3 : gt (b :: c :: Y') (nx (b :: c :: Y') i) = gt (b :: c :: Y') ((b :: c :: Y').length - 1) := by
      rw [show gt (b :: c :: Y') (nx (b :: c :: Y') i) = a from e2, ha]
      simp only [gt, List.length_cons, Nat.add_sub_cancel]
      cases hY' : Y'.length with
      | zero => simp at h4; omega
      | succ n => simp
    have k4 := gt_inj h3 (nx_lt (by simp) i) (by simp) k3
    rw [nx_eq hi] at k4
    simp only [List.length_cons] at k4 h4
    by_cases hl : i + 1 = Y'.length + 1 + 1
    · rw [if_pos hl] at k4; omega
    · rw [if_neg hl] at k4; omega
  have hac : a ≠ c := fun e => by
    have : gt (c :: Y') ((c :: Y').length - 1) = gt (c :: Y') 0 := by rw [← ha, e]; rfl
    have := gt_inj hY (by simp) (by simp) this
    simp only [List.length_cons] at this h4; omega
  -- the new side meets no other one
  have new0 : ∀ t, t ∈ consec (c :: Y') → t.1 ≠ c → t.2 ≠ a → meetI a c t.1 t.2 = 0 := fun t ht k1 k2 => by
    obtain ⟨n1, n2⟩ := hne1 t ht
    have m1 := (hg _ hab _ (hin t ht) (fun e => n2 (Prod.ext_iff.1 e).2.symm)).2 (Ne.symm n1) k2
    have m2 := (hg _ hbc _ (hin t ht) (fun e => n1 (Prod.ext_iff.1 e).1.symm)).2 (Ne.symm k1) n2
    exact meet_merge hs hba hbcn m1 m2
  have new1 : ∀ t, t ∈ consec (c :: Y') → t.1 = c → onP t.1 t.2 a = false ∧ onP a c t.2 = false := fun t ht k1 => by
    obtain ⟨n1, n2⟩ := hne1 t ht
    have k2 := hca t ht k1
    have m1 := (hg _ hab _ (hin t ht) (fun e => n2 (Prod.ext_iff.1 e).2.symm)).2 (Ne.symm n1) k2
    have m2 := (hg _ hbc _ (hin t ht) (fun e => n1 (Prod.ext_iff.1 e).1.symm)).1 k1.symm
    obtain ⟨-, z1, -, -, z4⟩ := meet_zero.1 m1
    refine ⟨z1, ?_⟩
    cases hq : onP a c t.2
    · rfl
    · rcases on_part hs hq with h5 | h5
      · rw [show onP a b t.2 = false from z4] at h5; cases h5
      · rw [show onP b c t.2 = false from m2.2] at h5; cases h5
  have new2 : ∀ t, t ∈ consec (c :: Y') → t.2 = a → onP a c t.1 = false ∧ onP t.1 t.2 c = false := fun t ht k1 => by
    obtain ⟨n1, n2⟩ := hne1 t ht
    have k2 : t.1 ≠ c := fun e => hca t ht e k1
    have m1 := (hg _ (hin t ht) _ hab (fun e => n2 (Prod.ext_iff.1 e).2)).1 k1
    have m2 := (hg _ hbc _ (hin t ht) (fun e => n1 (Prod.ext_iff.1 e).1.symm)).2 (Ne.symm k2) n2
    obtain ⟨-, -, z2, z3, -⟩ := meet_zero.1 m2
    refine ⟨?_, z2⟩
    cases hq : onP a c t.1
    · rfl
    · rcases on_part hs hq with h5 | h5
      · rw [show onP a b t.1 = false from m1.1] at h5; cases h5
      · rw [show onP b c t.1 = false from z3] at h5; cases h5
  refine ⟨⟨h4, by have := h1.2; simp at this ⊢; omega⟩, ?_, hY, ?_⟩
  · simp only [allOk, List.all_eq_true] at h2 ⊢
    exact fun p hp => h2 p (List.mem_cons_of_mem _ hp)
  · intro s hs1 t ht1 hst
    rw [eY] at hs1 ht1
    simp only [List.mem_append, List.mem_cons, List.not_mem_nil, or_false] at hs1 ht1
    rcases hs1 with hs1 | rfl <;> rcases ht1 with ht1 | rfl
    · exact hg s (hin s hs1) t (hin t ht1) hst
    · refine ⟨fun e => ?_, fun e1 e2 => ?_⟩
      · have := new2 s hs1 e
        exact ⟨this.1, this.2⟩
      · rw [meetI_swap]
        exact new0 s hs1 (Ne.symm e2) e1
    · exact ⟨fun e => new1 t ht1 e.symm, fun e1 e2 => new0 t ht1 (Ne.symm e1) e2⟩
    · exact absurd rfl hst
end Go.Proofs.Ytbmeemmihkedoaa

/-! Shape -/
namespace Go.Proofs.Ytbmeemmihkedoaa
open Go.RowKit

theorem straight_filter (L : List Pt) : ∀ k, straightTill L k = ((List.range k).filter (bentB L)).map (gt L) := by
  intro k
  induction k with
  | zero => rfl
  | succ k ih =>
    rw [straightTill, ih, List.range_succ, List.filter_append, List.map_append, List.filter_cons, List.filter_nil]
    cases bentB L k <;> simp
theorem straightL_eq (L : List Pt) : straightL L = ((List.range L.length).filter (bentB L)).map (gt L) := straight_filter L _
theorem gt_step (x : Pt) (xs : List Pt) {i : Nat} (hi : i < (x :: xs).length) : gt (xs ++ [x]) i = gt (x :: xs) (nx (x :: xs) i) := by
  rw [nx_eq hi]
  simp only [List.length_cons] at hi ⊢
  by_cases h : i + 1 = xs.length + 1
  · rw [if_pos h, gt_at (by simp; omega), List.getElem_append_right (by omega)]
    simp [gt]
  · rw [if_neg h, gt_at (by simp; omega), List.getElem_append_left (by omega), gt_at (by simp; omega)]
    rfl
theorem bent_step (x : Pt) (xs : List Pt) {i : Nat} (hi : i < (x :: xs).length) : bentB (xs ++ [x]) i = bentB (x :: xs) (nx (x :: xs) i) := by
  have hl : (xs ++ [x]).length = (x :: xs).length := by simp
  have h0 : 0 < (x :: xs).length := by simp
  have e1 : pv (xs ++ [x]) i = pv (x :: xs) i := by unfold pv; rw [hl]
  have e2 : nx (xs ++ [x]) i = nx (x :: xs) i := by unfold nx; rw [hl]
  have e3 : pv (x :: xs) (nx (x :: xs) i) = i := by
    rw [pv_eq (nx_lt h0 i), nx_eq hi]
    by_cases h : i + 1 = (x :: xs).length
    · rw [if_pos h, if_pos rfl]; omega
    · rw [if_neg h, if_neg (by omega)]; omega
  unfold bentB
  rw [e1, e2, gt_step x xs hi, gt_step x xs (pv_lt h0 i), gt_step x xs (nx_lt h0 i), nx_pv hi, e3]
theorem range_nx (x : Pt) (xs : List Pt) : (List.range (x :: xs).length).map (nx (x :: xs)) = (List.range xs.length).map Nat.succ ++ [0] := by
  rw [List.length_cons, List.range_succ, List.map_append]
  congr 1
  · apply List.map_congr_left
    intro i hi
    have : i < xs.length := List.mem_range.1 hi
    rw [nx_eq (by simp; omega), if_neg (by simp; omega)]
  · simp only [List.map_cons, List.map_nil]
    rw [nx_eq (by simp), if_pos (by simp)]
def restS (x : Pt) (xs : List Pt) : List Pt := (((List.range xs.length).map Nat.succ).filter (bentB (x :: xs))).map (gt (x :: xs))
theorem straight_cons (x : Pt) (xs : List Pt) : straightL (x :: xs) = (bif bentB (x :: xs) 0 then [x] else []) ++ restS x xs := by
  rw [straightL_eq, List.length_cons, List.range_succ_eq_map, List.filter_cons]
  cases h : bentB (x :: xs) 0
  · rfl
  · rfl
theorem straight_step (x : Pt) (xs : List Pt) : straightL (xs ++ [x]) = restS x xs ++ (bif bentB (x :: xs) 0 then [x] else []) := by
  have hl : (xs ++ [x]).length = (x :: xs).length := by simp
  have h1 : straightL (xs ++ [x]) = (((List.range (x :: xs).length).map (nx (x :: xs))).filter (bentB (x :: xs))).map (gt (x :: xs)) := by
    rw [straightL_eq, hl, List.filter_map, List.map_map]
    rw [List.filter_congr (q := bentB (x :: xs) ∘ nx (x :: xs)) (fun i hi => bent_step x xs (List.mem_range.1 hi))]
    apply List.map_congr_left
    intro i hi
    exact gt_step x xs (List.mem_range.1 (List.mem_filter.1 hi).1)
  rw [h1, range_nx, List.filter_append, List.map_append]
  congr 1
  cases h : bentB (x :: xs) 0 <;> simp [h, gt]
theorem good_straight_step {x : Pt} {xs : List Pt} (h : Good (straightL (xs ++ [x]))) : Good (straightL (x :: xs)) := by
  rw [straight_step] at h
  rw [straight_cons]
  cases hb : bentB (x :: xs) 0
  · rw [hb] at h; simpa using h
  · rw [hb] at h
    exact (good_step x _).1 h
theorem good_straight_rot {L : List Pt} : ∀ k, k ≤ L.length → Good (straightL (rotL L k)) → Good (straightL L) := by
  intro k
  induction k with
  | zero => intro _ h; rw [rotL_zero] at h; exact h
  | succ k ih =>
    intro hk h
    obtain ⟨x, xs, e1, e2⟩ := rotL_succ (L := L) (k := k) (by omega)
    rw [e2] at h
    refine ih (by omega) ?_
    rw [e1]
    exact good_straight_step h
theorem bent_rot {L : List Pt} : ∀ k, k ≤ L.length → ∀ j, j < L.length → bentB (rotL L k) j = bentB L ((j + k) % L.length) := by
  intro k
  induction k with
  | zero => intro _ j hj; rw [rotL_zero, Nat.add_zero, Nat.mod_eq_of_lt hj]
  | succ k ih =>
    intro hk j hj
    obtain ⟨x, xs, e1, e2⟩ := rotL_succ (L := L) (k := k) (by omega)
    have hl : (x :: xs).length = L.length := by rw [← e1, rotL_len]
    have h1 := ih (by omega) (nx (x :: xs) j) (by rw [← hl]; exact nx_lt (by simp) j)
    rw [e1] at h1
    rw [e2, bent_step x xs (by omega), h1]
    unfold nx
    rw [hl, Nat.mod_add_mod, show j + 1 + k = j + (k + 1) by omega]
theorem mul_zero_iff {m x q y : Int} (hm : 0 < m) (hq : 0 < q) (h : m * x = q * y) : x = 0 ↔ y = 0 := by
  constructor
  · intro hx; rw [hx, Int.mul_zero] at h; exact mul_zero_of hq h.symm
  · intro hy; rw [hy, Int.mul_zero] at h; exact mul_zero_of hm h
theorem bent_drop {b : Pt} {Y : List Pt} (hY : 3 ≤ Y.length) (hs : onP (gt Y (Y.length - 1)) (gt Y 0) b = true) (hb : b ∉ Y) {i : Nat} (hi : i < Y.length) : bentB (b :: Y) (i + 1) = bentB Y i := by
  have ha : gt Y (Y.length - 1) ∈ Y := by rw [gt_at (by omega)]; exact List.getElem_mem _
  have hc : gt Y 0 ∈ Y := by rw [gt_at (by omega)]; exact List.getElem_mem _
  obtain ⟨a, ea⟩ : ∃ a, a = gt Y (Y.length - 1) := ⟨_, rfl⟩
  obtain ⟨c, ec⟩ : ∃ c, c = gt Y 0 := ⟨_, rfl⟩
  rw [← ea, ← ec] at hs
  rw [← ea] at ha
  rw [← ec] at hc
  have hba : b ≠ a := fun e => hb (e ▸ ha)
  have hbc : b ≠ c := fun e => hb (e ▸ hc)
  have hac : a ≠ c := by
    intro h
    subst h
    obtain ⟨_, k2, k3⟩ := (onP_iff _ _ _).1 hs
    exact hba (by unfold bt at k2 k3; exact Prod.ext (by omega) (by omega))
  obtain ⟨p, q, hw⟩ := on_wt hs hac
  have hp := hw.ne_c hbc
  have hq := hw.ne_a hba
  have g1 : ∀ j, gt (b :: Y) (j + 1) = gt Y j := fun j => by simp [gt]
  have e1 : pv (b :: Y) (i + 1) = i := by rw [pv_eq (by simp; omega), if_neg (by omega)]; omega
  have e2 : nx (b :: Y) (i + 1) = if i + 1 = Y.length then 0 else i + 1 + 1 := by
    rw [nx_eq (by simp; omega)]
    by_cases h : i + 1 = Y.length
    · rw [if_pos h, if_pos (by simp; omega)]
    · rw [if_neg h, if_neg (by simp; omega)]
  unfold bentB
  rw [e1, e2, g1, pv_eq hi, nx_eq hi]
  have key : ∀ x y : Int, (x = 0 ↔ y = 0) → (!(x == 0)) = (!(y == 0)) := fun x y h => by
    rw [Bool.eq_iff_iff]; simp only [Bool.not_eq_true', beq_eq_false_iff_ne, ne_eq, h]
  apply key
  by_cases h0 : i = 0
  · subst h0
    rw [if_pos rfl, if_neg (by omega), if_neg (by omega), g1, ← ea, ← ec]
    exact mul_zero_iff hw.pq hp (hw.cross_bc _)
  · rw [if_neg h0]
    have e3 : gt (b :: Y) i = gt Y (i - 1) := by rw [show i = (i - 1) + 1 by omega, g1]; congr 1
    rw [e3]
    by_cases hl : i + 1 = Y.length
    · rw [if_pos hl, if_pos hl]
      have e4 : gt Y i = a := by rw [ea]; congr 1; omega
      rw [e4, ← ec]
      show crossP (gt Y (i - 1)) a b = 0 ↔ _
      have := hw.cross3 (gt Y (i - 1)) a
      rw [cross_z, Int.mul_zero, Int.zero_add] at this
      exact mul_zero_iff hw.pq hq this
    · rw [if_neg hl, if_neg hl, g1]
theorem straight_drop {b : Pt} {Y : List Pt} (hY : 3 ≤ Y.length) (hs : onP (gt Y (Y.length - 1)) (gt Y 0) b = true) (hb : b ∉ Y) (h0 : bentB (b :: Y) 0 = false) : straightL (b :: Y) = straightL Y := by
  rw [straight_cons, h0, straightL_eq]
  show [] ++ restS b Y = _
  rw [List.nil_append, restS, List.filter_map, List.map_map]
  rw [List.filter_congr (p := bentB (b :: Y) ∘ Nat.succ) (q := bentB Y) (fun i hi => bent_drop hY hs hb (List.mem_range.1 hi))]
  apply List.map_congr_left
  intro i _
  simp [gt]
/-- **The straightened polygon is one.** -/
theorem good_straight : ∀ n (L : List Pt), L.length = n → Good L → Good (straightL L) := by
  intro n
  induction n using Nat.strongRecOn with
  | _ n ih =>
    intro L hL hG
    by_cases hall : ∀ i, i < L.length → bentB L i = true
    · have : straightL L = L := by
        rw [straightL_eq, List.filter_eq_self.2 (fun i hi => hall i (List.mem_range.1 hi))]
        apply List.ext_getElem (by simp)
        intro i h1 h2
        simp [gt_at h2]
      rw [this]; exact hG
    · obtain ⟨i, hi, hb⟩ : ∃ i, i < L.length ∧ bentB L i = false := by
        false_or_by_contra
        rename_i hne
        exact hall fun i hi => by
          cases hb : bentB L i
          · exact absurd ⟨i, hi, hb⟩ hne
          · rfl
      refine good_straight_rot i (by omega) ?_
      have hG' := good_rot hG i (by omega)
      have hb' : bentB (rotL L i) 0 = false := by rw [bent_rot i (by omega) 0 (by omega), Nat.zero_add, Nat.mod_eq_of_lt hi, hb]
      obtain ⟨b, Y, e1, -⟩ := rotL_succ hi
      have hl : (b :: Y).length = n := by rw [← e1, rotL_len, hL]
      rw [e1] at hG' hb' ⊢
      have hY2 : 2 ≤ Y.length := by have := hG'.1.1; simp at this; omega
      have hbY : b ∉ Y := (List.nodup_cons.1 hG'.2.2.1).1
      have hon : onP (gt Y (Y.length - 1)) (gt Y 0) b = true := by
        have h1 := on_bent (good_poly hG') (i := 0) (by simp)
        rw [hb', Bool.not_false, onQ_ok (gt_ok hG'.2.1 _) (gt_ok hG'.2.1 _) (gt_ok hG'.2.1 _)] at h1
        rw [pv_eq (by simp), if_pos rfl, nx_eq (by simp), if_neg (by rw [List.length_cons]; omega)] at h1
        have e2 : gt (b :: Y) ((b :: Y).length - 1) = gt Y (Y.length - 1) := by
          rw [List.length_cons, Nat.add_sub_cancel, show Y.length = (Y.length - 1) + 1 by omega]; simp [gt]
        have e3 : gt (b :: Y) (0 + 1) = gt Y 0 := by simp [gt]
        rw [e2, e3] at h1
        exact h1
      have hY3 : 3 ≤ Y.length := by
        false_or_by_contra
        rename_i hlt
        have hm : Y.length = 2 := by omega
        obtain ⟨c, a, rfl⟩ : ∃ c a, Y = [c, a] := by
          match Y, hm with
          | [c, a], _ => exact ⟨c, a, rfl⟩
        have hs1 : (c, a) ∈ sidesL [b, c, a] := by simp [sidesL, consec]
        have hs2 : (a, b) ∈ sidesL [b, c, a] := by simp [sidesL, consec]
        have hne : (c, a) ≠ (a, b) := fun e => by
          have h1 := (Prod.ext_iff.1 e).2
          exact hbY (by rw [show b = a from h1.symm]; simp)
        have h1 := (hG'.2.2.2 _ hs1 _ hs2 hne).1 rfl
        have h2 : onP a c b = true := hon
        rw [← on_flip] at h2
        rw [show onP c a b = false from h1.2] at h2
        cases h2
      rw [straight_drop hY3 hon hbY hb']
      exact ih Y.length (by simp at hl; omega) Y rfl (good_drop hG' hY3 hon)
theorem poly_straight {L : List Pt} (h : polyB L = true) : polyB (straightL L) = true := good_poly (good_straight _ L rfl (poly_good h))
theorem poly_rot {L : List Pt} (h : polyB L = true) {k : Nat} (hk : k ≤ L.length) : polyB (rotL L k) = true := good_poly (good_rot (poly_good h) k hk)
end Go.Proofs.Ytbmeemmihkedoaa
