/-
  leftward and measuresIn: the measures of a polygon in a map.
-/
import Derived.Test.YtbmeemmihkedoaaHead
import Derived.Test.YtbmeemmihkedoaaTally
import Derived.Test.YtbmeemmihkedoaaSum
import Derived.Test.YtbmeemmihkedoaaSidesG
import Derived.Test.YtbmeemmihkedoaaOval
namespace Go.Proofs.Ytbmeemmihkedoaa
open Go.RowKit Go.Shelf Go.Sort
attribute [local go_sem] Oper.semAt_some

def leftL (L : List (Int × Int)) : List (Int × Int) := bif decide (0 < twiceI L) then L else turnL L
def leftV (L : List (Int × Int)) : List (Int × Int) := bif polyB L then leftL L else []
def measStep (L : List (Int × Int)) (M : Ms) (i : Nat) : Ms := putM M (dirP (dvec L (i % L.length)).1 (dvec L (i % L.length)).2) (stp (dvec L (i % L.length)).1 (dvec L (i % L.length)).2)
def measL (L : List (Int × Int)) (pre : List Nat) : Ms := pre.foldl (measStep L) []
def measI (L : List (Int × Int)) : Ms := measL L (List.range L.length)
theorem measL_snoc (L : List (Int × Int)) (pre : List Nat) (x : Nat) : measL L (pre ++ [x]) = measStep L (measL L pre) x := by simp [measL]
theorem measL_ord (L : List (Int × Int)) (pre : List Nat) : OrdM (measL L pre) := by
  have key : ∀ (pre : List Nat) (M : Ms), OrdM M → OrdM (pre.foldl (measStep L) M) := by
    intro pre
    induction pre with
    | nil => exact fun M h => h
    | cons x pre ih => exact fun M h => ih _ (putM_ord h _ _)
  exact key pre [] ordM_nil
theorem stp_le {x y : Int} {m : Nat} (hx : x.natAbs ≤ m) (hy : y.natAbs ≤ m) : (stp x y).natAbs ≤ m := by rw [stp_abs]; exact gN_le hx hy
theorem dvec_small {L : List (Int × Int)} (hok : allOk L = true) (i : Nat) : (dvec L i).1.natAbs ≤ 40 ∧ (dvec L i).2.natAbs ≤ 40 := by
  have h1 := okP_bounds (gt_ok hok i); have h2 := okP_bounds (gt_ok hok (nx L i))
  unfold dvec
  simp only
  omega
theorem measL_val {L : List (Int × Int)} (hok : allOk L = true) (pre : List Nat) (d : Int × Int) : (valM (measL L pre) d).natAbs ≤ 40 * pre.length := by
  have key : ∀ (pre : List Nat) (M : Ms), OrdM M → (valM (pre.foldl (measStep L) M) d).natAbs ≤ (valM M d).natAbs + 40 * pre.length := by
    intro pre
    induction pre with
    | nil => intro M _; simp
    | cons x pre ih =>
      intro M h
      have h1 := ih (measStep L M x) (putM_ord h _ _)
      have h2 := dvec_small hok (x % L.length)
      have h3 := stp_le h2.1 h2.2
      have h4 : valM (measStep L M x) d = _ := valM_put h _ _ d
      rw [List.foldl_cons, List.length_cons]
      have h5 : (valM (measStep L M x) d).natAbs ≤ (valM M d).natAbs + 40 := by
        rw [h4]
        split <;> omega
      omega
  have := key pre [] ordM_nil
  simpa [valM, measL] using this
theorem own_ptsA {w : World} {B : Nat} {v : Value} {L : List (Int × Int)} (h : w.ownsRow B 27 2 v L.length (flat L)) : ∃ A c, v = .slice A L.length c ∧ PtsA w A L ∧ ∀ g, A = some ⟨g, 0, none⟩ → B ≤ g := by
  rcases h.2 with ⟨rfl, h0⟩ | ⟨g, cap, cur, rfl, hg, hh, _⟩
  · exact ⟨none, 0, by rw [h0], fun k hk => by omega, fun g e => by cases e⟩
  · refine ⟨some ⟨g, 0, none⟩, cap, rfl, fun k hk => ⟨g, rfl, ?_⟩, fun g' e => by cases e; exact hg⟩
    obtain ⟨f1, f2⟩ := flat_at L k hk
    rw [h.cellAt (k * 2) (by omega), h.cellAt (k * 2 + 1) (by omega)]
    exact ⟨f1, f2⟩
theorem leftV_len (L : List (Int × Int)) : (leftV L).length ≤ 10 ∧ (leftV L = [] ∨ 3 ≤ (leftV L).length) := by
  unfold leftV leftL
  cases hp : polyB L
  · simp
  · obtain ⟨h3, h10, -⟩ := polyB_all hp
    have e : (turnL L).length = L.length := by unfold turnL; rw [turn_len]; omega
    cases decide (0 < twiceI L)
    · simp only [cond_true, cond_false, e]; exact ⟨h10, .inr h3⟩
    · simp only [cond_true]; exact ⟨h10, .inr h3⟩
theorem impl_left (A : Option Addr) (c : Nat) (L : List (Int × Int)) (w : World) (hA : PtsA w A L) (hL : L.length ≤ 1048576) :
    Calls Try.prog 86 #[.slice A L.length c] w fun e w' => ∃ A' c', e = .returned (.slice A' (leftV L).length c') ∧ PtsA w' A' (leftV L) ∧ Below w.heap.size w w' ∧ ((A' = A ∧ leftV L = L) ∨ ∀ g, A' = some ⟨g, 0, none⟩ → w.heap.size ≤ g) := by
  have HT := Lib.hid (fun W hb => impl_turn A c L W (ptsA_on hA hb) hL)
  have PC := Lib.hid (impl_twice A c L w hA hL)
  have HA := Lib.hid hA
  obtain ⟨t, ht⟩ : ∃ t, t = bif polyB L then twiceI L else 0 := ⟨_, rfl⟩
  rw [← ht] at PC
  by_cases h0 : 0 < t
  · have hp : polyB L = true := by
      cases hp : polyB L
      · rw [hp] at ht; simp only [cond_false] at ht; omega
      · rfl
    have HE : Hid (leftV L = L) := by
      show _ = _
      rw [hp] at ht
      simp only [cond_true] at ht
      unfold leftV leftL
      rw [hp, ← ht, decide_eq_true h0]; rfl
    clear hA ht
    go_enter Try.func86, Try.ntmps86
    go_wp2_with fail
    refine PC.out.mono ?_
    rintro e w1 ⟨rfl, hb1⟩
    go_wp2_with fail
    go_ret
    rw [HE.out]
    exact ⟨_, _, rfl, ptsA_on HA.out hb1, hb1, .inl ⟨rfl, rfl⟩⟩
  · have HE : Hid (leftV L = turnV L) := by
      show _ = _
      unfold leftV leftL turnV
      cases hp : polyB L
      · rfl
      · rw [hp] at ht
        simp only [cond_true] at ht
        rw [← ht, decide_eq_false h0]; rfl
    clear hA ht
    go_enter Try.func86, Try.ntmps86
    go_wp2_with fail
    refine PC.out.mono ?_
    rintro e w1 ⟨rfl, hb1⟩
    go_wp2_with fail
    refine (HT.out _ hb1).mono ?_
    rintro e w2 ⟨v, rfl, hv, hb2⟩
    go_wp2_with fail
    go_ret
    rw [HE.out]
    obtain ⟨A', c', rfl, h, hg⟩ := own_ptsA hv
    exact ⟨_, _, rfl, h, below_on hb1 hb2, .inr fun g e => Nat.le_trans hb1.size (hg g e)⟩
theorem meas_side {Q : List (Int × Int)} (hok : allOk Q = true) (hne : ∀ i, i < Q.length → gt Q i ≠ gt Q (nx Q i)) (x : Nat) (hx : x < Q.length) (W : World) :
    Calls Try.prog 73 #[.agg #[.int .i64 (gt Q x).1, .int .i64 (gt Q x).2, .int .i64 (gt Q (nx Q x)).1, .int .i64 (gt Q (nx Q x)).2]] W fun e w' => e = .returned (headV (dvec Q x).1 (dvec Q x).2) ∧ Below W.heap.size W w' :=
  head_any _ _ _ _ W (gt_ok hok x) (gt_ok hok (nx Q x)) (fun h => hne x hx (Prod.ext (by omega) (by omega)))
def MeasP (w : World) (Q : List (Int × Int)) (e : Ending) (w' : World) : Prop := ∃ b, e = .returned (.map (some b)) ∧ w.heap.size ≤ b ∧ MapM w' b (measI Q) Q.length ∧ Below w.heap.size w w'
set_option maxRecDepth 100000 in
set_option maxHeartbeats 4000000 in
theorem measIn_yes (A : Option Addr) (c : Nat) (L : List (Int × Int)) (w : World) (hA : PtsA w A L) (hL : L.length ≤ 1048576) (h3 : 3 ≤ (leftV L).length) (hok : allOk (leftV L) = true) (hne : ∀ i, i < (leftV L).length → gt (leftV L) i ≠ gt (leftV L) (nx (leftV L) i)) :
    Calls Try.prog 77 #[.slice A L.length c] w (MeasP w (leftV L)) := by
  refine (callsIn_wide (n := 8)).1 ?_
  refine callsIn_of_wp_marks Try.func77 rfl trivial ?_ rfl
  simp only [Try.ntmps77, List.size_toArray, List.length_cons, List.length_nil, Nat.reduceAdd, Nat.reduceSub, Array.replicate_succ, Array.replicate_zero, List.push_toArray, List.append_toArray, List.nil_append, List.cons_append]
  have hmm := @run_makeMap Try.prog
  have HLF := Lib.hid (fun W hb => impl_left A c L W (ptsA_on hA hb) hL)
  have hPL : ∀ g, A = some ⟨g, 0, none⟩ → leftV L = L → g < w.heap.size := fun g e e2 => by
    obtain ⟨g', e', h1, -⟩ := hA 0 (by rw [← e2]; omega)
    rw [e] at e'
    cases e'
    rcases Nat.lt_or_ge g w.heap.size with q | q
    · exact q
    · simp [World.cell?, Array.getElem?_eq_none q] at h1
  have h10 := (leftV_len L).1
  clear hA
  obtain ⟨Q, hQ⟩ : ∃ Q, Q = leftV L := ⟨_, rfl⟩
  rw [← hQ] at HLF h3 hok hne h10 hPL ⊢
  clear hQ
  have hM0 := mapM_made w
  have hb0 := below2 w (.map #[] 0) (.cells #[.map (some w.heap.size)] 81)
  have bT := Boxed.new (w.alloc (.map #[] 0)) 81 (.map (some w.heap.size))
  have hM1 := hM0.on (below1 _ (.cells #[.map (some w.heap.size)] 81))
  rw [World.size_alloc] at bT
  gi_wp2
  refine ⟨trivial, (wide0.calls (HLF.out _ hb0)).mono ?_⟩
  rintro e w1 ⟨A', c', rfl, hQ, hb1, hfar⟩
  obtain ⟨g, rfl, -⟩ := hQ 0 (by omega)
  have hgb : g ≠ w.heap.size ∧ g ≠ w.heap.size + 1 := by
    rcases hfar with ⟨e1, e2⟩ | hf
    · have := hPL g e1.symm e2; omega
    · have := hf g rfl; simp at this; omega
  have hgl : g < w1.heap.size := by
    obtain ⟨g', e', h1, -⟩ := hQ 0 (by omega)
    cases e'
    rcases Nat.lt_or_ge g w1.heap.size with q | q
    · exact q
    · simp [World.cell?, Array.getElem?_eq_none q] at h1
  have hM2 := hM1.on hb1
  have bT2 := boxed_on bT hb1
  have hB1 := below_on hb0 hb1
  clear hfar hPL HLF hM0 hM1 bT hb0 hb1 hmm
  gi_wp2
  refine ⟨trivial, (wide0.calls (sides_any _ Q.length c' _)).mono ?_⟩
  rintro e w2 ⟨rfl, rfl⟩
  gi_wp2
  have bN := Boxed.new w1 35 (.slice (some ⟨g, 0, none⟩) Q.length c')
  have bT3 := bT2.alloc (.cells #[.slice (some ⟨g, 0, none⟩) Q.length c'] 35)
  have hb2 := below1 w1 (.cells #[.slice (some ⟨g, 0, none⟩) Q.length c'] 35)
  have hM3 := hM2.on hb2
  have hQ3 := ptsA_on hQ hb2
  have hB3 := below_on hB1 hb2
  have hs1 := hB1.size
  have hbl := bT2.lt
  have hsz : (w1.alloc (.cells #[.slice (some ⟨g, 0, none⟩) Q.length c'] 35)).heap.size = w1.heap.size + 1 := by simp
  obtain ⟨W0, hW0⟩ : ∃ W0, w1.alloc (.cells #[.slice (some ⟨g, 0, none⟩) Q.length c'] 35) = W0 := ⟨_, rfl⟩
  rw [hW0] at bN bT3 hM3 hQ3 hB3 hsz ⊢
  clear hW0 hQ hM2 bT2 hb2 hB1
  refine wpIn_rangeFunc_ownH rfl (by decide) (gf := 160) (lb := #[.pointer (some ⟨w1.heap.size, 0, none⟩)]) rfl trivial (enters_of Try.func160 (by kernel_rfl) rfl)
    (sidesG_stops 7 w1.heap.size g c' Q W0 (by omega) (by omega) (by omega) hQ3 (by omega) bN.cell) keepG_t (keepG_b (by omega) (by omega)) (Below.refl _ _) (fun _ => rfl)
    (fun pre W => ((MapM W w.heap.size (measL Q pre) pre.length ∧ Boxed W (w.heap.size + 1) 81 (.map (some w.heap.size))) ∧ Boxed W w1.heap.size 35 (.slice (some ⟨g, 0, none⟩) Q.length c')) ∧ Below w.heap.size w W ∧ g < W.heap.size)
    (fun _ _ _ => False)
    (OwnFrom.and (OwnFrom.and (OwnFrom.and (fun s X Y row hs hg hr => hs.kept hg (fun e => by have := (hr _ e.symm).1; omega)) (Own.from (boxed_own _ _ _) _)) (Own.from (boxed_own _ _ _) _)) (OwnFrom.and (ownFrom_below (Nat.le_refl _) (by omega)) (fun s X Y row hs hg hr => Nat.lt_of_lt_of_le hs hg.size)))
    (fun _ => ownFrom_pure _ (fun _ => False))
    ⟨⟨⟨hM3, bT3⟩, bN⟩, hB3, by omega⟩
    (fun x a' W => ∃ Bx, w1.heap.size < Bx ∧ SideAt W Bx Q (x % Q.length) ∧ a' = { tmps := #[.slice A L.length c, undef, .map none, .pointer (some ⟨w.heap.size + 1, 0, none⟩), undef, .pointer (some ⟨Bx, 0, none⟩), undef, undef, .map (some w.heap.size), .slice A L.length c, .slice (some ⟨g, 0, none⟩) Q.length c', .func (.func 160) #[] #[.pointer (some ⟨w1.heap.size, 0, none⟩)], .int .i64 (x : Int), .agg #[.int .i64 (gt Q (x % Q.length)).1, .int .i64 (gt Q (x % Q.length)).2, .int .i64 (gt Q (nx Q (x % Q.length))).1, .int .i64 (gt Q (nx Q (x % Q.length))).2], undef, undef, undef, undef, undef, undef, undef, undef, undef, undef], defers := [] })
    (fun x a' _ X Y row hs hg hr => by obtain ⟨Bx, e1, e2, e3⟩ := hs; exact ⟨Bx, e1, sideAt_own Bx Q (x % Q.length) _ () X Y row e2 hg hr, e3⟩)
    ?assign ?body ?done ?stop
  case assign =>
    rintro l pre x W K ⟨⟨⟨hM4, bT4⟩, bN4⟩, hB4, hg4⟩ hK
    simp only [sideV]
    gi_wp2
    have hs2 := hB4.size
    exact hK _ _ (keepsFrom_below (below1 _ _)) (KeepG.of_below (below1 _ _) hg4 bN4.lt) ⟨⟨⟨hM4.on (below1 _ _), bT4.alloc _⟩, bN4.alloc _⟩, hB4.alloc hs2 _, by simp; omega⟩ ⟨W.heap.size, bN4.lt, sideAt_new W Q (x % Q.length), rfl⟩
  case body =>
    rintro l pre x a' W hl hpx ⟨⟨⟨hM4, bT4⟩, bN4⟩, hB4, hg4⟩ ⟨Bx, hBx, bX, rfl⟩ hlt
    obtain ⟨xi, hxi⟩ : ∃ xi, xi = x := ⟨_, rfl⟩
    have HM0 := measL_snoc Q pre x
    unfold measStep at HM0
    have hxl : x % Q.length < Q.length := Nat.mod_lt _ (by omega)
    rw [← hxi] at HM0 ⊢
    rw [hxi] at HM0
    clear hpx
    generalize x % Q.length = x at *
    obtain ⟨x0, x1, x2, x3⟩ := bX.cells
    obtain ⟨ax, ha⟩ : ∃ ax, ax = (gt Q x).1 := ⟨_, rfl⟩
    obtain ⟨ay, hay⟩ : ∃ ay, ay = (gt Q x).2 := ⟨_, rfl⟩
    obtain ⟨bx, hbx⟩ : ∃ bx, bx = (gt Q (nx Q x)).1 := ⟨_, rfl⟩
    obtain ⟨by', hby⟩ : ∃ by', by' = (gt Q (nx Q x)).2 := ⟨_, rfl⟩
    rw [← ha] at x0; rw [← hay] at x1; rw [← hbx] at x2; rw [← hby] at x3
    have HH := Lib.hid (fun W => meas_side hok hne x (by omega) W)
    have hds := dvec_small hok x
    have hst := stp_le hds.1 hds.2
    have hd0 : ¬ ((dvec Q x).1 = 0 ∧ (dvec Q x).2 = 0) := fun e => hne x (by omega) (Prod.ext (by have := e.1; unfold dvec at this; omega) (by have := e.2; unfold dvec at this; omega))
    obtain ⟨hp1, hp2⟩ := dir_small hd0 hds.1 hds.2
    have hvl := measL_val hok pre (dirP (dvec Q x).1 (dvec Q x).2)
    have HC := Lib.hid (fun W h => tally_any w.heap.size pre.length (measL Q pre) (dirP (dvec Q x).1 (dvec Q x).2).1 (dirP (dvec Q x).1 (dvec Q x).2).2 (stp (dvec Q x).1 (dvec Q x).2) W h (measL_ord Q pre) (WalkArith.wf_i64 (by omega)) (WalkArith.wf_i64 (by omega)) (by omega) (Nat.le_trans hvl (by omega)) (by omega))
    have HM : Hid (measL Q (pre ++ [xi]) = putM (measL Q pre) ((dirP (dvec Q x).1 (dvec Q x).2).1, (dirP (dvec Q x).1 (dvec Q x).2).2) (stp (dvec Q x).1 (dvec Q x).2)) := by rw [hxi]; exact HM0
    unfold headV at HH
    simp only [← ha, ← hay, ← hbx, ← hby] at HH ⊢
    generalize (dirP (dvec Q x).1 (dvec Q x).2).1 = p at *
    generalize (dirP (dvec Q x).1 (dvec Q x).2).2 = q at *
    generalize stp (dvec Q x).1 (dvec Q x).2 = s at *
    clear ha hay hbx hby hp1 hp2 hvl hds hst hd0
    have cT := bT4.cell
    gi_wp2
    refine ⟨trivial, ((wideR l).calls (HH.out _)).mono ?_⟩
    rintro e w5 ⟨rfl, hb5⟩
    have hb6 := hb5.alloc hb5.size (.cells #[.int .i64 p, .int .i64 q] 27)
    have cT6 := (boxed_on bT4 hb6).cell
    have cP6 := at_new w5 p q 27
    have cP0 := cP6.c0; have cP1 := cP6.c1
    have hM6 := hM4.on hb6
    clear cT x0 x1 x2 x3
    gi_wp2
    refine ⟨trivial, ((wideR l).calls (HC.out _ hM6)).mono ?_⟩
    rintro e w7 ⟨⟨r, rfl⟩, hM7, hg7⟩
    gi_wp2
    have hs4 := hB4.size
    have hs6 := hb6.size
    have hbT := bT4.lt
    have hbN := bN4.lt
    have hk6 := KeepG.of_below hb6 hg4 hbN
    have hg6 : g < (w5.alloc (.cells #[.int .i64 p, .int .i64 q] 27)).heap.size := by omega
    refine ⟨(keepsFrom_below hb6).trans (KeepsFrom.of_grownBy hg7 (fun j e => by cases e; omega)), keepG_t hk6 (KeepG.of_grown hg7 hg6 (by omega) (by omega) (by omega)),
      ⟨⟨⟨by rw [HM.out, List.length_append]; exact hM7, (boxed_on bT4 hb6).kept hg7 (fun e => by have := Option.some.inj e; omega)⟩, (boxed_on bN4 hb6).kept hg7 (fun e => by have := Option.some.inj e; omega)⟩, ?_, Nat.lt_of_lt_of_le hg6 hg7.size⟩⟩
    exact (hB4.trans (hb6.mono hs4)).grown hg7 (by omega) (fun j e => by cases e; exact Nat.le_refl _)
  case done =>
    rintro D ys W hD rfl ⟨⟨⟨hM4, bT4⟩, bN4⟩, hB4, hg4⟩ hK
    have cT := bT4.cell
    gi_wp2
    refine ⟨by simp, .inl ⟨_, _, rfl, run_takeDeferred hK, ?_⟩⟩
    have hBD := hB4.trans (belowK_b (w := w) (Nat.le_refl _) W D _ (.deferred none) (by have := hB3.size; omega) hK rfl rfl)
    refine ⟨_, results_tmp rfl _ _ _, w.heap.size, rfl, Nat.le_refl _, ?_, hBD⟩
    have := hM4.kept (grownBy_putObj' W D (.deferred none)) (fun e => by have := Option.some.inj e; omega)
    rw [List.length_range] at this
    exact this
  case stop =>
    rintro D k pre W hD hpre h hK
    exact h.elim
set_option maxRecDepth 100000 in
set_option maxHeartbeats 4000000 in
theorem measIn_no (A : Option Addr) (c : Nat) (L : List (Int × Int)) (w : World) (hA : PtsA w A L) (hL : L.length ≤ 1048576) (h0 : leftV L = []) :
    Calls Try.prog 77 #[.slice A L.length c] w (MeasP w []) := by
  refine (callsIn_wide (n := 8)).1 ?_
  refine callsIn_of_wp_marks Try.func77 rfl trivial ?_ rfl
  simp only [Try.ntmps77, List.size_toArray, List.length_cons, List.length_nil, Nat.reduceAdd, Nat.reduceSub, Array.replicate_succ, Array.replicate_zero, List.push_toArray, List.append_toArray, List.nil_append, List.cons_append]
  have hmm := @run_makeMap Try.prog
  have HLF := Lib.hid (fun W hb => impl_left A c L W (ptsA_on hA hb) hL)
  rw [h0] at HLF
  clear hA h0
  have hM0 := mapM_made w
  have hb0 := below2 w (.map #[] 0) (.cells #[.map (some w.heap.size)] 81)
  have bT := Boxed.new (w.alloc (.map #[] 0)) 81 (.map (some w.heap.size))
  have hM1 := hM0.on (below1 _ (.cells #[.map (some w.heap.size)] 81))
  rw [World.size_alloc] at bT
  gi_wp2
  refine ⟨trivial, (wide0.calls (HLF.out _ hb0)).mono ?_⟩
  rintro e w1 ⟨A', c', rfl, hQ, hb1, hfar⟩
  have hM2 := hM1.on hb1
  have bT2 := boxed_on bT hb1
  have hB1 := below_on hb0 hb1
  clear hfar HLF hM0 hM1 bT hb0 hb1 hmm hQ
  gi_wp2
  refine ⟨trivial, (wide0.calls (sides_any _ 0 c' _)).mono ?_⟩
  rintro e w2 ⟨rfl, rfl⟩
  gi_wp2
  have bN := Boxed.new w1 35 (.slice A' 0 c')
  have bT3 := bT2.alloc (.cells #[.slice A' 0 c'] 35)
  have hb2 := below1 w1 (.cells #[.slice A' 0 c'] 35)
  have hM3 := hM2.on hb2
  have hB3 := below_on hB1 hb2
  have hs1 := hB1.size
  have hbl := bT2.lt
  have hsz : (w1.alloc (.cells #[.slice A' 0 c'] 35)).heap.size = w1.heap.size + 1 := by simp
  obtain ⟨W0, hW0⟩ : ∃ W0, w1.alloc (.cells #[.slice A' 0 c'] 35) = W0 := ⟨_, rfl⟩
  rw [hW0] at bN bT3 hM3 hB3 hsz ⊢
  clear hW0 hM2 bT2 hb2 hB1
  refine wpIn_rangeFunc_ownH rfl (by decide) (gf := 160) (lb := #[.pointer (some ⟨w1.heap.size, 0, none⟩)]) rfl trivial (enters_of Try.func160 (by kernel_rfl) rfl)
    (sidesN_stops 7 w1.heap.size c' A' W0 (by omega) bN.cell) keepG_t (keepG_b (by omega) (by omega)) (Below.refl _ _) (fun _ => rfl)
    (fun pre W => ((MapM W w.heap.size [] 0 ∧ Boxed W (w.heap.size + 1) 81 (.map (some w.heap.size))) ∧ Boxed W w1.heap.size 35 (.slice A' 0 c')) ∧ Below w.heap.size w W)
    (fun _ _ _ => False)
    (OwnFrom.and (OwnFrom.and (OwnFrom.and (fun s X Y row hs hg hr => hs.kept hg (fun e => by have := (hr _ e.symm).1; omega)) (Own.from (boxed_own _ _ _) _)) (Own.from (boxed_own _ _ _) _)) (ownFrom_below (Nat.le_refl _) (by omega)))
    (fun _ => ownFrom_pure _ (fun _ => False))
    ⟨⟨⟨hM3, bT3⟩, bN⟩, hB3⟩
    (fun _ _ _ => True) (fun _ _ _ _ _ _ _ _ _ => trivial)
    ?assign ?body ?done ?stop
  case assign =>
    rintro l pre x W K ⟨⟨⟨hM4, bT4⟩, bN4⟩, hB4⟩ hK
    simp only [sideV]
    gi_wp2
    have hs2 := hB4.size
    have hbt := bT4.lt
    exact hK _ _ (keepsFrom_below (below1 _ _)) (KeepG.of_below (below1 _ _) (by omega) bN4.lt) ⟨⟨⟨hM4.on (below1 _ _), bT4.alloc _⟩, bN4.alloc _⟩, hB4.alloc hs2 _⟩ trivial
  case body =>
    rintro l pre x a' W hl hpx - - hlt
    exact absurd hlt (Nat.not_lt_zero _)
  case done =>
    rintro D ys W hD rfl ⟨⟨⟨hM4, bT4⟩, bN4⟩, hB4⟩ hK
    have cT := bT4.cell
    gi_wp2
    refine ⟨by simp, .inl ⟨_, _, rfl, run_takeDeferred hK, ?_⟩⟩
    have hBD := hB4.trans (belowK_b (w := w) (Nat.le_refl _) W D _ (.deferred none) (by have := hB3.size; omega) hK rfl rfl)
    refine ⟨_, results_tmp rfl _ _ _, w.heap.size, rfl, Nat.le_refl _, ?_, hBD⟩
    exact hM4.kept (grownBy_putObj' W D (.deferred none)) (fun e => by have := Option.some.inj e; omega)
  case stop =>
    rintro D k pre W hD hpre h hK
    exact h.elim
theorem poly_next {L : List (Int × Int)} (hp : polyB L = true) : ∀ i, i < L.length → gt L i ≠ gt L (nx L i) := by
  simp only [polyB, Bool.and_eq_true] at hp
  intro i hi e
  have := hp.1.2
  simp only [nbB, List.all_eq_true, List.mem_range] at this
  have h1 := this i hi
  rw [show gt L ((i + 1) % L.length) = gt L i from e.symm] at h1
  simp [eqQ] at h1
/-- **measuresIn**, at any list. -/
theorem measIn_any (A : Option Addr) (c : Nat) (L : List (Int × Int)) (w : World) (hA : PtsA w A L) (hL : L.length ≤ 1048576) (hok : polyB L = true → polyB (leftL L) = true) :
    Calls Try.prog 77 #[.slice A L.length c] w (MeasP w (leftV L)) := by
  rcases (leftV_len L).2 with h0 | h3
  · have := measIn_no A c L w hA hL h0
    rwa [h0]
  · cases hp : polyB L
    · unfold leftV at h3; rw [hp] at h3; simp at h3
    · have e : leftV L = leftL L := by unfold leftV; rw [hp]; rfl
      have hq := hok hp
      rw [← e] at hq
      exact measIn_yes A c L w hA hL h3 (polyB_all hq).2.2 (poly_next hq)
end Go.Proofs.Ytbmeemmihkedoaa
