/-
  Walks and facts of this seat, part Ke (merged by a script of this repo out of smaller texts).
-/
import Derived.Test.YtbmeemmihkedoaaKd
import Derived.ProofKit
import Derived.OpenShut
import Derived.Lib.SmallJoins
import Derived.Deep.Slices
import Derived.Deep.Fields
/-! MeasF -/
namespace Go.Proofs.Ytbmeemmihkedoaa
open Go.RowKit

theorem measL_dir {Q : List (Int × Int)} (hok : allOk Q = true) (hne : ∀ i, i < Q.length → gt Q i ≠ gt Q (nx Q i)) (h1 : 1 ≤ Q.length) (pre : List Nat) : ∀ a ∈ measL Q pre, okD a.1.1 a.1.2 = true := by
  have key : ∀ (pre : List Nat) (M : Ms), (∀ a ∈ M, okD a.1.1 a.1.2 = true) → ∀ a ∈ pre.foldl (measStep Q) M, okD a.1.1 a.1.2 = true := by
    intro pre
    induction pre with
    | nil => exact fun M h => h
    | cons x pre ih =>
      intro M h
      refine ih _ fun a ha => ?_
      rcases putM_keys ha with q | q
      · rw [q]
        have hk : x % Q.length < Q.length := Nat.mod_lt _ (by omega)
        have h0 := dvec_ne hne hk
        obtain ⟨d1, d2⟩ := dvec_small hok (x % Q.length)
        obtain ⟨s1, s2⟩ := dir_small h0 d1 d2
        have hd := dir_is h0
        rw [isDir_iff] at hd
        unfold okD
        rw [inB_spec.2 (by omega), inB_spec.2 (by omega), hd.2]
        simp only [Bool.true_and, Bool.and_true, beq_self_eq_true, Bool.or_eq_true, decide_eq_true_eq, beq_iff_eq]
        omega
      · exact h a q
  exact key pre [] (fun a ha => by cases ha)
theorem measV_dir (L : List (Int × Int)) : ∀ a ∈ measV L, okD a.1.1 a.1.2 = true := by
  unfold measV measI
  cases hp : polyB L
  · have : leftV L = [] := by unfold leftV; rw [hp]; rfl
    rw [this]
    intro a ha; cases ha
  · have hq := leftS_ok hp
    rw [leftS_left hp] at hq
    obtain ⟨h3, h10, hok⟩ := polyB_all hq
    exact measL_dir hok (poly_next hq) (by omega) _
theorem measV_none {L : List (Int × Int)} (hp : polyB L = false) (d : Int × Int) : valM (measV L) d = 0 := by
  have : leftV L = [] := by unfold leftV; rw [hp]; rfl
  unfold measV
  rw [this]; rfl
theorem measV_out {L : List (Int × Int)} {x y : Int} (h : okD x y = false) : valM (measV L) (x, y) = 0 :=
  valM_none fun a ha e => by
    have := measV_dir L a ha
    rw [e] at this
    rw [this] at h; cases h
theorem spec_measFor (A : Option Addr) (c : Nat) (L : List (Int × Int)) (x y : Int) (w : World) (hA : PtsA w A L) (hL : L.length ≤ 1048576) :
    Calls Try.prog 21 #[.slice A L.length c, .int .i64 x, .int .i64 y] w fun e w' => e = .returned (.int .i64 (valM (measV L) (x, y))) ∧ Below w.heap.size w w' := by
  have PC := Lib.hid (spec_poly A c L w hA hL)
  have HI := Lib.hid (fun W => isS_any x y W)
  have HA := Lib.hid hA
  cases hp : polyB L
  · have HV := Lib.hid (measV_none hp (x, y))
    rw [hp] at PC
    clear hA
    go_enter Try.func21, Try.ntmps21
    go_wp2_with fail
    refine PC.out.mono ?_
    rintro e w1 ⟨rfl, hb1⟩
    go_wp2_with fail
    go_ret
    exact ⟨ret_int HV.out.symm, hb1⟩
  rw [hp] at PC
  cases hd : okD x y
  · have HV := Lib.hid (measV_out (L := L) hd)
    rw [hd] at HI
    clear hA
    go_enter Try.func21, Try.ntmps21
    go_wp2_with fail
    refine PC.out.mono ?_
    rintro e w1 ⟨rfl, hb1⟩
    go_wp2_with fail
    refine (HI.out _).mono ?_
    rintro e w2 ⟨rfl, rfl⟩
    go_wp2_with fail
    go_ret
    exact ⟨ret_int HV.out.symm, hb1⟩
  have hb : (-1000 ≤ x ∧ x ≤ 1000) ∧ (-1000 ≤ y ∧ y ≤ 1000) := by
    unfold okD at hd
    simp only [Bool.and_eq_true] at hd
    have b1 := inB_spec.1 hd.1.1.1; have b2 := inB_spec.1 hd.1.1.2
    omega
  have HO := Lib.hid (fun W hb' => oneS_any A c L x y W hb.1 hb.2 (ptsA_on hA hb') hp (leftS_ok hp))
  rw [leftS_left hp] at HO
  rw [hd] at HI
  clear hA hb
  go_enter Try.func21, Try.ntmps21
  go_wp2_with fail
  refine PC.out.mono ?_
  rintro e w1 ⟨rfl, hb1⟩
  go_wp2_with fail
  refine (HI.out _).mono ?_
  rintro e w2 ⟨rfl, rfl⟩
  go_wp2_with fail
  refine (HO.out _ hb1).mono ?_
  rintro e w3 ⟨rfl, hb3⟩
  go_wp2_with fail
  go_ret
  exact ⟨rfl, below_on hb1 hb3⟩
set_option maxRecDepth 100000 in
set_option maxHeartbeats 2000000 in
/-- SC, IC: what the model and the program answer at a list of points, wherever it lies. -/
theorem law_measureFor (A : Option Addr) (c : Nat) (L : List (Int × Int)) (b : Int) (i k : Int) (w : World) (hA : ArgA w A L) (hL : L.length ≤ maxLen)
    (SC : L.length ≤ 1048576 → ∀ A c w, PtsA w A L → Calls Try.prog 21 #[.slice A L.length c, .int .i64 i, .int .i64 k] w fun e w' => e = .returned (.int .i64 b) ∧ Below w.heap.size w w')
    (IC : L.length ≤ 1048576 → ∀ A c w, PtsA w A L → Calls Try.prog 23 #[.slice A L.length c, .int .i64 i, .int .i64 k] w fun e w' => e = .returned (.int .i64 b) ∧ Below w.heap.size w w') :
    Calls Try.prog 4 #[.slice A L.length c, .int .i64 i, .int .i64 k] w fun e w' => e = .returned (.bool true) ∧ Below w.heap.size w w' := by
  by_cases hs : L.length ≤ 1048576
  case neg => 
    clear SC IC hA
    have HZ := Lib.hid (sz_great A L.length c w (by omega) hL)
    go_enter Try.func4, Try.ntmps4
    go_wp2_with fail
    refine HZ.out.mono ?_
    rintro e w0 ⟨rfl, rfl⟩
    go_wp2_with fail
    go_ret
    exact ⟨rfl, Below.refl _ _⟩
  have HS := Lib.hid (SC hs); have HI := Lib.hid (IC hs)
  clear SC IC
  have HA := Lib.hid hA; clear hA
  have HZ := Lib.hid (sz_small A L.length c w hs)
  go_enter Try.func4, Try.ntmps4
  go_wp2_with fail
  refine HZ.out.mono ?_
  rintro e w0 ⟨rfl, rfl⟩
  go_wp2_with fail
  refine (toS_any A c L _ HA.out hs).mono ?_
  rintro e w1 ⟨v1, rfl, own1, b1⟩
  obtain ⟨_, A1, c1, rfl, p1⟩ := own_pts own1
  clear own1
  go_wp2_with fail
  refine (HS.out A1 c1 w1 p1).mono ?_
  rintro e w2 ⟨rfl, hb2⟩
  have b2 := below_on b1 hb2
  clear b1 hb2 p1
  go_wp2_with fail
  refine (toS_any A c L _ (HA.out.step b2) hs).mono ?_
  rintro e w3 ⟨v3, rfl, own3, hb3⟩
  have b3 := below_on b2 hb3
  clear b2 hb3
  obtain ⟨_, A3, c3, rfl, p3⟩ := own_pts own3
  clear own3
  go_wp2_with fail
  refine (HI.out A3 c3 w3 p3).mono ?_
  rintro e w4 ⟨rfl, hb4⟩
  have b4 := below_on b3 hb4
  have p4 := ptsA_on p3 hb4
  clear b3 hb4 p3
  go_wp2_with fail
  refine (toS_any A c L _ (HA.out.step b4) hs).mono ?_
  rintro e w5 ⟨v5, rfl, own5, hb5⟩
  have b5 := below_on b4 hb5
  have p5 := ptsA_on p4 hb5
  clear b4 hb5 p4
  obtain ⟨_, A5, c5, rfl, q5⟩ := own_pts own5
  clear own5
  go_wp2_with fail
  refine (eq_pts A3 A5 c3 c5 L w5 p5 q5 hs).mono ?_
  rintro e w6 ⟨rfl, hb6⟩
  have b6 := below_on b5 hb6
  clear b5 hb6 p5 q5
  go_wp2_with fail
  go_ret
  exact ⟨rfl, b6⟩
theorem ex_measureFor (A : Option Addr) (c : Nat) (L : List (Int × Int)) (i k : Int) (w : World) (hA : ArgA w A L) (hL : L.length ≤ maxLen) (hi : (Lit.int .i64 i).wf = true) (hk : (Lit.int .i64 k).wf = true) :
    Calls Try.prog 4 #[.slice A L.length c, .int .i64 i, .int .i64 k] w fun e w' => e = .returned (.bool true) ∧ Below w.heap.size w w' :=
  law_measureFor A c L (valM (measV L) (i, k)) i k w hA hL (fun hs A c w hp => spec_measFor A c L i k w hp hs) (fun hs A c w hp => impl_measFor A c L i k w hp hs (left_ok L) hi hk)
end Go.Proofs.Ytbmeemmihkedoaa

/-! Base -/
namespace Go.Proofs.Ytbmeemmihkedoaa
open Go.ChangeShapes Go.WideShapes Go.ChangeAt Go.RowKit

/-- The arguments read behind the call as before, if below the old heap's size nothing has turned. -/
theorem args_stay {H : Type} {enc : TypeId × Value → H} {P : Program} (hl : laidOutB P = true) {W W' : World} (hb : Below W.heap.size W W') :
    ∀ (ts : List TypeId) (vs : List Value) (ds : List (DataW H)) (p : List MemPlace), (∀ t ∈ ts, P.readableRec t = true ∧ t < P.types.size) →
      DataW.TrodAll enc P W 0 (fun _ => true) true ts vs ds p → (∀ x ∈ p, x.block < W.heap.size) → DataW.TrodAll enc P W' 0 (fun b => decide (b < W.heap.size)) true ts vs ds p
  | [], vs, ds, p, _, h, _ => by
    obtain ⟨rfl, rfl, rfl⟩ := trodAll_nil h
    exact trodAll_mk0
  | t :: ts, vs, ds, p, ht, h, hp => by
    obtain ⟨v, vs1, d, ds1, a, b, rfl, rfl, rfl, h1, h2⟩ := trodAll_cons h
    exact trodAll_cons_mk (Below.trod hl (ht t (by simp)).1 (ht t (by simp)).2 h1 hb (fun x hx => hp x (by simp [hx])))
      (args_stay hl hb ts vs1 ds1 b (fun t h => ht t (by simp [h])) h2 (fun x hx => hp x (by simp [hx])))

/-- A law's 'post': one bool back, true; the arguments as they were; no variable is listed. -/
theorem law_post {H : Type} {enc : TypeId × Value → H} {P : Program} {f : Func} {s : ChangeSpec} {W W' : World} {args : Array Value} {ds gs : List (DataW H)} {before : List MemPlace} {tb : TypeId}
    (hl : laidOutB P = true) (ht : f.params.toList.all (fun t => P.readableRec t && decide (t < P.types.size)) = true) (hr : f.resultTypes = #[tb]) (ub : P.underlying tb = some .bool) (hv : s.vars = [])
    (hs : (s.fn H (ds ++ gs)).results = [.lit (.bool true)] ∧ (s.fn H (ds ++ gs)).args = ds ∧ (s.fn H (ds ++ gs)).vars = [])
    (hW : DataW.Whole enc P f.params.toList s.vars false W args.toList ds gs before) (hb : Below W.heap.size W W') :
    s.post enc P f false true false false W args (.bool true) W' := by
  have hW' := hW
  obtain ⟨p, q, hA, hV, hpq, _, _⟩ := hW
  rw [hv] at hV
  obtain ⟨rfl, rfl⟩ := trodVars_none hV
  have hlt : ∀ x ∈ p, x.block < W.heap.size := fun x hx => by simpa using hW'.lt x (by rw [hpq]; simp [hx])
  refine ⟨ds, [], before, [], p, [], hW', ?_, ?_, ?_, hb.frame _, fun h => by cases h⟩
  · rw [hs.1, hr]
    exact trodAll_mk1 (shut_bool ub _)
  · rw [hs.2.1]
    exact args_stay hl hb _ _ _ _ (fun t h => by simpa using List.all_eq_true.1 ht t h) hA hlt
  · rw [hs.2.2, hv]
    rfl
end Go.Proofs.Ytbmeemmihkedoaa

/-! Pair -/
namespace Go.Proofs.Ytbmeemmihkedoaa
open Go.Joins Go.ChangeShapes Go.WideShapes Go.RowKit Go.Deep

theorem open_pt {H : Type} {enc : TypeId × Value → H} {P : Program} {w : World} {base : Nat} {spare : Nat → Bool} {held : Bool} {r : Reach} {b0 : Nat} {t : TypeId} {f0 f1 : Field} {v : Value} {d : DataW H} {p : List MemPlace}
    (hs : P.underlying t = some (.struct #[f0, f1])) (hone : oneCellFields P #[f0, f1] = true) (hC : P.cellsOf t = 2) (i0 : P.underlying f0.type = some (.int .i64)) (i1 : P.underlying f1.type = some (.int .i64))
    (hv : Value.okWide P w r b0 t v) (h : DataW.Trod enc P w base spare held t v d p) : ∃ x y : Int, v = .agg #[.int .i64 x, .int .i64 y] := by
  obtain ⟨v0, v1, y0, y1, n, rfl, _, _, h0, h1⟩ := open_agg2 hs hone hC hv h
  obtain ⟨x, hx, _, _⟩ := DataW.trod_int i0 h0
  obtain ⟨y, hy, _, _⟩ := DataW.trod_int i1 h1
  simp only [List.cons.injEq, and_true] at hx hy
  exact ⟨x, y, by rw [hx, hy]⟩
end Go.Proofs.Ytbmeemmihkedoaa

/-! ArgPts -/
namespace Go.Proofs.Ytbmeemmihkedoaa
open Go.Joins Go.ChangeShapes Go.WideShapes Go.RowKit Go.Deep

theorem add_two (a : Addr) (i j : Nat) : (a.add i).add j = a.add (i + j) := by
  unfold Addr.add
  by_cases hj : j = 0
  · subst hj; simp
  · by_cases hi : i = 0
    · subst hi; simp [hj]
    · have : i + j ≠ 0 := by omega
      simp [hj, hi, Nat.add_assoc]
theorem view_pts {H : Type} {enc : TypeId × Value → H} {P : Program} {W : World} {t e : TypeId} {f0 f1 : Field} {fuel : Nat} {A : Option Addr} {n c : Nat} {x : DataW H × List MemPlace}
    (ht : P.underlying t = some (.slice e)) (he : P.underlying e = some (.struct #[f0, f1])) (hone : oneCellFields P #[f0, f1] = true) (hC : P.cellsOf e = 2) (i0 : P.underlying f0.type = some (.int .i64)) (i1 : P.underlying f1.type = some (.int .i64))
    (h : DataW.trod enc P W 0 (fun _ => true) true fuel t [.slice A n c] = some x) : ∃ L : List (Int × Int), n = L.length ∧ ArgA W A L ∧ L.length ≤ maxLen := by
  rcases open_slice ht h with ⟨h1, _⟩ | ⟨a, len, cap, m, n', D, Pl, h1, _, hlc, hcm, hm, _, hcell⟩
  · simp only [List.cons.injEq, Value.slice.injEq, and_true] at h1
    obtain ⟨rfl, rfl, rfl⟩ := h1
    exact ⟨[], rfl, fun k hk => absurd hk (by simp), by simp⟩
  · simp only [List.cons.injEq, Value.slice.injEq, and_true] at h1
    obtain ⟨rfl, rfl, rfl⟩ := h1
    rw [if_pos rfl] at hm
    have key : ∀ i, i < n → ∃ p : Int × Int, W.cell? (a.add (i * 2)) = some (.int .i64 p.1) ∧ W.cell? (a.add (i * 2 + 1)) = some (.int .i64 p.2) := fun i hi => by
      obtain ⟨cs, hc, htr⟩ := hcell i (by omega)
      rw [hC] at hc
      obtain ⟨_, hl, hat⟩ := World.cells?_some hc
      obtain ⟨y0, y1, n1, _, _, t0, t1⟩ := trod_struct2 he htr
      obtain ⟨o0, k0⟩ := hone_of hone 0 f0 rfl
      obtain ⟨o1, k1⟩ := hone_of hone 1 f1 rfl
      match cs, hl with
      | [c0, c1], _ =>
        rw [o0, k0] at t0
        rw [o1, k1] at t1
        obtain ⟨u, hu, _, _⟩ := DataW.trod_int i0 t0
        obtain ⟨v, hv, _, _⟩ := DataW.trod_int i1 t1
        simp only [List.drop_zero, List.take_succ_cons, List.take_zero, List.drop_succ_cons, List.cons.injEq, and_true] at hu hv
        have a0 := hat 0 (by omega)
        have a1 := hat 1 (by omega)
        rw [add_two] at a0 a1
        exact ⟨(u, v), by simpa [hu] using a0, by simpa [hv] using a1⟩
    let f : Nat → Int × Int := fun i => if hi : i < n then Classical.choose (key i hi) else (0, 0)
    have hf : ∀ i (hi : i < n), W.cell? (a.add (i * 2)) = some (.int .i64 (f i).1) ∧ W.cell? (a.add (i * 2 + 1)) = some (.int .i64 (f i).2) := fun i hi => by
      have : f i = Classical.choose (key i hi) := dif_pos hi
      rw [this]
      exact Classical.choose_spec (key i hi)
    refine ⟨(List.range n).map f, by simp, fun k hk => ?_, by simp; omega⟩
    have hk' : k < n := by simpa using hk
    obtain ⟨g1, g2⟩ := hf k hk'
    have hb := World.block_lt_of_cell? W _ g1
    have hbl : (a.add (k * 2)).block = a.block := by unfold Addr.add; split <;> rfl
    rw [hbl] at hb
    exact ⟨a, rfl, hb, by simpa using g1, by simpa using g2⟩
end Go.Proofs.Ytbmeemmihkedoaa

/-! SpecM -/
namespace Go.Proofs.Ytbmeemmihkedoaa
open Go.RowKit

theorem allS_poly (A : Option Addr) (c : Nat) (L : List (Int × Int)) (w : World) (hA : PtsA w A L) (hp : polyB L = true) :
    Calls Try.prog 79 #[.slice A L.length c] w (PutR w w.heap.size (measV L)) := by
  have := allS_any A c L w hA hp (leftS_ok hp)
  rw [leftS_left hp] at this
  exact this
theorem measV_len (L : List (Int × Int)) : (measV L).length ≤ 10 := by
  have h1 := measL_len (leftV L) (List.range (leftV L).length)
  rw [List.length_range] at h1
  exact Nat.le_trans h1 (leftV_len L).1
theorem spec_bal (A : Option Addr) (c : Nat) (L : List (Int × Int)) (w : World) (hA : PtsA w A L) (hL : L.length ≤ 1048576) :
    Calls Try.prog 35 #[.slice A L.length c] w fun e w' => e = .returned (.bool (balV L)) ∧ Below w.heap.size w w' := by
  have PC := Lib.hid (spec_poly A c L w hA hL)
  have HM := Lib.hid (fun hp W hb => allS_poly A c L W (ptsA_on hA hb) hp)
  clear hA
  cases hp : polyB L
  · rw [hp] at PC
    have HV : Hid (balV L = false) := by show _ = _; unfold balV; rw [hp]; rfl
    go_enter Try.func35, Try.ntmps35
    go_wp2_with fail
    refine PC.out.mono ?_
    rintro e w1 ⟨rfl, hb1⟩
    go_wp2_with fail
    go_ret
    exact ⟨ret_bool HV.out.symm, hb1⟩
  · rw [hp] at PC
    have HV : Hid (balV L = (((measV L).length : Int) == 0)) := by show _ = _; unfold balV; rw [hp, ms_nil]; rfl
    have HP := Lib.hid hp
    go_enter Try.func35, Try.ntmps35
    go_wp2_with fail
    refine PC.out.mono ?_
    rintro e w1 ⟨rfl, hb1⟩
    go_wp2_with fail
    refine (HM.out HP.out _ hb1).mono ?_
    rintro e w2 ⟨g, cc, Qs, rfl, hR, hM, hb2⟩
    have hlen : Qs.length = (measV L).length := by have := congrArg List.length hM; simpa [rowsM] using this
    rw [hlen]
    clear hR hM hlen
    go_wp2_with fail
    go_ret
    exact ⟨ret_bool HV.out.symm, below_on hb1 hb2⟩
theorem rowsM_inj {M N : Ms} (h : rowsM M = rowsM N) : M = N := by
  unfold rowsM at h
  refine List.map_inj_right (f := fun z : (Int × Int) × Int => [z.1.1, z.1.2, z.2]) (fun x y e => ?_) |>.1 h
  simp only [List.cons.injEq, and_true] at e
  exact Prod.ext (Prod.ext e.1 e.2.1) e.2.2
set_option maxRecDepth 100000 in
set_option maxHeartbeats 4000000 in
theorem sameS_any (B1 B2 g1 c1 g2 c2 : Nat) (Rs Qs : List Rw) (M N : Ms) (w : World) (h1 : RowsR w B1 (.slice (some ⟨g1, 0, none⟩) Rs.length c1) Rs) (h2 : RowsR w B2 (.slice (some ⟨g2, 0, none⟩) Qs.length c2) Qs) (hM : Rs.map Rw.M = rowsM M) (hN : Qs.map Rw.M = rowsM N) (_ : M.length ≤ 100) (hn : N.length ≤ 100) :
    Calls Try.prog 81 #[.slice (some ⟨g1, 0, none⟩) Rs.length c1, .slice (some ⟨g2, 0, none⟩) Qs.length c2] w fun e w' => e = .returned (.bool (decide (M = N))) ∧ Below w.heap.size w w' := by
  have l1 : Rs.length = M.length := by have := congrArg List.length hM; simpa [rowsM] using this
  have l2 : Qs.length = N.length := by have := congrArg List.length hN; simpa [rowsM] using this
  have HM := Lib.hid hM; have HN := Lib.hid hN
  have H1 := Lib.hid h1; have H2 := Lib.hid h2
  have HL1 := Lib.hid l1; have HL2 := Lib.hid l2
  clear h1 h2 hM hN
  by_cases hne : Rs.length = Qs.length
  · have hq2 : Qs.length ≤ 100 := by omega
    have hr2 : Rs.length ≤ 100 := by omega
    clear l1 l2
    have HE := Lib.hid hne
    obtain ⟨n, hnn⟩ : ∃ n, n = Rs.length := ⟨_, rfl⟩
    rw [← hne, ← hnn]
    have HNN := Lib.hid hnn
    have hn2 : n ≤ 100 := by omega
    clear hne hnn hq2 hr2 hn
    go_enter Try.func81, Try.ntmps81
    go_wp2_with fail
    go_loopw [5, 6, 14] (fun _ _ i wr => ∃ k : Nat, k ≤ n ∧ i = .int .i64 k ∧ Hid (M.take k = N.take k) ∧ Below w.heap.size w wr) (fun _ _ i _ => n - (intOf i).toNat)
    case atStart => exact ⟨0, Nat.zero_le _, rfl, rfl, Below.refl _ _⟩
    case round =>
      obtain ⟨wo, rfl⟩ : ∃ wo : World, wo = wr := ⟨_, rfl⟩
      obtain ⟨k, hk, rfl, HK, hb⟩ := hrel
      by_cases hlt : k < n
      · have hkR : k < Rs.length := by have := HNN.out; omega
        have hkQ : k < Qs.length := by have := HE.out; omega
        have hkM : k < M.length := by have := HL1.out; omega
        have hkN : k < N.length := by have := HL2.out; omega
        obtain ⟨r0, r1, r2, r3, r4⟩ := rows_at3 (H1.out.below hb) HM.out k hkM hkR
        obtain ⟨s0, s1, s2, s3, s4⟩ := rows_at3 (H2.out.below hb) HN.out k hkN hkQ
        have e1 : hdr Rs[k] = .slice (some ⟨(Rs[k]).g, 0, none⟩) 3 (Rs[k]).cap := by unfold hdr; rw [r1]
        have e2 : hdr Qs[k] = .slice (some ⟨(Qs[k]).g, 0, none⟩) 3 (Qs[k]).cap := by unfold hdr; rw [s1]
        rw [e1] at r0; rw [e2] at s0
        have HST : Hid (M.take (k + 1) = M.take k ++ [M[k]] ∧ N.take (k + 1) = N.take k ++ [N[k]]) := ⟨List.take_succ_eq_append_getElem hkM, List.take_succ_eq_append_getElem hkN⟩
        have HNO : Hid (M[k] ≠ N[k] → decide (M = N) = false) := fun h => decide_eq_false fun e => h (by subst e; rfl)
        obtain ⟨a, ha⟩ : ∃ a, a = M[k] := ⟨_, rfl⟩
        obtain ⟨b, hb'⟩ : ∃ b, b = N[k] := ⟨_, rfl⟩
        rw [← ha] at r2 r3 r4 HST HNO; rw [← hb'] at s2 s3 s4 HST HNO
        clear ha hb' e1 e2 r1 s1
        generalize (Rs[k]).cap = rc at *
        generalize (Rs[k]).g = rg at *
        generalize (Qs[k]).cap = sc at *
        generalize (Qs[k]).g = sg at *
        clear hkR hkQ hkM hkN
        obtain ⟨⟨a1, a2⟩, a3⟩ := a
        obtain ⟨⟨b1, b2⟩, b3⟩ := b
        simp only at r2 r3 r4 s2 s3 s4
        have hki : (k : Int) < (n : Int) := by omega
        have F1 := Lib.hid (k_w hk (by omega))
        obtain ⟨nb, hnb⟩ : ∃ nb, nb = (a1 != b1 || a2 != b2 || a3 != b3) := ⟨_, rfl⟩
        have HNB := Lib.hid hnb
        clear hnb
        go_upto_region 6 with (fail)
        go_cut [52] from 19 to 51 (fun s wx => s = .bool nb ∧ Below wo.heap.size wo wx)
        case first =>
          cases h1 : (a1 != b1)
          · cases h2 : (a2 != b2)
            · cases h3 : (a3 != b3)
              all_goals
                rw [h1, h2, h3] at HNB
                go_wp2_with fail
                go_quiet (fail)
                go_wp2_with fail
                go_meet
                rw [HNB.out]
                exact ⟨rfl, ⟨rfl, rfl, rfl, Nat.le_refl _, fun _ _ => rfl⟩⟩
            · rw [h1, h2] at HNB
              go_wp2_with fail
              go_quiet (fail)
              go_wp2_with fail
              go_meet
              rw [HNB.out]
              exact ⟨rfl, ⟨rfl, rfl, rfl, Nat.le_refl _, fun _ _ => rfl⟩⟩
          · rw [h1] at HNB
            go_wp2_with fail
            go_quiet (fail)
            go_wp2_with fail
            go_meet
            rw [HNB.out]
            exact ⟨rfl, ⟨rfl, rfl, rfl, Nat.le_refl _, fun _ _ => rfl⟩⟩
        case rest =>
          obtain ⟨rfl, hb7⟩ := hcut
          have b7 := below_on hb hb7
          clear hb7 r0 r2 r3 r4 s0 s2 s3 s4
          cases nb
          · have HT : Hid (M.take (k + 1) = N.take (k + 1)) := by
              show _ = _
              have h := HNB.out.symm
              rw [Bool.or_eq_false_iff, Bool.or_eq_false_iff, bne_eq_false_iff_eq, bne_eq_false_iff_eq, bne_eq_false_iff_eq] at h
              rw [HST.out.1, HST.out.2, HK.out, h.1.1, h.1.2, h.2]
            have f1 := F1.out.1; have f1' := F1.out.2
            go_wp2_with fail
            go_roundw
            case rel => exact ⟨k + 1, by omega, by go_num, HT, b7⟩
            case measure => simp [intOf]; omega
          · have HD := Lib.hid (HNO.out (fun e => by
              simp only [Prod.mk.injEq] at e
              have h := HNB.out
              rw [e.1.1, e.1.2, e.2] at h
              simp at h))
            go_wp2_with fail
            go_ret
            exact ⟨ret_bool HD.out.symm, b7⟩
      · have HD : Hid (decide (M = N) = true) := decide_eq_true (by
          have := HK.out
          rwa [List.take_of_length_le (by have := HL1.out; have := HNN.out; omega), List.take_of_length_le (by have := HL2.out; have := HNN.out; have := HE.out; omega)] at this)
        have hki : ¬ (k : Int) < (n : Int) := by omega
        go_wp2_with fail
        go_ret
        exact ⟨ret_bool HD.out.symm, hb⟩
  · have HD : Hid (decide (M = N) = false) := decide_eq_false (fun e => hne (by rw [l1, l2, e]))
    have hne' : ((Rs.length : Int) != (Qs.length : Int)) = true := by rw [bne_iff_ne]; exact fun e => hne (by exact_mod_cast e)
    have hne2 : ¬ ((Rs.length : Int) = (Qs.length : Int)) := fun e => hne (by exact_mod_cast e)
    clear l1 l2
    go_enter Try.func81, Try.ntmps81
    go_wp2_with fail
    go_ret
    exact ⟨ret_bool HD.out.symm, Below.refl _ _⟩
theorem spec_sameM (A B : Option Addr) (c d : Nat) (L K : List (Int × Int)) (w : World) (hA : PtsA w A L) (hB : PtsA w B K) (hL : L.length ≤ 1048576) (hK : K.length ≤ 1048576) :
    Calls Try.prog 31 #[.slice A L.length c, .slice B K.length d] w fun e w' => e = .returned (.bool (smeV L K)) ∧ Below w.heap.size w w' := by
  have PL := Lib.hid (fun W hb => spec_poly A c L W (ptsA_on hA hb) hL)
  have PK := Lib.hid (fun W hb => spec_poly B d K W (ptsA_on hB hb) hK)
  have ML := Lib.hid (fun hp W hb => allS_poly A c L W (ptsA_on hA hb) hp)
  have MK := Lib.hid (fun hp W hb => allS_poly B d K W (ptsA_on hB hb) hp)
  clear hA hB
  cases hp : polyB L
  · rw [hp] at PL
    have HV : Hid (smeV L K = false) := by show _ = _; unfold smeV; rw [hp]; rfl
    go_enter Try.func31, Try.ntmps31
    go_wp2_with fail
    refine (PL.out _ (Below.refl _ _)).mono ?_
    rintro e w1 ⟨rfl, hb1⟩
    go_wp2_with fail
    go_ret
    exact ⟨ret_bool HV.out.symm, hb1⟩
  rw [hp] at PL
  cases hq : polyB K
  · rw [hq] at PK
    have HV : Hid (smeV L K = false) := by show _ = _; unfold smeV; rw [hp, hq]; rfl
    go_enter Try.func31, Try.ntmps31
    go_wp2_with fail
    refine (PL.out _ (Below.refl _ _)).mono ?_
    rintro e w1 ⟨rfl, hb1⟩
    go_wp2_with fail
    refine (PK.out _ hb1).mono ?_
    rintro e w2 ⟨rfl, hb2⟩
    go_wp2_with fail
    go_ret
    exact ⟨ret_bool HV.out.symm, below_on hb1 hb2⟩
  rw [hq] at PK
  have HV : Hid (smeV L K = decide (measV L = measV K)) := by show _ = _; unfold smeV; rw [hp, hq]; rfl
  have HP := Lib.hid hp; have HQ := Lib.hid hq
  go_enter Try.func31, Try.ntmps31
  go_wp2_with fail
  refine (PL.out _ (Below.refl _ _)).mono ?_
  rintro e w1 ⟨rfl, hb1⟩
  go_wp2_with fail
  refine (PK.out _ hb1).mono ?_
  rintro e w2 ⟨rfl, hb2⟩
  have B2 := below_on hb1 hb2
  clear hb1 hb2
  go_wp2_with fail
  refine (ML.out HP.out _ B2).mono ?_
  rintro e w3 ⟨g1, c1, R1, rfl, hR1, hM1, hb3⟩
  have B3 := below_on B2 hb3
  clear B2 hb3
  go_wp2_with fail
  refine (MK.out HQ.out _ B3).mono ?_
  rintro e w4 ⟨g2, c2, R2, rfl, hR2, hM2, hb4⟩
  have B4 := below_on B3 hb4
  have hR1' := hR1.below hb4
  have HC := Lib.hid (sameS_any _ _ g1 c1 g2 c2 R1 R2 (measV L) (measV K) w4 hR1' hR2 hM1 hM2 (Nat.le_trans (measV_len L) (by omega)) (Nat.le_trans (measV_len K) (by omega)))
  clear B3 hb4 hR1 hR1' hR2 hM1 hM2
  go_wp2_with fail
  refine HC.out.mono ?_
  rintro e w5 ⟨rfl, hb5⟩
  go_wp2_with fail
  go_ret
  exact ⟨ret_bool HV.out.symm, below_on B4 hb5⟩
end Go.Proofs.Ytbmeemmihkedoaa

/-! SzTwo -/
namespace Go.Proofs.Ytbmeemmihkedoaa
open Go.RowKit
theorem sz_fit (A : Option Addr) (n c : Nat) (m : Int) (w : World) (hm : m ≤ 1073741824) (hn : (n : Int) ≤ m) : Calls Try.prog 20 #[.slice A n c, .int .i64 m] w fun e w' => e = .returned (.int .i64 (m - n)) ∧ w = w' := by
  have h := sz_any A n c m w (by omega) (by omega)
  rw [if_neg (by omega)] at h
  exact h.mono fun e w' ⟨h1, h2⟩ => ⟨h1, h2.symm⟩
theorem sz_over (A : Option Addr) (n c : Nat) (m : Int) (w : World) (hm : 0 ≤ m ∧ m ≤ 1073741824) (hn : m < (n : Int)) (h2 : n ≤ maxLen) : Calls Try.prog 20 #[.slice A n c, .int .i64 m] w fun e w' => e = .returned (.int .i64 (-1)) ∧ w = w' := by
  have h := sz_any A n c m w hm (by unfold maxLen at h2; omega)
  rw [if_pos (by omega)] at h
  exact h.mono fun e w' ⟨h1, h2⟩ => ⟨h1, h2.symm⟩
end Go.Proofs.Ytbmeemmihkedoaa

/-! Law7A -/
namespace Go.Proofs.Ytbmeemmihkedoaa
open Go.RowKit
set_option maxRecDepth 100000 in
set_option maxHeartbeats 2000000 in
/-- SC, IC: what the model and the program answer at a list of points, wherever it lies. -/
theorem law_isBalanced (A : Option Addr) (c : Nat) (L : List (Int × Int)) (b : Bool) (w : World) (hA : ArgA w A L) (hL : L.length ≤ maxLen)
    (SC : L.length ≤ 1048576 → ∀ A c w, PtsA w A L → Calls Try.prog 35 #[.slice A L.length c] w fun e w' => e = .returned (.bool b) ∧ Below w.heap.size w w')
    (IC : L.length ≤ 1048576 → ∀ A c w, PtsA w A L → Calls Try.prog 36 #[.slice A L.length c] w fun e w' => e = .returned (.bool b) ∧ Below w.heap.size w w') :
    Calls Try.prog 8 #[.slice A L.length c] w fun e w' => e = .returned (.bool true) ∧ Below w.heap.size w w' := by
  by_cases hs : L.length ≤ 1048576
  case neg => 
    clear SC IC hA
    have HZ := Lib.hid (sz_great A L.length c w (by omega) hL)
    go_enter Try.func8, Try.ntmps8
    go_wp2_with fail
    refine HZ.out.mono ?_
    rintro e w0 ⟨rfl, rfl⟩
    go_wp2_with fail
    go_ret
    exact ⟨rfl, Below.refl _ _⟩
  have HS := Lib.hid (SC hs); have HI := Lib.hid (IC hs)
  clear SC IC
  have HA := Lib.hid hA; clear hA
  have HZ := Lib.hid (sz_small A L.length c w hs)
  go_enter Try.func8, Try.ntmps8
  go_wp2_with fail
  refine HZ.out.mono ?_
  rintro e w0 ⟨rfl, rfl⟩
  go_wp2_with fail
  refine (toS_any A c L _ HA.out hs).mono ?_
  rintro e w1 ⟨v1, rfl, own1, b1⟩
  obtain ⟨_, A1, c1, rfl, p1⟩ := own_pts own1
  clear own1
  go_wp2_with fail
  refine (HS.out A1 c1 w1 p1).mono ?_
  rintro e w2 ⟨rfl, hb2⟩
  have b2 := below_on b1 hb2
  clear b1 hb2 p1
  go_wp2_with fail
  refine (toS_any A c L _ (HA.out.step b2) hs).mono ?_
  rintro e w3 ⟨v3, rfl, own3, hb3⟩
  have b3 := below_on b2 hb3
  clear b2 hb3
  obtain ⟨_, A3, c3, rfl, p3⟩ := own_pts own3
  clear own3
  go_wp2_with fail
  refine (HI.out A3 c3 w3 p3).mono ?_
  rintro e w4 ⟨rfl, hb4⟩
  have b4 := below_on b3 hb4
  have p4 := ptsA_on p3 hb4
  clear b3 hb4 p3
  go_wp2_with fail
  refine (toS_any A c L _ (HA.out.step b4) hs).mono ?_
  rintro e w5 ⟨v5, rfl, own5, hb5⟩
  have b5 := below_on b4 hb5
  have p5 := ptsA_on p4 hb5
  clear b4 hb5 p4
  obtain ⟨_, A5, c5, rfl, q5⟩ := own_pts own5
  clear own5
  go_wp2_with fail
  refine (eq_pts A3 A5 c3 c5 L w5 p5 q5 hs).mono ?_
  rintro e w6 ⟨rfl, hb6⟩
  have b6 := below_on b5 hb6
  clear b5 hb6 p5 q5
  go_wp2_with fail
  go_ret
  exact ⟨rfl, b6⟩
theorem ex_isBalanced (A : Option Addr) (c : Nat) (L : List (Int × Int)) (w : World) (hA : ArgA w A L) (hL : L.length ≤ maxLen) :
    Calls Try.prog 8 #[.slice A L.length c] w fun e w' => e = .returned (.bool true) ∧ Below w.heap.size w w' :=
  law_isBalanced A c L (balV L) w hA hL (fun h A c w hp => spec_bal A c L w hp h) (fun h A c w hp => impl_bal A c L w hp h (left_ok L))
set_option maxRecDepth 100000 in
set_option maxHeartbeats 2000000 in
theorem ex_sameMeasures (A : Option Addr) (c : Nat) (L : List (Int × Int)) (B : Option Addr) (d : Nat) (M : List (Int × Int)) (w : World) (hA : ArgA w A L) (hL : L.length ≤ maxLen) (hB : ArgA w B M) (hM : M.length ≤ maxLen) :
    Calls Try.prog 6 #[.slice A L.length c, .slice B M.length d] w fun e w' => e = .returned (.bool true) ∧ Below w.heap.size w w' := by
  by_cases hs : L.length ≤ 1048576
  case neg =>
    have HZ := Lib.hid (fun w => sz_great A L.length c w (by omega) hL)
    clear hA hB
    go_enter Try.func6, Try.ntmps6
    go_wp2_with fail
    refine (HZ.out _).mono ?_
    rintro e w0 ⟨rfl, rfl⟩
    go_wp2_with fail
    go_ret
    exact ⟨rfl, Below.refl _ _⟩
  have HZ := Lib.hid (fun w => sz_small A L.length c w hs)
  obtain ⟨m, hm⟩ : ∃ m : Int, m = 1048576 - (L.length : Int) := ⟨_, rfl⟩
  have hm0 : 0 ≤ m := by omega
  rw [← hm] at HZ
  by_cases hs2 : (M.length : Int) ≤ m
  case neg =>
    have HZ2 := Lib.hid (fun w => sz_over B M.length d m w (by omega) (by omega) hM)
    clear hA hB hm hs2
    go_enter Try.func6, Try.ntmps6
    go_wp2_with fail
    refine (HZ.out _).mono ?_
    rintro e w0 ⟨rfl, rfl⟩
    go_wp2_with fail
    refine (HZ2.out _).mono ?_
    rintro e w0 ⟨rfl, rfl⟩
    go_wp2_with fail
    go_ret
    exact ⟨rfl, Below.refl _ _⟩
  have HZ2 := Lib.hid (fun w => sz_fit B M.length d m w (by omega) hs2)
  have hmm : M.length ≤ 1048576 := by omega
  have HS := Lib.hid (fun A B c d w hp hq => spec_sameM A B c d L M w hp hq hs hmm)
  have HI := Lib.hid (fun A B c d w hp hq => impl_sameM A B c d L M w hp hq hs hmm (left_ok L) (left_ok M))
  generalize smeV L M = r at *
  have h1 := Lib.hid hs
  have h2 := Lib.hid hmm
  have HA := Lib.hid hA
  have HB := Lib.hid hB
  have hmd : (0 : Int) ≤ m - (M.length : Int) := by omega
  clear hA hB hm hs2 hs hmm
  go_enter Try.func6, Try.ntmps6
  go_wp2_with fail
  refine (HZ.out _).mono ?_
  rintro e w0 ⟨rfl, rfl⟩
  go_wp2_with fail
  refine (HZ2.out _).mono ?_
  rintro e w0 ⟨rfl, rfl⟩
  go_wp2_with fail
  refine (toS_any A c L _ HA.out h1.out).mono ?_
  rintro e w1 ⟨v1, rfl, own1, b1⟩
  obtain ⟨_, A1, c1, rfl, p1⟩ := own_pts own1
  clear own1
  go_wp2_with fail
  refine (toS_any B d M _ (HB.out.step b1) h2.out).mono ?_
  rintro e w2 ⟨v2, rfl, own2, hb2⟩
  obtain ⟨_, A2, c2, rfl, p2⟩ := own_pts own2
  have b2 := below_on b1 hb2
  replace p1 := ptsA_on p1 hb2
  clear own2 hb2 b1
  go_wp2_with fail
  refine (HS.out A1 A2 c1 c2 w2 p1 p2).mono ?_
  rintro e w3 ⟨rfl, hb3⟩
  have b3 := below_on b2 hb3
  clear hb3 b2 p1 p2
  go_wp2_with fail
  refine (toS_any A c L _ (HA.out.step b3) h1.out).mono ?_
  rintro e w4 ⟨v4, rfl, own4, hb4⟩
  obtain ⟨_, A4, c4, rfl, p4⟩ := own_pts own4
  have b4 := below_on b3 hb4
  clear own4 hb4 b3
  go_wp2_with fail
  refine (toS_any B d M _ (HB.out.step b4) h2.out).mono ?_
  rintro e w5 ⟨v5, rfl, own5, hb5⟩
  obtain ⟨_, A5, c5, rfl, p5⟩ := own_pts own5
  have b5 := below_on b4 hb5
  replace p4 := ptsA_on p4 hb5
  clear own5 hb5 b4
  go_wp2_with fail
  refine (HI.out A4 A5 c4 c5 w5 p4 p5).mono ?_
  rintro e w6 ⟨rfl, hb6⟩
  have b6 := below_on b5 hb6
  replace p4 := ptsA_on p4 hb6
  replace p5 := ptsA_on p5 hb6
  clear hb6 b5
  go_wp2_with fail
  refine (toS_any A c L _ (HA.out.step b6) h1.out).mono ?_
  rintro e w7 ⟨v7, rfl, own7, hb7⟩
  obtain ⟨_, A7, c7, rfl, p7⟩ := own_pts own7
  have b7 := below_on b6 hb7
  replace p4 := ptsA_on p4 hb7
  replace p5 := ptsA_on p5 hb7
  clear own7 hb7 b6
  go_wp2_with fail
  refine (eq_pts A4 A7 c4 c7 L w7 p4 p7 h1.out).mono ?_
  rintro e w8 ⟨rfl, hb8⟩
  have b8 := below_on b7 hb8
  replace p5 := ptsA_on p5 hb8
  clear hb8 b7 p4 p7
  go_wp2_with fail
  refine (toS_any B d M _ (HB.out.step b8) h2.out).mono ?_
  rintro e w9 ⟨v9, rfl, own9, hb9⟩
  obtain ⟨_, A9, c9, rfl, p9⟩ := own_pts own9
  have b9 := below_on b8 hb9
  replace p5 := ptsA_on p5 hb9
  clear own9 hb9 b8
  go_wp2_with fail
  refine (eq_pts A5 A9 c5 c9 M w9 p5 p9 h2.out).mono ?_
  rintro e w10 ⟨rfl, hb10⟩
  have b10 := below_on b9 hb10
  clear hb10 b9 p5 p9
  go_wp2_with fail
  go_ret
  exact ⟨rfl, b10⟩
end Go.Proofs.Ytbmeemmihkedoaa

/-! Law7B -/
namespace Go.Proofs.Ytbmeemmihkedoaa
open Go.RowKit

theorem magJ_any (n : Int) (w : World) (hn : n.natAbs ≤ 16000) : Calls Try.prog 84 #[.int .i64 n] w fun e w' => e = .returned (.int .i64 (n.natAbs : Int)) ∧ w' = w := by
  have hmax : ∀ (w : World) (x y : Int) (ts : Array TypeId) (t : TypeId), (Builtin.max_ ts t #[.int .i64 x, .int .i64 y]).run Try.prog w = .ok (.int .i64 (maxI x y)) w := run_maxI
  have f1 : wrap64 (-n) = -n := IntWalk.wrap64_in _ (by omega)
  have f2 : IntKind.i64.wrap (-n) = -n := IntWalk.i64_in _ (by omega)
  have HV : Hid (maxI n (-n) = (n.natAbs : Int)) := by
    show _ = _
    unfold maxI
    split <;> omega
  go_enter Try.func84, Try.ntmps84
  go_wp2_with fail
  go_ret
  exact ⟨ret_int HV.out, rfl⟩
theorem areaV_abs {L : List (Int × Int)} (hp : polyB L = true) (ht : twiceI (turnL L) = -twiceI L) : areaV L = ((twiceI L).natAbs : Int) := by
  have hq := leftS_ok hp
  rw [leftS_left hp] at hq
  unfold areaV
  rw [hq, cond_true]
  unfold leftV leftL
  rw [hp, cond_true]
  by_cases h : 0 < twiceI L
  · rw [decide_eq_true h, cond_true]; omega
  · rw [decide_eq_false h, cond_false, ht]; omega
theorem spec_exch (A B : Option Addr) (c d : Nat) (L K : List (Int × Int)) (w : World) (hA : PtsA w A L) (hB : PtsA w B K) (hL : L.length ≤ 1048576) (hK : K.length ≤ 1048576) :
    Calls Try.prog 33 #[.slice A L.length c, .slice B K.length d] w fun e w' => e = .returned (.bool (exchV L K)) ∧ Below w.heap.size w w' := by
  have HS := Lib.hid (spec_sameM A B c d L K w hA hB hL hK)
  have TL := Lib.hid (fun h1 h2 h3 W hb => twice_any A c L W (ptsA_on hA hb) h1 h2 h3)
  have TK := Lib.hid (fun h1 h2 h3 W hb => twice_any B d K W (ptsA_on hB hb) h1 h2 h3)
  clear hA hB
  cases hs : smeV L K
  · rw [hs] at HS
    have HV : Hid (exchV L K = false) := by show _ = _; unfold exchV; rw [hs]; rfl
    go_enter Try.func33, Try.ntmps33
    go_wp2_with fail
    refine HS.out.mono ?_
    rintro e w1 ⟨rfl, hb1⟩
    go_wp2_with fail
    go_ret
    exact ⟨ret_bool HV.out.symm, hb1⟩
  rw [hs] at HS
  have hpq : polyB L = true ∧ polyB K = true := by
    unfold smeV at hs
    simp only [Bool.and_eq_true] at hs
    exact hs.1
  obtain ⟨l3, l10, lok⟩ := polyB_all hpq.1
  obtain ⟨k3, k10, kok⟩ := polyB_all hpq.2
  have HV : Hid (exchV L K = (((twiceI L).natAbs : Int) == ((twiceI K).natAbs : Int))) := by
    show _ = _
    unfold exchV
    rw [hs, Bool.true_and, areaV_abs hpq.1 (twice_turn (by omega)), areaV_abs hpq.2 (twice_turn (by omega)), Bool.eq_iff_iff, decide_eq_true_iff, beq_iff_eq]
  have TL := Lib.hid (fun W hb => TL.out (by omega) l10 lok W hb)
  have TK := Lib.hid (fun W hb => TK.out (by omega) k10 kok W hb)
  have bl := twiceI_bd lok l10
  have bk := twiceI_bd kok k10
  have ML := Lib.hid (fun W => magJ_any (twiceI L) W bl)
  have MK := Lib.hid (fun W => magJ_any (twiceI K) W bk)
  clear hs hpq lok kok bl bk
  go_enter Try.func33, Try.ntmps33
  go_wp2_with fail
  refine HS.out.mono ?_
  rintro e w1 ⟨rfl, hb1⟩
  go_wp2_with fail
  refine (TL.out _ hb1).mono ?_
  rintro e w2 ⟨rfl, hb2⟩
  have B2 := below_on hb1 hb2
  clear hb1 hb2
  go_wp2_with fail
  refine (ML.out _).mono ?_
  rintro e w3 ⟨rfl, rfl⟩
  go_wp2_with fail
  refine (TK.out _ B2).mono ?_
  rintro e w4 ⟨rfl, hb4⟩
  go_wp2_with fail
  refine (MK.out _).mono ?_
  rintro e w5 ⟨rfl, rfl⟩
  go_wp2_with fail
  go_ret
  exact ⟨ret_bool HV.out.symm, below_on B2 hb4⟩
set_option maxRecDepth 100000 in
set_option maxHeartbeats 2000000 in
theorem ex_canExchange (A : Option Addr) (c : Nat) (L : List (Int × Int)) (B : Option Addr) (d : Nat) (M : List (Int × Int)) (w : World) (hA : ArgA w A L) (hL : L.length ≤ maxLen) (hB : ArgA w B M) (hM : M.length ≤ maxLen) :
    Calls Try.prog 7 #[.slice A L.length c, .slice B M.length d] w fun e w' => e = .returned (.bool true) ∧ Below w.heap.size w w' := by
  by_cases hs : L.length ≤ 1048576
  case neg =>
    have HZ := Lib.hid (fun w => sz_great A L.length c w (by omega) hL)
    clear hA hB
    go_enter Try.func7, Try.ntmps7
    go_wp2_with fail
    refine (HZ.out _).mono ?_
    rintro e w0 ⟨rfl, rfl⟩
    go_wp2_with fail
    go_ret
    exact ⟨rfl, Below.refl _ _⟩
  have HZ := Lib.hid (fun w => sz_small A L.length c w hs)
  obtain ⟨m, hm⟩ : ∃ m : Int, m = 1048576 - (L.length : Int) := ⟨_, rfl⟩
  have hm0 : 0 ≤ m := by omega
  rw [← hm] at HZ
  by_cases hs2 : (M.length : Int) ≤ m
  case neg =>
    have HZ2 := Lib.hid (fun w => sz_over B M.length d m w (by omega) (by omega) hM)
    clear hA hB hm hs2
    go_enter Try.func7, Try.ntmps7
    go_wp2_with fail
    refine (HZ.out _).mono ?_
    rintro e w0 ⟨rfl, rfl⟩
    go_wp2_with fail
    refine (HZ2.out _).mono ?_
    rintro e w0 ⟨rfl, rfl⟩
    go_wp2_with fail
    go_ret
    exact ⟨rfl, Below.refl _ _⟩
  have HZ2 := Lib.hid (fun w => sz_fit B M.length d m w (by omega) hs2)
  have hmm : M.length ≤ 1048576 := by omega
  have HS := Lib.hid (fun A B c d w hp hq => spec_exch A B c d L M w hp hq hs hmm)
  have HI := Lib.hid (fun A B c d w hp hq => impl_exch A B c d L M w hp hq hs hmm (left_ok L) (left_ok M))
  generalize exchV L M = r at *
  have h1 := Lib.hid hs
  have h2 := Lib.hid hmm
  have HA := Lib.hid hA
  have HB := Lib.hid hB
  have hmd : (0 : Int) ≤ m - (M.length : Int) := by omega
  clear hA hB hm hs2 hs hmm
  go_enter Try.func7, Try.ntmps7
  go_wp2_with fail
  refine (HZ.out _).mono ?_
  rintro e w0 ⟨rfl, rfl⟩
  go_wp2_with fail
  refine (HZ2.out _).mono ?_
  rintro e w0 ⟨rfl, rfl⟩
  go_wp2_with fail
  refine (toS_any A c L _ HA.out h1.out).mono ?_
  rintro e w1 ⟨v1, rfl, own1, b1⟩
  obtain ⟨_, A1, c1, rfl, p1⟩ := own_pts own1
  clear own1
  go_wp2_with fail
  refine (toS_any B d M _ (HB.out.step b1) h2.out).mono ?_
  rintro e w2 ⟨v2, rfl, own2, hb2⟩
  obtain ⟨_, A2, c2, rfl, p2⟩ := own_pts own2
  have b2 := below_on b1 hb2
  replace p1 := ptsA_on p1 hb2
  clear own2 hb2 b1
  go_wp2_with fail
  refine (HS.out A1 A2 c1 c2 w2 p1 p2).mono ?_
  rintro e w3 ⟨rfl, hb3⟩
  have b3 := below_on b2 hb3
  clear hb3 b2 p1 p2
  go_wp2_with fail
  refine (toS_any A c L _ (HA.out.step b3) h1.out).mono ?_
  rintro e w4 ⟨v4, rfl, own4, hb4⟩
  obtain ⟨_, A4, c4, rfl, p4⟩ := own_pts own4
  have b4 := below_on b3 hb4
  clear own4 hb4 b3
  go_wp2_with fail
  refine (toS_any B d M _ (HB.out.step b4) h2.out).mono ?_
  rintro e w5 ⟨v5, rfl, own5, hb5⟩
  obtain ⟨_, A5, c5, rfl, p5⟩ := own_pts own5
  have b5 := below_on b4 hb5
  replace p4 := ptsA_on p4 hb5
  clear own5 hb5 b4
  go_wp2_with fail
  refine (HI.out A4 A5 c4 c5 w5 p4 p5).mono ?_
  rintro e w6 ⟨rfl, hb6⟩
  have b6 := below_on b5 hb6
  replace p4 := ptsA_on p4 hb6
  replace p5 := ptsA_on p5 hb6
  clear hb6 b5
  go_wp2_with fail
  refine (toS_any A c L _ (HA.out.step b6) h1.out).mono ?_
  rintro e w7 ⟨v7, rfl, own7, hb7⟩
  obtain ⟨_, A7, c7, rfl, p7⟩ := own_pts own7
  have b7 := below_on b6 hb7
  replace p4 := ptsA_on p4 hb7
  replace p5 := ptsA_on p5 hb7
  clear own7 hb7 b6
  go_wp2_with fail
  refine (eq_pts A4 A7 c4 c7 L w7 p4 p7 h1.out).mono ?_
  rintro e w8 ⟨rfl, hb8⟩
  have b8 := below_on b7 hb8
  replace p5 := ptsA_on p5 hb8
  clear hb8 b7 p4 p7
  go_wp2_with fail
  refine (toS_any B d M _ (HB.out.step b8) h2.out).mono ?_
  rintro e w9 ⟨v9, rfl, own9, hb9⟩
  obtain ⟨_, A9, c9, rfl, p9⟩ := own_pts own9
  have b9 := below_on b8 hb9
  replace p5 := ptsA_on p5 hb9
  clear own9 hb9 b8
  go_wp2_with fail
  refine (eq_pts A5 A9 c5 c9 M w9 p5 p9 h2.out).mono ?_
  rintro e w10 ⟨rfl, hb10⟩
  have b10 := below_on b9 hb10
  clear hb10 b9 p5 p9
  go_wp2_with fail
  go_ret
  exact ⟨rfl, b10⟩
end Go.Proofs.Ytbmeemmihkedoaa
