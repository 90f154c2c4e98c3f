/-
  The program's shapes: slices.CompareFunc, compareCorners, slices.MinFunc over rows, ShapeOf, IsCongruent; the laws of ShapeOf and IsCongruent.
-/
import Derived.Test.YtoemmaeglhdjnaaRowsP
import Derived.Test.YtoemmaeglhdjnaaMoveI
import Derived.Test.YtoemmaeglhdjnaaShapeS
import Derived.Test.YtoemmaeglhdjnaaSzTwo
namespace Go.Proofs.Ytoemmaeglhdjnaa
open Go.RowKit

set_option maxRecDepth 100000 in
set_option maxHeartbeats 1000000 in
theorem cf_any (A B : Option Addr) (c d : Nat) (L M : List Pt) (w : World) (hA : PtsA w A L) (hB : PtsA w B M) (hl : L.length = M.length) (h1 : L.length ≤ 1048576) :
    Calls Try.prog 116 #[.slice A L.length c, .slice B M.length d, .func (.func 79) #[] #[]] w fun e w' => e = .returned (.int .i64 (cmpL L M)) ∧ Below w.heap.size w w' := by
  have HA := Lib.hid hA
  have HB := Lib.hid hB
  have HL := Lib.hid hl
  obtain ⟨n, hn⟩ : ∃ n, n = L.length := ⟨_, rfl⟩
  have HN := Lib.hid hn
  have hm : M.length = n := by omega
  have hn2 : n ≤ 1048576 := by omega
  rw [hm, ← hn]
  clear hA hB hl hn hm h1
  go_enter Try.func116, Try.ntmps116
  go_wp2_with fail
  go_loopw [7, 8, 9, 10, 13] (fun _ _ _ _ i wr => ∃ k : Nat, k ≤ n ∧ i = .int .i64 k ∧ Hid (L.take k = M.take k) ∧ Below w.heap.size w wr) (fun _ _ _ _ i _ => n - (intOf i).toNat)
  case atStart => exact ⟨0, Nat.zero_le _, rfl, rfl, Below.refl _ _⟩
  case round =>
    obtain ⟨wo, rfl⟩ : ∃ wo : World, wo = wr := ⟨_, rfl⟩
    obtain ⟨k, hk, rfl, HK, hb⟩ := hrel
    by_cases hlt : k < n
    · have hkL : k < L.length := by have := HN.out; omega
      have hkM : k < M.length := by have := HN.out; have := HL.out; omega
      obtain ⟨g1, rfl, -⟩ := HA.out k hkL
      obtain ⟨g2, rfl, -⟩ := HB.out k hkM
      obtain ⟨c1, c2⟩ := gt_cells (ptsA_on HA.out hb) hkL
      obtain ⟨c3, c4⟩ := gt_cells (ptsA_on HB.out hb) hkM
      have HC := Lib.hid (fun w => cmpPt_any (gt L k).1 (gt L k).2 (gt M k).1 (gt M k).2 w)
      have e1 : (((gt L k).1, (gt L k).2) : Pt) = gt L k := rfl
      have e2 : (((gt M k).1, (gt M k).2) : Pt) = gt M k := rfl
      rw [e1, e2] at HC
      clear e1 e2
      have HCL : Hid (cmpI (gt L k) (gt M k) ≠ 0 → cmpL L M = cmpI (gt L k) (gt M k)) := fun h => cmpL_at k L M hkL hkM HK.out h
      have HEQ : Hid (cmpI (gt L k) (gt M k) = 0 → L.take (k + 1) = M.take (k + 1)) := fun h => take_step hkL hkM HK.out (cmpI_zero.1 h)
      generalize cmpI (gt L k) (gt M k) = z at *
      generalize (gt L k).1 = x at *
      generalize (gt L k).2 = y at *
      generalize (gt M k).1 = x' at *
      generalize (gt M k).2 = y' at *
      have hal := below1 wo (.cells #[.int .i64 x, .int .i64 y] 56)
      have d3 := cell_on hal rfl c3; have d4 := cell_on hal rfl c4
      have n1 := (at_new wo x y 56).alloc (.cells #[.int .i64 x', .int .i64 y'] 56)
      have n2 := at_new (wo.alloc (.cells #[.int .i64 x, .int .i64 y] 56)) x' y' 56
      rw [size_alloc] at n2
      have e1 := n1.c0; have e2 := n1.c1; have e3 := n2.c0; have e4 := n2.c1
      have b2 := hb.trans ((below2 wo (.cells #[.int .i64 x, .int .i64 y] 56) (.cells #[.int .i64 x', .int .i64 y'] 56)).mono hb.size)
      have hki : (k : Int) < (n : Int) := by omega
      have hki2 : ¬ (n : Int) ≤ (k : Int) := by omega
      cases hz : (z != 0)
      · have HT : Hid (L.take (k + 1) = M.take (k + 1)) := HEQ.out (by simpa using hz)
        clear HCL HEQ n1 n2 hal
        go_wp2_with fail
        refine (HC.out _).mono ?_
        rintro e w5 ⟨rfl, hb5⟩
        have b5 := below_on b2 hb5
        clear c1 c2 c3 c4 d3 d4 e1 e2 e3 e4 b2 hb5
        go_wp2_with fail
        go_roundw
        case rel => exact ⟨k + 1, by omega, by go_num, HT, b5⟩
        case measure => simp [intOf]; omega
      · have HT : Hid (cmpL L M = z) := HCL.out (by simpa using hz)
        clear HCL HEQ n1 n2 hal
        go_wp2_with fail
        refine (HC.out _).mono ?_
        rintro e w5 ⟨rfl, hb5⟩
        have b5 := below_on b2 hb5
        clear c1 c2 c3 c4 d3 d4 e1 e2 e3 e4 b2 hb5
        go_wp2_with fail
        go_ret
        exact ⟨ret_int HT.out.symm, b5⟩
    · obtain rfl : k = n := by omega
      have HD : Hid (cmpL L M = 0) := by
        have h3 := HK.out
        rw [List.take_of_length_le (by have := HN.out; omega), List.take_of_length_le (by have := HN.out; have := HL.out; omega)] at h3
        show _ = _
        rw [h3]; exact cmpL_self M
      go_wp2_with fail
      go_ret
      exact ⟨ret_int HD.out.symm, hb⟩
theorem cc_any (A B : Option Addr) (c d : Nat) (L M : List Pt) (w : World) (hA : PtsA w A L) (hB : PtsA w B M) (hl : L.length = M.length) (h1 : L.length ≤ 1048576) :
    Calls Try.prog 82 #[.slice A L.length c, .slice B M.length d] w fun e w' => e = .returned (.int .i64 (cmpL L M)) ∧ Below w.heap.size w w' := by
  have HC := Lib.hid (cf_any A B c d L M w hA hB hl h1)
  clear hA hB hl
  go_enter Try.func82, Try.ntmps82
  go_wp2_with fail
  refine HC.out.mono ?_
  rintro e w5 ⟨rfl, hb5⟩
  go_wp2_with fail
  go_ret
  exact ⟨rfl, hb5⟩
theorem minL_step (Ms : List (List Pt)) {k : Nat} (h1 : 1 ≤ k) (hk : k < Ms.length) : minL (Ms.take (k + 1)) = stepB (minL (Ms.take k)) Ms[k] := by
  cases Ms with
  | nil => simp at hk
  | cons c xs =>
    obtain ⟨j, rfl⟩ : ∃ j, k = j + 1 := ⟨k - 1, by omega⟩
    have hj : j < xs.length := by simpa using hk
    simp only [List.take_succ_cons, minL, List.getElem_cons_succ]
    rw [List.take_succ_eq_append_getElem hj, minB_append]; rfl
/-- One of the rows, the first one. -/
def RowMin (Rs : List Rp) (w : World) (e : Ending) (w' : World) : Prop := ∃ r ∈ Rs, e = .returned (hdrP r) ∧ r.M = minL (Rs.map Rp.M) ∧ Below w.heap.size w w'
set_option maxRecDepth 100000 in
set_option maxHeartbeats 1000000 in
theorem minRow_any (B : Nat) (v : Value) (Rs : List Rp) (n : Nat) (w : World) (h : RowsP w B v Rs) (h1 : 1 ≤ Rs.length) (h2 : Rs.length ≤ 1000) (hn : n ≤ 10) (hl : ∀ r ∈ Rs, r.M.length = n) :
    Calls Try.prog 81 #[v, .func (.func 82) #[] #[]] w (RowMin Rs w) := by
  obtain ⟨A, c, rfl, C⟩ := h.form
  obtain ⟨g, rfl, c0⟩ := C 0 (by omega)
  have HC : Hid (∀ i (hi : i < Rs.length), w.cell? ⟨g, i, none⟩ = some (hdrP Rs[i])) := fun i hi => by
    obtain ⟨g', e, q⟩ := C i hi
    simp only [Option.some.injEq, Addr.mk.injEq, and_true] at e
    rw [e]; exact q
  have HK : Hid (∀ r ∈ Rs, ∀ q ∈ Rs, ∀ W, Below w.heap.size w W → Calls Try.prog 82 #[hdrP r, hdrP q] W fun e w' => e = .returned (.int .i64 (cmpL r.M q.M)) ∧ Below W.heap.size W w') := fun r hr q hq W hb =>
    cc_any _ _ _ _ r.M q.M W (ptsA_on (ptsA_row (h.row r hr)) hb) (ptsA_on (ptsA_row (h.row q hq)) hb) (by rw [hl r hr, hl q hq]) (by rw [hl r hr]; omega)
  have H0 : Hid ((Rs[0]'(by omega)).M = minL ((Rs.map Rp.M).take 1)) := by
    show _ = _
    cases Rs with
    | nil => simp at h1
    | cons r rs => simp [minL, minB]
  have HM0 := Lib.hid (List.getElem_mem (l := Rs) (n := 0) (by omega))
  have HST : Hid (∀ (k : Nat) (hk : k < Rs.length), 1 ≤ k → minL ((Rs.map Rp.M).take (k + 1)) = stepB (minL ((Rs.map Rp.M).take k)) Rs[k].M) := fun k hk h1 => by
    rw [minL_step _ h1 (by simpa using hk)]; simp
  have HME : Hid (∀ (k : Nat) (hk : k < Rs.length), Rs[k] ∈ Rs) := fun k hk => List.getElem_mem hk
  have hn1 : (0 : Int) < (Rs.length : Int) := by omega
  have hn2 : ¬ (Rs.length : Int) < 1 := by omega
  have HALL : Hid ((Rs.map Rp.M).take Rs.length = Rs.map Rp.M) := List.take_of_length_le (by simp)
  obtain ⟨r0, hr0⟩ : ∃ r0, r0 = Rs[0]'(by omega) := ⟨_, rfl⟩
  rw [← hr0] at c0 H0 HM0
  obtain ⟨X, hX⟩ : ∃ X, X = hdrP r0 := ⟨_, rfl⟩
  have HX := Lib.hid hX
  rw [← hX] at c0
  clear h hl C hr0 hX
  go_enter Try.func81, Try.ntmps81
  go_wp2_with fail
  go_loopw [5, 6] (fun s i wr => ∃ (k : Nat) (r : Rp), 1 ≤ k ∧ k ≤ Rs.length ∧ i = .int .i64 k ∧ Hid (s = hdrP r) ∧ Hid (r ∈ Rs) ∧ Hid (r.M = minL ((Rs.map Rp.M).take k)) ∧ Below w.heap.size w wr) (fun _ i _ => Rs.length - (intOf i).toNat)
  case atStart => exact ⟨1, r0, by omega, by omega, rfl, HX, HM0, H0, Below.refl _ _⟩
  case round =>
    clear c0 HX HM0 H0
    obtain ⟨wo, rfl⟩ : ∃ wo : World, wo = wr := ⟨_, rfl⟩
    obtain ⟨k, r, hk1, hk, rfl, HR, HRM, HRL, hb⟩ := hrel
    by_cases hlt : k < Rs.length
    · have ck := cell_on hb rfl (HC.out k hlt)
      have HS := Lib.hid (HST.out k hlt hk1)
      have HMK := Lib.hid (HME.out k hlt)
      obtain ⟨q, hq⟩ : ∃ q, q = Rs[k] := ⟨_, rfl⟩
      rw [← hq] at ck HS HMK
      have HCC := Lib.hid (HK.out q HMK.out r HRM.out wo hb)
      rw [← HR.out] at HCC
      rw [← HRL.out] at HS
      obtain ⟨Y, hY⟩ : ∃ Y, Y = hdrP q := ⟨_, rfl⟩
      have HY := Lib.hid hY
      rw [← hY] at ck HCC
      have HZ := Lib.hid (cmpL_neg q.M r.M)
      clear hq hY
      generalize cmpL q.M r.M = z at *
      cases hbf : befL q.M r.M
      · have hz : ¬ z < 0 := fun h => by have := HZ.out.1 h; rw [hbf] at this; cases this
        have HT : Hid (r.M = minL ((Rs.map Rp.M).take (k + 1))) := by
          show _ = _
          rw [HS.out, stepB_no hbf]
        go_wp2_with fail
        refine HCC.out.mono ?_
        rintro e w5 ⟨rfl, hb5⟩
        have b5 := below_on hb hb5
        clear ck hb hb5
        go_wp2_with fail
        go_roundw
        case rel => exact ⟨k + 1, r, by omega, by omega, by go_num, HR, HRM, HT, b5⟩
        case measure => simp [intOf]; omega
      · have hz : z < 0 := HZ.out.2 hbf
        have HT : Hid (q.M = minL ((Rs.map Rp.M).take (k + 1))) := by
          show _ = _
          rw [HS.out, stepB_yes hbf]
        go_wp2_with fail
        refine HCC.out.mono ?_
        rintro e w5 ⟨rfl, hb5⟩
        have b5 := below_on hb hb5
        have ck5 := cell_on hb5 rfl ck
        clear ck hb hb5
        go_wp2_with fail
        go_roundw
        case rel => exact ⟨k + 1, q, by omega, by omega, by go_num, HY, HMK, HT, b5⟩
        case measure => simp [intOf]; omega
    · obtain rfl : k = Rs.length := by omega
      have HF : Hid (r.M = minL (Rs.map Rp.M)) := by
        show _ = _
        rw [HRL.out, HALL.out]
      go_wp2_with fail
      go_ret
      exact ⟨r, HRM.out, congrArg Ending.returned HR.out, HF.out, hb⟩

theorem infoRp : (Try.prog.info? 27).map (fun i => (i.zero, i.size, i.bytes)) = some (some (.slice none 0 0), 1, 24) := by kernel_rfl
theorem listRow {w : World} {B : Nat} {v : Value} {L : List Pt} (h : w.ownsRow B 56 2 v L.length (flat L)) (h0 : 0 < L.length) : ∃ r : Rp, r.M = L ∧ v = hdrP r ∧ B ≤ r.g := by
  obtain ⟨g, cap, e, h1, h2⟩ := h.form h0
  exact ⟨⟨g, cap, L⟩, rfl, e, h1⟩
def someT (s : List Pt) (m : Nat) : List (List Pt) := (List.range m).flatMap fun j => bothK (moveL s j) (minI' (moveL s j))
theorem someT_step (s : List Pt) (m : Nat) : someT s (m + 1) = someT s m ++ bothK (moveL s m) (minI' (moveL s m)) := by
  unfold someT
  rw [List.range_succ, List.flatMap_append]; simp
theorem someT_len (s : List Pt) : ∀ m, (someT s m).length = 2 * m
  | 0 => rfl
  | m + 1 => by
    rw [someT_step, List.length_append, someT_len s m]
    simp [bothK]; omega

set_option maxRecDepth 100000 in
set_option maxHeartbeats 4000000 in
theorem impl_shape (A : Option Addr) (c : Nat) (L : List Pt) (w : World) (hA : PtsA w A L) (hL : L.length ≤ 1048576) :
    Calls Try.prog 36 #[.slice A L.length c] w (Lists w (shapeV L)) := by
  have PC := Lib.hid (impl_poly A c L w hA hL)
  cases hp : polyB L
  · rw [hp] at PC
    have HE : Hid (shapeV L = []) := by
      show _ = _
      rw [shapeV, hp]; rfl
    rw [HE.out]
    clear hA
    go_enter Try.func36, Try.ntmps36
    go_wp2_with fail
    refine PC.out.mono ?_
    rintro e w1 ⟨rfl, hb1⟩
    go_wp2_with fail
    go_ret
    exact ⟨_, rfl, World.ownsRow_nil _ _ _ _, hb1⟩
  rw [hp] at PC
  have hps := poly_straight hp
  have HG : Hid (∀ m, m < 8 → polyB (moveL (straightL L) m) = true ∧ (moveL (straightL L) m).Nodup) := fun m hm => by
    have := good_move (poly_good hps) hm
    exact ⟨good_poly this, this.2.2.1⟩
  have HE : Hid (shapeV L = minL (someT (straightL L) 8)) := by
    show _ = _
    rw [shapeV, hp]
    exact (shape_some (by have := (polyB_all hps).1; omega) (fun m hm => (HG.out m hm).2)).symm
  rw [HE.out]
  have HS := Lib.hid (fun W (hb : Below w.heap.size w W) => impl_straight A c L W (ptsA_on hA hb) hL)
  have e1 : straightV L = straightL L := by rw [straightV, hp]; rfl
  unfold Lists at HS
  rw [e1] at HS
  obtain ⟨h3, h10, -⟩ := polyB_all hps
  have HMV : Hid (∀ m : Nat, m < 8 → moveV (straightL L) m = moveL (straightL L) m) := fun m hm => by
    unfold moveV
    rw [hps, inB_spec.2 (by omega)]; simp
  have HM := Lib.hid (fun A c (m : Nat) w (hp : PtsA w A (straightL L)) => impl_move A c (straightL L) m w hp (by omega))
  unfold Lists at HM
  have HLN := Lib.hid (moveL_len (straightL L))
  have HTS := Lib.hid (someT_step (straightL L))
  have HTL := Lib.hid (someT_len (straightL L))
  obtain ⟨i0, hi0, hz0, hz1, hz2⟩ := info_parts infoRp
  clear hA hp hps e1 HE
  generalize straightL L = s at *
  go_enter Try.func36, Try.ntmps36
  go_wp2_with fail
  refine PC.out.mono ?_
  rintro e w1 ⟨rfl, b1⟩
  go_wp2_with fail
  refine (HS.out _ b1).mono ?_
  rintro e w2 ⟨v2, rfl, own2, hb2⟩
  have b2 := below_on b1 hb2
  obtain ⟨_, A2, c2, rfl, p2⟩ := own_pts own2
  have HP2 := Lib.hid p2
  have hs2 := b2.size
  clear own2 hb2 b1 p2 HS PC
  have rows0 : Hid (RowsP w2 w2.heap.size (.slice none 0 0) []) := rowsP_nil _ _
  go_wp2_with fail
  go_loopw [4, 5, 6, 7, 13] (fun v _ _ _ i wr => ∃ (m : Nat) (Rs : List Rp), m ≤ 8 ∧ i = .int .i64 m ∧ Hid (Rs.map Rp.M = someT s m) ∧ Hid (RowsP wr w2.heap.size v Rs) ∧ Below w2.heap.size w2 wr) (fun _ _ _ _ i _ => 8 - (intOf i).toNat)
  case atStart => exact ⟨0, [], by omega, rfl, rfl, rows0, Below.refl _ _⟩
  case round =>
    clear rows0
    obtain ⟨wo, rfl⟩ : ∃ wo : World, wo = wr := ⟨_, rfl⟩
    obtain ⟨m, Rs, hm, rfl, HRL, HR, hb⟩ := hrel
    by_cases hlt : m < 8
    · have hRn : Rs.length ≤ 100 := by
        have e := congrArg List.length HRL.out
        rw [List.length_map, HTL.out] at e
        omega
      have HMM := Lib.hid (HM.out A2 c2 m wo (ptsA_on HP2.out hb))
      rw [HMV.out m hlt] at HMM
      have hql := Lib.hid (HLN.out m)
      have HGM := Lib.hid (HG.out m hlt)
      have HST := Lib.hid (HTS.out m)
      rw [← HRL.out] at HST
      obtain ⟨q, hq⟩ : ∃ q, q = moveL s m := ⟨_, rfl⟩
      rw [← hq] at HMM hql HGM HST
      clear hq HRL
      have hq1 : 1 ≤ q.length := by have := hql.out; omega
      have hq10 : q.length ≤ 10 := by have := hql.out; omega
      go_wp2_with fail
      refine HMM.out.mono ?_
      rintro e w3 ⟨v3, rfl, own3, hb3⟩
      have b3 := Lib.hid (below_on (Below.refl wo.heap.size wo) hb3)
      obtain ⟨_, A3, c3, rfl, p3, q3⟩ := own_ptsc own3
      have HP3 := Lib.hid p3
      have HQ3 := Lib.hid q3
      have HMP := Lib.hid (minPt_any A3 c3 q w3 p3 hq1 (by omega))
      clear hb3 own3 p3 q3 HMM
      go_wp2_with fail
      refine HMP.out.mono ?_
      rintro e w4 ⟨rfl, hb4⟩
      have b34 := hb4
      replace b3 := Lib.hid (below_on b3.out hb4)
      have HIX := Lib.hid (idx_any A3 c3 q (minP q).1 (minP q).2 w4 (ptsA_on HP3.out b34) (by omega))
      have HMS := Lib.hid (minI_spec (q := q) hq1)
      have e5 : (((minP q).1, (minP q).2) : Pt) = minP q := rfl
      have HID5 : Hid (∀ z, IdxAt q ((minP q).1, (minP q).2) z → z = ((minI' q : Nat) : Int)) := fun z hz => by
        rw [e5] at hz
        rcases hz with ⟨_, hno⟩ | ⟨k, hk, rfl, hkv⟩
        · exact absurd (by rw [← HMS.out.2, gt_at HMS.out.1]; exact List.getElem_mem HMS.out.1) hno
        · rw [gt_inj HGM.out.2 hk HMS.out.1 (hkv.trans HMS.out.2.symm)]
      generalize (minP q).1 = mx at *
      generalize (minP q).2 = my at *
      clear e5 HMP hb4
      go_wp2_with fail
      refine HIX.out.mono ?_
      rintro e w5 ⟨⟨z, rfl, hz⟩, hb5⟩
      have hz' := HID5.out z hz
      have b35 := below_on b34 hb5
      replace b3 := Lib.hid (below_on b3.out hb5)
      have HSA := Lib.hid (impl_start A3 c3 q z w5 (ptsA_on HP3.out b35) HQ3.out (by omega))
      have HSV : Hid (startV q z = rotL q (minI' q)) := by
        show _ = _
        have := HMS.out.1
        rw [startV, HGM.out.1, hz', inB_spec.2 (by omega)]; simp
      unfold Lists at HSA
      rw [HSV.out] at HSA
      have hal := Lib.hid (rotL_len q (minI' q))
      have HPA : Hid (polyB (rotL q (minI' q)) = true) := poly_rot HGM.out.1 (Nat.le_of_lt HMS.out.1)
      have HBK : Hid (bothK q (minI' q) = [rotL q (minI' q), turnL (rotL q (minI' q))]) := rfl
      obtain ⟨a, ha⟩ : ∃ a, a = rotL q (minI' q) := ⟨_, rfl⟩
      rw [← ha] at HSA hal HPA HBK
      clear ha hz hz' HID5 HIX hb5 HSV b34
      go_wp2_with fail
      refine HSA.out.mono ?_
      rintro e w6 ⟨v6, rfl, own6, hb6⟩
      have hs65 := b3.out.size
      replace b3 := Lib.hid (below_on b3.out hb6)
      have hs66 := b3.out.size
      obtain ⟨g6, cap6, rfl, hga, -⟩ := own6.form (by have := hal.out; omega)
      have HTU := Lib.hid (impl_turn (some ⟨g6, 0, none⟩) cap6 a w6 (ptsA_of own6) (by have := hal.out; omega))
      have HTV : Hid (turnV a = turnL a) := by
        show _ = _
        rw [turnV, HPA.out]; rfl
      unfold Lists at HTU
      rw [HTV.out] at HTU
      have hbl : Hid ((turnL a).length = a.length) := turnL_len a (by have := hal.out; omega)
      obtain ⟨b, hbq⟩ : ∃ b, b = turnL a := ⟨_, rfl⟩
      rw [← hbq] at HTU HBK hbl
      clear hbq hb6 HSA HTV
      go_wp2_with fail
      refine HTU.out.mono ?_
      rintro e w7 ⟨v7, rfl, own7, hb7⟩
      replace b3 := Lib.hid (below_on b3.out hb7)
      have hs67 := hb7.size
      obtain ⟨g7, cap7, rfl, hgb, -⟩ := own7.form (by have := hal.out; have := hbl.out; omega)
      have ownA := own_base (own_below own6 hb7) (show w2.heap.size ≤ w5.heap.size by have := hb.size; omega)
      have ownB := own_base own7 (show w2.heap.size ≤ w6.heap.size by have := hb.size; omega)
      have hown := (HR.out.below b3.out).out
      have hs7 : w2.heap.size ≤ w7.heap.size := by have := hb.size; omega
      have HHD : Hid (hdrP (Rp.mk g6 cap6 a) = .slice (some ⟨g6, 0, none⟩) a.length cap6 ∧ hdrP (Rp.mk g7 cap7 b) = .slice (some ⟨g7, 0, none⟩) b.length cap7) := ⟨rfl, rfl⟩
      have HT : Hid ((Rs ++ [(Rp.mk g6 cap6 a), (Rp.mk g7 cap7 b)]).map Rp.M = someT s (m + 1)) := by
        show _ = _
        rw [HST.out, HBK.out]; simp
      clear hb7 own6 own7 HTU HST HBK
      go_wp2_with (at_builtin; refine wpList_append_own_at _ rfl _ _ 85 rfl w2.heap.size 27 i0 (.slice none 0 0) 1 24 Try.underlying85 hi0 hz0 hz1 hz2 rfl (by decide) _ _ _ rfl (hown.alloc _) ⟨w7.heap.size, 0, none⟩ 2 2 [.slice (some ⟨g6, 0, none⟩) a.length cap6, .slice (some ⟨g7, 0, none⟩) b.length cap7] rfl rfl ?d1 ?d2 ?d3 ?d4 ?d5 ?_)
      case d1 => exact World.news_of_block (cs := #[.slice (some ⟨g6, 0, none⟩) a.length cap6, .slice (some ⟨g7, 0, none⟩) b.length cap7]) (t := 27) (fr := (0, 0)) (heap_alloc_new w7 _)
      case d2 => simp [Value.oneCell']
      case d3 => unfold maxLen; omega
      case d4 => omega
      case d5 => simp; omega
      intro v' w8 own8 hgrow _ hloc
      have hrw := fun j hj => (hown.lt j hj).1
      have R8 : Hid (RowsP w8 w2.heap.size v' (Rs ++ [(Rp.mk g6 cap6 a), (Rp.mk g7 cap7 b)])) :=
        HR.out.snoc2 b3.out ownA ownB (by show wo.heap.size ≤ g6; omega) (by show wo.heap.size ≤ g7; omega) (World.grownBy_alloc w7 _ none) own8 hgrow (by rw [size_alloc]; exact hloc)
      have B8 : Below w2.heap.size w2 w8 := ((below_on hb b3.out).alloc (below_on hb b3.out).size _).grown hgrow (by have := (below_on hb b3.out).size; simp; omega) hrw
      clear own8 hgrow hloc hrw hown ownA ownB
      go_wp2_with fail
      go_roundw
      case rel => exact ⟨m + 1, _, by omega, by go_num, HT, R8, B8⟩
      case measure => simp [intOf]; omega
    · have e : m = 8 := by omega
      have HLL : Hid (∀ r ∈ Rs, r.M.length = s.length) := fun r hr => by
        have : r.M ∈ Rs.map Rp.M := List.mem_map.2 ⟨r, hr, rfl⟩
        rw [HRL.out] at this
        obtain ⟨j, _, hk⟩ := List.mem_flatMap.1 this
        rw [both_len (by rw [HLN.out]; omega) hk, HLN.out]
      have hRl : Rs.length = 16 := by
        have e2 := congrArg List.length HRL.out
        rw [List.length_map, HTL.out] at e2
        omega
      have HRM := Lib.hid (minRow_any w2.heap.size _ Rs s.length wo HR.out (by omega) (by omega) h10 HLL.out)
      unfold RowMin at HRM
      rw [HRL.out, e] at HRM
      have HRW := HR
      clear HR HRL hRl e
      obtain ⟨Av, cv, rfl, -⟩ := HRW.out.form
      go_wp2_with fail
      refine HRM.out.mono ?_
      rintro e w9 ⟨r, hr, rfl, hrm, hb9⟩
      have own9 := own_base (own_below (HRW.out.row r hr) hb9) hs2
      rw [hrm] at own9
      have b9 := below_on (below_on b2 hb) hb9
      obtain ⟨X, hX⟩ : ∃ X, X = hdrP r := ⟨_, rfl⟩
      rw [← hX] at own9 ⊢
      clear hX HRM hb9 hb hrm hr HRW
      go_wp2_with fail
      go_ret
      exact ⟨_, rfl, own9, b9⟩
def congV (p q : List Pt) : Bool := bif polyB p && polyB q then decide (shapeV p = shapeV q) else false
theorem shapeV_len (L : List Pt) : (shapeV L).length ≤ 1048576 := by
  unfold shapeV
  cases h : polyB L
  · simp
  · have := polyB_all (poly_straight h)
    rw [cond_true, shapeL_len (by omega)]; omega
set_option maxRecDepth 100000 in
set_option maxHeartbeats 1000000 in
theorem spec_shape (A : Option Addr) (c : Nat) (L : List Pt) (w : World) (hA : PtsA w A L) (hL : L.length ≤ 1048576) :
    Calls Try.prog 35 #[.slice A L.length c] w (Lists w (shapeV L)) := by
  have PC := Lib.hid (spec_poly A c L w hA hL)
  cases hp : polyB L
  · rw [hp] at PC
    have HE : Hid (shapeV L = []) := by
      show _ = _
      rw [shapeV, hp]; rfl
    rw [HE.out]
    clear hA
    go_enter Try.func35, Try.ntmps35
    go_wp2_with fail
    refine PC.out.mono ?_
    rintro e w1 ⟨rfl, hb1⟩
    go_wp2_with fail
    go_ret
    exact ⟨_, rfl, World.ownsRow_nil _ _ _ _, hb1⟩
  rw [hp] at PC
  have hsp : shapeV L = shapeL (straightL L) := by rw [shapeV, hp]; rfl
  rw [hsp]
  have HS := Lib.hid (fun W (hb : Below w.heap.size w W) => shape_any A c L W (ptsA_on hA hb) hp)
  unfold Lists at HS
  generalize shapeL (straightL L) = X at *
  clear hA hp hsp
  go_enter Try.func35, Try.ntmps35
  go_wp2_with fail
  refine PC.out.mono ?_
  rintro e w1 ⟨rfl, b1⟩
  go_wp2_with fail
  refine (HS.out _ b1).mono ?_
  rintro e w2 ⟨v2, rfl, own2, hb2⟩
  have b2 := below_on b1 hb2
  replace own2 := own_base own2 b1.size
  go_wp2_with fail
  go_ret
  exact ⟨_, rfl, own2, b2⟩
set_option maxRecDepth 100000 in
set_option maxHeartbeats 1000000 in
theorem spec_cong (A B : Option Addr) (c d : Nat) (p q : List Pt) (w : World) (hA : PtsA w A p) (hB : PtsA w B q) (h1 : p.length ≤ 1048576) (h2 : q.length ≤ 1048576) :
    Calls Try.prog 37 #[.slice A p.length c, .slice B q.length d] w fun e w' => e = .returned (.bool (congV p q)) ∧ Below w.heap.size w w' := by
  have P1 := Lib.hid (spec_poly A c p w hA h1)
  have P2 := Lib.hid (fun (W : World) (hb : Below w.heap.size w W) => spec_poly B d q W (ptsA_on hB hb) h2)
  have HV : Hid (congV p q = bif polyB p && polyB q then decide (shapeV p = shapeV q) else false) := rfl
  cases hp : polyB p
  · rw [hp] at P1
    clear hA hB
    go_enter Try.func37, Try.ntmps37
    go_wp2_with fail
    refine P1.out.mono ?_
    rintro e w1 ⟨rfl, b1⟩
    go_wp2_with fail
    go_ret
    exact ⟨ret_bool (by rw [HV.out, hp]; rfl), b1⟩
  rw [hp] at P1
  cases hq : polyB q
  · rw [hq] at P2
    clear hA hB
    go_enter Try.func37, Try.ntmps37
    go_wp2_with fail
    refine P1.out.mono ?_
    rintro e w1 ⟨rfl, b1⟩
    go_wp2_with fail
    refine (P2.out _ b1).mono ?_
    rintro e w2 ⟨rfl, hb2⟩
    go_wp2_with fail
    go_ret
    exact ⟨ret_bool (by rw [HV.out, hq, Bool.and_false]; rfl), below_on b1 hb2⟩
  rw [hq] at P2
  have HV2 : Hid (congV p q = decide (shapeV p = shapeV q)) := by
    show _ = _
    rw [HV.out, hp, hq]; rfl
  have hsp : shapeV p = shapeL (straightL p) := by rw [shapeV, hp]; rfl
  have hsq : shapeV q = shapeL (straightL q) := by rw [shapeV, hq]; rfl
  have M1 := Lib.hid (fun W (hb : Below w.heap.size w W) => shape_any A c p W (ptsA_on hA hb) hp)
  have M2 := Lib.hid (fun W (hb : Below w.heap.size w W) => shape_any B d q W (ptsA_on hB hb) hq)
  rw [← hsp] at M1
  rw [← hsq] at M2
  have l1 := shapeV_len p
  have l2 := shapeV_len q
  unfold Lists at M1 M2
  generalize shapeV p = X at *
  generalize shapeV q = Y at *
  have HL := Lib.hid (And.intro l1 l2)
  clear hA hB HV h1 h2 hp hq hsp hsq l1 l2
  go_enter Try.func37, Try.ntmps37
  go_wp2_with fail
  refine P1.out.mono ?_
  rintro e w1 ⟨rfl, b1⟩
  go_wp2_with fail
  refine (P2.out _ b1).mono ?_
  rintro e w2 ⟨rfl, hb2⟩
  have b2 := below_on b1 hb2
  clear hb2 b1
  go_wp2_with fail
  refine (M1.out _ b2).mono ?_
  rintro e w4 ⟨v4, rfl, own4, hb4⟩
  have b4 := below_on b2 hb4
  obtain ⟨_, A4, c4, rfl, p4⟩ := own_pts own4
  clear hb4 b2 own4
  go_wp2_with fail
  refine (M2.out _ b4).mono ?_
  rintro e w5 ⟨v5, rfl, own5, hb5⟩
  have b5 := below_on b4 hb5
  replace p4 := ptsA_on p4 hb5
  obtain ⟨_, A5, c5, rfl, p5⟩ := own_pts own5
  clear hb5 b4 own5
  have HE := Lib.hid (sEq_any A4 A5 c4 c5 X Y w5 p4 p5 HL.out.1 HL.out.2)
  rw [← HV2.out] at HE
  clear HV2
  obtain ⟨r, hr⟩ : ∃ r, r = congV p q := ⟨_, rfl⟩
  rw [← hr] at HE
  have HR := Lib.hid hr
  clear hr
  go_wp2_with fail
  refine HE.out.mono ?_
  rintro e w6 ⟨rfl, hb6⟩
  have b6 := below_on b5 hb6
  clear hb6 b5 p4 p5
  go_wp2_with fail
  go_ret
  exact ⟨ret_bool HR.out, b6⟩
set_option maxRecDepth 100000 in
set_option maxHeartbeats 1000000 in
theorem impl_cong (A B : Option Addr) (c d : Nat) (p q : List Pt) (w : World) (hA : PtsA w A p) (hB : PtsA w B q) (h1 : p.length ≤ 1048576) (h2 : q.length ≤ 1048576) :
    Calls Try.prog 38 #[.slice A p.length c, .slice B q.length d] w fun e w' => e = .returned (.bool (congV p q)) ∧ Below w.heap.size w w' := by
  have P1 := Lib.hid (impl_poly A c p w hA h1)
  have P2 := Lib.hid (fun (W : World) (hb : Below w.heap.size w W) => impl_poly B d q W (ptsA_on hB hb) h2)
  have HV : Hid (congV p q = bif polyB p && polyB q then decide (shapeV p = shapeV q) else false) := rfl
  cases hp : polyB p
  · rw [hp] at P1
    clear hA hB
    go_enter Try.func38, Try.ntmps38
    go_wp2_with fail
    refine P1.out.mono ?_
    rintro e w1 ⟨rfl, b1⟩
    go_wp2_with fail
    go_ret
    exact ⟨ret_bool (by rw [HV.out, hp]; rfl), b1⟩
  rw [hp] at P1
  cases hq : polyB q
  · rw [hq] at P2
    clear hA hB
    go_enter Try.func38, Try.ntmps38
    go_wp2_with fail
    refine P1.out.mono ?_
    rintro e w1 ⟨rfl, b1⟩
    go_wp2_with fail
    refine (P2.out _ b1).mono ?_
    rintro e w2 ⟨rfl, hb2⟩
    go_wp2_with fail
    go_ret
    exact ⟨ret_bool (by rw [HV.out, hq, Bool.and_false]; rfl), below_on b1 hb2⟩
  rw [hq] at P2
  have HV2 : Hid (congV p q = decide (shapeV p = shapeV q)) := by
    show _ = _
    rw [HV.out, hp, hq]; rfl
  have hsp : shapeV p = shapeL (straightL p) := by rw [shapeV, hp]; rfl
  have hsq : shapeV q = shapeL (straightL q) := by rw [shapeV, hq]; rfl
  have M1 := Lib.hid (fun W (hb : Below w.heap.size w W) => impl_shape A c p W (ptsA_on hA hb) h1)
  have M2 := Lib.hid (fun W (hb : Below w.heap.size w W) => impl_shape B d q W (ptsA_on hB hb) h2)
  have l1 := shapeV_len p
  have l2 := shapeV_len q
  unfold Lists at M1 M2
  generalize shapeV p = X at *
  generalize shapeV q = Y at *
  have HL := Lib.hid (And.intro l1 l2)
  clear hA hB HV h1 h2 hp hq hsp hsq l1 l2
  go_enter Try.func38, Try.ntmps38
  go_wp2_with fail
  refine P1.out.mono ?_
  rintro e w1 ⟨rfl, b1⟩
  go_wp2_with fail
  refine (P2.out _ b1).mono ?_
  rintro e w2 ⟨rfl, hb2⟩
  have b2 := below_on b1 hb2
  clear hb2 b1
  go_wp2_with fail
  refine (M1.out _ b2).mono ?_
  rintro e w4 ⟨v4, rfl, own4, hb4⟩
  have b4 := below_on b2 hb4
  obtain ⟨_, A4, c4, rfl, p4⟩ := own_pts own4
  clear hb4 b2 own4
  go_wp2_with fail
  refine (M2.out _ b4).mono ?_
  rintro e w5 ⟨v5, rfl, own5, hb5⟩
  have b5 := below_on b4 hb5
  replace p4 := ptsA_on p4 hb5
  obtain ⟨_, A5, c5, rfl, p5⟩ := own_pts own5
  clear hb5 b4 own5
  have HE := Lib.hid (iEq_any A4 A5 c4 c5 X Y w5 p4 p5 HL.out.1 HL.out.2)
  rw [← HV2.out] at HE
  clear HV2
  obtain ⟨r, hr⟩ : ∃ r, r = congV p q := ⟨_, rfl⟩
  rw [← hr] at HE
  have HR := Lib.hid hr
  clear hr
  go_wp2_with fail
  refine HE.out.mono ?_
  rintro e w6 ⟨rfl, hb6⟩
  have b6 := below_on b5 hb6
  clear hb6 b5 p4 p5
  go_wp2_with fail
  go_ret
  exact ⟨ret_bool HR.out, b6⟩
set_option maxHeartbeats 2000000 in
theorem law_shapeOf (A : Option Addr) (c : Nat) (L M : List (Int × Int))  (w : World) (hA : ArgA w A L) (hL : L.length ≤ maxLen)
    (SC : L.length ≤ 1048576 → ∀ A c w, PtsA w A L → Calls Try.prog 35 #[.slice A L.length c] w (Lists w M))
    (IC : L.length ≤ 1048576 → ∀ A c w, PtsA w A L → Calls Try.prog 36 #[.slice A L.length c] w (Lists w M)) (hM : M.length ≤ 1048576) :
    Calls Try.prog 9 #[.slice A L.length c] w fun e w' => e = .returned (.bool true) ∧ Below w.heap.size w w' := by
  by_cases hs : L.length ≤ 1048576
  case neg =>
    clear SC IC hA
    have HZ := Lib.hid (sz_great A L.length c w (by omega) hL)
    go_enter Try.func9, Try.ntmps9
    go_wp2_with fail
    refine HZ.out.mono ?_
    rintro e w0 ⟨rfl, rfl⟩
    go_wp2_with fail
    go_ret
    exact ⟨rfl, Below.refl _ _⟩
  have HS : Hid (∀ A c w, PtsA w A L → Calls Try.prog 35 #[.slice A L.length c] w fun e w' => ∃ v, e = .returned v ∧ w'.ownsRow w.heap.size 56 2 v M.length (flat M) ∧ Below w.heap.size w w') := SC hs
  have HI : Hid (∀ A c w, PtsA w A L → Calls Try.prog 36 #[.slice A L.length c] w fun e w' => ∃ v, e = .returned v ∧ w'.ownsRow w.heap.size 56 2 v M.length (flat M) ∧ Below w.heap.size w w') := IC hs
  clear SC IC
  have HA := Lib.hid hA; clear hA
  have HM := Lib.hid hs
  have HMM := Lib.hid hM
  have HZ := Lib.hid (sz_small A L.length c w hs)
  go_enter Try.func9, Try.ntmps9
  go_wp2_with fail
  refine HZ.out.mono ?_
  rintro e w0 ⟨rfl, rfl⟩
  go_wp2_with fail
  refine (toS_any A c L _ HA.out HM.out).mono ?_
  rintro e w1 ⟨v1, rfl, own1, b1⟩
  obtain ⟨_, A1, c1, rfl, p1⟩ := own_pts own1
  clear own1
  go_wp2_with fail
  refine (HS.out A1 c1 w1 p1).mono ?_
  rintro e w2 ⟨v2, rfl, own2, hb2⟩
  have b2 := below_on b1 hb2
  replace own2 := own_base own2 b1.size
  clear hb2 b1 p1
  go_wp2_with fail
  refine (toS_any A c L _ (HA.out.step b2) HM.out).mono ?_
  rintro e w3 ⟨v3, rfl, own3, hb3⟩
  have b3 := below_on b2 hb3
  have ap23 := own_apart own2 (Nat.le_refl _) own3
  have ap32 := own_apart' own2 (Nat.le_refl _) own3
  have own2' := own_below own2 hb3
  have hsz := hb3.size
  clear hb3
  obtain ⟨_, A3, c3, rfl, p3⟩ := own_pts own3
  go_wp2_with fail
  refine (HI.out A3 c3 w3 p3).mono ?_
  rintro e w4 ⟨v4, rfl, own4, hb4⟩
  have b4 := below_on b3 hb4
  have ap43 := own_apart' own3 (Nat.le_refl _) own4
  have ap24 := own_apart own2 hsz own4
  replace own2 := own_below own2' hb4
  replace own3 := own_base (own_below own3 hb4) b2.size
  replace own4 := own_base own4 b3.size
  clear hb4 own2' p3 b3 b2 hsz ap32
  obtain ⟨_, A4, c4, rfl, p4⟩ := own_pts own4
  obtain ⟨_, A2, c2, rfl, p2⟩ := own_pts own2
  go_wp2_with fail
  refine (eq_pts A4 A2 c4 c2 M w4 p4 p2 HMM.out).mono ?_
  rintro e w5 ⟨rfl, hb5⟩
  have b5 := below_on b4 hb5
  replace own2 := own_below own2 hb5
  replace own3 := own_below own3 hb5
  replace own4 := own_below own4 hb5
  clear hb5 p4 p2 b4
  go_wp2_with fail
  refine (toS_any A c L _ (HA.out.step b5) HM.out).mono ?_
  rintro e w6 ⟨v6, rfl, own6, hb6⟩
  have b6 := below_on b5 hb6
  replace own2 := own_below own2 hb6
  replace own3 := own_below own3 hb6
  replace own4 := own_below own4 hb6
  obtain ⟨_, A6, c6, rfl, p6⟩ := own_pts own6
  have p3 := ptsA_of own3
  clear hb6 own6 b5
  go_wp2_with fail
  refine (eq_pts A3 A6 c3 c6 L w6 p3 p6 HM.out).mono ?_
  rintro e w7 ⟨rfl, hb7⟩
  have b7 := below_on b6 hb7
  replace own2 := own_below own2 hb7
  replace own3 := own_below own3 hb7
  replace own4 := own_below own4 hb7
  clear hb7 p3 p6 b6
  go_wp2_with fail
  refine (mark_pts _ _ _ _ w7 own3 HM.out).mono ?_
  rintro e w8 ⟨rfl, own3m, hg8⟩
  have b8 := b7.grown hg8 b7.size (fun k hk => (own3.lt k hk).1)
  replace own2 := own2.kept hg8 ap23
  replace own4 := own4.kept hg8 ap43
  have p4 := ptsA_of own4
  have p2 := ptsA_of own2
  clear hg8 own3 own3m ap23 ap43 b7
  go_wp2_with fail
  refine (eq_pts A4 A2 c4 c2 M w8 p4 p2 HMM.out).mono ?_
  rintro e w9 ⟨rfl, hb9⟩
  have b9 := below_on b8 hb9
  replace own2 := own_below own2 hb9
  replace own4 := own_below own4 hb9
  clear hb9 p4 p2 b8
  go_wp2_with fail
  refine (mark_pts _ _ _ _ w9 own4 HMM.out).mono ?_
  rintro e w10 ⟨rfl, own4m, hg10⟩
  have b10 := b9.grown hg10 b9.size (fun k hk => (own4.lt k hk).1)
  replace own2 := own2.kept hg10 ap24
  clear hg10 own4 ap24 b9
  go_wp2_with fail
  refine (held_pts _ _ _ w10 own4m HMM.out).mono ?_
  rintro e w11 ⟨rfl, rfl⟩
  go_wp2_with fail
  refine (toS_any A c L _ (HA.out.step b10) HM.out).mono ?_
  rintro e w12 ⟨v12, rfl, own12, hb12⟩
  have b12 := below_on b10 hb12
  replace own2 := own_below own2 hb12
  replace own4m := own_below own4m hb12
  obtain ⟨_, A12, c12, rfl, p12⟩ := own_pts own12
  clear hb12 own12 b10
  go_wp2_with fail
  refine (HI.out A12 c12 w12 p12).mono ?_
  rintro e w13 ⟨v13, rfl, own13, hb13⟩
  have b13 := below_on b12 hb13
  replace own2 := own_below own2 hb13
  replace own4m := own_below own4m hb13
  obtain ⟨_, A13, c13, rfl, p13⟩ := own_pts own13
  have p2 := ptsA_of own2
  clear hb13 own13 b12 p12
  go_wp2_with fail
  refine (eq_pts A13 A2 c13 c2 M w13 p13 p2 HMM.out).mono ?_
  rintro e w14 ⟨rfl, hb14⟩
  have b14 := below_on b13 hb14
  replace own4m := own_below own4m hb14
  clear hb14 own2 p2 p13 b13
  go_wp2_with fail
  refine (held_pts _ _ _ w14 own4m HMM.out).mono ?_
  rintro e w15 ⟨rfl, rfl⟩
  go_wp2_with fail
  go_ret
  exact ⟨rfl, b14⟩
theorem ex_shapeOf (A : Option Addr) (c : Nat) (L : List (Int × Int)) (w : World) (hA : ArgA w A L) (hL : L.length ≤ maxLen) :
    Calls Try.prog 9 #[.slice A L.length c] w fun e w' => e = .returned (.bool true) ∧ Below w.heap.size w w' :=
  law_shapeOf A c L (shapeV L) w hA hL (fun h A c w hp => spec_shape A c L w hp h) (fun h A c w hp => impl_shape A c L w hp h) (shapeV_len L)
set_option maxRecDepth 100000 in
set_option maxHeartbeats 2000000 in
theorem ex_isCongruent (A : Option Addr) (c : Nat) (L : List (Int × Int)) (B : Option Addr) (d : Nat) (M : List (Int × Int)) (w : World) (hA : ArgA w A L) (hL : L.length ≤ maxLen) (hB : ArgA w B M) (hM : M.length ≤ maxLen) :
    Calls Try.prog 10 #[.slice A L.length c, .slice B M.length d] w fun e w' => e = .returned (.bool true) ∧ Below w.heap.size w w' := by
  by_cases hs : L.length ≤ 1048576
  case neg =>
    have HZ := Lib.hid (fun w => sz_great A L.length c w (by omega) hL)
    clear hA hB
    go_enter Try.func10, Try.ntmps10
    go_wp2_with fail
    refine (HZ.out _).mono ?_
    rintro e w0 ⟨rfl, rfl⟩
    go_wp2_with fail
    go_ret
    exact ⟨rfl, Below.refl _ _⟩
  have HZ := Lib.hid (fun w => sz_small A L.length c w hs)
  obtain ⟨m, hm⟩ : ∃ m : Int, m = 1048576 - (L.length : Int) := ⟨_, rfl⟩
  have hm0 : 0 ≤ m := by omega
  rw [← hm] at HZ
  by_cases hs2 : (M.length : Int) ≤ m
  case neg =>
    have HZ2 := Lib.hid (fun w => sz_over B M.length d m w (by omega) (by omega) hM)
    clear hA hB hm hs2
    go_enter Try.func10, Try.ntmps10
    go_wp2_with fail
    refine (HZ.out _).mono ?_
    rintro e w0 ⟨rfl, rfl⟩
    go_wp2_with fail
    refine (HZ2.out _).mono ?_
    rintro e w0 ⟨rfl, rfl⟩
    go_wp2_with fail
    go_ret
    exact ⟨rfl, Below.refl _ _⟩
  have HZ2 := Lib.hid (fun w => sz_fit B M.length d m w (by omega) hs2)
  have hmm : M.length ≤ 1048576 := by omega
  have HS := Lib.hid (fun A B c d w hp hq => spec_cong A B c d L M w hp hq hs hmm)
  have HI := Lib.hid (fun A B c d w hp hq => impl_cong A B c d L M w hp hq hs hmm)
  generalize congV L M = r at *
  have h1 := Lib.hid hs
  have h2 := Lib.hid hmm
  have HA := Lib.hid hA
  have HB := Lib.hid hB
  have hmd : (0 : Int) ≤ m - (M.length : Int) := by omega
  clear hA hB hm hs2 hs hmm
  go_enter Try.func10, Try.ntmps10
  go_wp2_with fail
  refine (HZ.out _).mono ?_
  rintro e w0 ⟨rfl, rfl⟩
  go_wp2_with fail
  refine (HZ2.out _).mono ?_
  rintro e w0 ⟨rfl, rfl⟩
  go_wp2_with fail
  refine (toS_any A c L _ HA.out h1.out).mono ?_
  rintro e w1 ⟨v1, rfl, own1, b1⟩
  obtain ⟨_, A1, c1, rfl, p1⟩ := own_pts own1
  clear own1
  go_wp2_with fail
  refine (toS_any B d M _ (HB.out.step b1) h2.out).mono ?_
  rintro e w2 ⟨v2, rfl, own2, hb2⟩
  obtain ⟨_, A2, c2, rfl, p2⟩ := own_pts own2
  have b2 := below_on b1 hb2
  replace p1 := ptsA_on p1 hb2
  clear own2 hb2 b1
  go_wp2_with fail
  refine (HS.out A1 A2 c1 c2 w2 p1 p2).mono ?_
  rintro e w3 ⟨rfl, hb3⟩
  have b3 := below_on b2 hb3
  clear hb3 b2 p1 p2
  go_wp2_with fail
  refine (toS_any A c L _ (HA.out.step b3) h1.out).mono ?_
  rintro e w4 ⟨v4, rfl, own4, hb4⟩
  obtain ⟨_, A4, c4, rfl, p4⟩ := own_pts own4
  have b4 := below_on b3 hb4
  clear own4 hb4 b3
  go_wp2_with fail
  refine (toS_any B d M _ (HB.out.step b4) h2.out).mono ?_
  rintro e w5 ⟨v5, rfl, own5, hb5⟩
  obtain ⟨_, A5, c5, rfl, p5⟩ := own_pts own5
  have b5 := below_on b4 hb5
  replace p4 := ptsA_on p4 hb5
  clear own5 hb5 b4
  go_wp2_with fail
  refine (HI.out A4 A5 c4 c5 w5 p4 p5).mono ?_
  rintro e w6 ⟨rfl, hb6⟩
  have b6 := below_on b5 hb6
  replace p4 := ptsA_on p4 hb6
  replace p5 := ptsA_on p5 hb6
  clear hb6 b5
  go_wp2_with fail
  refine (toS_any A c L _ (HA.out.step b6) h1.out).mono ?_
  rintro e w7 ⟨v7, rfl, own7, hb7⟩
  obtain ⟨_, A7, c7, rfl, p7⟩ := own_pts own7
  have b7 := below_on b6 hb7
  replace p4 := ptsA_on p4 hb7
  replace p5 := ptsA_on p5 hb7
  clear own7 hb7 b6
  go_wp2_with fail
  refine (eq_pts A4 A7 c4 c7 L w7 p4 p7 h1.out).mono ?_
  rintro e w8 ⟨rfl, hb8⟩
  have b8 := below_on b7 hb8
  replace p5 := ptsA_on p5 hb8
  clear hb8 b7 p4 p7
  go_wp2_with fail
  refine (toS_any B d M _ (HB.out.step b8) h2.out).mono ?_
  rintro e w9 ⟨v9, rfl, own9, hb9⟩
  obtain ⟨_, A9, c9, rfl, p9⟩ := own_pts own9
  have b9 := below_on b8 hb9
  replace p5 := ptsA_on p5 hb9
  clear own9 hb9 b8
  go_wp2_with fail
  refine (eq_pts A5 A9 c5 c9 M w9 p5 p9 h2.out).mono ?_
  rintro e w10 ⟨rfl, hb10⟩
  have b10 := below_on b9 hb10
  clear hb10 b9 p5 p9
  go_wp2_with fail
  go_ret
  exact ⟨rfl, b10⟩
end Go.Proofs.Ytoemmaeglhdjnaa
