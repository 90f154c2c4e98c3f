/-
  Walks for InnerPoints of both programs.
-/
import Derived.Test.YtklbambnnkdjlaaBox
import Derived.Test.YtklbambnnkdjlaaSum
namespace Go.Proofs.Ytklbambnnkdjlaa
open Go.RowKit

def rowN (f : Nat → Bool) : Nat → Nat
  | 0 => 0
  | k + 1 => rowN f k + (bif f k then 1 else 0)
def allN (g : Nat → Nat) : Nat → Nat
  | 0 => 0
  | r + 1 => allN g r + g r
theorem rowN_le (f : Nat → Bool) : ∀ k, rowN f k ≤ k
  | 0 => Nat.le_refl _
  | k + 1 => by
    have := rowN_le f k
    simp only [rowN]
    cases f k <;> simp <;> omega
theorem allN_le {g : Nat → Nat} {m : Nat} (h : ∀ r, g r ≤ m) : ∀ r, allN g r ≤ r * m
  | 0 => by simp [allN]
  | r + 1 => by
    have h1 := allN_le h r
    have h2 := h r
    have e : (r + 1) * m = r * m + m := Nat.succ_mul _ _
    simp only [allN]
    omega
def innT (L : List (Int × Int)) (p : Int × Int) : Bool := !(onRim L p) && insideB L p
def boxW (L : List (Int × Int)) : Nat := ((boxTill L L.length).2.1 - (boxTill L L.length).1.1 + 1).toNat
def boxH (L : List (Int × Int)) : Nat := ((boxTill L L.length).2.2 - (boxTill L L.length).1.2 + 1).toNat
def rowT (L : List (Int × Int)) (r : Nat) (j : Nat) : Bool := innT L ((boxTill L L.length).1.1 + j, (boxTill L L.length).1.2 + r)
def innerN (L : List (Int × Int)) : Nat := allN (fun r => rowN (rowT L r) (boxW L)) (boxH L)
theorem box_in {L : List (Int × Int)} (hok : allOk L = true) : ∀ k, okP (boxTill L k).1.1 (boxTill L k).1.2 = true ∧ okP (boxTill L k).2.1 (boxTill L k).2.2 = true ∧ (boxTill L k).1.1 ≤ (boxTill L k).2.1 ∧ (boxTill L k).1.2 ≤ (boxTill L k).2.2
  | 0 => ⟨gt_ok hok 0, gt_ok hok 0, Int.le_refl _, Int.le_refl _⟩
  | k + 1 => by
    obtain ⟨h1, h2, h3, h4⟩ := box_in hok k
    have h5 := gt_ok hok k
    have mk : ∀ {x y : Int}, (0 ≤ x ∧ x ≤ 40 ∧ 0 ≤ y ∧ y ≤ 40) → okP x y = true := fun h => by
      simp only [okP, Bool.and_eq_true, inB_spec]; omega
    replace h1 := okP_bounds h1
    replace h2 := okP_bounds h2
    replace h5 := okP_bounds h5
    simp only [boxTill, boxStep]
    unfold minI maxI
    refine ⟨mk ?_, mk ?_, ?_, ?_⟩
    · constructor
      · split <;> omega
      · constructor
        · split <;> omega
        · constructor <;> (split <;> omega)
    · constructor
      · split <;> omega
      · constructor
        · split <;> omega
        · constructor <;> (split <;> omega)
    · split <;> split <;> omega
    · split <;> split <;> omega

set_option maxHeartbeats 4000000 in
theorem spec_inner (A : Option Addr) (c : Nat) (L : List (Int × Int)) (w : World) (hA : PtsA w A L) (hL : L.length ≤ 1048576) :
    Calls Try.prog 25 #[.slice A L.length c] w fun e w' => e = .returned (.int .i64 (bif polyB L then (innerN L : Int) else -1)) ∧ Below w.heap.size w w' := by
  have HB := Lib.hid (spec_box A c L w hA hL)
  cases hp : polyB L
  · have e : boxR L = .tuple #[.agg #[.int .i64 0, .int .i64 0], .agg #[.int .i64 0, .int .i64 0], .bool false] := by rw [boxR, hp]; rfl
    rw [e] at HB
    go_enter Try.func25, Try.ntmps25
    go_wp2_with fail
    refine HB.out.mono ?_
    rintro e w1 ⟨rfl, hb1⟩
    go_wp2_with fail
    go_ret
    exact ⟨rfl, (hb1.alloc hb1.size _).alloc (by have := hb1.size; simp; omega) _⟩
  obtain ⟨h3, h10, hok⟩ := polyB_all hp
  obtain ⟨k1, k2, k3, k4⟩ := box_in hok L.length
  replace k1 := okP_bounds k1
  replace k2 := okP_bounds k2
  have HI : Hid (innerN L = allN (fun r => rowN (rowT L r) (boxW L)) (boxH L)) := rfl
  have HW : Hid ((boxW L : Int) = (boxTill L L.length).2.1 - (boxTill L L.length).1.1 + 1) := by
    show _ = _
    unfold boxW; omega
  have HH : Hid ((boxH L : Int) = (boxTill L L.length).2.2 - (boxTill L L.length).1.2 + 1) := by
    show _ = _
    unfold boxH; omega
  have HT : Hid (∀ r j, rowT L r j = (!(onRim L ((boxTill L L.length).1.1 + j, (boxTill L L.length).1.2 + r)) && insideB L ((boxTill L L.length).1.1 + j, (boxTill L L.length).1.2 + r))) := fun _ _ => rfl
  have e : boxR L = .tuple #[.agg #[.int .i64 (boxTill L L.length).1.1, .int .i64 (boxTill L L.length).1.2], .agg #[.int .i64 (boxTill L L.length).2.1, .int .i64 (boxTill L L.length).2.2], .bool true] := by rw [boxR, hp]; rfl
  rw [e] at HB
  clear e
  obtain ⟨W, hW⟩ : ∃ W, W = boxW L := ⟨_, rfl⟩
  obtain ⟨H, hH⟩ : ∃ H, H = boxH L := ⟨_, rfl⟩
  rw [← hW] at HW HI
  rw [← hH] at HH HI
  obtain ⟨F, hF⟩ : ∃ F : Nat → Nat, F = fun r => rowN (rowT L r) W := ⟨_, rfl⟩
  rw [← hF] at HI
  have HF : Hid (∀ r, F r = rowN (rowT L r) W) := fun r => by rw [hF]
  clear hF hW hH
  generalize (boxTill L L.length).1.1 = lx at *
  generalize (boxTill L L.length).1.2 = ly at *
  generalize (boxTill L L.length).2.1 = hx at *
  generalize (boxTill L L.length).2.2 = hy at *
  have HFb : Hid (∀ r, F r ≤ 41) := fun r => by rw [HF.out]; exact Nat.le_trans (rowN_le _ _) (by have := HW.out; omega)
  have HA := Lib.hid hA
  have HR := Lib.hid (fun A c px py w hA hp => onrim_any A c L px py w hA (by omega) h10 hok hp)
  have HN := Lib.hid (fun A c px py w hA hp => inside_any A c L px py w hA (by omega) h10 hok hp)
  have mk : ∀ {x y : Int}, (0 ≤ x ∧ x ≤ 40 ∧ 0 ≤ y ∧ y ≤ 40) → okP x y = true := fun h => by
    simp only [okP, Bool.and_eq_true, inB_spec]; omega
  have MK := Lib.hid (fun x y h => @mk x y h)
  clear mk hA hok hp h3 h10
  go_enter Try.func25, Try.ntmps25
  go_wp2_with fail
  refine HB.out.mono ?_
  rintro e w1 ⟨rfl, hb1⟩
  have hs1 := hb1.size
  have a1 := (at_new w1 lx ly 33).alloc (.cells #[.int .i64 hx, .int .i64 hy] 33)
  have a2 := at_new (w1.alloc (.cells #[.int .i64 lx, .int .i64 ly] 33)) hx hy 33
  rw [size_alloc] at a2
  have hb2 := hb1.trans ((below2 w1 (.cells #[.int .i64 lx, .int .i64 ly] 33) (.cells #[.int .i64 hx, .int .i64 hy] 33)).mono hs1)
  have HA2 := Lib.hid (ptsA_on HA.out hb2)
  have c1 := a1.c0; have c2 := a1.c1
  go_wp2_with fail
  clear c1 c2
  generalize (w1.alloc (.cells #[.int .i64 lx, .int .i64 ly] 33)).alloc (.cells #[.int .i64 hx, .int .i64 hy] 33) = w2 at *
  go_loopw [6, 7] (fun n y wr => ∃ r : Nat, r ≤ H ∧ y = .int .i64 (ly + r) ∧ n = .int .i64 (allN F r) ∧ At wr w1.heap.size lx ly 33 ∧ At wr (w1.heap.size + 1) hx hy 33 ∧ Below w2.heap.size w2 wr) (fun _ y _ => H + 1 - (intOf y - ly).toNat)
  case atStart => exact ⟨0, Nat.zero_le _, by first | rfl | (simp), rfl, a1, a2, Below.refl _ _⟩
  case round =>
    obtain ⟨wo, rfl⟩ : ∃ wo : World, wo = wr := ⟨_, rfl⟩
    clear a1 a2
    obtain ⟨r, hr, rfl, rfl, a1, a2, hb⟩ := hrel
    have c3 := a2.c0; have c4 := a2.c1
    have hHH := HH.out
    have hFr := allN_le HFb.out r
    have hFr2 : allN F r ≤ 1681 := Nat.le_trans hFr (Nat.le_trans (Nat.mul_le_mul_right 41 (show r ≤ 41 by omega)) (by omega))
    clear hFr
    by_cases hlt : r < H
    · have hyle : ly + (r : Int) ≤ hy := by omega
      have c1 := a1.c0; have c2 := a1.c1
      have HS : Hid (allN F (r + 1) = allN F r + F r) := rfl
      have HFR := Lib.hid (HF.out r)
      have hWW := HW.out
      obtain ⟨S, hS⟩ : ∃ S, S = allN F r := ⟨_, rfl⟩
      rw [← hS] at hFr2 HS ⊢
      clear hS hHH
      go_wp2_with fail
      go_loopw [6, 8] (fun n x wr => ∃ k : Nat, k ≤ W ∧ x = .int .i64 (lx + k) ∧ n = .int .i64 ((S + rowN (rowT L r) k : Nat) : Int) ∧ At wr w1.heap.size lx ly 33 ∧ At wr (w1.heap.size + 1) hx hy 33 ∧ Below w2.heap.size w2 wr) (fun _ x _ => W + 1 - (intOf x - lx).toNat)
      case atStart => exact ⟨0, Nat.zero_le _, by first | rfl | (simp), rfl, a1, a2, hb⟩
      case round =>
        obtain ⟨wi, rfl⟩ : ∃ wi : World, wi = wr := ⟨_, rfl⟩
        clear a1 a2 hb c1 c2 c3 c4
        obtain ⟨k, hk, rfl, rfl, a1, a2, hb⟩ := hrel
        have c3 := a2.c0; have c4 := a2.c1
        have hrw := rowN_le (rowT L r) k
        by_cases hlk : k < W
        · have hxle : lx + (k : Int) ≤ hx := by omega
          have hq : okP (lx + k) (ly + r) = true := MK.out _ _ (by omega)
          have hal := below1 wi (.cells #[.int .i64 (lx + k), .int .i64 (ly + r)] 33)
          have b3 := below_on hb hal
          have n1 := at_new wi (lx + k) (ly + r) 33
          have a3 := a1.alloc (.cells #[.int .i64 (lx + k), .int .i64 (ly + r)] 33)
          have a4 := a2.alloc (.cells #[.int .i64 (lx + k), .int .i64 (ly + r)] 33)
          have HO := Lib.hid (HR.out A c (lx + k) (ly + r) _ (ptsA_on HA2.out b3) hq)
          have HNN := Lib.hid (fun (W3 : World) (h : Below w2.heap.size w2 W3) => HN.out A c (lx + k) (ly + r) W3 (ptsA_on HA2.out h) hq)
          have HRT : Hid (rowN (rowT L r) (k + 1) = rowN (rowT L r) k + (bif (!(onRim L (lx + k, ly + r)) && insideB L (lx + k, ly + r)) then 1 else 0)) := by
            show _ = _
            rw [rowN, HT.out]
          obtain ⟨S2, hS2⟩ : ∃ S2, S2 = S + rowN (rowT L r) k := ⟨_, rfl⟩
          have HS2 : Hid (S + rowN (rowT L r) (k + 1) = S2 + (bif (!(onRim L (lx + k, ly + r)) && insideB L (lx + k, ly + r)) then 1 else 0)) := by
            show _ = _
            rw [HRT.out, hS2]; omega
          have hS2b : S2 ≤ 1800 := by omega
          rw [← hS2]
          have d1 := n1.c0; have d2 := n1.c1
          clear hS2 HRT hrw hq hal hb
          generalize insideB L (lx + k, ly + r) = bi at *
          generalize onRim L (lx + k, ly + r) = bo at *
          cases bo
          · go_wp2_with fail
            refine HO.out.mono ?_
            rintro e w4 ⟨rfl, hb4⟩
            have b4 := below_on b3 hb4
            have n4 := n1.step hb4
            have a5 := a3.step hb4
            have a6 := a4.step hb4
            have d3 := n4.c0; have d4 := n4.c1
            clear hb4 b3 n1 d1 d2
            cases bi
            · have hv : Hid (S + rowN (rowT L r) (k + 1) = S2) := by
                show _ = _
                rw [HS2.out]; rfl
              go_wp2_with fail
              refine (HNN.out _ b4).mono ?_
              rintro e w5 ⟨rfl, hb5⟩
              have b5 := below_on b4 hb5
              have a7 := a5.step hb5
              have a8 := a6.step hb5
              clear hb5 b4 d3 d4
              go_wp2_with fail
              go_roundw
              case rel => exact ⟨k + 1, by omega, by first | rfl | go_num, by rw [hv.out], a7, a8, b5⟩
              case measure => simp [intOf]; omega
            · have hv : Hid (S + rowN (rowT L r) (k + 1) = S2 + 1) := by
                show _ = _
                rw [HS2.out]; rfl
              go_wp2_with fail
              refine (HNN.out _ b4).mono ?_
              rintro e w5 ⟨rfl, hb5⟩
              have b5 := below_on b4 hb5
              have a7 := a5.step hb5
              have a8 := a6.step hb5
              clear hb5 b4 d3 d4
              go_wp2_with fail
              go_roundw
              case rel => exact ⟨k + 1, by omega, by first | rfl | go_num, by rw [hv.out]; first | rfl | go_num, a7, a8, b5⟩
              case measure => simp [intOf]; omega
          · have hv : Hid (S + rowN (rowT L r) (k + 1) = S2) := by
              show _ = _
              rw [HS2.out]; rfl
            go_wp2_with fail
            refine HO.out.mono ?_
            rintro e w4 ⟨rfl, hb4⟩
            have b4 := below_on b3 hb4
            have a5 := a3.step hb4
            have a6 := a4.step hb4
            clear hb4 b3 n1 d1 d2
            go_wp2_with fail
            go_roundw
            case rel => exact ⟨k + 1, by omega, by first | rfl | go_num, by rw [hv.out], a5, a6, b4⟩
            case measure => simp [intOf]; omega
        · obtain rfl : k = W := by omega
          have hxg : ¬ (lx + (k : Int) ≤ hx) := by omega
          have hxg2 : hx < lx + (k : Int) := by omega
          have hv : Hid (allN F (r + 1) = S + rowN (rowT L r) k) := by
            show _ = _
            rw [HS.out, HFR.out]
          clear hrw
          go_wp2_with fail
          go_roundw
          case rel => exact ⟨r + 1, by omega, by first | rfl | go_num, by rw [hv.out], a1, a2, hb⟩
          case measure => simp [intOf]; omega
    · obtain rfl : r = H := by omega
      have hyg : hy < ly + (r : Int) := by omega
      have b5 := hb2.trans (hb.mono hb2.size)
      have hv : Hid (innerN L = allN F r) := HI.out
      go_wp2_with fail
      go_ret
      exact ⟨ret_int (by rw [hv.out]; rfl), b5⟩

/-- What the program answers. -/
def pickI (L : List (Int × Int)) : Int := (maxI (twiceI L) (-(twiceI L)) - rimI L + 2).tdiv 2
theorem twiceI_bd {L : List (Int × Int)} (hok : allOk L = true) (hl : L.length ≤ 10) : (twiceI L).natAbs ≤ 16000 := by
  have h1 := sumL_abs (f := twiceT L) (m := 1600) (fun i => area_bd (gt_ok hok i) (gt_ok hok (nx L i))) (List.range L.length)
  rw [sumL_range, List.length_range] at h1
  exact Nat.le_trans h1 (by have := Nat.mul_le_mul_right 1600 hl; omega)
theorem rimI_bd {L : List (Int × Int)} (hok : allOk L = true) (hl : L.length ≤ 10) : (rimI L).natAbs ≤ 16000 := by
  have h1 := sumL_abs (f := rimT L) (m := 1600) (fun i => rim_bd (gt_ok hok i) (gt_ok hok (nx L i))) (List.range L.length)
  rw [sumL_range, List.length_range] at h1
  exact Nat.le_trans h1 (by have := Nat.mul_le_mul_right 1600 hl; omega)
set_option maxHeartbeats 1000000 in
theorem impl_inner (A : Option Addr) (c : Nat) (L : List (Int × Int)) (w : World) (hA : PtsA w A L) (hL : L.length ≤ 1048576) :
    Calls Try.prog 26 #[.slice A L.length c] w fun e w' => e = .returned (.int .i64 (bif polyB L then pickI L else -1)) ∧ Below w.heap.size w w' := by
  have PC := Lib.hid (impl_poly A c L w hA hL)
  cases hp : polyB L
  · rw [hp] at PC
    clear hA
    go_enter Try.func26, Try.ntmps26
    go_wp2_with fail
    refine PC.out.mono ?_
    rintro e w1 ⟨rfl, hb1⟩
    go_wp2_with fail
    go_ret
    exact ⟨rfl, hb1⟩
  · obtain ⟨h3, h10, hok⟩ := polyB_all hp
    rw [hp] at PC
    have HT := Lib.hid (fun (W : World) (hb : Below w.heap.size w W) => impl_twice A c L W (ptsA_on hA hb) hL)
    have HR := Lib.hid (fun (W : World) (hb : Below w.heap.size w W) => impl_rim A c L W (ptsA_on hA hb) hL)
    rw [hp] at HT HR
    have b1 := twiceI_bd hok h10
    have b2 := rimI_bd hok h10
    have HV : Hid (pickI L = (maxI (twiceI L) (-(twiceI L)) - rimI L + 2).tdiv 2) := rfl
    have hmax : ∀ (w : World) (x y : Int) (ts : Array TypeId) (t : TypeId), (Builtin.max_ ts t #[.int .i64 x, .int .i64 y]).run Try.prog w = .ok (.int .i64 (maxI x y)) w := run_maxI
    simp only [cond_true] at HT HR
    generalize twiceI L = a at *
    generalize rimI L = b at *
    have hm : (maxI a (-a)).natAbs ≤ 16000 := by unfold maxI; split <;> omega
    obtain ⟨m, hme⟩ : ∃ m, m = maxI a (-a) := ⟨_, rfl⟩
    have hme2 := hme.symm
    rw [hme2] at hm HV
    clear hA hok hme
    go_enter Try.func26, Try.ntmps26
    go_wp2_with fail
    refine PC.out.mono ?_
    rintro e w1 ⟨rfl, hb1⟩
    go_wp2_with fail
    refine (HT.out _ hb1).mono ?_
    rintro e w2 ⟨rfl, hb2⟩
    have b3 := hb1.trans (hb2.mono hb1.size)
    clear hb1 hb2
    go_wp2_with fail
    refine (HR.out _ b3).mono ?_
    rintro e w3 ⟨rfl, hb3⟩
    have b4 := b3.trans (hb3.mono b3.size)
    clear hb3 b3
    go_wp2_with fail
    go_ret
    exact ⟨ret_int (by rw [HV.out]; first | rfl | simp), b4⟩
end Go.Proofs.Ytklbambnnkdjlaa
