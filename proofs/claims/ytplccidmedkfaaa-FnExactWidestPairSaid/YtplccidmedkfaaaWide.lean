/-
  Walks for WidestPair of both programs.
-/
import Derived.Test.YtplccidmedkfaaaStraight
namespace Go.Proofs.Ytplccidmedkfaaa
open Go.RowKit

def wdS (f : Nat → Nat → Int) (s : Nat × Nat) (i k : Nat) : Nat × Nat := if f s.1 s.2 < f i k then (i, k) else s
def rwS (f : Nat → Nat → Int) (i : Nat) (s : Nat × Nat) : Nat → Nat × Nat
  | 0 => s
  | m + 1 => wdS f (rwS f i s m) i (i + 1 + m)
def alS (f : Nat → Nat → Int) (n : Nat) : Nat → Nat × Nat
  | 0 => (0, 1)
  | r + 1 => rwS f r (alS f n r) (n - (r + 1))
def wdI (f : Nat → Nat → Int) (s : Int × Int × Int) (i k : Nat) : Int × Int × Int := if s.2.2 < f i k then ((i : Int), (k : Int), f i k) else s
def rwI (f : Nat → Nat → Int) (i : Nat) (s : Int × Int × Int) : Nat → Int × Int × Int
  | 0 => s
  | m + 1 => wdI f (rwI f i s m) i (i + 1 + m)
def alI (f : Nat → Nat → Int) (n : Nat) : Nat → Int × Int × Int
  | 0 => (-1, -1, -1)
  | r + 1 => rwI f r (alI f n r) (n - (r + 1))
def emb (f : Nat → Nat → Int) (s : Nat × Nat) : Int × Int × Int := ((s.1 : Int), (s.2 : Int), f s.1 s.2)
theorem wd_emb (f : Nat → Nat → Int) (s : Nat × Nat) (i k : Nat) : wdI f (emb f s) i k = emb f (wdS f s i k) := by
  unfold wdI wdS emb
  split <;> rfl
theorem rw_emb (f : Nat → Nat → Int) (i : Nat) (s : Nat × Nat) : ∀ m, rwI f i (emb f s) m = emb f (rwS f i s m)
  | 0 => rfl
  | m + 1 => by simp only [rwI, rwS, rw_emb f i s m, wd_emb]
theorem rw_first (f : Nat → Nat → Int) (h : 0 ≤ f 0 1) : ∀ m, rwI f 0 (-1, -1, -1) (m + 1) = emb f (rwS f 0 (0, 1) (m + 1))
  | 0 => by
    have h1 : (-1 : Int) < f 0 1 := by omega
    simp [rwI, rwS, wdI, wdS, emb, h1]
  | m + 1 => by
    rw [rwI, rw_first f h m, wd_emb]
    rfl
theorem al_emb (f : Nat → Nat → Int) (n : Nat) (h : 0 ≤ f 0 1) (hn : 2 ≤ n) : ∀ r, alI f n (r + 1) = emb f (alS f n (r + 1))
  | 0 => by
    obtain ⟨m, hm⟩ : ∃ m, n - (0 + 1) = m + 1 := ⟨n - 2, by omega⟩
    simp only [alI, alS, hm]
    exact rw_first f h m
  | r + 1 => by
    show rwI f (r + 1) (alI f n (r + 1)) _ = _
    rw [al_emb f n h hn r, rw_emb]
    rfl
theorem rwS_lt {f : Nat → Nat → Int} {n i : Nat} {s : Nat × Nat} (hs : s.1 < n ∧ s.2 < n) : ∀ m, i + m < n → (rwS f i s m).1 < n ∧ (rwS f i s m).2 < n
  | 0, _ => hs
  | m + 1, h => by
    have h1 := rwS_lt (f := f) (i := i) hs m (by omega)
    simp only [rwS, wdS]
    split
    · exact ⟨by show i < n; omega, by show i + 1 + m < n; omega⟩
    · exact h1
theorem alS_lt {f : Nat → Nat → Int} {n : Nat} (hn : 2 ≤ n) : ∀ r, r ≤ n → (alS f n r).1 < n ∧ (alS f n r).2 < n
  | 0, _ => ⟨by show 0 < n; omega, by show 1 < n; omega⟩
  | r + 1, h => rwS_lt (f := f) (i := r) (alS_lt hn r (by omega)) (n - (r + 1)) (by omega)

def sqF (L : List (Int × Int)) (i k : Nat) : Int := squareV (gt L i).1 (gt L i).2 (gt L k).1 (gt L k).2
theorem sqF_pos {L : List (Int × Int)} (hok : allOk L = true) (i k : Nat) : 0 ≤ sqF L i k := by
  have hs : ∀ x : Int, 0 ≤ x * x := fun x => by
    rcases Int.le_total 0 x with h | h
    · exact Int.mul_nonneg h h
    · exact Int.mul_nonneg_of_nonpos_of_nonpos h h
  unfold sqF squareV
  rw [gt_ok hok i, gt_ok hok k]
  simp only [Bool.and_self, cond_true, squareI]
  have h1 := hs ((gt L i).1 - (gt L k).1)
  have h2 := hs ((gt L i).2 - (gt L k).2)
  omega
def wideA (L : List (Int × Int)) : Int := bif polyB L then ((alS (sqF L) L.length L.length).1 : Int) else -1
def wideB (L : List (Int × Int)) : Int := bif polyB L then ((alS (sqF L) L.length L.length).2 : Int) else -1

set_option maxRecDepth 100000 in
set_option maxHeartbeats 4000000 in
theorem spec_wide (A : Option Addr) (c : Nat) (L : List (Int × Int)) (w : World) (hA : PtsA w A L) (hL : L.length ≤ 1048576) :
    Calls Try.prog 41 #[.slice A L.length c] w fun e w' => e = .returned (.tuple #[.int .i64 (wideA L), .int .i64 (wideB L)]) ∧ Below w.heap.size w w' := by
  have HP := Lib.hid (spec_poly A c L w hA hL)
  have HVA : Hid (wideA L = bif polyB L then ((alS (sqF L) L.length L.length).1 : Int) else -1) := rfl
  have HVB : Hid (wideB L = bif polyB L then ((alS (sqF L) L.length L.length).2 : Int) else -1) := rfl
  cases hp : polyB L
  · rw [hp] at HP HVA HVB
    clear hA
    go_enter Try.func41, Try.ntmps41
    go_wp2_with fail
    refine HP.out.mono ?_
    rintro e w1 ⟨rfl, b1⟩
    go_wp2_with fail
    go_returns
    exact ⟨by rw [HVA.out, HVB.out]; rfl, b1⟩
  · obtain ⟨h3, h10, hok⟩ := polyB_all hp
    obtain ⟨g, rfl, -⟩ := hA 0 (by omega)
    have HA := Lib.hid hA
    rw [hp] at HP HVA HVB
    clear hA hok
    go_enter Try.func41, Try.ntmps41
    go_wp2_with fail
    refine HP.out.mono ?_
    rintro e w1 ⟨rfl, b1⟩
    go_wp2_with fail
    go_loopw [4, 5, 6, 7, 13] (fun a b _ _ i wr => ∃ k : Nat, k ≤ L.length ∧ i = .int .i64 k ∧ a = .int .i64 ((alS (sqF L) L.length k).1 : Nat) ∧ b = .int .i64 ((alS (sqF L) L.length k).2 : Nat) ∧ Below w.heap.size w wr) (fun _ _ _ _ i _ => L.length - (intOf i).toNat)
    case atStart => exact ⟨0, Nat.zero_le _, rfl, rfl, rfl, b1⟩
    case round =>
      obtain ⟨wo, rfl⟩ : ∃ wo : World, wo = wr := ⟨_, rfl⟩
      clear b1
      obtain ⟨k, hk, rfl, rfl, rfl, hb⟩ := hrel
      by_cases hlt : k < L.length
      · have hf1 : IntKind.i64.wrap ((k : Int) + 1) = (k : Int) + 1 := IntWalk.i64_in _ (by omega)
        have HAL : Hid (alS (sqF L) L.length (k + 1) = rwS (sqF L) k (alS (sqF L) L.length k) (L.length - (k + 1))) := rfl
        have HLT := Lib.hid (alS_lt (f := sqF L) (n := L.length) (by omega) k hk)
        generalize alS (sqF L) L.length k = st at *
        have HR0 : Hid (rwS (sqF L) k st 0 = st) := rfl
        go_wp2_with fail
        go_loopw [4, 5, 7] (fun a b m wr => ∃ q : Nat, k + 1 ≤ q ∧ q ≤ L.length ∧ m = .int .i64 q ∧ a = .int .i64 ((rwS (sqF L) k st (q - (k + 1))).1 : Nat) ∧ b = .int .i64 ((rwS (sqF L) k st (q - (k + 1))).2 : Nat) ∧ Below w.heap.size w wr) (fun _ _ m _ => L.length - (intOf m).toNat)
        case atStart => exact ⟨k + 1, Nat.le_refl _, by omega, by go_num, by rw [Nat.sub_self, HR0.out], by rw [Nat.sub_self, HR0.out], hb⟩
        case round =>
          obtain ⟨wi, rfl⟩ : ∃ wi : World, wi = wr := ⟨_, rfl⟩
          clear hb
          obtain ⟨q, hkq, hq, rfl, rfl, rfl, hb⟩ := hrel
          by_cases hlq : q < L.length
          · have hst := rwS_lt (f := sqF L) (i := k) HLT.out (q - (k + 1)) (by omega)
            have HST : Hid (rwS (sqF L) k st (q + 1 - (k + 1)) = wdS (sqF L) (rwS (sqF L) k st (q - (k + 1))) k q) := by
              show _ = _
              rw [show q + 1 - (k + 1) = q - (k + 1) + 1 from by omega, rwS, show k + 1 + (q - (k + 1)) = q from by omega]
            generalize rwS (sqF L) k st (q - (k + 1)) = s at *
            obtain ⟨a, b⟩ := s
            have ha : a < L.length := hst.1
            have hb' : b < L.length := hst.2
            have hap := ptsA_on HA.out hb
            obtain ⟨c1, c2⟩ := gt_cells hap hlt
            obtain ⟨c3, c4⟩ := gt_cells hap hlq
            obtain ⟨c5, c6⟩ := gt_cells hap ha
            obtain ⟨c7, c8⟩ := gt_cells hap hb'
            have HW : Hid (wdS (sqF L) (a, b) k q = if squareV (gt L a).1 (gt L a).2 (gt L b).1 (gt L b).2 < squareV (gt L k).1 (gt L k).2 (gt L q).1 (gt L q).2 then (k, q) else (a, b)) := rfl
            have hf3 : IntKind.i64.wrap ((q : Int) + 1) = (q : Int) + 1 := IntWalk.i64_in _ (by omega)
            generalize (gt L k).1 = x1 at *
            generalize (gt L k).2 = y1 at *
            generalize (gt L q).1 = x2 at *
            generalize (gt L q).2 = y2 at *
            generalize (gt L a).1 = x3 at *
            generalize (gt L a).2 = y3 at *
            generalize (gt L b).1 = x4 at *
            generalize (gt L b).2 = y4 at *
            have k1 := cell_regrown c1; have k2 := cell_regrown c2; have k3 := cell_regrown c3; have k4 := cell_regrown c4; have k5 := cell_regrown c5; have k6 := cell_regrown c6; have k7 := cell_regrown c7; have k8 := cell_regrown c8
            clear hap hst
            go_wp2_with fail
            refine wp_region_quiet_below (by kernel_rfl) (by kernel_rfl) ?_
            repeat (first
              | go_big_quiet_step (first | exact Calls.regrown_of (spec_square _ _ _ _ _))
              | quiet_step (first | exact Calls.regrown_of (spec_square _ _ _ _ _)))
            refine wpQuiet_nil ?_
            rintro _ ⟨⟨dq, osq⟩, rfl⟩
            have hb2 := below_on hb (below_regrown _ dq osq)
            clear k1 k2 k3 k4 k5 k6 k7 k8 c1 c2 c3 c4 c5 c6 c7 c8 hb
            simp only at *
            generalize Go.Sort.grow (redrawn wi dq) osq = w5 at *
            generalize squareV x3 y3 x4 y4 = S1 at *
            generalize squareV x1 y1 x2 y2 = S2 at *
            by_cases hgt : S1 < S2
            · have HE : Hid (rwS (sqF L) k st (q + 1 - (k + 1)) = (k, q)) := by
                show _ = _
                rw [HST.out, HW.out, if_pos hgt]
              go_wp2_with fail
              go_roundw
              case rel => exact ⟨q + 1, by omega, by omega, by go_num, by rw [HE.out], by rw [HE.out], hb2⟩
              case measure => simp [intOf]; omega
            · have HE : Hid (rwS (sqF L) k st (q + 1 - (k + 1)) = (a, b)) := by
                show _ = _
                rw [HST.out, HW.out, if_neg hgt]
              go_wp2_with fail
              go_roundw
              case rel => exact ⟨q + 1, by omega, by omega, by go_num, by rw [HE.out], by rw [HE.out], hb2⟩
              case measure => simp [intOf]; omega
          · obtain rfl : q = L.length := by omega
            rw [← HAL.out]
            have R := Lib.hid hb
            clear hb
            go_wp2_with fail
            go_roundw
            case rel => exact ⟨k + 1, by omega, by go_num, rfl, rfl, R.out⟩
            case measure => simp [intOf]; omega
      · obtain rfl : k = L.length := by omega
        go_wp2_with fail
        go_returns
        exact ⟨by rw [HVA.out, HVB.out]; rfl, hb⟩
end Go.Proofs.Ytplccidmedkfaaa
