/-
  Walks for InnerPoints of both programs.
-/
import Derived.Test.YtieekeodbflgfaaBox
import Derived.Test.YtieekeodbflgfaaSum
namespace Go.Proofs.Ytieekeodbflgfaa
open Go.RowKit

def rowN (f : Nat → Bool) : Nat → Nat
  | 0 => 0
  | k + 1 => rowN f k + (bif f k then 1 else 0)
def allN (g : Nat → Nat) : Nat → Nat
  | 0 => 0
  | r + 1 => allN g r + g r
theorem rowN_le (f : Nat → Bool) : ∀ k, rowN f k ≤ k
  | 0 => Nat.le_refl _
  | k + 1 => by
    have := rowN_le f k
    simp only [rowN]
    cases f k <;> simp <;> omega
theorem allN_le {g : Nat → Nat} {m : Nat} (h : ∀ r, g r ≤ m) : ∀ r, allN g r ≤ r * m
  | 0 => by simp [allN]
  | r + 1 => by
    have h1 := allN_le h r
    have h2 := h r
    have e : (r + 1) * m = r * m + m := Nat.succ_mul _ _
    simp only [allN]
    omega
def innT (L : List (Int × Int)) (p : Int × Int) : Bool := !(onRim L p) && insideB L p
def boxW (L : List (Int × Int)) : Nat := ((boxTill L L.length).2.1 - (boxTill L L.length).1.1 + 1).toNat
def boxH (L : List (Int × Int)) : Nat := ((boxTill L L.length).2.2 - (boxTill L L.length).1.2 + 1).toNat
def rowT (L : List (Int × Int)) (r : Nat) (j : Nat) : Bool := innT L ((boxTill L L.length).1.1 + j, (boxTill L L.length).1.2 + r)
def innerN (L : List (Int × Int)) : Nat := allN (fun r => rowN (rowT L r) (boxW L)) (boxH L)
theorem box_in {L : List (Int × Int)} (hok : allOk L = true) : ∀ k, okP (boxTill L k).1.1 (boxTill L k).1.2 = true ∧ okP (boxTill L k).2.1 (boxTill L k).2.2 = true ∧ (boxTill L k).1.1 ≤ (boxTill L k).2.1 ∧ (boxTill L k).1.2 ≤ (boxTill L k).2.2
  | 0 => ⟨gt_ok hok 0, gt_ok hok 0, Int.le_refl _, Int.le_refl _⟩
  | k + 1 => by
    obtain ⟨h1, h2, h3, h4⟩ := box_in hok k
    have h5 := gt_ok hok k
    have mk : ∀ {x y : Int}, (0 ≤ x ∧ x ≤ 40 ∧ 0 ≤ y ∧ y ≤ 40) → okP x y = true := fun h => by
      simp only [okP, Bool.and_eq_true, inB_spec]; omega
    replace h1 := okP_bounds h1
    replace h2 := okP_bounds h2
    replace h5 := okP_bounds h5
    simp only [boxTill, boxStep]
    unfold minI maxI
    refine ⟨mk ?_, mk ?_, ?_, ?_⟩
    · constructor
      · split <;> omega
      · constructor
        · split <;> omega
        · constructor <;> (split <;> omega)
    · constructor
      · split <;> omega
      · constructor
        · split <;> omega
        · constructor <;> (split <;> omega)
    · split <;> split <;> omega
    · split <;> split <;> omega


/-- What the program answers. -/
def pickI (L : List (Int × Int)) : Int := (maxI (twiceI L) (-(twiceI L)) - rimI L + 2).tdiv 2
theorem twiceI_bd {L : List (Int × Int)} (hok : allOk L = true) (hl : L.length ≤ 10) : (twiceI L).natAbs ≤ 16000 := by
  have h1 := sumL_abs (f := twiceT L) (m := 1600) (fun i => area_bd (gt_ok hok i) (gt_ok hok (nx L i))) (List.range L.length)
  rw [sumL_range, List.length_range] at h1
  exact Nat.le_trans h1 (by have := Nat.mul_le_mul_right 1600 hl; omega)
theorem rimI_bd {L : List (Int × Int)} (hok : allOk L = true) (hl : L.length ≤ 10) : (rimI L).natAbs ≤ 16000 := by
  have h1 := sumL_abs (f := rimT L) (m := 1600) (fun i => rim_bd (gt_ok hok i) (gt_ok hok (nx L i))) (List.range L.length)
  rw [sumL_range, List.length_range] at h1
  exact Nat.le_trans h1 (by have := Nat.mul_le_mul_right 1600 hl; omega)
set_option maxRecDepth 100000 in
set_option maxHeartbeats 1000000 in
theorem impl_inner (A : Option Addr) (c : Nat) (L : List (Int × Int)) (w : World) (hA : PtsA w A L) (hL : L.length ≤ 1048576) :
    Calls Try.prog 26 #[.slice A L.length c] w fun e w' => e = .returned (.int .i64 (bif polyB L then pickI L else -1)) ∧ Below w.heap.size w w' := by
  have PC := Lib.hid (impl_poly A c L w hA hL)
  cases hp : polyB L
  · rw [hp] at PC
    clear hA
    go_enter Try.func26, Try.ntmps26
    go_wp2_with fail
    refine PC.out.mono ?_
    rintro e w1 ⟨rfl, hb1⟩
    go_wp2_with fail
    go_ret
    exact ⟨rfl, hb1⟩
  · obtain ⟨h3, h10, hok⟩ := polyB_all hp
    rw [hp] at PC
    have HT := Lib.hid (fun (W : World) (hb : Below w.heap.size w W) => impl_twice A c L W (ptsA_on hA hb) hL)
    have HR := Lib.hid (fun (W : World) (hb : Below w.heap.size w W) => impl_rim A c L W (ptsA_on hA hb) hL)
    rw [hp] at HT HR
    have b1 := twiceI_bd hok h10
    have b2 := rimI_bd hok h10
    have HV : Hid (pickI L = (maxI (twiceI L) (-(twiceI L)) - rimI L + 2).tdiv 2) := rfl
    have hmax : ∀ (w : World) (x y : Int) (ts : Array TypeId) (t : TypeId), (Builtin.max_ ts t #[.int .i64 x, .int .i64 y]).run Try.prog w = .ok (.int .i64 (maxI x y)) w := run_maxI
    simp only [cond_true] at HT HR
    generalize twiceI L = a at *
    generalize rimI L = b at *
    have hm : (maxI a (-a)).natAbs ≤ 16000 := by unfold maxI; split <;> omega
    obtain ⟨m, hme⟩ : ∃ m, m = maxI a (-a) := ⟨_, rfl⟩
    have hme2 := hme.symm
    rw [hme2] at hm HV
    clear hA hok hme
    go_enter Try.func26, Try.ntmps26
    go_wp2_with fail
    refine PC.out.mono ?_
    rintro e w1 ⟨rfl, hb1⟩
    go_wp2_with fail
    refine (HT.out _ hb1).mono ?_
    rintro e w2 ⟨rfl, hb2⟩
    have b3 := hb1.trans (hb2.mono hb1.size)
    clear hb1 hb2
    go_wp2_with fail
    refine (HR.out _ b3).mono ?_
    rintro e w3 ⟨rfl, hb3⟩
    have b4 := b3.trans (hb3.mono b3.size)
    clear hb3 b3
    go_wp2_with fail
    go_ret
    exact ⟨ret_int (by rw [HV.out]; first | rfl | simp), b4⟩
end Go.Proofs.Ytieekeodbflgfaa
