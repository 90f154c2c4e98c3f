/-
  FormatShape of both programs, and the law.
-/
import Derived.Test.YtimkknljoeiceaaJoin
import Derived.Test.YtimkknljoeiceaaBuildB
import Derived.Test.YtimkknljoeiceaaBoard2
namespace Go.Proofs.Ytimkknljoeiceaa
open Go.RowKit

def mk8 (m i : Nat) : UInt8 := if m.testBit i then 35 else 46
def fmtT (a m : Nat) : Nat → List UInt8
  | 0 => []
  | k + 1 => (if 0 < k ∧ k % a = 0 then fmtT a m k ++ [47] else fmtT a m k) ++ [mk8 m k]
theorem fmtT_len (a m : Nat) : ∀ k, (fmtT a m k).length ≤ 2 * k
  | 0 => Nat.le_refl _
  | k + 1 => by
    have := fmtT_len a m k
    simp only [fmtT]
    split <;> simp <;> omega
def rowT (a m y : Nat) (x : Nat) : List UInt8 := (List.range x).map fun x => mk8 m (y * a + x)
theorem rowT_snoc (a m y x : Nat) : rowT a m y (x + 1) = rowT a m y x ++ [mk8 m (y * a + x)] := by
  unfold rowT; rw [List.range_succ, List.map_append]; rfl
theorem rowT_len (a m y x : Nat) : (rowT a m y x).length = x := by simp [rowT]
def rowS8 (a m y : Nat) : ByteArray := ⟨(rowT a m y a).toArray⟩
def rows8 (a m k : Nat) : List ByteArray := (List.range k).map (rowS8 a m)
theorem rows8_len (a m k : Nat) : (rows8 a m k).length = k := by simp [rows8]
theorem rows8_snoc (a m k : Nat) : rows8 a m (k + 1) = rows8 a m k ++ [rowS8 a m k] := by
  unfold rows8; rw [List.range_succ, List.map_append]; rfl
theorem rows8_at {a m k i : Nat} (h : i < k) : (rows8 a m k).getD i ⟨#[]⟩ = rowS8 a m i := by simp [rows8, h]
theorem rowS8_data (a m y : Nat) : (rowS8 a m y).data.toList = rowT a m y a := by simp [rowS8]
theorem rowS8_size (a m y : Nat) : (rowS8 a m y).size = a := by
  rw [← data_len, rowS8_data, rowT_len]
theorem tots_rows (a m k : Nat) : ∀ j, j ≤ k → tots (rows8 a m k) j = j * a
  | 0, _ => by simp [tots]
  | j + 1, h => by
    simp only [tots]
    rw [tots_rows a m k j (by omega), rows8_at (by omega), rowS8_size, Nat.add_mul, Nat.one_mul]
/-- A row's text goes on what stands before it. -/
theorem fmtT_row {a m y : Nat} (ha : 0 < a) : ∀ x, x < a → fmtT a m (y * a + (x + 1)) = (if 0 < y then fmtT a m (y * a) ++ [47] else fmtT a m (y * a)) ++ rowT a m y (x + 1)
  | 0, h => by
    rw [rowT_snoc]
    have e1 : (y * a) % a = 0 := Nat.mul_mod_left y a
    have e2 : (0 < y * a) ↔ 0 < y := by
      constructor
      · intro h
        rcases Nat.eq_zero_or_pos y with rfl | h'
        · simp at h
        · exact h'
      · intro h; exact Nat.mul_pos h ha
    show fmtT a m (y * a + 0 + 1) = _
    simp only [Nat.add_zero, fmtT, e1, e2, and_true]
    rfl
  | x + 1, h => by
    have ih := fmtT_row (m := m) (y := y) ha x (by omega)
    have e1 : ¬ (y * a + (x + 1)) % a = 0 := by
      have := (row_col ha h (rfl : y * a + (x + 1) = y * a + (x + 1))).1
      omega
    rw [rowT_snoc, ← List.append_assoc, ← ih]
    show fmtT a m (y * a + (x + 1) + 1) = _
    simp only [fmtT]
    rw [if_neg (by rintro ⟨_, h⟩; exact e1 h)]
theorem jl_fmt {a m b : Nat} (ha : 0 < a) : ∀ k, k ≤ b → jl (rows8 a m b) [47] k = fmtT a m (k * a)
  | 0, _ => by simp [jl, fmtT]
  | k + 1, h => by
    have ih := jl_fmt (m := m) (b := b) ha k (by omega)
    have hr := fmtT_row (m := m) (y := k) ha (a - 1) (by omega)
    rw [show a - 1 + 1 = a by omega] at hr
    rw [Nat.add_mul, Nat.one_mul, hr]
    simp only [jl]
    rw [rows8_at (by omega), rowS8_data, ih]
    by_cases h0 : k = 0
    · subst h0; simp
    · rw [if_neg h0, if_pos (by omega)]
def fmtV (w h M : Int) : ByteArray := if shapeB w h M = true then ⟨(fmtT w.toNat M.toNat (w.toNat * h.toNat)).toArray⟩ else ⟨#[]⟩
theorem fmt_no {w h M : Int} (hB : shapeB w h M = false) : fmtV w h M = ⟨#[]⟩ := by unfold fmtV; rw [if_neg (by simp [hB])]
theorem fmt_yes {a b m : Nat} (hB : shapeB a b m = true) : fmtV a b m = ⟨(fmtT a m (a * b)).toArray⟩ := by unfold fmtV; rw [if_pos hB]; simp
set_option maxRecDepth 100000 in
set_option maxHeartbeats 2000000 in
theorem spec_format (w h M : Int) (W : World) : Calls Try.prog 41 #[.int .i64 w, .int .i64 h, .int .i64 M] W fun e w' => e = .returned (.string (fmtV w h M)) ∧ Below W.heap.size W w' := by
  have HS := Lib.hid (fun W => spec_shape w h M W)
  cases hB : shapeB w h M
  · rw [hB] at HS
    have HV := Lib.hid (fmt_no hB)
    rw [HV.out]
    clear hB
    go_enter Try.func41, Try.ntmps41
    go_wp2_with fail
    refine (HS.out _).mono ?_
    rintro e w1 ⟨rfl, rfl⟩
    go_wp2_with fail
    go_ret
    exact ⟨rfl, Below.refl _ _⟩
  · rw [hB] at HS
    obtain ⟨a, b, m, rfl, rfl, rfl, ha1, ha2, hb1, hb2, hm, hab⟩ := mask_nat hB
    have HV := Lib.hid (fmt_yes hB)
    rw [HV.out]
    obtain ⟨i0, hi0, hz0, hz1, hz2⟩ := info_parts info_str
    have hm36 := lt62 hm hab
    have HBT := Lib.hid (fun k => bit_at m k hm36)
    have HAB := Lib.hid hab
    have own0 := World.ownsRow_lit (base := W.heap.size) (e := 9) (size := 1) W #[] 0 (Nat.le_refl _) (by unfold maxLen; omega) (by rfl)
    have b0 := below1 W (.cells #[] 9)
    have HJF := Lib.hid (jl_fmt (m := m) (b := b) (show 0 < a by omega) b (Nat.le_refl _))
    have HTO := Lib.hid (tots_rows a m b b (Nat.le_refl _))
    clear hB hm hab
    go_enter Try.func41, Try.ntmps41
    go_wp2_with fail
    refine (HS.out _).mono ?_
    rintro e w1 ⟨rfl, rfl⟩
    go_wp2_with fail
    go_loopw [7, 8, 9, 10] (fun s i _ _ wr => ∃ (y : Nat) (R : List ByteArray), y ≤ b ∧ i = .int .i64 y ∧ R.length ≤ y ∧ Hid (R = rows8 a m y) ∧ wr.ownsRow w1.heap.size 9 1 s R.length (R.map Value.string) ∧ Below w1.heap.size w1 wr) (fun _ i _ _ _ => b - (intOf i).toNat)
    case atStart => exact ⟨0, [], Nat.zero_le _, rfl, Nat.le_refl _, rfl, own0, b0⟩
    case round =>
      clear own0 b0
      obtain ⟨wo, rfl⟩ : ∃ wo : World, wo = wr := ⟨_, rfl⟩
      obtain ⟨y, R, hy, rfl, hRl, HR, own, hb⟩ := hrel
      by_cases hlt : y < b
      · obtain ⟨q, hq⟩ : ∃ q, q = y * a := ⟨_, rfl⟩
        have hqi : (y : Int) * (a : Int) = (q : Int) := by rw [hq, Int.natCast_mul]
        have hq36 : q + a ≤ 36 := by
          have : (y + 1) * a ≤ b * a := Nat.mul_le_mul_right a hlt
          rw [Nat.add_mul, Nat.one_mul, Nat.mul_comm b a] at this
          have := HAB.out
          omega
        have HQ := Lib.hid hq
        clear hq
        go_wp2_with fail
        go_loop [9, 10] (fun s i => ∃ (x : Nat) (J : List UInt8), x ≤ a ∧ i = .int .i64 x ∧ s = .string ⟨J.toArray⟩ ∧ J.length ≤ x ∧ Hid (J = rowT a m y x)) (fun _ i => a - (intOf i).toNat)
        case atStart => exact ⟨0, [], Nat.zero_le _, rfl, rfl, Nat.le_refl _, rfl⟩
        case round =>
          obtain ⟨x, J, hx, rfl, rfl, hJl, HJ⟩ := hrel
          by_cases hlx : x < a
          · obtain ⟨k, hk⟩ : ∃ k, k = q + x := ⟨_, rfl⟩
            have hk36 : k < 36 := by omega
            have hki : ((q : Int) + (x : Int)).toNat = k := by omega
            obtain ⟨z, hz, hbit⟩ := HBT.out k
            have HJ2 : Hid (J ++ [mk8 m k] = rowT a m y (x + 1)) := by
              show _ = _
              rw [rowT_snoc, HJ.out, hk, HQ.out]
            clear HJ
            cases ht : m.testBit k
            · rw [ht] at hbit
              simp only [Bool.false_eq_true, if_false] at hbit
              have hmk : mk8 m k = 46 := by unfold mk8; rw [ht]; rfl
              rw [hmk] at HJ2
              have hadd := add_lists (P := Try.prog) J [46] ⟨#[46]⟩ rfl (by simp; omega) wo
              clear hmk ht hk
              go_wp2_with fail
              go_round
              case rel => exact ⟨x + 1, J ++ [46], by omega, by go_num, rfl, by simp; omega, HJ2⟩
              case measure => simp [intOf]; omega
            · rw [ht] at hbit
              simp only [if_true] at hbit
              have hmk : mk8 m k = 35 := by unfold mk8; rw [ht]; rfl
              rw [hmk] at HJ2
              have hadd := add_lists (P := Try.prog) J [35] ⟨#[35]⟩ rfl (by simp; omega) wo
              clear hmk ht hk
              go_wp2_with fail
              go_round
              case rel => exact ⟨x + 1, J ++ [35], by omega, by go_num, rfl, by simp; omega, HJ2⟩
              case measure => simp [intOf]; omega
          · obtain rfl : x = a := by omega
            have HR2 : Hid (R ++ [⟨J.toArray⟩] = rows8 x m (y + 1)) := by
              show _ = _
              rw [rows8_snoc, HR.out, HJ.out]; rfl
            have hs6 := hb.size
            have own6 := own.alloc (.cells #[.string ⟨J.toArray⟩] 9)
            clear HJ
            go_wp2_with (at_builtin; refine wpList_append_own _ rfl _ _ 88 rfl w1.heap.size 9 i0 (.string ⟨#[]⟩) 1 16 Try.underlying88 hi0 hz0 hz1 hz2 rfl (by decide) _ _ _ rfl (own.alloc _) ⟨wo.heap.size, 0, none⟩ 1 1 [.string ⟨J.toArray⟩] rfl rfl ?d1 ?d2 ?d3 ?d4 ?d5 ?_)
            case d2 => first | rfl | (intro u hu; simp at hu; subst hu; rfl)
            case d3 => unfold maxLen; omega
            case d4 => omega
            case d5 => first | omega | (simp; omega)
            intro v' w7 own7 hgrow _
            have R9 := Lib.hid (app_one hb hb.size own own7 _ hgrow)
            clear own own6 own7 hgrow hb
            go_wp2_with fail
            go_roundw
            case rel => exact ⟨y + 1, R ++ [⟨J.toArray⟩], by omega, by go_num, by simp; omega, HR2, R9.out.1, R9.out.2⟩
            case measure => simp [intOf]; omega
      · obtain rfl : y = b := by omega
        obtain ⟨_, A1, c1, rfl, _⟩ := own_strs own
        have hRe := HR.out
        subst hRe
        have HJN := Lib.hid (spec_join A1 c1 (rows8 a m y) ⟨#[47]⟩ wo (StrsAt.of own) (by
          rw [rows8_len, HTO.out, Nat.mul_comm y a]
          have := HAB.out
          omega) (by show 1 ≤ _; omega))
        rw [rows8_len] at HJN
        have e47 : (ByteArray.mk #[47]).data.toList = [47] := rfl
        rw [e47, HJF.out, Nat.mul_comm y a] at HJN
        have R := Lib.hid hb
        rw [rows8_len]
        clear own hb e47
        go_wp2_with fail
        refine HJN.out.mono ?_
        rintro e w2 ⟨rfl, rfl⟩
        go_wp2_with fail
        go_ret
        exact ⟨rfl, R.out⟩
theorem cells_one (l : List UInt8) (c : UInt8) : Lib.byteCells l ++ [.int .u8 (c.toNat : Int)] = Lib.byteCells (l ++ [c]) := by simp [Lib.byteCells]
theorem tmod_eq (k a : Nat) : ∃ r : Nat, r = k % a ∧ Int.tmod (k : Int) (a : Int) = (r : Int) := ⟨k % a, rfl, by
  rw [Int.tmod_eq_emod_of_nonneg (by omega)]; exact (Int.natCast_emod _ _).symm⟩
set_option maxRecDepth 100000 in
set_option maxHeartbeats 2000000 in
theorem impl_format (w h M : Int) (W : World) : Calls Try.prog 42 #[.int .i64 w, .int .i64 h, .int .i64 M] W fun e w' => e = .returned (.string (fmtV w h M)) ∧ Below W.heap.size W w' := by
  have HS := Lib.hid (fun W => impl_shape w h M W)
  cases hB : shapeB w h M
  · rw [hB] at HS
    have HV := Lib.hid (fmt_no hB)
    rw [HV.out]
    clear hB
    go_enter Try.func42, Try.ntmps42
    go_wp2_with fail
    refine (HS.out _).mono ?_
    rintro e w1 ⟨rfl, rfl⟩
    go_wp2_with fail
    go_ret
    exact ⟨rfl, Below.refl _ _⟩
  · rw [hB] at HS
    obtain ⟨a, b, m, rfl, rfl, rfl, ha1, ha2, hb1, hb2, hm, hab⟩ := mask_nat hB
    have HV := Lib.hid (fmt_yes hB)
    rw [HV.out]
    have HBO := Lib.hid (fun W => boardOf_any a b m W hm hab)
    obtain ⟨n, hn⟩ : ∃ n, n = a * b := ⟨_, rfl⟩
    have hN : ((a : Int) * (b : Int) = (n : Int)) := by rw [hn, Int.natCast_mul]
    rw [← hn] at hab ⊢
    have HFL := Lib.hid (fmtT_len a m)
    have HFS : Hid (∀ k, fmtT a m (k + 1) = (if 0 < k ∧ k % a = 0 then fmtT a m k ++ [47] else fmtT a m k) ++ [mk8 m k]) := fun _ => rfl
    have HMK : Hid (∀ k, mk8 m k = if m.testBit k then 35 else 46) := fun _ => rfl
    have HTM := Lib.hid (fun k => tmod_eq k a)
    have haz : ¬ a = 0 := by omega
    have haz2 : ¬ (a : Int) = 0 := by omega
    clear hB hm hn HV
    go_enter Try.func42, Try.ntmps42
    go_wp2_with fail
    refine (HS.out _).mono ?_
    rintro e w1 ⟨rfl, rfl⟩
    go_wp2_with fail
    refine (HBO.out _).mono ?_
    rintro e w2 ⟨rfl, hb2'⟩
    have hw2 := hb2'.size
    have t2 := brd_new w2 0 0 fun _ => false
    go_wp2_with (first
      | (refine wpList_allocB rfl rfl ?_; try simp only [size_alloc])
      | refine wpList_storeB rfl _ _ rfl w2.heap.size a b _ _ m.testBit _ rfl rfl t2 ?_)
    have t1 := brd_setRow t2 a b m.testBit
    have bb := below_rowB (hb2'.alloc hw2 (.cells (bdV 0 0 fun _ => false) 75)) hw2 (bdV a b m.testBit)
    have hsz : ((w2.alloc (.cells (bdV 0 0 fun _ => false) 75)).setRow w2.heap.size (bdV a b m.testBit)).heap.size = w2.heap.size + 1 := by simp
    generalize (w2.alloc (.cells (bdV 0 0 fun _ => false) 75)).setRow w2.heap.size (bdV a b m.testBit) = w3 at *
    have HF := Lib.hid (Lib.fresh_isBuilder 92 5 w3)
    rw [hsz] at HF
    clear t2 hb2' HBO HS
    have HT1 := Lib.hid t1
    have hb3 : Below (w2.heap.size + 1) w3 (w3.alloc (.cells #[.pointer none, .slice none 0 0] 92)) := (Below.refl _ _).alloc (by omega) _
    have hsz3 : w2.heap.size + 1 ≤ w3.heap.size := by omega
    clear hsz t1
    generalize w3.alloc (.cells #[.pointer none, .slice none 0 0] 92) = w4 at *
    go_loopw [9, 22] (fun _ i wr => ∃ k : Nat, k ≤ n ∧ i = .int .i64 k ∧ Lib.IsBuilder 92 5 (w2.heap.size + 1) (w2.heap.size + 1) (Lib.byteCells (fmtT a m k)) wr ∧ Below (w2.heap.size + 1) w3 wr) (fun _ i _ => n - (intOf i).toNat)
    case atStart => exact ⟨0, Nat.zero_le _, rfl, HF.out, hb3⟩
    case round =>
      clear hb3
      obtain ⟨wo, rfl⟩ : ∃ wo : World, wo = wr := ⟨_, rfl⟩
      obtain ⟨k, hk, rfl, hI, hbe⟩ := hrel
      by_cases hlt : k < n
      · have hk36 : k < 36 := by omega
        have hg : Brd wo w2.heap.size a b m.testBit := (hbe.block _ (by omega)).trans HT1.out
        have hfl := HFL.out k
        have hfs := HFS.out k
        have hmk := HMK.out k
        obtain ⟨r, hr, hrm⟩ := HTM.out k
        rw [← hr] at hfs
        generalize fmtT a m k = J at *
        by_cases h0 : 0 < k
        · have h0z : (0 : Int) < (k : Int) := by omega
          by_cases hr0 : r = 0
          · subst hr0
            rw [if_pos ⟨h0, rfl⟩] at hfs
            have e47 : Lib.byteCells J ++ [.int .u8 47] = Lib.byteCells (J ++ [47]) := cells_one J 47
            have E47 := Lib.hid e47
            clear e47 h0 hr
            go_wp2_with fail
            refine (Try.writeByte _ _ _ 47 _ hI (by rw [cells_len]; omega) (by have := hbe.size; omega)).mono ?_
            rintro e w5 ⟨rfl, hI2, hb5⟩
            rw [E47.out] at hI2
            have hbe2 := hbe.trans hb5
            have hg2 : Brd w5 w2.heap.size a b m.testBit := (hbe2.block _ (by omega)).trans HT1.out
            have c1 := hg2.at hk36
            clear hI hbe hb5 hg hg2
            cases ht : m.testBit k
            · rw [ht] at hmk c1
              simp only [Bool.false_eq_true, if_false] at hmk
              rw [hmk] at hfs
              have HFE : Hid (Lib.byteCells (J ++ [47]) ++ [.int .u8 46] = Lib.byteCells (fmtT a m (k + 1))) := by
                show _ = _
                rw [hfs]; exact cells_one _ 46
              clear hfs hmk ht
              go_wp2_with fail
              refine (Try.writeByte _ _ _ 46 _ hI2 (by rw [cells_len]; simp; omega) (by have := hbe2.size; omega)).mono ?_
              rintro e w6 ⟨rfl, hI3, hb6⟩
              rw [HFE.out] at hI3
              have R := Lib.hid (And.intro hI3 (hbe2.trans hb6))
              clear hI2 hI3 hbe2 hb6 c1
              go_wp2_with fail
              go_roundw
              case rel => exact ⟨k + 1, by omega, by go_num, R.out.1, R.out.2⟩
              case measure => simp [intOf]; omega
            · rw [ht] at hmk c1
              simp only [if_true] at hmk
              rw [hmk] at hfs
              have HFE : Hid (Lib.byteCells (J ++ [47]) ++ [.int .u8 35] = Lib.byteCells (fmtT a m (k + 1))) := by
                show _ = _
                rw [hfs]; exact cells_one _ 35
              clear hfs hmk ht
              go_wp2_with fail
              refine (Try.writeByte _ _ _ 35 _ hI2 (by rw [cells_len]; simp; omega) (by have := hbe2.size; omega)).mono ?_
              rintro e w6 ⟨rfl, hI3, hb6⟩
              rw [HFE.out] at hI3
              have R := Lib.hid (And.intro hI3 (hbe2.trans hb6))
              clear hI2 hI3 hbe2 hb6 c1
              go_wp2_with fail
              go_roundw
              case rel => exact ⟨k + 1, by omega, by go_num, R.out.1, R.out.2⟩
              case measure => simp [intOf]; omega
          · rw [if_neg (by rintro ⟨_, h⟩; exact hr0 h)] at hfs
            have hrne : ((r : Int) == 0) = false := by rw [beq_eq_false_iff_ne]; omega
            have c1 := hg.at hk36
            clear hg hr h0 hr0
            cases ht : m.testBit k
            · rw [ht] at hmk c1
              simp only [Bool.false_eq_true, if_false] at hmk
              rw [hmk] at hfs
              have HFE : Hid (Lib.byteCells (J) ++ [.int .u8 46] = Lib.byteCells (fmtT a m (k + 1))) := by
                show _ = _
                rw [hfs]; exact cells_one _ 46
              clear hfs hmk ht
              go_wp2_with fail
              refine (Try.writeByte _ _ _ 46 _ hI (by rw [cells_len]; simp; omega) (by have := hbe.size; omega)).mono ?_
              rintro e w6 ⟨rfl, hI3, hb6⟩
              rw [HFE.out] at hI3
              have R := Lib.hid (And.intro hI3 (hbe.trans hb6))
              clear hI hI3 hbe hb6 c1
              go_wp2_with fail
              go_roundw
              case rel => exact ⟨k + 1, by omega, by go_num, R.out.1, R.out.2⟩
              case measure => simp [intOf]; omega
            · rw [ht] at hmk c1
              simp only [if_true] at hmk
              rw [hmk] at hfs
              have HFE : Hid (Lib.byteCells (J) ++ [.int .u8 35] = Lib.byteCells (fmtT a m (k + 1))) := by
                show _ = _
                rw [hfs]; exact cells_one _ 35
              clear hfs hmk ht
              go_wp2_with fail
              refine (Try.writeByte _ _ _ 35 _ hI (by rw [cells_len]; simp; omega) (by have := hbe.size; omega)).mono ?_
              rintro e w6 ⟨rfl, hI3, hb6⟩
              rw [HFE.out] at hI3
              have R := Lib.hid (And.intro hI3 (hbe.trans hb6))
              clear hI hI3 hbe hb6 c1
              go_wp2_with fail
              go_roundw
              case rel => exact ⟨k + 1, by omega, by go_num, R.out.1, R.out.2⟩
              case measure => simp [intOf]; omega
        · rw [if_neg (by rintro ⟨h, _⟩; exact h0 h)] at hfs
          have c1 := hg.at hk36
          clear hg hr hrm
          cases ht : m.testBit k
          · rw [ht] at hmk c1
            simp only [Bool.false_eq_true, if_false] at hmk
            rw [hmk] at hfs
            have HFE : Hid (Lib.byteCells (J) ++ [.int .u8 46] = Lib.byteCells (fmtT a m (k + 1))) := by
              show _ = _
              rw [hfs]; exact cells_one _ 46
            clear hfs hmk ht
            go_wp2_with fail
            refine (Try.writeByte _ _ _ 46 _ hI (by rw [cells_len]; simp; omega) (by have := hbe.size; omega)).mono ?_
            rintro e w6 ⟨rfl, hI3, hb6⟩
            rw [HFE.out] at hI3
            have R := Lib.hid (And.intro hI3 (hbe.trans hb6))
            clear hI hI3 hbe hb6 c1
            go_wp2_with fail
            go_roundw
            case rel => exact ⟨k + 1, by omega, by go_num, R.out.1, R.out.2⟩
            case measure => simp [intOf]; omega
          · rw [ht] at hmk c1
            simp only [if_true] at hmk
            rw [hmk] at hfs
            have HFE : Hid (Lib.byteCells (J) ++ [.int .u8 35] = Lib.byteCells (fmtT a m (k + 1))) := by
              show _ = _
              rw [hfs]; exact cells_one _ 35
            clear hfs hmk ht
            go_wp2_with fail
            refine (Try.writeByte _ _ _ 35 _ hI (by rw [cells_len]; simp; omega) (by have := hbe.size; omega)).mono ?_
            rintro e w6 ⟨rfl, hI3, hb6⟩
            rw [HFE.out] at hI3
            have R := Lib.hid (And.intro hI3 (hbe.trans hb6))
            clear hI hI3 hbe hb6 c1
            go_wp2_with fail
            go_roundw
            case rel => exact ⟨k + 1, by omega, by go_num, R.out.1, R.out.2⟩
            case measure => simp [intOf]; omega
      · obtain rfl : k = n := by omega
        have hsz := hbe.size
        go_wp2_with fail
        refine (Try.Builder_String_any _ _ _ _ hI (by omega)).mono ?_
        rintro e w5 ⟨rfl, hb5⟩
        have R := Lib.hid (bb.trans ((hbe.trans hb5).mono (by omega)))
        clear hI hbe hb5 bb
        go_wp2_with fail
        go_ret
        exact ⟨rfl, R.out⟩
theorem ex_formatShape (w h M : Int) (W : World) : Calls Try.prog 11 #[.int .i64 w, .int .i64 h, .int .i64 M] W fun e w' => e = .returned (.bool true) ∧ Below W.heap.size W w' := by
  have HS := Lib.hid (fun W => spec_format w h M W)
  have HI := Lib.hid (fun W => impl_format w h M W)
  generalize fmtV w h M = r at *
  go_enter Try.func11, Try.ntmps11
  go_wp2_with fail
  refine (HS.out _).mono ?_
  rintro e w1 ⟨rfl, b1⟩
  go_wp2_with fail
  refine (HI.out _).mono ?_
  rintro e w2 ⟨rfl, hb2⟩
  have b2 := below_on b1 hb2
  go_wp2_with fail
  go_ret
  exact ⟨rfl, b2⟩
end Go.Proofs.Ytimkknljoeiceaa
