/-
  Walks and facts of this seat, part Ba (merged by a script of this repo out of smaller texts).
-/
import Derived.Test.YthoniopkeiifnaaAc
import Derived.Laws.MakeOwn
import Derived.Deep.WholeRow
import Derived.Deep.RegionLaw
import Derived.Lib.AppendZerosOnto
import Derived.Lib.SliceRun
import Derived.Maps.AppendAt
import Derived.ChangeSlices
/-! FewS12 -/
namespace Go.Proofs.Ythoniopkeiifnaa
open Go.RowKit

def fewV (w h : Int) : Int := bif inB w 1 30 && inB h 1 30 then fw w.toNat h.toNat else -1
theorem idx_lt12 {n a b : Nat} (ha : a ≤ n) (hb : b ≤ n) : a * (n + 1) + b < (n + 1) * (n + 1) := by
  have : a * (n + 1) ≤ n * (n + 1) := Nat.mul_le_mul_right _ ha
  rw [Nat.add_mul]; omega
theorem idx_inj12 {n a b c d : Nat} (hb : b ≤ n) (hd : d ≤ n) (h : a * (n + 1) + b = c * (n + 1) + d) : a = c ∧ b = d := by
  have h1 : (a * (n + 1) + b) / (n + 1) = a := by rw [Nat.mul_comm, Nat.mul_add_div (by omega), Nat.div_eq_of_lt (by omega)]; omega
  have h2 : (c * (n + 1) + d) / (n + 1) = c := by rw [Nat.mul_comm, Nat.mul_add_div (by omega), Nat.div_eq_of_lt (by omega)]; omega
  have : a = c := by rw [← h1, h, h2]
  subst this
  exact ⟨rfl, by omega⟩
/-- The table holds what P says is known. -/
def TabF (n : Nat) (xs : List Value) (P : Nat → Nat → Prop) : Prop := xs.length = (n + 1) * (n + 1) ∧ ∀ a b, 1 ≤ a → a ≤ n → 1 ≤ b → b ≤ n → P a b → xs[a * (n + 1) + b]? = some (.int .i64 (fw a b))
theorem TabF.put {n : Nat} {xs : List Value} {P P' : Nat → Nat → Prop} {a b : Nat} (h : TabF n xs P) (ha : a ≤ n) (hb : b ≤ n) (hP : ∀ c d, P' c d → P c d ∨ (c = a ∧ d = b)) : TabF n (xs.set (a * (n + 1) + b) (.int .i64 (fw a b))) P' := by
  refine ⟨by rw [List.length_set]; exact h.1, fun c d h1 h2 h3 h4 h5 => ?_⟩
  rw [List.getElem?_set]
  by_cases e : a * (n + 1) + b = c * (n + 1) + d
  · obtain ⟨rfl, rfl⟩ := idx_inj12 hb h4 e
    rw [if_pos rfl, if_pos (by rw [h.1]; exact idx_lt12 ha hb)]
  · rw [if_neg e]
    rcases hP c d h5 with h6 | ⟨rfl, rfl⟩
    · exact h.2 c d h1 h2 h3 h4 h6
    · exact absurd rfl e
theorem TabF.on {n : Nat} {xs : List Value} {P P' : Nat → Nat → Prop} (h : TabF n xs P) (hP : ∀ c d, P' c d → P c d) : TabF n xs P' := ⟨h.1, fun a b h1 h2 h3 h4 h5 => h.2 a b h1 h2 h3 h4 (hP a b h5)⟩
theorem max_s {s n a0 : Nat} (h : a0 = if n + 1 ≤ s then s - n else 1) : maxI 1 ((s : Int) - (n : Int)) = (a0 : Int) := by unfold maxI; split <;> split at h <;> omega
theorem min_s {s n a9 : Nat} (hs : 1 ≤ s) (h : a9 = if s ≤ n + 1 then s - 1 else n) : minI (n : Int) ((s : Int) - 1) = (a9 : Int) := by unfold minI; split <;> split at h <;> omega
theorem minK_step {f : Nat → Int} {x y : Int} {k : Nat} (hk : 1 ≤ k) (hy : y = f k) : minI (mnK f x (k - 1)) y = mnK f x (k + 1 - 1) := by
  obtain ⟨j, rfl⟩ : ∃ j, k = j + 1 := ⟨k - 1, by omega⟩
  rw [hy, show j + 1 + 1 - 1 = j + 1 by omega, show j + 1 - 1 = j by omega, mnK]
  unfold minI; split <;> omega
theorem mnK_in {f : Nat → Int} {x : Int} {k m : Nat} (hx : 1 ≤ x ∧ x ≤ 900) (hf : ∀ j, 1 ≤ j → j < m → 2 ≤ f j ∧ f j ≤ 1800) (hk : k ≤ m) : 1 ≤ mnK f x (k - 1) ∧ mnK f x (k - 1) ≤ 900 :=
  ⟨mnK_ge hx.1 _ (fun j h1 h2 => by have := hf j h1 (by omega); omega), Int.le_trans (mnK_le _ _ _) hx.2⟩
structure Idx12 (a b k n : Nat) (q1 i1 d q2 i2 : Nat) : Prop where
  e1 : (k : Int) * ((n : Int) + 1) = (q1 : Int)
  e2 : q1 + b = i1
  e3 : (a : Int) - (k : Int) = (d : Int)
  e4 : (d : Int) * ((n : Int) + 1) = (q2 : Int)
  e5 : q2 + b = i2
  l1 : i1 < (n + 1) * (n + 1)
  l2 : i2 < (n + 1) * (n + 1)
  c1 : i1 = k * (n + 1) + b
  c2 : i2 = (a - k) * (n + 1) + b
theorem idx12 {a b k n : Nat} (ha : a ≤ n) (hb : b ≤ n) (hk : k < a) : ∃ q1 i1 d q2 i2, Idx12 a b k n q1 i1 d q2 i2 :=
  ⟨k * (n + 1), k * (n + 1) + b, a - k, (a - k) * (n + 1), (a - k) * (n + 1) + b, by rw [Int.natCast_mul]; rfl, rfl, by omega, by rw [Int.natCast_mul]; rfl, rfl, idx_lt12 (by omega) hb, idx_lt12 (by omega) hb, rfl, rfl⟩
structure Jdx12 (a b k n : Nat) (q i1 i0 i2 : Nat) : Prop where
  e1 : (a : Int) * ((n : Int) + 1) = (q : Int)
  e2 : q + k = i1
  e3 : q + b = i0
  e4 : (i0 : Int) - (k : Int) = (i2 : Int)
  l1 : i1 < (n + 1) * (n + 1)
  l0 : i0 < (n + 1) * (n + 1)
  l2 : i2 < (n + 1) * (n + 1)
  c1 : i1 = a * (n + 1) + k
  c2 : i2 = a * (n + 1) + (b - k)
theorem jdx12 {a b k n : Nat} (ha : a ≤ n) (hb : b ≤ n) (hk : k < b) : ∃ q i1 i0 i2, Jdx12 a b k n q i1 i0 i2 :=
  ⟨a * (n + 1), a * (n + 1) + k, a * (n + 1) + b, a * (n + 1) + (b - k), by rw [Int.natCast_mul]; rfl, rfl, rfl, by omega, idx_lt12 ha (by omega), idx_lt12 ha hb, idx_lt12 ha (by omega), rfl, rfl⟩
theorem sq961 {n : Nat} (h : n ≤ 30) : (n + 1) * (n + 1) ≤ 961 := Nat.mul_le_mul (show n + 1 ≤ 31 by omega) (show n + 1 ≤ 31 by omega)
set_option maxRecDepth 100000 in
set_option maxHeartbeats 8000000 in
theorem spec_few (w h : Int) (W : World) :
    Calls Try.prog 24 #[.int .i64 w, .int .i64 h] W fun e w' => e = .returned (.int .i64 (fewV w h)) ∧ Below W.heap.size W w' := by
  have H1 := Lib.hid (in_any w 1 30)
  have H2 := Lib.hid (in_any h 1 30)
  cases h1 : inB w 1 30
  · rw [h1] at H1
    have HV : Hid (fewV w h = -1) := by show _ = _; unfold fewV; rw [h1]; rfl
    clear h1
    go_enter Try.func24, Try.ntmps24
    go_wp2_with fail
    refine (H1.out _).mono ?_
    rintro e w1 ⟨rfl, rfl⟩
    go_wp2_with fail
    go_ret
    exact ⟨ret_int HV.out.symm, Below.refl _ _⟩
  cases h2 : inB h 1 30
  · rw [h1] at H1
    rw [h2] at H2
    have HV : Hid (fewV w h = -1) := by show _ = _; unfold fewV; rw [h1, h2]; rfl
    clear h1 h2
    go_enter Try.func24, Try.ntmps24
    go_wp2_with fail
    refine (H1.out _).mono ?_
    rintro e w1 ⟨rfl, rfl⟩
    go_wp2_with fail
    refine (H2.out _).mono ?_
    rintro e w1 ⟨rfl, rfl⟩
    go_wp2_with fail
    go_ret
    exact ⟨ret_int HV.out.symm, Below.refl _ _⟩
  rw [h1] at H1
  rw [h2] at H2
  have hx := inB_spec.1 h1
  have hy := inB_spec.1 h2
  obtain ⟨a, rfl⟩ : ∃ a : Nat, w = a := ⟨w.toNat, by omega⟩
  obtain ⟨b, rfl⟩ : ∃ b : Nat, h = b := ⟨h.toNat, by omega⟩
  have HV : Hid (fewV a b = fw a b) := by show _ = _; unfold fewV; rw [h1, h2]; rfl
  clear h1 h2
  obtain ⟨i0, hi0, hz0, hz1, hz2⟩ := info_parts infoI
  obtain ⟨n, hn⟩ : ∃ n : Nat, n = max a b := ⟨_, rfl⟩
  have em : maxI (a : Int) (b : Int) = (n : Int) := by rw [hn]; unfold maxI; split <;> omega
  have hn1 : 1 ≤ n ∧ n ≤ 30 ∧ a ≤ n ∧ b ≤ n := by omega
  obtain ⟨N, hN⟩ : ∃ N, N = (n + 1) * (n + 1) := ⟨_, rfl⟩
  have hN9 : N ≤ 961 := by rw [hN]; exact sq961 hn1.2.1
  have f1 : ((n : Int) + 1) * ((n : Int) + 1) = (N : Int) := by rw [hN, Int.natCast_mul]; rfl
  have f2 : IntKind.i64.wrap (N : Int) = N := IntWalk.i64_in _ (by omega)
  have hmin : ∀ (w : World) (x y : Int) (ts : Array TypeId) (t : TypeId), (Builtin.min_ ts t #[.int .i64 x, .int .i64 y]).run Try.prog w = .ok (.int .i64 (minI x y)) w := run_minI
  have hmax : ∀ (w : World) (x y : Int) (ts : Array TypeId) (t : TypeId), (Builtin.max_ ts t #[.int .i64 x, .int .i64 y]).run Try.prog w = .ok (.int .i64 (maxI x y)) w := run_maxI
  have hmk : ∀ w, (Instr.makeSlice 22 (.int .i64 (N : Int)) (.int .i64 (N : Int))).run Try.prog w = .ok (.slice (some ⟨w.heap.size, 0, none⟩) N N) (w.alloc (.cells (madeCells #[.int .i64 0] N) 3)) := fun w => by
    have h := run_make (P := Try.prog) w 22 3 i0 _ Try.underlying22 hi0 hz0 .i64 .i64 (N : Int) (N : Int) (by omega) (Int.le_refl _) (by rw [hz2]; omega) (by omega)
    rw [hz1] at h
    simpa [Value.cells, Nat.mul_one] using h
  have HNN := Lib.hid hN
  clear hN hn
  go_enter Try.func24, Try.ntmps24
  go_wp2_with fail
  refine (H1.out _).mono ?_
  rintro e w1 ⟨rfl, rfl⟩
  go_wp2_with fail
  refine (H2.out _).mono ?_
  rintro e w2 ⟨rfl, rfl⟩
  have own0 := World.ownsRow_lit (base := w2.heap.size) (e := 3) (size := 1) w2 (madeCells #[.int .i64 0] N) N (Nat.le_refl _) (by unfold maxLen; omega) ((size_madeCells _ _).trans (Nat.mul_one _).symm)
  have hb0 := below1 w2 (.cells (madeCells #[.int .i64 0] N) 3)
  have HT0 : Hid (TabF n (madeCells #[.int .i64 0] N).toList (fun a b => a + b < 2)) := ⟨by rw [Array.length_toList, size_madeCells]; simp [HNN.out], fun c d h1 _ h3 _ h5 => absurd h5 (by omega)⟩
  go_wp2_with fail
  generalize (madeCells #[.int .i64 0] N).toList = zs at *
  generalize w2.alloc (.cells (madeCells #[.int .i64 0] N) 3) = w3 at *
  obtain ⟨g, hg⟩ : ∃ g, g = w2.heap.size := ⟨_, rfl⟩
  rw [← hg] at own0 ⊢
  have HG := Lib.hid hg
  clear hg hmk hmax em H1 H2
  go_loopw [7, 8, 9, 10, 11, 12] (fun i _ _ _ _ _ wr => ∃ (s : Nat) (xs : List Value), 2 ≤ s ∧ s ≤ 2 * n + 1 ∧ i = .int .i64 s ∧ Hid (TabF n xs (fun a b => a + b < s)) ∧ wr.ownsRow g 3 1 (.slice (some ⟨g, 0, none⟩) N N) N xs ∧ Below w2.heap.size w2 wr) (fun i _ _ _ _ _ _ => 2 * n + 1 - (intOf i).toNat)
  case atStart => exact ⟨2, zs, by omega, by omega, rfl, HT0, own0, hb0⟩
  case round =>
    obtain ⟨wo, rfl⟩ : ∃ wo : World, wo = wr := ⟨_, rfl⟩
    clear own0 hb0 HT0
    obtain ⟨s, xs, hs2, hsn, rfl, HT, own, hb⟩ := hrel
    by_cases hlt : s ≤ 2 * n
    · obtain ⟨a0, ha0⟩ : ∃ a0, a0 = if n + 1 ≤ s then s - n else 1 := ⟨_, rfl⟩
      obtain ⟨a9, ha9⟩ : ∃ a9, a9 = if s ≤ n + 1 then s - 1 else n := ⟨_, rfl⟩
      have em1 := max_s ha0
      have em9 := min_s (s := s) (by omega) ha9
      have hmax : ∀ (w : World) (x y : Int) (ts : Array TypeId) (t : TypeId), (Builtin.max_ ts t #[.int .i64 x, .int .i64 y]).run Try.prog w = .ok (.int .i64 (maxI x y)) w := run_maxI
      have hA : 1 ≤ a0 ∧ a0 ≤ a9 + 1 ∧ a9 ≤ n ∧ a9 < s ∧ s ≤ a0 + n := by
        constructor
        · split at ha0 <;> omega
        · split at ha0 <;> split at ha9 <;> omega
      have HA9 : Hid (∀ c d, 1 ≤ c → c ≤ n → 1 ≤ d → d ≤ n → c + d = s → a0 ≤ c ∧ c ≤ a9) := fun c d h1 h2 h3 h4 h5 => by
        split at ha0 <;> split at ha9 <;> omega
      have HT2 : Hid (TabF n xs (fun c d => c + d < s ∨ (c + d = s ∧ c < a0))) := ⟨HT.out.1, fun c d h1 h2 h3 h4 h5 => HT.out.2 c d h1 h2 h3 h4 (by
        rcases h5 with h5 | ⟨h5, h6⟩
        · exact h5
        · have := HA9.out c d h1 h2 h3 h4 h5; omega)⟩
      obtain ⟨T, hT⟩ : ∃ T : Nat, T = 2 * n := ⟨_, rfl⟩
      have hl2 : 2 * (n : Int) = (T : Int) := by omega
      have hsT : s ≤ T := by omega
      have hT60 : T ≤ 60 := by omega
      have HTT := Lib.hid hT
      clear ha0 ha9 HT hT
      go_wp2_with fail
      clear em1 hmax
      go_loopw [8, 9, 10, 11, 12] (fun i _ _ _ _ wr => ∃ (c : Nat) (xs : List Value), a0 ≤ c ∧ c ≤ a9 + 1 ∧ i = .int .i64 c ∧ Hid (TabF n xs (fun p q => p + q < s ∨ (p + q = s ∧ p < c))) ∧ wr.ownsRow g 3 1 (.slice (some ⟨g, 0, none⟩) N N) N xs ∧ Below w2.heap.size w2 wr) (fun i _ _ _ _ _ => a9 + 1 - (intOf i).toNat)
      case atStart => exact ⟨a0, xs, Nat.le_refl _, hA.2.1, rfl, HT2, own, hb⟩
      case round =>
        obtain ⟨wp, rfl⟩ : ∃ wp : World, wp = wr := ⟨_, rfl⟩
        clear own hb HT2
        obtain ⟨c, xs, hc0, hc9, rfl, HT, own, hb⟩ := hrel
        by_cases hcl : c ≤ a9
        · obtain ⟨d, hd⟩ : ∃ d, d = s - c := ⟨_, rfl⟩
          have hsub : (s : Int) - (c : Int) = (d : Int) := by omega
          have hd1 : 1 ≤ d ∧ d ≤ n := by omega
          have hc1 : 1 ≤ c ∧ c ≤ n := by omega
          have hsd : c + d = s := by omega
          obtain ⟨x0, hx0⟩ : ∃ x0, x0 = fwX c d := ⟨_, rfl⟩
          have hxin := fwX_in (a := c) (b := d) (by omega) (by omega)
          rw [← hx0] at hxin
          have HX0 := Lib.hid hx0
          obtain ⟨p0, hp0⟩ : ∃ p0, p0 = c * d := ⟨_, rfl⟩
          have hpb : p0 ≤ 900 := by rw [hp0]; exact Nat.mul_le_mul (show c ≤ 30 by omega) (show d ≤ 30 by omega)
          have hcd0 : (c : Int) * (d : Int) = (p0 : Int) := by rw [hp0, Int.natCast_mul]
          have hcd : ¬ c = d → (p0 : Int) = x0 := fun h => by rw [hx0, fwX, if_neg h, hp0]
          have hcd1 : c = d → x0 = 1 := fun h => by rw [hx0, fwX, if_pos h]
          clear hp0
          have HM : Hid (mnK (fwB c d) (mnK (fwA c d) x0 (c - 1)) (d - 1) = fw c d) := by
            show _ = _
            rw [hx0]; exact fw_model hc1.1 hd1.1
          have HTA : Hid (∀ k, 1 ≤ k → k < c → xs[k * (n + 1) + d]? = some (.int .i64 (fw k d)) ∧ xs[(c - k) * (n + 1) + d]? = some (.int .i64 (fw (c - k) d))) := fun k h1 h2 =>
            ⟨HT.out.2 k d h1 (by omega) hd1.1 hd1.2 (.inl (by omega)), HT.out.2 (c - k) d (by omega) (by omega) hd1.1 hd1.2 (.inl (by omega))⟩
          have HTB : Hid (∀ k, 1 ≤ k → k < d → xs[c * (n + 1) + k]? = some (.int .i64 (fw c k)) ∧ xs[c * (n + 1) + (d - k)]? = some (.int .i64 (fw c (d - k)))) := fun k h1 h2 =>
            ⟨HT.out.2 c k hc1.1 hc1.2 h1 (by omega) (.inl (by omega)), HT.out.2 c (d - k) hc1.1 hc1.2 (by omega) (by omega) (.inl (by omega))⟩
          have HFA : Hid (∀ k, 1 ≤ k → k < c → 2 ≤ fwA c d k ∧ fwA c d k ≤ 1800) := fun k h1 h2 => fwA_in (by omega) (by omega) h1 h2
          have HFB : Hid (∀ k, 1 ≤ k → k < d → 2 ≤ fwB c d k ∧ fwB c d k ≤ 1800) := fun k h1 h2 => fwB_in (by omega) (by omega) h1 h2
          clear hd hx0
          go_upto_if 56 with (fail)
          go_cut [10] (fun x wx => x = .int .i64 x0 ∧ wx = wp)
          case first =>
            by_cases he : c = d
            · obtain rfl := hcd1 he
              clear hcd hcd1
              subst he
              go_wp2_with fail
              go_meet
              case rel => exact ⟨rfl, by first | trivial | rfl⟩
            · have hne : ((c : Int) == (d : Int)) = false := by rw [beq_eq_false_iff_ne]; omega
              have hcc := Lib.hid (hcd he)
              clear hcd hcd1
              go_wp2_with fail
              go_meet
              case rel => exact ⟨by rw [hcc.out], by first | trivial | rfl⟩
          case rest =>
            obtain ⟨rfl, rfl⟩ := hcut
            clear hcd hcd1 hcd0 hpb
            have gn : IntKind.i64.wrap ((n : Int) + 1) = (n : Int) + 1 := IntWalk.i64_in _ (by omega)
            go_wp2_with fail
            go_loopw [10, 11] (fun x i wr => ∃ (k : Nat) (v : Int), 1 ≤ k ∧ k ≤ c ∧ i = .int .i64 k ∧ x = .int .i64 v ∧ 1 ≤ v ∧ v ≤ 900 ∧ Hid (v = mnK (fwA c d) x0 (k - 1)) ∧ wr.ownsRow g 3 1 (.slice (some ⟨g, 0, none⟩) N N) N xs ∧ Below w2.heap.size w2 wr) (fun _ i _ => c - (intOf i).toNat)
            case atStart => exact ⟨1, x0, by omega, by omega, rfl, rfl, hxin.1, hxin.2, rfl, own, hb⟩
            case round =>
              obtain ⟨wq, rfl⟩ : ∃ wq : World, wq = wr := ⟨_, rfl⟩
              clear own hb
              obtain ⟨k, v, hk1, hkc, rfl, rfl, hv1, hv9, HV2, own, hb⟩ := hrel
              by_cases hkl : k < c
              · obtain ⟨q1, i1, r, q2, i2, ix⟩ := idx12 (b := d) hc1.2 hd1.2 hkl
                obtain ⟨t1, t2⟩ := HTA.out k hk1 hkl
                rw [← ix.c1] at t1
                rw [← ix.c2] at t2
                have l1 : i1 < N := by rw [HNN.out]; exact ix.l1
                have l2 : i2 < N := by rw [HNN.out]; exact ix.l2
                have p1 := (own.cellAt i1 (by omega)).trans t1
                have p2 := (own.cellAt i2 (by omega)).trans t2
                have e1 := ix.e1; have e3 := ix.e3; have e4 := ix.e4
                have e2 : (q1 : Int) + (d : Int) = (i1 : Int) := by have := ix.e2; omega
                have e5 : (q2 : Int) + (d : Int) = (i2 : Int) := by have := ix.e5; omega
                have hf := HFA.out k hk1 hkl
                have hms := minK_step (f := fwA c d) (x := x0) hk1 (y := fw k d + fw (c - k) d) rfl
                rw [← HV2.out] at hms
                have hin2 := mnK_in (f := fwA c d) (k := k + 1) (m := c) hxin HFA.out (by omega)
                have y1 := fw_one hk1 hd1.1; have y2 := fw_one (a := c - k) (b := d) (by omega) hd1.1
                have hfe : fwA c d k = fw k d + fw (c - k) d := rfl
                rw [hfe] at hf
                clear t1 t2 ix HV2 hfe
                generalize fw k d = z1 at *
                generalize fw (c - k) d = z2 at *
                obtain ⟨v2, hv2⟩ : ∃ v2, v2 = mnK (fwA c d) x0 (k + 1 - 1) := ⟨_, rfl⟩
                have HV3 := Lib.hid hv2
                rw [← hv2] at hms hin2
                clear hv2
                have g1 : IntKind.i64.wrap (q1 : Int) = q1 := IntWalk.i64_in _ (by omega)
                have g2 : IntKind.i64.wrap (q2 : Int) = q2 := IntWalk.i64_in _ (by omega)
                have g3 : IntKind.i64.wrap (i1 : Int) = i1 := IntWalk.i64_in _ (by omega)
                have g4 : IntKind.i64.wrap (i2 : Int) = i2 := IntWalk.i64_in _ (by omega)
                have g5 : IntKind.i64.wrap (r : Int) = r := IntWalk.i64_in _ (by omega)
                have g6 : IntKind.i64.wrap (z1 + z2) = z1 + z2 := IntWalk.i64_in _ (by omega)
                have k1 := cell_regrown p1; have k2 := cell_regrown p2
                have j1 : (i1 : Int) < (N : Int) := by omega
                have j2 : (i2 : Int) < (N : Int) := by omega
                go_wp2_with fail
                refine wp_region_quiet_below (by kernel_rfl) (by kernel_rfl) ?_
                repeat (first
                  | go_big_quiet_step (fail)
                  | quiet_step (fail))
                refine wpQuiet_nil ?_
                rintro _ ⟨⟨dq, osq⟩, rfl⟩
                have hg := below_regrown wq dq osq
                have ownq := own_below own hg
                have hbq := below_on hb hg
                simp only at *
                generalize Go.Sort.grow (redrawn wq dq) osq = w9 at *
                clear k1 k2 p1 p2 own hb hg hms hf e1 e2 e3 e4 e5 g1 g2 g3 g4 g5 g6 j1 j2
                go_wp2_with fail
                go_roundw
                case rel => exact ⟨k + 1, v2, by omega, by omega, by go_num, by go_num, hin2.1, hin2.2, HV3, ownq, hbq⟩
                case measure => simp [intOf]; omega
              · obtain rfl : k = c := by omega
                have HVA : Hid (v = mnK (fwA k d) x0 (k - 1)) := HV2
                obtain ⟨vA, hvA⟩ : ∃ vA, vA = v := ⟨_, rfl⟩
                have HVA2 : Hid (vA = mnK (fwA k d) x0 (k - 1)) := by show _ = _; rw [hvA]; exact HVA.out
                have hvb : 1 ≤ vA ∧ vA ≤ 900 := by rw [hvA]; exact ⟨hv1, hv9⟩
                have HVX : Hid (v = vA) := hvA.symm
                rw [← HVA2.out] at HM
                clear HV2 HVA hvA HTA HFA hkc hkl
                go_wp2_with fail
                go_loopw [10, 12] (fun x i wr => ∃ (j : Nat) (v : Int), 1 ≤ j ∧ j ≤ d ∧ i = .int .i64 j ∧ x = .int .i64 v ∧ 1 ≤ v ∧ v ≤ 900 ∧ Hid (v = mnK (fwB k d) vA (j - 1)) ∧ wr.ownsRow g 3 1 (.slice (some ⟨g, 0, none⟩) N N) N xs ∧ Below w2.heap.size w2 wr) (fun _ i _ => d - (intOf i).toNat)
                case atStart => exact ⟨1, v, by omega, by omega, rfl, rfl, hv1, hv9, HVX, own, hb⟩
                case round =>
                  obtain ⟨wm, rfl⟩ : ∃ wm : World, wm = wr := ⟨_, rfl⟩
                  clear own hb HVX hv1 hv9
                  obtain ⟨j, v, hj1, hjd, rfl, rfl, hv1, hv9, HV2, own, hb⟩ := hrel
                  by_cases hjl : j < d
                  · obtain ⟨q, i1, i0, i2, ix⟩ := jdx12 (n := n) hc1.2 hd1.2 hjl
                    obtain ⟨t1, t2⟩ := HTB.out j hj1 hjl
                    rw [← ix.c1] at t1
                    rw [← ix.c2] at t2
                    have l1 : i1 < N := by rw [HNN.out]; exact ix.l1
                    have l0 : i0 < N := by rw [HNN.out]; exact ix.l0
                    have l2 : i2 < N := by rw [HNN.out]; exact ix.l2
                    have p1 := (own.cellAt i1 (by omega)).trans t1
                    have p2 := (own.cellAt i2 (by omega)).trans t2
                    have e1 := ix.e1; have e4 := ix.e4
                    have e2 : (q : Int) + (j : Int) = (i1 : Int) := by have := ix.e2; omega
                    have e5 : (q : Int) + (d : Int) = (i0 : Int) := by have := ix.e3; omega
                    have hf := HFB.out j hj1 hjl
                    have hms := minK_step (f := fwB k d) (x := vA) hj1 (y := fw k j + fw k (d - j)) rfl
                    rw [← HV2.out] at hms
                    have hin2 := mnK_in (f := fwB k d) (k := j + 1) (m := d) hvb HFB.out (by omega)
                    have y1 := fw_one (a := k) hc1.1 hj1; have y2 := fw_one (a := k) (b := d - j) hc1.1 (by omega)
                    have hfe : fwB k d j = fw k j + fw k (d - j) := rfl
                    rw [hfe] at hf
                    clear t1 t2 ix HV2 hfe
                    generalize fw k j = z1 at *
                    generalize fw k (d - j) = z2 at *
                    obtain ⟨v2, hv2⟩ : ∃ v2, v2 = mnK (fwB k d) vA (j + 1 - 1) := ⟨_, rfl⟩
                    have HV3 := Lib.hid hv2
                    rw [← hv2] at hms hin2
                    clear hv2
                    have g1 : IntKind.i64.wrap (q : Int) = q := IntWalk.i64_in _ (by omega)
                    have g3 : IntKind.i64.wrap (i1 : Int) = i1 := IntWalk.i64_in _ (by omega)
                    have g4 : IntKind.i64.wrap (i2 : Int) = i2 := IntWalk.i64_in _ (by omega)
                    have g5 : IntKind.i64.wrap (i0 : Int) = i0 := IntWalk.i64_in _ (by omega)
                    have g6 : IntKind.i64.wrap (z1 + z2) = z1 + z2 := IntWalk.i64_in _ (by omega)
                    have k1 := cell_regrown p1; have k2 := cell_regrown p2
                    have j1 : (i1 : Int) < (N : Int) := by omega
                    have j2 : (i2 : Int) < (N : Int) := by omega
                    go_wp2_with fail
                    refine wp_region_quiet_below (by kernel_rfl) (by kernel_rfl) ?_
                    repeat (first
                      | go_big_quiet_step (fail)
                      | quiet_step (fail))
                    refine wpQuiet_nil ?_
                    rintro _ ⟨⟨dq, osq⟩, rfl⟩
                    have hg := below_regrown wm dq osq
                    have ownq := own_below own hg
                    have hbq := below_on hb hg
                    simp only at *
                    generalize Go.Sort.grow (redrawn wm dq) osq = w9 at *
                    clear k1 k2 p1 p2 own hb hg hms hf e1 e2 e4 e5 g1 g3 g4 g5 g6 j1 j2
                    go_wp2_with fail
                    go_roundw
                    case rel => exact ⟨j + 1, v2, by omega, by omega, by go_num, by go_num, hin2.1, hin2.2, HV3, ownq, hbq⟩
                    case measure => simp [intOf]; omega
                  · obtain rfl : j = d := by omega
                    have hvf : v = fw k j := by rw [HV2.out]; exact HM.out
                    have HT4 : Hid (TabF n (xs.set (k * (n + 1) + j) (.int .i64 (fw k j))) (fun p q => p + q < s ∨ (p + q = s ∧ p < k + 1))) := HT.out.put hc1.2 hd1.2 (fun c d h => by omega)
                    obtain ⟨i1, hi1⟩ : ∃ i1, i1 = k * (n + 1) + j := ⟨_, rfl⟩
                    obtain ⟨q, hq⟩ : ∃ q, q = k * (n + 1) := ⟨_, rfl⟩
                    have e1 : (k : Int) * ((n : Int) + 1) = (q : Int) := by rw [hq, Int.natCast_mul]; rfl
                    have e2 : (q : Int) + (j : Int) = (i1 : Int) := by omega
                    have l1 : i1 < N := by rw [hi1, HNN.out]; exact idx_lt12 hc1.2 hd1.2
                    rw [← hi1, ← hvf] at HT4
                    have hst := (own.stored i1 (.int .i64 v)).1
                    have hfz := own.frozenAt i1
                    have hlx := own.1
                    obtain ⟨u1, hu1⟩ : ∃ u, wm.cell? ⟨g, i1, none⟩ = some u := ⟨_, (own.cellAt i1 (by omega)).trans (List.getElem?_eq_getElem (by omega))⟩
                    have hbs := hb.setCell (p := ⟨g, i1, none⟩) (by have := HG.out; simp only; omega) (.int .i64 v)
                    have R := Lib.hid (And.intro hst hbs)
                    have g1 : IntKind.i64.wrap (q : Int) = q := IntWalk.i64_in _ (by omega)
                    have j1 : (i1 : Int) < (N : Int) := by omega
                    clear hst hbs own hb hlx hi1 hq hvf HV2 HM HVA2 HT HTB HFB
                    go_wp2_with fail
                    go_roundw
                    case rel => exact ⟨k + 1, _, by omega, by omega, by go_num, HT4, R.out.1, R.out.2⟩
                    case measure => simp [intOf]; omega
        · obtain rfl : c = a9 + 1 := by omega
          have HT3 : Hid (TabF n xs (fun p q => p + q < s + 1)) := ⟨HT.out.1, fun p q h1 h2 h3 h4 h5 => HT.out.2 p q h1 h2 h3 h4 (by
            rcases Nat.lt_or_ge (p + q) s with h6 | h6
            · exact .inl h6
            · refine .inr ⟨by omega, ?_⟩
              have := HA9.out p q h1 h2 h3 h4 (by omega); omega)⟩
          have R := Lib.hid (And.intro own hb)
          clear own hb HT
          go_wp2_with fail
          go_roundw
          case rel => exact ⟨s + 1, xs, by omega, by have := HTT.out; omega, by go_num, HT3, R.out.1, R.out.2⟩
          case measure => have := HTT.out; simp [intOf]; omega
    · obtain ⟨i1, hi1⟩ : ∃ i1, i1 = a * (n + 1) + b := ⟨_, rfl⟩
      obtain ⟨q, hq⟩ : ∃ q, q = a * (n + 1) := ⟨_, rfl⟩
      have e1 : (a : Int) * ((n : Int) + 1) = (q : Int) := by rw [hq, Int.natCast_mul]; rfl
      have e2 : (q : Int) + (b : Int) = (i1 : Int) := by omega
      have l1 : i1 < N := by rw [hi1, HNN.out]; exact idx_lt12 (by omega) (by omega)
      have t1 := HT.out.2 a b (by omega) (by omega) (by omega) (by omega) (by omega)
      rw [← hi1] at t1
      have p1 := (own.cellAt i1 (by omega)).trans t1
      rw [← HV.out] at p1
      obtain ⟨T, hT⟩ : ∃ T : Nat, T = 2 * n := ⟨_, rfl⟩
      have hl2 : 2 * (n : Int) = (T : Int) := by omega
      have hsT : ¬ (s : Int) ≤ (T : Int) := by omega
      have hT60 : T ≤ 60 := by omega
      have g1 : IntKind.i64.wrap (q : Int) = q := IntWalk.i64_in _ (by omega)
      have j1 : (i1 : Int) < (N : Int) := by omega
      have R := Lib.hid hb
      clear own hb HT t1 hi1 hq hT hlt
      obtain ⟨r, hr⟩ : ∃ r, r = fewV a b := ⟨_, rfl⟩
      rw [← hr] at p1
      have HR := Lib.hid hr
      clear hr HV
      go_wp2_with fail
      go_ret
      exact ⟨ret_int HR.out, R.out⟩
end Go.Proofs.Ythoniopkeiifnaa

/-! Tail -/
namespace Go.Proofs.Ythoniopkeiifnaa
open Go.Sort Go.RowKit

section
variable {P : Program} {ops : Array Oper} {md : Region.Mode} {C : World → Prop}
theorem wpAny_of_headQ {m g : Nat} {L : Array Bool → Act → Prop} {Q' : Exit → Act → World → Prop} (hL : ∀ listed a w, C w → L listed a → wpAny P md ops Q' g listed a w) :
    ∀ (f : Nat) (listed : Array Bool) (a : Act) (w : World), C w → wpAnyQL P md ops C m L f listed a → wpAny P md ops Q' (f + g) listed a w
  | 0, listed, a, w, hw, h => by rw [Nat.zero_add]; exact hL _ _ _ hw h
  | f + 1, listed, a, w, hw, h => by
    rw [show f + 1 + g = (f + g) + 1 by omega]
    exact ⟨fun h0 => absurd h0 h.1, fun i hi => wpOp_of_qOp hw (fun a' w' hw' h' => wpAny_of_headQ hL f _ a' w' hw' h') (h.2 i hi).2⟩
/-- **A quiet head of m operations, then a tail in sequence.** -/
theorem region_tail {id : Nat} {Q : Exit → Act → World → Prop} {a : Act} {w : World} {l : List Oper} (m : Nat) (hm : P.follows .mixedOrders = true) (hB : Region.lexTailB .any l.toArray m = true)
    (h : wpQuiet P l.toArray (fun w' => ∃ p : Regrown, w' = grow (redrawn w p.d) p.os) (fun a' => ∀ w', (∃ p : Regrown, w' = grow (redrawn w p.d) p.os) → wpList P l.toArray Q (l.drop m) a' w') (l.take m) a) :
    (Code.region id l.toArray true).wp P Q a w := by
  simp only [Region.lexTailB, Bool.and_eq_true, decide_eq_true_eq] at hB
  obtain ⟨⟨⟨⟨hsel, hn⟩, hs⟩, hc⟩, hlex⟩ := hB
  have hn' : m < l.length := by simpa using hn
  have htl : (l.take m).length = m := by simp; omega
  have hdl : (l.drop m).length = l.toArray.size - m := by simp
  have inv0 : HeadInv .any l.toArray m (Array.replicate l.toArray.size false) :=
    ⟨by simp, fun j oj _ hl => (by rw [getD_replicate_false] at hl; cases hl), fun t _ ht => getD_in (by simpa using ht) (getD_replicate_false _ _)⟩
  have H := wpAnyQL_lex (md := .any) (P := P) (C := fun w' => ∃ p : Regrown, w' = grow (redrawn w p.d) p.os) (g := l.toArray.size - m) hsel hs hc hn (l.take m) 0 _ a (fun j hj => by
    have hj' : j < m := by rw [htl] at hj; exact hj
    simp [hj']) (by simpa using htl) inv0 (by rw [htl]; exact hlex) h
  have hC : ∃ p : Regrown, ({ w with drawn := w.drawn + 1 } : World) = grow (redrawn w p.d) p.os := ⟨⟨w.drawn + 1, #[]⟩, by rw [grow_empty]; rfl⟩
  refine wp_region_any hm ?_
  have := wpAny_of_headQ (Q' := Q) (g := l.toArray.size - m) (fun listed a' w' hw' hL => by
    have := wpAny_of_seq (md := .any) (Q' := Q) (l.drop m) m listed a' w' (fun j => by simp [List.getElem?_drop]) (by rw [hdl]; exact hL.1) (hL.2 w' hw')
    rwa [hdl] at this) _ _ _ _ hC H
  rw [htl, show m + (l.toArray.size - m) = l.toArray.size by omega] at this
  exact this
end
end Go.Proofs.Ythoniopkeiifnaa

/-! FewI12 -/
namespace Go.Proofs.Ythoniopkeiifnaa
open Go.RowKit

/-- What is known of the table in block g. -/
def TabG (w : World) (g : Nat) (P : Nat → Nat → Prop) : Prop := ∀ a b, 1 ≤ a → a ≤ 30 → 1 ≤ b → b ≤ 30 → P a b → w.cell? ⟨g, a * 31 + b, none⟩ = some (.int .i64 (fw a b))
set_option maxRecDepth 100000 in
set_option maxHeartbeats 8000000 in
theorem least_any (g c d : Nat) (W : World) (hc1 : 1 ≤ c ∧ c ≤ 30) (hd1 : 1 ≤ d ∧ d ≤ 30) (hT : TabG W g (fun p q => (p < c ∧ q = d) ∨ (p = c ∧ q < d))) :
    Calls Try.prog 73 #[.pointer (some ⟨g, 0, none⟩), .int .i64 c, .int .i64 d] W fun e w' => e = .returned (.int .i64 (fw c d)) ∧ Below W.heap.size W w' := by
  have hmin : ∀ (w : World) (x y : Int) (ts : Array TypeId) (t : TypeId), (Builtin.min_ ts t #[.int .i64 x, .int .i64 y]).run Try.prog w = .ok (.int .i64 (minI x y)) w := run_minI
  by_cases he : c = d
  · subst he
    have HF : Hid (fw c c = 1) := fw_same hc1.1
    clear hT
    go_enter Try.func73, Try.ntmps73
    go_wp2_with fail
    go_ret
    exact ⟨ret_int HF.out.symm, Below.refl _ _⟩
  · have hne : ((c : Int) == (d : Int)) = false := by rw [beq_eq_false_iff_ne]; omega
    obtain ⟨p0, hp0⟩ : ∃ p0, p0 = c * d := ⟨_, rfl⟩
    have hpb : p0 ≤ 900 := by rw [hp0]; exact Nat.mul_le_mul (show c ≤ 30 by omega) (show d ≤ 30 by omega)
    have hp1 : 1 ≤ p0 := by rw [hp0]; exact Nat.mul_le_mul hc1.1 hd1.1
    have hcd0 : (c : Int) * (d : Int) = (p0 : Int) := by rw [hp0, Int.natCast_mul]
    have HM : Hid (mnK (fwB c d) (mnK (fwA c d) p0 (c - 1)) (d - 1) = fw c d) := by
      show _ = _
      rw [hp0]; exact (fw_ne hc1.1 hd1.1 he).symm
    have HTT := Lib.hid hT
    have HFA : Hid (∀ k, 1 ≤ k → k < c → 2 ≤ fwA c d k ∧ fwA c d k ≤ 1800) := fun k h1 h2 => fwA_in (by omega) (by omega) h1 h2
    have HFB : Hid (∀ k, 1 ≤ k → k < d → 2 ≤ fwB c d k ∧ fwB c d k ≤ 1800) := fun k h1 h2 => fwB_in (by omega) (by omega) h1 h2
    clear he hp0 hT
    go_enter Try.func73, Try.ntmps73
    go_wp2_with fail
    go_loopw [7, 8] (fun x i wr => ∃ (k : Nat) (v : Int), 1 ≤ k ∧ k ≤ c ∧ i = .int .i64 k ∧ x = .int .i64 v ∧ 1 ≤ v ∧ v ≤ 900 ∧ Hid (v = mnK (fwA c d) p0 (k - 1)) ∧ Below W.heap.size W wr) (fun _ i _ => c - (intOf i).toNat)
    case atStart => exact ⟨1, p0, by omega, by omega, rfl, rfl, by omega, by omega, rfl, Below.refl _ _⟩
    case round =>
      obtain ⟨wq, rfl⟩ : ∃ wq : World, wq = wr := ⟨_, rfl⟩
      obtain ⟨k, v, hk1, hkc, rfl, rfl, hv1, hv9, HV2, hb⟩ := hrel
      by_cases hkl : k < c
      · have p1 := cell_on hb rfl (HTT.out k d hk1 (by omega) hd1.1 hd1.2 (.inl ⟨hkl, rfl⟩))
        have p2 := cell_on hb rfl (HTT.out (c - k) d (by omega) (by omega) hd1.1 hd1.2 (.inl ⟨by omega, rfl⟩))
        obtain ⟨r, hr⟩ : ∃ r, r = c - k := ⟨_, rfl⟩
        have e3 : (c : Int) - (k : Int) = (r : Int) := by omega
        have hr1 : 1 ≤ r ∧ r ≤ 30 := by omega
        have hf := HFA.out k hk1 hkl
        have hms := minK_step (f := fwA c d) (x := p0) hk1 (y := fw k d + fw (c - k) d) rfl
        rw [← HV2.out] at hms
        have hin2 := mnK_in (f := fwA c d) (x := p0) (k := k + 1) (m := c) (by omega) HFA.out (by omega)
        have y1 := fw_one hk1 hd1.1; have y2 := fw_one (a := c - k) (b := d) (by omega) hd1.1
        have hfe : fwA c d k = fw k d + fw (c - k) d := rfl
        rw [hfe] at hf
        rw [← hr] at p2 hf hms y2
        clear HV2 hfe hr
        generalize fw k d = z1 at *
        generalize fw r d = z2 at *
        obtain ⟨v2, hv2⟩ : ∃ v2, v2 = mnK (fwA c d) p0 (k + 1 - 1) := ⟨_, rfl⟩
        have HV3 := Lib.hid hv2
        rw [← hv2] at hms hin2
        clear hv2
        have g5 : IntKind.i64.wrap (r : Int) = r := IntWalk.i64_in _ (by omega)
        have g6 : IntKind.i64.wrap (z1 + z2) = z1 + z2 := IntWalk.i64_in _ (by omega)
        have k1 := cell_regrown p1; have k2 := cell_regrown p2
        have j1 : (k : Int) < 31 := by omega
        have j2 : (r : Int) < 31 := by omega
        have j3 : (d : Int) < 31 := by omega
        go_wp2_with fail
        refine wp_region_quiet_below (by kernel_rfl) (by kernel_rfl) ?_
        repeat (first
          | go_big_quiet_step (fail)
          | quiet_step (fail))
        refine wpQuiet_nil ?_
        rintro _ ⟨⟨dq, osq⟩, rfl⟩
        have hg := below_regrown wq dq osq
        have hbq := below_on hb hg
        simp only at *
        generalize Go.Sort.grow (redrawn wq dq) osq = w9 at *
        clear k1 k2 p1 p2 hb hg hms hf e3 g5 g6 j1 j2 j3
        go_wp2_with fail
        go_roundw
        case rel => exact ⟨k + 1, v2, by omega, by omega, by go_num, by go_num, hin2.1, hin2.2, HV3, hbq⟩
        case measure => simp [intOf]; omega
      · obtain rfl : k = c := by omega
        obtain ⟨vA, hvA⟩ : ∃ vA, vA = v := ⟨_, rfl⟩
        have HVA2 : Hid (vA = mnK (fwA k d) p0 (k - 1)) := by show _ = _; rw [hvA]; exact HV2.out
        have hvb : 1 ≤ vA ∧ vA ≤ 900 := by rw [hvA]; exact ⟨hv1, hv9⟩
        have HVX : Hid (v = vA) := hvA.symm
        rw [← HVA2.out] at HM
        clear HV2 hvA HFA hkc hkl
        go_wp2_with fail
        go_loopw [7, 9] (fun x i wr => ∃ (j : Nat) (v : Int), 1 ≤ j ∧ j ≤ d ∧ i = .int .i64 j ∧ x = .int .i64 v ∧ 1 ≤ v ∧ v ≤ 900 ∧ Hid (v = mnK (fwB k d) vA (j - 1)) ∧ Below W.heap.size W wr) (fun _ i _ => d - (intOf i).toNat)
        case atStart => exact ⟨1, v, by omega, by omega, rfl, rfl, hv1, hv9, HVX, hb⟩
        case round =>
          obtain ⟨wm, rfl⟩ : ∃ wm : World, wm = wr := ⟨_, rfl⟩
          clear hb HVX hv1 hv9
          obtain ⟨j, v, hj1, hjd, rfl, rfl, hv1, hv9, HV2, hb⟩ := hrel
          by_cases hjl : j < d
          · have p1 := cell_on hb rfl (HTT.out k j hc1.1 hc1.2 hj1 (by omega) (.inr ⟨rfl, hjl⟩))
            have p2 := cell_on hb rfl (HTT.out k (d - j) hc1.1 hc1.2 (by omega) (by omega) (.inr ⟨rfl, by omega⟩))
            obtain ⟨r, hr⟩ : ∃ r, r = d - j := ⟨_, rfl⟩
            have e3 : (d : Int) - (j : Int) = (r : Int) := by omega
            have hr1 : 1 ≤ r ∧ r ≤ 30 := by omega
            have hf := HFB.out j hj1 hjl
            have hms := minK_step (f := fwB k d) (x := vA) hj1 (y := fw k j + fw k (d - j)) rfl
            rw [← HV2.out] at hms
            have hin2 := mnK_in (f := fwB k d) (k := j + 1) (m := d) hvb HFB.out (by omega)
            have y1 := fw_one (a := k) hc1.1 hj1; have y2 := fw_one (a := k) (b := d - j) hc1.1 (by omega)
            have hfe : fwB k d j = fw k j + fw k (d - j) := rfl
            rw [hfe] at hf
            rw [← hr] at p2 hf hms y2
            clear HV2 hfe hr
            generalize fw k j = z1 at *
            generalize fw k r = z2 at *
            obtain ⟨v2, hv2⟩ : ∃ v2, v2 = mnK (fwB k d) vA (j + 1 - 1) := ⟨_, rfl⟩
            have HV3 := Lib.hid hv2
            rw [← hv2] at hms hin2
            clear hv2
            have g5 : IntKind.i64.wrap (r : Int) = r := IntWalk.i64_in _ (by omega)
            have g6 : IntKind.i64.wrap (z1 + z2) = z1 + z2 := IntWalk.i64_in _ (by omega)
            have k1 := cell_regrown p1; have k2 := cell_regrown p2
            have j1 : (k : Int) < 31 := by omega
            have j2 : (r : Int) < 31 := by omega
            have j3 : (j : Int) < 31 := by omega
            go_wp2_with fail
            refine wp_region_quiet_below (by kernel_rfl) (by kernel_rfl) ?_
            repeat (first
              | go_big_quiet_step (fail)
              | quiet_step (fail))
            refine wpQuiet_nil ?_
            rintro _ ⟨⟨dq, osq⟩, rfl⟩
            have hg := below_regrown wm dq osq
            have hbq := below_on hb hg
            simp only at *
            generalize Go.Sort.grow (redrawn wm dq) osq = w9 at *
            clear k1 k2 p1 p2 hb hg hms hf e3 g5 g6 j1 j2 j3
            go_wp2_with fail
            go_roundw
            case rel => exact ⟨j + 1, v2, by omega, by omega, by go_num, by go_num, hin2.1, hin2.2, HV3, hbq⟩
            case measure => simp [intOf]; omega
          · obtain rfl : j = d := by omega
            have R : Hid (v = fw k j) := by show _ = _; rw [HV2.out]; exact HM.out
            clear HV2 HM
            go_wp2_with fail
            go_ret
            exact ⟨ret_int R.out, hb⟩
theorem zeroC12 : Try.zeroCells69.size = 961 := by kernel_rfl
/-- The table of the program in block g. -/
def Cnt12 (w : World) (g : Nat) (P : Nat → Nat → Prop) : Prop := ∃ xs : Array Value, xs.size = 961 ∧ w.heap[g]? = some (.cells xs 69 (0, 0)) ∧ ∀ a b, 1 ≤ a → a ≤ 30 → 1 ≤ b → b ≤ 30 → P a b → xs[a * 31 + b]? = some (.int .i64 (fw a b))
theorem Cnt12.tab {w : World} {g : Nat} {P : Nat → Nat → Prop} (h : Cnt12 w g P) : TabG w g P := fun a b h1 h2 h3 h4 h5 => by
  obtain ⟨xs, -, h7, h8⟩ := h
  exact (cell_of_row w g _ _ _ _ h7).trans (h8 a b h1 h2 h3 h4 h5)
theorem Cnt12.lt {w : World} {g : Nat} {P : Nat → Nat → Prop} (h : Cnt12 w g P) : g < w.heap.size := by
  obtain ⟨xs, -, h7, -⟩ := h
  exact (Array.getElem?_eq_some_iff.1 h7).1
theorem Cnt12.on {w w' : World} {g : Nat} {P : Nat → Nat → Prop} (h : Cnt12 w g P) (hb : Below w.heap.size w w') : Cnt12 w' g P := by
  have hl := h.lt
  obtain ⟨xs, h6, h7, h8⟩ := h
  exact ⟨xs, h6, (hb.block g hl).trans h7, h8⟩
theorem Cnt12.weak {w : World} {g : Nat} {P P' : Nat → Nat → Prop} (h : Cnt12 w g P) (hP : ∀ a b, b ≤ 30 → P' a b → P a b) : Cnt12 w g P' := by
  obtain ⟨xs, h6, h7, h8⟩ := h
  exact ⟨xs, h6, h7, fun a b h1 h2 h3 h4 h5 => h8 a b h1 h2 h3 h4 (hP a b h4 h5)⟩
theorem Cnt12.put {w : World} {g : Nat} {P P' : Nat → Nat → Prop} {a b : Nat} (h : Cnt12 w g P) (ha : a ≤ 30) (hb : b ≤ 30) (hP : ∀ c d, P' c d → P c d ∨ (c = a ∧ d = b)) : Cnt12 (w.setCell ⟨g, a * 31 + b, none⟩ (.int .i64 (fw a b))) g P' := by
  obtain ⟨xs, h6, h7, h8⟩ := h
  refine ⟨xs.setIfInBounds (a * 31 + b) (.int .i64 (fw a b)), by rw [Array.size_setIfInBounds]; exact h6, heap_setCell_same w g _ _ _ _ h7, fun c d h1 h2 h3 h4 h5 => ?_⟩
  rw [Array.getElem?_setIfInBounds]
  by_cases e : a * 31 + b = c * 31 + d
  · obtain ⟨rfl, rfl⟩ := idx_inj12 (n := 30) hb h4 e
    rw [if_pos rfl, if_pos (by omega)]
  · rw [if_neg e]
    rcases hP c d h5 with h9 | ⟨rfl, rfl⟩
    · exact h8 c d h1 h2 h3 h4 h9
    · exact absurd rfl e
theorem Cnt12.some {w : World} {g : Nat} {P : Nat → Nat → Prop} (h : Cnt12 w g P) {k : Nat} (hk : k < 961) : (∃ u, w.cell? ⟨g, k, none⟩ = some u) ∧ w.frozen? ⟨g, k, none⟩ = false := by
  obtain ⟨xs, h6, h7, -⟩ := h
  exact ⟨⟨_, (cell_of_row w g k _ _ _ h7).trans (Array.getElem?_eq_getElem (by omega))⟩, frozen_of_row w g k _ _ h7⟩
set_option maxRecDepth 100000 in
set_option maxHeartbeats 8000000 in
theorem impl_few (w h : Int) (W : World) :
    Calls Try.prog 25 #[.int .i64 w, .int .i64 h] W fun e w' => e = .returned (.int .i64 (fewV w h)) ∧ Below W.heap.size W w' := by
  have H1 := Lib.hid (from_any w 1 30)
  have H2 := Lib.hid (from_any h 1 30)
  cases h1 : inB w 1 30
  · rw [h1] at H1
    have HV : Hid (fewV w h = -1) := by show _ = _; unfold fewV; rw [h1]; rfl
    clear h1
    go_enter Try.func25, Try.ntmps25
    go_wp2_with fail
    refine (H1.out _).mono ?_
    rintro e w1 ⟨rfl, rfl⟩
    go_wp2_with fail
    go_ret
    exact ⟨ret_int HV.out.symm, Below.refl _ _⟩
  cases h2 : inB h 1 30
  · rw [h1] at H1
    rw [h2] at H2
    have HV : Hid (fewV w h = -1) := by show _ = _; unfold fewV; rw [h1, h2]; rfl
    clear h1 h2
    go_enter Try.func25, Try.ntmps25
    go_wp2_with fail
    refine (H1.out _).mono ?_
    rintro e w1 ⟨rfl, rfl⟩
    go_wp2_with fail
    refine (H2.out _).mono ?_
    rintro e w1 ⟨rfl, rfl⟩
    go_wp2_with fail
    go_ret
    exact ⟨ret_int HV.out.symm, Below.refl _ _⟩
  rw [h1] at H1
  rw [h2] at H2
  have hx := inB_spec.1 h1
  have hy := inB_spec.1 h2
  obtain ⟨a, rfl⟩ : ∃ a : Nat, w = a := ⟨w.toNat, by omega⟩
  obtain ⟨b, rfl⟩ : ∃ b : Nat, h = b := ⟨h.toNat, by omega⟩
  have HV : Hid (fewV a b = fw a b) := by show _ = _; unfold fewV; rw [h1, h2]; rfl
  clear h1 h2
  go_enter Try.func25, Try.ntmps25
  go_wp2_with fail
  refine (H1.out _).mono ?_
  rintro e w1 ⟨rfl, rfl⟩
  go_wp2_with fail
  refine (H2.out _).mono ?_
  rintro e w2 ⟨rfl, rfl⟩
  have hc0 : Cnt12 (w2.alloc (.cells Try.zeroCells69 69)) w2.heap.size (fun p _ => p < 1) := ⟨_, zeroC12, heap_alloc_new w2 _, fun c d h1 _ _ _ h5 => absurd h5 (by omega)⟩
  have hb0 := below1 w2 (.cells Try.zeroCells69 69)
  clear H1 H2
  go_wp2_with fail
  generalize w2.alloc (.cells Try.zeroCells69 69) = w3 at *
  obtain ⟨g, hg⟩ : ∃ g, g = w2.heap.size := ⟨_, rfl⟩
  rw [← hg] at hc0 ⊢
  have HG := Lib.hid hg
  clear hg
  go_loopw [6, 7] (fun i _ wr => ∃ v : Nat, 1 ≤ v ∧ v ≤ a + 1 ∧ i = .int .i64 v ∧ Cnt12 wr g (fun p q => p < v ∧ q ≤ b) ∧ Below w2.heap.size w2 wr) (fun i _ _ => a + 1 - (intOf i).toNat)
  case atStart => exact ⟨1, by omega, by omega, rfl, hc0.weak (fun p q _ h => h.1), hb0⟩
  case round =>
    obtain ⟨wo, rfl⟩ : ∃ wo : World, wo = wr := ⟨_, rfl⟩
    clear hc0 hb0
    obtain ⟨v, hv1, hva, rfl, hc, hb⟩ := hrel
    by_cases hlt : v ≤ a
    · have hc2 : Cnt12 wo g (fun p q => (p < v ∧ q ≤ b) ∨ (p = v ∧ q < 1)) := by
        obtain ⟨xs, h6, h7, h8⟩ := hc
        refine ⟨xs, h6, h7, fun p q h1 h2 h3 h4 h5 => h8 p q h1 h2 h3 h4 ?_⟩
        rcases h5 with h5 | h5
        · exact h5
        · omega
      go_wp2_with fail
      go_loopw [7] (fun i wr => ∃ u : Nat, 1 ≤ u ∧ u ≤ b + 1 ∧ i = .int .i64 u ∧ Cnt12 wr g (fun p q => (p < v ∧ q ≤ b) ∨ (p = v ∧ q < u)) ∧ Below w2.heap.size w2 wr) (fun i _ => b + 1 - (intOf i).toNat)
      case atStart => exact ⟨1, by omega, by omega, rfl, hc2, hb⟩
      case round =>
        obtain ⟨wp, rfl⟩ : ∃ wp : World, wp = wr := ⟨_, rfl⟩
        clear hc hc2 hb
        obtain ⟨u, hu1, hub, rfl, hc, hb⟩ := hrel
        by_cases hul : u ≤ b
        · have HL : Hid (∀ (d : Nat) (os : Array Obj), Calls Try.prog 73 #[.pointer (some ⟨g, 0, none⟩), .int .i64 v, .int .i64 u] (Go.Sort.grow (redrawn wp d) os) fun e w' => e = .returned (.int .i64 (fw v u)) ∧ Below (Go.Sort.grow (redrawn wp d) os).heap.size (Go.Sort.grow (redrawn wp d) os) w') := fun d os =>
            least_any g v u _ (by omega) (by omega) ((hc.on (below_regrown wp d os)).weak (P' := fun p q => (p < v ∧ q = u) ∨ (p = v ∧ q < u)) (fun p q _ h => by omega)).tab
          have HC2 : Hid (∀ w', Below wp.heap.size wp w' → Cnt12 (w'.setCell ⟨g, v * 31 + u, none⟩ (.int .i64 (fw v u))) g (fun p q => (p < v ∧ q ≤ b) ∨ (p = v ∧ q < u + 1)) ∧ Below w2.heap.size w2 (w'.setCell ⟨g, v * 31 + u, none⟩ (.int .i64 (fw v u)))) := fun w' hw =>
            ⟨(hc.on hw).put (by omega) (by omega) (fun c d h => by omega), (below_on hb hw).setCell (p := ⟨g, v * 31 + u, none⟩) (by have := HG.out; simp only; omega) _⟩
          have HSM : Hid (∀ w', Below wp.heap.size wp w' → (∃ x, w'.cell? ⟨g, v * 31 + u, none⟩ = some x) ∧ w'.frozen? ⟨g, v * 31 + u, none⟩ = false) := fun w' hw => (hc.on hw).some (by omega)
          have j1 : (v : Int) < 31 := by omega
          have j2 : (u : Int) < 31 := by omega
          clear hc hb
          generalize fw v u = r at *
          go_wp2_with fail
          refine region_tail 7 (by kernel_rfl) (by kernel_rfl) ?_
          simp only [List.take_succ_cons, List.take_zero, List.drop_succ_cons, List.drop_zero]
          repeat (first
            | go_big_quiet_step (first | exact Calls.regrown_of (HL.out _ _))
            | quiet_step (first | exact Calls.regrown_of (HL.out _ _)))
          refine wpQuiet_nil ?_
          rintro _ ⟨⟨dq, osq⟩, rfl⟩
          have hg := below_regrown wp dq osq
          obtain ⟨⟨x, hx1⟩, hfz⟩ := HSM.out _ hg
          have R := Lib.hid (HC2.out _ hg)
          clear hg HC2 HSM HL
          simp only at *
          generalize Go.Sort.grow (redrawn wp dq) osq = w9 at *
          go_wp2_with fail
          go_roundw
          case rel => exact ⟨u + 1, by omega, by omega, by go_num, R.out.1, R.out.2⟩
          case measure => simp [intOf]; omega
        · obtain rfl : u = b + 1 := by omega
          have hc3 : Cnt12 wp g (fun p q => p < v + 1 ∧ q ≤ b) := hc.weak (fun p q _ h => by omega)
          have R := Lib.hid (And.intro hc3 hb)
          clear hc hc3 hb
          go_wp2_with fail
          go_roundw
          case rel => exact ⟨v + 1, by omega, by omega, by go_num, R.out.1, R.out.2⟩
          case measure => simp [intOf]; omega
    · have p1 := (hc.tab a b (by omega) (by omega) (by omega) (by omega) ⟨by omega, Nat.le_refl _⟩)
      rw [← HV.out] at p1
      obtain ⟨r, hr⟩ : ∃ r, r = fewV a b := ⟨_, rfl⟩
      rw [← hr] at p1
      have HR := Lib.hid hr
      have j1 : (a : Int) < 31 := by omega
      have j2 : (b : Int) < 31 := by omega
      have R := Lib.hid hb
      clear hr HV hc hb
      go_wp2_with fail
      go_ret
      exact ⟨ret_int HR.out, R.out⟩
end Go.Proofs.Ythoniopkeiifnaa

/-! Law12C -/
namespace Go.Proofs.Ythoniopkeiifnaa
open Go.RowKit

theorem ex_few (x y : Int) (w : World) : Calls Try.prog 6 #[.int .i64 x, .int .i64 y] w fun e w' => e = .returned (.bool true) ∧ Below w.heap.size w w' := by
  have HS := Lib.hid (spec_few x y)
  have HI := Lib.hid (impl_few x y)
  generalize fewV x y = r at *
  go_enter Try.func6, Try.ntmps6
  go_wp2_with fail
  refine (HS.out _).mono ?_
  rintro e w1 ⟨rfl, hb1⟩
  go_wp2_with fail
  refine (HI.out _).mono ?_
  rintro e w2 ⟨rfl, hb2⟩
  have R := Lib.hid (below_on hb1 hb2)
  clear hb1 hb2
  go_wp2_with fail
  go_ret
  exact ⟨rfl, R.out⟩
end Go.Proofs.Ythoniopkeiifnaa

/-! Mot -/
namespace Go.Proofs.Ythoniopkeiifnaa
open Go.RowKit

def mot (m : Nat) (p : Int × Int) : Int × Int :=
  match m with
  | 0 => p
  | 1 => (-p.2, p.1)
  | 2 => (-p.1, -p.2)
  | 3 => (p.2, -p.1)
  | 4 => (-p.1, p.2)
  | 5 => (-p.2, -p.1)
  | 6 => (p.1, -p.2)
  | _ => (p.2, p.1)
def turnT : Nat → Int × Int → Int × Int
  | 0, p => p
  | k + 1, p => (-(turnT k p).2, (turnT k p).1)
def mirr (m : Nat) (p : Int × Int) : Int × Int := if 4 ≤ m then (-p.1, p.2) else p
theorem mot_turn {m : Nat} (hm : m < 8) (p : Int × Int) : turnT (m % 4) (mirr m p) = mot m p := by
  match m, hm with
  | 0, _ => simp [turnT, mirr, mot]
  | 1, _ => simp [turnT, mirr, mot]
  | 2, _ => simp [turnT, mirr, mot]
  | 3, _ => simp [turnT, mirr, mot]
  | 4, _ => simp [turnT, mirr, mot]
  | 5, _ => simp [turnT, mirr, mot]
  | 6, _ => simp [turnT, mirr, mot]
  | 7, _ => simp [turnT, mirr, mot]
  | k + 8, h => omega
theorem turnT_bd {B : Int} {p : Int × Int} (h : -B ≤ p.1 ∧ p.1 ≤ B ∧ -B ≤ p.2 ∧ p.2 ≤ B) : ∀ k, -B ≤ (turnT k p).1 ∧ (turnT k p).1 ≤ B ∧ -B ≤ (turnT k p).2 ∧ (turnT k p).2 ≤ B
  | 0 => h
  | k + 1 => by have := turnT_bd h k; simp only [turnT]; omega
theorem mirr_bd {B : Int} {p : Int × Int} (m : Nat) (h : -B ≤ p.1 ∧ p.1 ≤ B ∧ -B ≤ p.2 ∧ p.2 ≤ B) : -B ≤ (mirr m p).1 ∧ (mirr m p).1 ≤ B ∧ -B ≤ (mirr m p).2 ∧ (mirr m p).2 ≤ B := by
  unfold mirr; split
  · simp only; omega
  · exact h
theorem mot_bd {B : Int} {p : Int × Int} {m : Nat} (hm : m < 8) (h : -B ≤ p.1 ∧ p.1 ≤ B ∧ -B ≤ p.2 ∧ p.2 ≤ B) : -B ≤ (mot m p).1 ∧ (mot m p).1 ≤ B ∧ -B ≤ (mot m p).2 ∧ (mot m p).2 ≤ B := by
  rw [← mot_turn hm]; exact turnT_bd (mirr_bd m h) _

end Go.Proofs.Ythoniopkeiifnaa

/-! Cyc -/
namespace Go.Proofs.Ythoniopkeiifnaa

/-- A point at a fraction of the way. -/
theorem frac_bt {m q b e f : Int} (hm : 0 < m) (h0 : 0 ≤ q) (h1 : q ≤ m) (h : m * (b - e) = q * (f - e)) : bt e f b := by
  rcases Int.le_total e f with hf | hf
  · left
    have a1 : 0 ≤ q * (f - e) := Int.mul_nonneg h0 (by omega)
    have a2 : q * (f - e) ≤ m * (f - e) := Int.mul_le_mul_of_nonneg_right h1 (by omega)
    rw [← h] at a1 a2
    constructor
    · have := Int.le_of_mul_le_mul_left (a := m) (b := 0) (c := b - e) (by omega) hm; omega
    · have := Int.le_of_mul_le_mul_left a2 hm; omega
  · right
    have a1 : 0 ≤ q * (e - f) := Int.mul_nonneg h0 (by omega)
    have a2 : q * (e - f) ≤ m * (e - f) := Int.mul_le_mul_of_nonneg_right h1 (by omega)
    have e1 : q * (e - f) = m * (e - b) := by grind
    rw [e1] at a1 a2
    constructor
    · have := Int.le_of_mul_le_mul_left a2 hm; omega
    · have := Int.le_of_mul_le_mul_left (a := m) (b := 0) (c := e - b) (by omega) hm; omega
/-- b is at q / (p + q) of the way from a to c. -/
structure Wt (a c b : Int × Int) (p q : Int) : Prop where
  p0 : 0 ≤ p
  q0 : 0 ≤ q
  pq : 0 < p + q
  e1 : (p + q) * b.1 = p * a.1 + q * c.1
  e2 : (p + q) * b.2 = p * a.2 + q * c.2
theorem on_wt {a c b : Int × Int} (h : onP a c b = true) (hac : a ≠ c) : ∃ p q, Wt a c b p q := by
  obtain ⟨h1, h2, h3⟩ := (onP_iff _ _ _).1 h
  obtain ⟨ax, ay⟩ := a
  obtain ⟨bx, by'⟩ := b
  obtain ⟨cx, cy⟩ := c
  simp only [crossP, crossI] at h1 h2 h3
  have hne : ¬ (ax = cx ∧ ay = cy) := fun e => hac (by rw [e.1, e.2])
  unfold bt at h2 h3
  rcases Int.le_total ax cx with hx | hx <;> rcases Int.le_total ay cy with hy | hy
  · exact ⟨(cx - bx) + (cy - by'), (bx - ax) + (by' - ay), by omega, by omega, by omega, by grind, by grind⟩
  · exact ⟨(cx - bx) + (by' - cy), (bx - ax) + (ay - by'), by omega, by omega, by omega, by grind, by grind⟩
  · exact ⟨(bx - cx) + (cy - by'), (ax - bx) + (by' - ay), by omega, by omega, by omega, by grind, by grind⟩
  · exact ⟨(bx - cx) + (by' - cy), (ax - bx) + (ay - by'), by omega, by omega, by omega, by grind, by grind⟩
theorem Wt.ne_a {a c b : Int × Int} {p q : Int} (h : Wt a c b p q) (hb : b ≠ a) : 0 < q := by
  rcases Int.lt_or_eq_of_le h.q0 with h1 | h1
  · exact h1
  · exfalso
    subst h1
    have := h.pq
    have e1 := h.e1
    have e2 := h.e2
    simp only [Int.add_zero, Int.zero_mul] at e1 e2 this
    exact hb (Prod.ext (Int.eq_of_mul_eq_mul_left (by omega) e1) (Int.eq_of_mul_eq_mul_left (by omega) e2))
theorem Wt.ne_c {a c b : Int × Int} {p q : Int} (h : Wt a c b p q) (hb : b ≠ c) : 0 < p := by
  rcases Int.lt_or_eq_of_le h.p0 with h1 | h1
  · exact h1
  · exfalso
    subst h1
    have := h.pq
    have e1 := h.e1
    have e2 := h.e2
    simp only [Int.zero_add, Int.zero_mul] at e1 e2 this
    exact hb (Prod.ext (Int.eq_of_mul_eq_mul_left (by omega) e1) (Int.eq_of_mul_eq_mul_left (by omega) e2))
theorem Wt.cross3 {a c b : Int × Int} {p q : Int} (h : Wt a c b p q) (e f : Int × Int) : (p + q) * crossP e f b = p * crossP e f a + q * crossP e f c := by
  have e1 := h.e1
  have e2 := h.e2
  simp only [crossP, crossI]
  grind
theorem Wt.cross_ab {a c b : Int × Int} {p q : Int} (h : Wt a c b p q) (e : Int × Int) : (p + q) * crossP a b e = q * crossP a c e := by
  have e1 := h.e1
  have e2 := h.e2
  simp only [crossP, crossI]
  grind
theorem Wt.cross_bc {a c b : Int × Int} {p q : Int} (h : Wt a c b p q) (e : Int × Int) : (p + q) * crossP b c e = p * crossP a c e := by
  have e1 := h.e1
  have e2 := h.e2
  simp only [crossP, crossI]
  grind
theorem mul_zero_of {m x : Int} (hm : 0 < m) (h : m * x = 0) : x = 0 := by
  rcases Int.mul_eq_zero.1 h with h1 | h1
  · omega
  · exact h1
/-- What is on the whole is on one of the parts. -/
theorem on_part {a c b e : Int × Int} (hb : onP a c b = true) (he : onP a c e = true) : onP a b e = true ∨ onP b c e = true := by
  by_cases hac : a = c
  · subst hac
    left
    obtain ⟨_, h2, h3⟩ := (onP_iff _ _ _).1 he
    have : e = a := by unfold bt at h2 h3; exact Prod.ext (by omega) (by omega)
    rw [this]; exact on_left _ _
  obtain ⟨p, q, hw⟩ := on_wt hb hac
  obtain ⟨b1, b2, b3⟩ := (onP_iff _ _ _).1 hb
  obtain ⟨e1, e2, e3⟩ := (onP_iff _ _ _).1 he
  have c1 : crossP a b e = 0 := mul_zero_of hw.pq (by rw [hw.cross_ab, e1, Int.mul_zero])
  have c2 : crossP b c e = 0 := mul_zero_of hw.pq (by rw [hw.cross_bc, e1, Int.mul_zero])
  rcases on_line c1 with h | h | h
  · right
    obtain ⟨_, h2, h3⟩ := (onP_iff _ _ _).1 h
    exact (onP_iff _ _ _).2 ⟨c2, by unfold bt at *; omega, by unfold bt at *; omega⟩
  · obtain ⟨_, h2, h3⟩ := (onP_iff _ _ _).1 h
    have k1 : a.1 = b.1 ∨ a.1 = e.1 := by unfold bt at *; omega
    have k2 : a.2 = b.2 ∨ a.2 = e.2 := by unfold bt at *; omega
    have hba : b = a → onP b c e = true := fun h => by rw [h]; exact he
    have hea : e = a → onP a b e = true := fun h => by rw [h]; exact on_left _ _
    unfold crossP crossI at b1 e1
    rcases k1 with k1 | k1 <;> rcases k2 with k2 | k2
    · exact .inr (hba (Prod.ext k1.symm k2.symm))
    · have : (c.1 - a.1) * (b.2 - a.2) = 0 := by grind
      rcases Int.mul_eq_zero.1 this with h4 | h4
      · exact .inl (hea (Prod.ext (by unfold bt at *; omega) k2.symm))
      · exact .inr (hba (Prod.ext k1.symm (by omega)))
    · have : (c.2 - a.2) * (b.1 - a.1) = 0 := by grind
      rcases Int.mul_eq_zero.1 this with h4 | h4
      · exact .inl (hea (Prod.ext k1.symm (by unfold bt at *; omega)))
      · exact .inr (hba (Prod.ext (by omega) k2.symm))
    · exact .inl (hea (Prod.ext k1.symm k2.symm))
  · exact .inl h
/-- What is on a part is on the whole. -/
theorem on_whole {a c b e : Int × Int} (hac : a ≠ c) (hb : onP a c b = true) (he : onP a b e = true) : onP a c e = true := by
  by_cases hba : b = a
  · subst hba
    obtain ⟨_, h2, h3⟩ := (onP_iff _ _ _).1 he
    have : e = b := by unfold bt at h2 h3; exact Prod.ext (by omega) (by omega)
    rw [this]; exact on_left _ _
  obtain ⟨p, q, hw⟩ := on_wt hb hac
  have hq := hw.ne_a hba
  obtain ⟨b1, b2, b3⟩ := (onP_iff _ _ _).1 hb
  obtain ⟨e1, e2, e3⟩ := (onP_iff _ _ _).1 he
  have c1 : crossP a c e = 0 := mul_zero_of hq (by rw [← hw.cross_ab, e1, Int.mul_zero])
  exact (onP_iff _ _ _).2 ⟨c1, by unfold bt at *; omega, by unfold bt at *; omega⟩
theorem on_flip (a b p : Int × Int) : onP b a p = onP a b p := by
  rw [Bool.eq_iff_iff, onP_iff, onP_iff, crossP_flip]
  unfold bt
  constructor <;> (rintro ⟨h1, h2, h3⟩; exact ⟨by omega, by omega, by omega⟩)
theorem meet_zero {a b c d : Int × Int} : meetI a b c d = 0 ↔ (opp a b c d && opp c d a b) = false ∧ onP c d a = false ∧ onP c d b = false ∧ onP a b c = false ∧ onP a b d = false := by
  unfold meetI
  have hs : (sharedS a b c d).isEmpty = (!(onP c d a) && !(onP c d b) && !(onP a b c) && !(onP a b d)) := by
    simp only [sharedS, List.filter_cons, List.filter_nil]
    cases onP c d a <;> cases onP c d b <;> cases onP a b c <;> cases onP a b d <;> rfl
  cases opp a b c d && opp c d a b
  · rw [hs]
    cases onP c d a <;> cases onP c d b <;> cases onP a b c <;> cases onP a b d <;> simp
    all_goals (cases sameAll (sharedS a b c d) <;> simp)
  · simp
theorem sgn_tri (n : Int) : (0 < n ∧ sgn n = 1) ∨ (n = 0 ∧ sgn n = 0) ∨ (n < 0 ∧ sgn n = -1) := by
  unfold sgn
  rcases Int.lt_trichotomy n 0 with h | h | h
  · right; right; exact ⟨h, by rw [if_neg (by omega), if_pos h]⟩
  · right; left; exact ⟨h, by rw [if_neg (by omega), if_neg (by omega)]⟩
  · left; exact ⟨h, by rw [if_pos h]⟩
theorem opp_iff (a b c d : Int × Int) : opp a b c d = true ↔ (0 < crossP a b c ∧ crossP a b d < 0) ∨ (crossP a b c < 0 ∧ 0 < crossP a b d) := by
  unfold opp
  rw [decide_eq_true_eq]
  rcases sgn_tri (crossP a b c) with ⟨h1, h2⟩ | ⟨h1, h2⟩ | ⟨h1, h2⟩ <;> rcases sgn_tri (crossP a b d) with ⟨h3, h4⟩ | ⟨h3, h4⟩ | ⟨h3, h4⟩ <;> rw [h2, h4] <;> omega
/-- Lines that cross: their common point is on a segment whose ends are on both sides. -/
theorem on_crossing {a c e f b : Int × Int} (h1 : crossP a c b = 0) (h2 : crossP e f b = 0) (ho : opp a c e f = true) : onP e f b = true := by
  rw [onP_iff]
  refine ⟨h2, ?_, ?_⟩
  · rcases (opp_iff _ _ _ _).1 ho with ⟨k1, k2⟩ | ⟨k1, k2⟩
    · exact frac_bt (m := crossP a c e - crossP a c f) (q := crossP a c e) (by omega) (by omega) (by omega) (by unfold crossP crossI at *; grind)
    · exact frac_bt (m := crossP a c f - crossP a c e) (q := -crossP a c e) (by omega) (by omega) (by omega) (by unfold crossP crossI at *; grind)
  · rcases (opp_iff _ _ _ _).1 ho with ⟨k1, k2⟩ | ⟨k1, k2⟩
    · exact frac_bt (m := crossP a c e - crossP a c f) (q := crossP a c e) (by omega) (by omega) (by omega) (by unfold crossP crossI at *; grind)
    · exact frac_bt (m := crossP a c f - crossP a c e) (q := -crossP a c e) (by omega) (by omega) (by omega) (by unfold crossP crossI at *; grind)
theorem pos_of_mul {m x y q : Int} (hm : 0 < m) (hq : 0 < q) (h : m * x = q * y) : (0 < y → 0 < x) ∧ (y < 0 → x < 0) := by
  constructor
  · intro hy
    have : 0 < m * x := by rw [h]; exact Int.mul_pos hq hy
    rcases Int.lt_trichotomy x 0 with h1 | h1 | h1
    · have := Int.mul_neg_of_pos_of_neg hm h1; omega
    · rw [h1, Int.mul_zero] at this; omega
    · exact h1
  · intro hy
    have : m * x < 0 := by rw [h]; exact Int.mul_neg_of_pos_of_neg hq hy
    rcases Int.lt_trichotomy x 0 with h1 | h1 | h1
    · exact h1
    · rw [h1, Int.mul_zero] at this; omega
    · have := Int.mul_pos hm h1; omega
/-- **Two parts that a segment does not meet: the whole does not, either.** -/
theorem meet_merge {a c b e f : Int × Int} (hb : onP a c b = true) (hba : b ≠ a) (hbc : b ≠ c) (h1 : meetI a b e f = 0) (h2 : meetI b c e f = 0) : meetI a c e f = 0 := by
  have hac : a ≠ c := by
    intro h
    subst h
    obtain ⟨_, k2, k3⟩ := (onP_iff _ _ _).1 hb
    exact hba (by unfold bt at k2 k3; exact Prod.ext (by omega) (by omega))
  obtain ⟨p, q, hw⟩ := on_wt hb hac
  have hp := hw.ne_c hbc
  have hq := hw.ne_a hba
  obtain ⟨o1, x1, x2, x3, x4⟩ := meet_zero.1 h1
  obtain ⟨o2, y1, y2, y3, y4⟩ := meet_zero.1 h2
  rw [meet_zero]
  refine ⟨?_, x1, y2, ?_, ?_⟩
  · cases ho : (opp a c e f && opp e f a c)
    · rfl
    · exfalso
      rw [Bool.and_eq_true] at ho
      obtain ⟨k1, k2⟩ := ho
      have hB := hw.cross3 e f
      rw [Bool.and_eq_false_iff] at o1 o2
      have n1 : opp a b e f = true := by
        have g1 := pos_of_mul hw.pq hq (hw.cross_ab e)
        have g2 := pos_of_mul hw.pq hq (hw.cross_ab f)
        rw [opp_iff] at k1 ⊢
        rcases k1 with k1 | k1
        · exact .inl ⟨g1.1 k1.1, g2.2 k1.2⟩
        · exact .inr ⟨g1.2 k1.1, g2.1 k1.2⟩
      have n2 : opp b c e f = true := by
        have g1 := pos_of_mul hw.pq hp (hw.cross_bc e)
        have g2 := pos_of_mul hw.pq hp (hw.cross_bc f)
        rw [opp_iff] at k1 ⊢
        rcases k1 with k1 | k1
        · exact .inl ⟨g1.1 k1.1, g2.2 k1.2⟩
        · exact .inr ⟨g1.2 k1.1, g2.1 k1.2⟩
      have m1 : ¬ opp e f a b = true := fun h => by rcases o1 with o | o <;> simp_all
      have m2 : ¬ opp e f b c = true := fun h => by rcases o2 with o | o <;> simp_all
      rw [opp_iff] at m1 m2 k2
      have hz : crossP e f b = 0 := by omega
      have hcb : crossP a c b = 0 := ((onP_iff _ _ _).1 hb).1
      have := on_crossing hcb hz k1
      rw [this] at x2
      cases x2
  · cases h : onP a c e
    · rfl
    · rcases on_part hb h with h3 | h3
      · rw [x3] at h3; cases h3
      · rw [y3] at h3; cases h3
  · cases h : onP a c f
    · rfl
    · rcases on_part hb h with h3 | h3
      · rw [x4] at h3; cases h3
      · rw [y4] at h3; cases h3
end Go.Proofs.Ythoniopkeiifnaa

/-! Ring -/
namespace Go.Proofs.Ythoniopkeiifnaa
open Go.RowKit

abbrev Pt := Int × Int
def consec (l : List Pt) : List (Pt × Pt) := l.zip l.tail
def sidesL : List Pt → List (Pt × Pt)
  | [] => []
  | x :: xs => consec (x :: xs ++ [x])
def Good (L : List Pt) : Prop := (3 ≤ L.length ∧ L.length ≤ 10) ∧ allOk L = true ∧ L.Nodup ∧ ∀ s ∈ sidesL L, ∀ t ∈ sidesL L, s ≠ t →
  (s.2 = t.1 → onP t.1 t.2 s.1 = false ∧ onP s.1 s.2 t.2 = false) ∧ (s.2 ≠ t.1 → t.2 ≠ s.1 → meetI s.1 s.2 t.1 t.2 = 0)
theorem sides_eq (L : List Pt) : sidesL L = (List.range L.length).map fun i => (gt L i, gt L (nx L i)) := by
  cases L with
  | nil => rfl
  | cons x xs =>
    apply List.ext_getElem
    · simp [sidesL, consec]
    · intro i h1 h2
      have hi : i < xs.length + 1 := by simpa using h2
      have hn : nx (x :: xs) i = if i + 1 = xs.length + 1 then 0 else i + 1 := nx_eq (L := x :: xs) (by simpa using hi)
      simp only [sidesL, consec, List.getElem_zip, List.getElem_map, List.getElem_range, hn, List.cons_append, List.tail_cons]
      have e1 : (x :: (xs ++ [x]))[i]'(by simp; omega) = gt (x :: xs) i := by
        rw [gt_at (by simpa using hi)]
        cases i with
        | zero => rfl
        | succ i =>
          simp only [List.getElem_cons_succ]
          rw [List.getElem_append_left (by omega)]
      rw [e1]
      congr 1
      by_cases h : i + 1 = xs.length + 1
      · rw [if_pos h, List.getElem_append_right (by omega)]
        simp [gt]
      · rw [if_neg h, List.getElem_append_left (by omega), gt_at (by simp; omega)]
        rfl
theorem mem_sides {L : List Pt} {s : Pt × Pt} : s ∈ sidesL L ↔ ∃ i, i < L.length ∧ s = (gt L i, gt L (nx L i)) := by
  rw [sides_eq]
  simp only [List.mem_map, List.mem_range]
  constructor
  · rintro ⟨i, hi, rfl⟩; exact ⟨i, hi, rfl⟩
  · rintro ⟨i, hi, rfl⟩; exact ⟨i, hi, rfl⟩
theorem nodup_iff {L : List Pt} : L.Nodup ↔ ∀ i k, i < k → k < L.length → gt L i ≠ gt L k := by
  rw [List.nodup_iff_pairwise_ne, List.pairwise_iff_getElem]
  constructor
  · intro h i k hi hk
    rw [gt_at (by omega), gt_at hk]
    exact h i k (by omega) hk hi
  · intro h i k hi hk hik
    have := h i k hik hk
    rw [gt_at hi, gt_at hk] at this
    exact this
theorem gt_inj {L : List Pt} (h : L.Nodup) {i k : Nat} (hi : i < L.length) (hk : k < L.length) (e : gt L i = gt L k) : i = k := by
  rcases Nat.lt_trichotomy i k with h1 | h1 | h1
  · exact absurd e (nodup_iff.1 h i k h1 hk)
  · exact h1
  · exact absurd e.symm (nodup_iff.1 h k i h1 hi)
theorem touch_one {a b c : Pt} (h1 : onP b c a = false) (h2 : onP a b c = false) : meetI a b b c = 1 := by
  have ho : opp a b b c = false := by
    have : crossP a b b = 0 := by unfold crossP crossI; grind
    cases h : opp a b b c
    · rfl
    · rw [opp_iff] at h; omega
  have hs : sharedS a b b c = [b, b] := by
    simp only [sharedS, List.filter_cons, List.filter_nil, h1, h2, on_left, on_right]
    rfl
  unfold meetI
  rw [ho, hs, Bool.false_and]
  simp [sameAll]
theorem one_touch {a b c : Pt} (hab : a ≠ b) (hbc : b ≠ c) (h : meetI a b b c = 1) : onP b c a = false ∧ onP a b c = false := by
  have hb : b ∈ sharedS a b b c := mem_shared.2 (.inl ⟨.inr rfl, on_left b c⟩)
  constructor
  · cases h1 : onP b c a
    · rfl
    · exact absurd (meet_one h a b (mem_shared.2 (.inl ⟨.inl rfl, h1⟩)) hb) hab
  · cases h1 : onP a b c
    · rfl
    · exact absurd (meet_one h b c hb (mem_shared.2 (.inr ⟨.inr rfl, h1⟩))) hbc
theorem poly_good {L : List Pt} (h : polyB L = true) : Good L := by
  obtain ⟨hn, hok, hne, hp⟩ := polyB_spec h
  have hnd : L.Nodup := by
    rw [nodup_iff]
    intro i k hik hk e
    have h1 := hp i k hik hk
    have hs : meetI (gt L i) (gt L (nx L i)) (gt L k) (gt L (nx L k)) ≠ 0 := by
      intro h0
      obtain ⟨_, h2, _⟩ := meet_zero.1 h0
      rw [e, on_left] at h2
      cases h2
    have ha : adjB L.length i k = true := by
      cases ha : adjB L.length i k
      · rw [ha] at h1; exact absurd h1 hs
      · rfl
    simp only [adjB, Bool.or_eq_true, Bool.and_eq_true, beq_iff_eq] at ha
    rcases ha with ha | ha
    · have := hne i (by omega)
      rw [nx_eq (by omega), if_neg (by omega), ← ha] at this
      exact this e
    · have := hne k hk
      rw [nx_eq hk, if_pos (by omega), ← ha.1] at this
      exact this e.symm
  have key : ∀ i k, i < k → k < L.length → (meetI (gt L i) (gt L (nx L i)) (gt L k) (gt L (nx L k)) = if nx L i = k ∨ nx L k = i then 1 else 0) := by
    intro i k hik hk
    have h1 := hp i k hik hk
    unfold pairM at h1
    have e : adjB L.length i k = true ↔ (nx L i = k ∨ nx L k = i) := by
      rw [nx_eq (by omega), nx_eq hk]
      simp only [adjB, Bool.or_eq_true, Bool.and_eq_true, beq_iff_eq]
      rw [if_neg (by omega)]
      by_cases hl : k + 1 = L.length
      · rw [if_pos hl]; omega
      · rw [if_neg hl]; omega
    cases ha : adjB L.length i k
    · rw [ha] at h1
      rw [if_neg (fun h => by rw [e.2 h] at ha; cases ha)]
      exact h1
    · rw [ha] at h1
      rw [if_pos (e.1 ha)]
      exact h1
  have key2 : ∀ i k, i ≠ k → i < L.length → k < L.length → (meetI (gt L i) (gt L (nx L i)) (gt L k) (gt L (nx L k)) = if nx L i = k ∨ nx L k = i then 1 else 0) := by
    intro i k hik hi hk
    rcases Nat.lt_or_gt_of_ne hik with h1 | h1
    · exact key i k h1 hk
    · have := key k i h1 hi
      rw [meetI_swap, this]
      by_cases hc : nx L i = k ∨ nx L k = i
      · rw [if_pos hc, if_pos hc.symm]
      · rw [if_neg hc, if_neg (fun h => hc h.symm)]
  refine ⟨hn, hok, hnd, ?_⟩
  intro s hs t ht hst
  obtain ⟨i, hi, rfl⟩ := mem_sides.1 hs
  obtain ⟨k, hk, rfl⟩ := mem_sides.1 ht
  have hik : i ≠ k := fun e => hst (by rw [e])
  have hm := key2 i k hik hi hk
  constructor
  · intro e
    have e' : nx L i = k := gt_inj hnd (nx_lt (by omega) i) hk e
    rw [if_pos (.inl e'), e'] at hm
    show onP (gt L k) (gt L (nx L k)) (gt L i) = false ∧ onP (gt L i) (gt L (nx L i)) (gt L (nx L k)) = false
    rw [e']
    have h1 := hne i hi
    rw [e'] at h1
    exact one_touch h1 (hne k hk) hm
  · intro e1 e2
    rw [if_neg (fun h => by
      rcases h with h | h
      · exact e1 (congrArg (gt L) h)
      · exact e2 (congrArg (gt L) h))] at hm
    exact hm
theorem good_poly {L : List Pt} (h : Good L) : polyB L = true := by
  obtain ⟨hn, hok, hnd, hg⟩ := h
  have hin : inB (L.length : Int) 3 10 = true := inB_spec.2 (by omega)
  have hne : ∀ i, i < L.length → gt L i ≠ gt L (nx L i) := fun i hi e => by
    have := gt_inj hnd hi (nx_lt (by omega) i) e
    rw [nx_eq hi] at this
    by_cases hl : i + 1 = L.length
    · rw [if_pos hl] at this; omega
    · rw [if_neg hl] at this; omega
  have h1 : nbB L = true := nb_true (fun i hi => by
    cases he : eqQ (gt L i) (gt L ((i + 1) % L.length))
    · rfl
    · exact absurd ((eqQ_iff _ _).1 he) (hne i hi))
  have h2 : pairsB L = true := pairs_true (fun i hi k hik hk => by
    have hs : (gt L i, gt L (nx L i)) ∈ sidesL L := mem_sides.2 ⟨i, hi, rfl⟩
    have ht : (gt L k, gt L (nx L k)) ∈ sidesL L := mem_sides.2 ⟨k, hk, rfl⟩
    have hst : (gt L i, gt L (nx L i)) ≠ (gt L k, gt L (nx L k)) := fun e => by
      have := gt_inj hnd hi hk (Prod.ext_iff.1 e).1; omega
    have hg1 := hg _ hs _ ht hst
    have hg2 := hg _ ht _ hs (Ne.symm hst)
    have hm : meetI (gt L i) (gt L (nx L i)) (gt L k) (gt L (nx L k)) = if nx L i = k ∨ nx L k = i then 1 else 0 := by
      by_cases h1 : nx L i = k
      · rw [if_pos (.inl h1)]
        have := hg1.1 (congrArg (gt L) h1)
        simp only [h1] at this ⊢
        exact touch_one this.1 this.2
      · by_cases h2 : nx L k = i
        · rw [if_pos (.inr h2)]
          have := hg2.1 (congrArg (gt L) h2)
          rw [meetI_swap]
          simp only [h2] at this ⊢
          exact touch_one this.1 this.2
        · rw [if_neg (by rintro (h | h) <;> contradiction)]
          exact hg1.2 (fun e => h1 (gt_inj hnd (nx_lt (by omega) i) hk e)) (fun e => h2 (gt_inj hnd (nx_lt (by omega) k) hi e))
    have e : adjB L.length i k = true ↔ (nx L i = k ∨ nx L k = i) := by
      rw [nx_eq (by omega), nx_eq hk]
      simp only [adjB, Bool.or_eq_true, Bool.and_eq_true, beq_iff_eq]
      rw [if_neg (by omega)]
      by_cases hl : k + 1 = L.length
      · rw [if_pos hl]; omega
      · rw [if_neg hl]; omega
    unfold pairOk pairM
    rw [show (i + 1) % L.length = nx L i from rfl, show (k + 1) % L.length = nx L k from rfl, hm]
    cases ha : adjB L.length i k
    · rw [if_neg (fun h => by rw [e.2 h] at ha; cases ha)]; rfl
    · rw [if_pos (e.1 ha)]; rfl)
  rw [polyB, hin, hok, h1, h2]; rfl
theorem poly_iff (L : List Pt) : polyB L = true ↔ Good L := ⟨poly_good, good_poly⟩
end Go.Proofs.Ythoniopkeiifnaa

/-! Start -/
namespace Go.Proofs.Ythoniopkeiifnaa
open Go.RowKit

def rotL (L : List (Int × Int)) (k : Nat) : List (Int × Int) := L.drop k ++ L.take k
theorem rotL_len (L : List (Int × Int)) (k : Nat) : (rotL L k).length = L.length := by simp [rotL]; omega

theorem step_append_any {P : Program} {ops : Array Oper} {o : Oper} {a : Act} {w : World} {K : Act → World → Prop} {Q : Exit → Act → World → Prop} {E : Prop} (hgd : o.guard = none) (s x : Operand) (t : TypeId)
    (ho : o.op = .call { callee := .builtin .append, args := #[s, x], argTypes := #[t, t] })
    (base : Nat) (e : TypeId) (i : TypeInfo) (z : Value) (size bytes : Nat) (ht : P.underlying t = some (.slice e)) (hi : P.info? e = some i) (hz : i.zero = some z)
    (hsize : i.size = size) (hby : i.bytes = bytes) (hzs : z.cells.size = size) (hsz : 0 < size)
    (v : Value) (n : Nat) (xs : List Value) (hs : a.eval s = v) (hown : w.ownsRow base e size v n xs)
    (ad : Addr) (m c : Nat) (news : List Value) (hx : a.eval x = .slice (some ad) m c) (hl : news.length = m * size) (hnews : ∀ j u, news[j]? = some u → w.cell? (ad.add j) = some u) (h1 : ∀ u ∈ news, u.oneCell' = true)
    (h63 : n + m ≤ maxLen) (hbytes : (n + m) * bytes ≤ 140737488355328) (hbase : base ≤ w.heap.size)
    (h : ∀ v' w', w'.ownsRow base e size v' (n + m) (xs ++ news) → w.grownBy w' v.ownBlock → K (a.put o.dst v') w') :
    if Region.wanted o (yielded ops a.tmps) = true then Oper.wp P o a w K Q else E := by
  have hw : Region.wanted o (yielded ops a.tmps) = true := by simp [Region.wanted, hgd]
  rw [if_pos hw]
  obtain ⟨v', w', hrun, r1, r2, _⟩ := run_append_own (P := P) w base t o.type e i z size bytes ht hi hz hsize hby hzs hsz v n xs hown ad m c news hl hnews h1 h63 hbytes hbase
  unfold Oper.wp
  simp [execOp, ho, resolve, invoke, builtin, hs, hx, hrun, Result.andThen]
  exact h v' w' r1 r2

theorem ptsA_take {w : World} {g : Nat} {L : List (Int × Int)} (h : PtsA w (some ⟨g, 0, none⟩) L) (k : Nat) : ∀ j u, (flat (L.take k))[j]? = some u → w.cell? (Addr.add ⟨g, 0, none⟩ j) = some u := by
  intro j u hu
  have h0 := ptsA_news h 0 j u
  rw [List.drop_zero, Nat.zero_mul] at h0
  refine h0 ?_
  have e : flat L = flat (L.take k) ++ flat (L.drop k) := by rw [← flat_append, List.take_append_drop]
  have hj : j < (flat (L.take k)).length := by
    rcases Nat.lt_or_ge j (flat (L.take k)).length with h1 | h1
    · exact h1
    · rw [List.getElem?_eq_none h1] at hu; cases hu
  rw [e, List.getElem?_append_left hj]
  exact hu


set_option maxRecDepth 100000 in
set_option maxHeartbeats 2000000 in
theorem grow_any (n : Nat) (w : World) (h1 : 1 ≤ n) (h2 : n ≤ 1048576) :
    Calls Try.prog 194 #[.slice none 0 0, .int .i64 n] w fun e w' => ∃ g cap, e = .returned (.slice (some ⟨g, 0, none⟩) 0 cap) ∧ w'.ownsRow w.heap.size 45 2 (.slice (some ⟨g, 0, none⟩) 0 cap) 0 [] ∧ Below w.heap.size w w' := by
  obtain ⟨i0, hi0, hz0, hz1, hz2⟩ := info_parts infoPt
  have hn0 : ¬ ((n : Int) < 0) := by omega
  have hn1 : (n : Int) > 0 := by omega
  have hold : (Builtin.firstCells i0.size 0 (.slice none 0 0)).run Try.prog w.drew = .ok ([] : List Value).toArray w.drew := run_firstCells_none _ i0.size 0 0 0
  have hrz : ∀ ty, (Builtin.append_ #[34, 3] ty #[.slice none 0 0, .int .i64 n]).run Try.prog w =
      .ok (.slice (some ⟨w.heap.size, 0, none⟩) n (grownCap w n 0 45)) (w.drew.alloc (.cells (([] : List Value).toArray ++ Builtin.zeroCells (Value.agg #[.int .i64 0, .int .i64 0]).cells n ++ Builtin.zeroCells (Value.agg #[.int .i64 0, .int .i64 0]).cells (grownCap w n 0 45 - n)) 45)) := fun ty => by
    have h := Lib.run_append_grow_zeros w 34 3 ty 45 i0 (.agg #[.int .i64 0, .int .i64 0]) .i64 .i64 Try.underlying34 Try.underlying3 hi0 hz0 none 0 0 [] hold n (by omega) (by omega) (by omega) (by omega)
      (by rw [hz2]; omega) (by rw [Nat.zero_add]; exact growslice_fits (by omega) (by rw [hz2]; omega))
    rw [Nat.zero_add] at h
    exact h
  have hGn : n ≤ grownCap w n 0 45 := grownCap_ge w _ _ _
  obtain ⟨G, hG⟩ : ∃ G, G = grownCap w n 0 45 := ⟨_, rfl⟩
  rw [← hG] at hrz hGn
  have hGm : G ≤ maxLen := by rw [hG]; exact grownCap_le_maxLen w n 0 45 (by unfold maxLen; omega)
  have hG63 : G ≤ 9223372036854775807 := by unfold maxLen at hGm; omega
  obtain ⟨C, hC⟩ : ∃ C, C = ([] : List Value).toArray ++ Builtin.zeroCells (Value.agg #[.int .i64 0, .int .i64 0]).cells n ++ Builtin.zeroCells (Value.agg #[.int .i64 0, .int .i64 0]).cells (G - n) := ⟨_, rfl⟩
  have hCs : C.size = G * 2 := by
    have e : (Value.agg #[.int .i64 0, .int .i64 0]).cells.size = 2 := rfl
    rw [hC, Array.size_append, Array.size_append, size_zeroCells, size_zeroCells, e]
    simp; omega
  rw [← hC] at hrz
  have R : Hid ((w.drew.alloc (.cells C 45)).ownsRow w.heap.size 45 2 (.slice (some ⟨w.heap.size, 0, none⟩) 0 G) 0 [] ∧ Below w.heap.size w (w.drew.alloc (.cells C 45))) :=
    ⟨⟨rfl, .inr ⟨w.heap.size, G, C, rfl, Nat.le_refl _, heap_alloc_new w.drew _, Nat.zero_le _, hGm, hCs, rfl⟩⟩, ((Below.refl _ w).drew).alloc (Nat.le_refl _) _⟩
  clear hold hG hC hCs hGm
  go_enter Try.func194, Try.ntmps194
  go_wp2_with (at_builtin; refine Lib.wpList_append_run _ rfl _ _ _ _ rfl _ _ rfl rfl _ _ (hrz _) ?_)
  go_ret
  exact ⟨_, _, rfl, R.out.1, R.out.2⟩

def catN (L : List (Int × Int)) (k : Nat) : Nat → Nat
  | 0 => 0
  | 1 => L.length - k
  | _ => L.length
def catL (L : List (Int × Int)) (k : Nat) : Nat → List (Int × Int)
  | 0 => []
  | 1 => L.drop k
  | _ => rotL L k
set_option maxRecDepth 100000 in
set_option maxHeartbeats 4000000 in
theorem concat_any (g gs c1 c2 k : Nat) (L : List (Int × Int)) (w : World) (hA : PtsA w (some ⟨g, 0, none⟩) L) (hk : k < L.length) (h2 : L.length ≤ 1048576)
    (s0 : w.cell? ⟨gs, 0, none⟩ = some (.slice (some ⟨g, k * 2, none⟩) (L.length - k) c1)) (s1 : w.cell? ⟨gs, 1, none⟩ = some (.slice (some ⟨g, 0, none⟩) k c2)) :
    Calls Try.prog 171 #[.slice (some ⟨gs, 0, none⟩) 2 2] w (Lists w (rotL L k)) := by
  obtain ⟨i0, hi0, hz0, hz1, hz2⟩ := info_parts infoPt
  have HU : Hid (Lists w (rotL L k) = fun e w' => ∃ v, e = .returned v ∧ w'.ownsRow w.heap.size 45 2 v (catN L k 2) (flat (catL L k 2)) ∧ Below w.heap.size w w') := by
    show _ = _
    unfold Lists
    rw [rotL_len]; rfl
  have HA := Lib.hid hA
  have HK := Lib.hid hk
  have HS0 := Lib.hid s0
  have HS1 := Lib.hid s1
  have f1 : ((L.length - k : Nat) : Int) + (k : Int) = (L.length : Int) := by omega
  clear hA
  go_enter Try.func171, Try.ntmps171
  go_wp2_with fail
  go_loop [3, 11] (fun s i => ∃ j : Nat, j ≤ 2 ∧ i = .int .i64 j ∧ s = .int .i64 (catN L k j)) (fun _ i => 2 - (intOf i).toNat)
  case atStart => exact ⟨0, by omega, rfl, rfl⟩
  case round =>
    obtain ⟨j, hj, rfl, rfl⟩ := hrel
    match j, hj with
    | 0, _ =>
      have e0 : catN L k 0 = 0 := rfl
      rw [e0]
      clear e0 s1
      go_wp2_with fail
      go_round
      case rel => exact ⟨1, by omega, by first | rfl | go_num, by first | rfl | go_num⟩
      case measure => simp [intOf]
    | 1, _ =>
      have e0 : catN L k 1 = L.length - k := rfl
      rw [e0]
      clear e0 s0
      go_wp2_with fail
      go_round
      case rel => exact ⟨2, by omega, by first | rfl | go_num, by first | rfl | go_num | exact congrArg _ f1⟩
      case measure => simp [intOf]
    | 2, _ =>
      have e0 : catN L k 2 = L.length := rfl
      rw [e0]
      clear e0 s0 s1 f1
      go_wp2_with fail
      refine (grow_any L.length w (by omega) h2).mono ?_
      rintro e w1 ⟨g1, cp1, rfl, own1, b1⟩
      have R1 := Lib.hid (And.intro own1 b1)
      clear own1 b1
      go_wp2_with fail
      go_loopw [6, 27] (fun v i wr => ∃ j : Nat, j ≤ 2 ∧ i = .int .i64 j ∧ wr.ownsRow w.heap.size 45 2 v (catN L k j) (flat (catL L k j)) ∧ Below w.heap.size w wr) (fun _ i _ => 2 - (intOf i).toNat)
      case atStart => exact ⟨0, by omega, by first | rfl | go_num, R1.out.1, R1.out.2⟩
      case round =>
        obtain ⟨j, hj, rfl, own, b⟩ := hrel
        match j, hj with
        | 0, _ =>
          have s0 := cell_on b rfl HS0.out
          have HN := Lib.hid (ptsA_news (ptsA_on HA.out b) k)
          have hsz := b.size
          have own0 : wr.ownsRow w.heap.size 45 2 u6 0 [] := own
          have HB := Lib.hid b
          clear own b
          go_wp2_with (at_builtin; refine wpList_append_own _ rfl _ _ 34 rfl w.heap.size 45 i0 (.agg #[.int .i64 0, .int .i64 0]) 2 16 Try.underlying34 hi0 hz0 hz1 hz2 rfl (by decide) _ _ _ rfl own0 ⟨g, k * 2, none⟩ (L.length - k) c1 (flat (L.drop k)) rfl (by rw [flat_len, List.length_drop]) HN.out (flat_one _) ?d3 ?d4 hsz ?_)
          case d3 => unfold maxLen; omega
          case d4 => omega
          intro v' w6 own6 hgrow _
          have R : Hid (w6.ownsRow w.heap.size 45 2 v' (catN L k 1) (flat (catL L k 1)) ∧ Below w.heap.size w w6) :=
            ⟨show w6.ownsRow w.heap.size 45 2 v' (L.length - k) (flat (L.drop k)) from by simpa using own6, HB.out.grown hgrow hsz (fun q hq => (own0.lt q hq).1)⟩
          clear own0 own6 hgrow s0
          go_wp2_with fail
          go_roundw
          case rel => exact ⟨1, by omega, by first | rfl | go_num, R.out.1, R.out.2⟩
          case measure => simp [intOf]
        | 1, _ =>
          have s0 := cell_on b rfl HS1.out
          have HN := Lib.hid (ptsA_take (ptsA_on HA.out b) k)
          have hsz := b.size
          have own0 : wr.ownsRow w.heap.size 45 2 u6 (L.length - k) (flat (L.drop k)) := own
          have HB := Lib.hid b
          clear own b
          go_wp2_with (at_builtin; refine wpList_append_own _ rfl _ _ 34 rfl w.heap.size 45 i0 (.agg #[.int .i64 0, .int .i64 0]) 2 16 Try.underlying34 hi0 hz0 hz1 hz2 rfl (by decide) _ _ _ rfl own0 ⟨g, 0, none⟩ k c2 (flat (L.take k)) rfl (by rw [flat_len, List.length_take]; have := HK.out; omega) HN.out (flat_one _) ?d3 ?d4 hsz ?_)
          case d3 => unfold maxLen; omega
          case d4 => omega
          intro v' w6 own6 hgrow _
          have R : Hid (w6.ownsRow w.heap.size 45 2 v' (catN L k 2) (flat (catL L k 2)) ∧ Below w.heap.size w w6) := by
            refine ⟨?_, HB.out.grown hgrow hsz (fun q hq => (own0.lt q hq).1)⟩
            have e1 : catN L k 2 = L.length - k + k := by show L.length = _; have := HK.out; omega
            have e2 : flat (catL L k 2) = flat (L.drop k) ++ flat (L.take k) := by show flat (rotL L k) = _; rw [rotL, flat_append]
            rw [e1, e2]; exact own6
          clear own0 own6 hgrow s0
          go_wp2_with fail
          go_roundw
          case rel => exact ⟨2, by omega, by first | rfl | go_num, R.out.1, R.out.2⟩
          case measure => simp [intOf]
        | 2, _ =>
          have R := Lib.hid (And.intro own b)
          clear own b
          go_wp2_with fail
          go_ret
          rw [HU.out]
          exact ⟨_, rfl, R.out.1, R.out.2⟩

/-! ### StartAt -/
def startV (L : List (Int × Int)) (k : Int) : List (Int × Int) := bif polyB L && inB k 0 ((L.length : Int) - 1) then rotL L k.toNat else []
theorem startV_len (L : List (Int × Int)) (k : Int) : (startV L k).length ≤ 1048576 := by
  unfold startV
  cases h : polyB L
  · simp
  · have := polyB_all h
    cases inB k 0 ((L.length : Int) - 1)
    · simp
    · simp only [Bool.and_self, cond_true, rotL_len]; omega

set_option maxRecDepth 100000 in
set_option maxHeartbeats 2000000 in
theorem impl_start (A : Option Addr) (c : Nat) (L : List (Int × Int)) (k : Int) (w : World) (hA : PtsA w A L) (hc : L.length ≤ c) (hL : L.length ≤ 1048576) :
    Calls Try.prog 143 #[.slice A L.length c, .int .i64 k] w (Lists w (startV L k)) := by
  have PC := Lib.hid (impl_poly A c L w hA hL)
  have no : startV L k = [] → Hid (Lists w (startV L k) = fun e w' => ∃ v, e = .returned v ∧ w'.ownsRow w.heap.size 45 2 v 0 [] ∧ Below w.heap.size w w') := fun h => by
    show _ = _
    rw [h]; rfl
  cases hp : polyB L
  · have HU := no (by rw [startV, hp]; rfl)
    rw [hp] at PC
    clear no hA
    go_enter Try.func143, Try.ntmps143
    go_wp2_with fail
    refine PC.out.mono ?_
    rintro e w1 ⟨rfl, hb1⟩
    go_wp2_with fail
    go_ret
    rw [HU.out]
    exact ⟨_, rfl, World.ownsRow_nil _ _ _ _, hb1⟩
  · obtain ⟨h3, h10, hok⟩ := polyB_all hp
    rw [hp] at PC
    have HI := Lib.hid (fun w => from_any k 0 ((L.length : Int) - 1) w)
    cases hk : inB k 0 ((L.length : Int) - 1)
    · have HU := no (by rw [startV, hp, hk]; rfl)
      rw [hk] at HI
      clear no hA
      go_enter Try.func143, Try.ntmps143
      go_wp2_with fail
      refine PC.out.mono ?_
      rintro e w1 ⟨rfl, hb1⟩
      go_wp2_with fail
      refine (HI.out _).mono ?_
      rintro e w2 ⟨rfl, rfl⟩
      go_wp2_with fail
      go_ret
      rw [HU.out]
      exact ⟨_, rfl, World.ownsRow_nil _ _ _ _, hb1⟩
    · have hkb := inB_spec.1 hk
      obtain ⟨q, rfl⟩ : ∃ q : Nat, k = (q : Int) := ⟨k.toNat, by omega⟩
      have hq : q < L.length := by omega
      have HU : Hid (Lists w (startV L q) = fun e w' => ∃ v, e = .returned v ∧ w'.ownsRow w.heap.size 45 2 v (rotL L q).length (flat (rotL L q)) ∧ Below w.heap.size w w') := by
        show _ = _
        rw [startV, hp, hk]; rfl
      rw [hk] at HI
      obtain ⟨g, rfl, -⟩ := hA 0 (by omega)
      have HA := Lib.hid hA
      have HT := Lib.hid (fun (gs c1 c2 : Nat) (W : World) (hb : Below w.heap.size w W) s0 s1 => concat_any g gs c1 c2 q L W (ptsA_on hA hb) hq hL s0 s1)
      unfold Lists at HT
      have hkc : ¬ q = c := by omega
      have hkc' : ¬ c = q := by omega
      have hkn : (q : Int) ≤ (L.length : Int) := by omega
      have hkc2 : (q : Int) ≤ (c : Int) := by omega
      have hnc : (L.length : Int) ≤ (c : Int) := by omega
      clear no hA hkb
      go_enter Try.func143, Try.ntmps143
      go_wp2_with fail
      refine PC.out.mono ?_
      rintro e w1 ⟨rfl, hb1⟩
      go_wp2_with fail
      refine (HI.out _).mono ?_
      rintro e w2 ⟨rfl, rfl⟩
      go_wp2_with fail
      have hz := hb1.size
      have hal := (hb1.drew).alloc hz (.cells #[.slice (some ⟨g, q * 2, none⟩) (L.length - q) (c - q), .slice (some ⟨g, 0, none⟩) q c] 34)
      have hh := heap_alloc_new w2.drew (.cells #[.slice (some ⟨g, q * 2, none⟩) (L.length - q) (c - q), .slice (some ⟨g, 0, none⟩) q c] 34)
      go_region_with (go_at_call 171; refine (HT.out w2.heap.size (c - q) c _ hal (cell_of_row _ _ 0 _ _ _ hh) (cell_of_row _ _ 1 _ _ _ hh)).mono ?_; rintro e w3 ⟨v, rfl, own, hb3⟩)
      all_goals
        have R := Lib.hid (And.intro (own_base own hal.size) (hal.trans (hb3.mono hal.size)))
        clear own hb1 hb3 hal hh
        go_wp2_with fail
        go_ret
        rw [HU.out]
        exact ⟨_, rfl, R.out.1, R.out.2⟩
end Go.Proofs.Ythoniopkeiifnaa

/-! Same -/
namespace Go.Proofs.Ythoniopkeiifnaa
open Go.RowKit

theorem consec_snoc (l : List Pt) (a b : Pt) : consec (l ++ [a] ++ [b]) = consec (l ++ [a]) ++ [(a, b)] := by
  induction l with
  | nil => rfl
  | cons x l ih =>
    cases l with
    | nil => rfl
    | cons y l =>
      have e1 : consec (x :: y :: l ++ [a] ++ [b]) = (x, y) :: consec (y :: l ++ [a] ++ [b]) := rfl
      have e2 : consec (x :: y :: l ++ [a]) = (x, y) :: consec (y :: l ++ [a]) := rfl
      rw [e1, e2, ih]; rfl
theorem good_of {L M : List Pt} (hl : M.length = L.length) (hm : ∀ p, p ∈ M ↔ p ∈ L) (hd : M.Nodup) (hs : ∀ s, s ∈ sidesL M → s ∈ sidesL L) (h : Good L) : Good M := by
  obtain ⟨h1, h2, h3, h4⟩ := h
  refine ⟨by rw [hl]; exact h1, ?_, hd, fun s hs1 t ht1 hst => h4 s (hs s hs1) t (hs t ht1) hst⟩
  simp only [allOk, List.all_eq_true] at h2 ⊢
  exact fun p hp => h2 p ((hm p).1 hp)
theorem sides_step (x y : Pt) (ys : List Pt) (s : Pt × Pt) : s ∈ sidesL (y :: ys ++ [x]) ↔ s ∈ sidesL (x :: y :: ys) := by
  have e1 : sidesL (x :: y :: ys) = (x, y) :: consec (y :: ys ++ [x]) := rfl
  have e2 : sidesL (y :: ys ++ [x]) = consec (y :: ys ++ [x] ++ [y]) := rfl
  rw [e1, e2, consec_snoc]
  rw [List.mem_append, List.mem_singleton, List.mem_cons]
  exact Or.comm
theorem good_step (x : Pt) (xs : List Pt) : Good (xs ++ [x]) ↔ Good (x :: xs) := by
  cases xs with
  | nil => exact Iff.rfl
  | cons y ys =>
    constructor
    · intro h
      refine good_of (L := y :: ys ++ [x]) (by simp) (fun p => by simp only [List.mem_cons, List.mem_append, List.not_mem_nil, or_false]; constructor <;> (intro h; rcases h with h | h | h <;> simp [h]) ) ?_ (fun s hs => (sides_step x y ys s).2 hs) h
      exact (List.perm_append_comm (l₁ := y :: ys) (l₂ := [x])).nodup_iff.1 h.2.2.1
    · intro h
      refine good_of (L := x :: y :: ys) (by simp) (fun p => by simp only [List.mem_cons, List.mem_append, List.not_mem_nil, or_false]; constructor <;> (intro h; rcases h with h | h | h <;> simp [h]) ) ?_ (fun s hs => (sides_step x y ys s).1 hs) h
      exact (List.perm_append_comm (l₁ := y :: ys) (l₂ := [x])).nodup_iff.2 h.2.2.1
theorem rotL_zero (L : List Pt) : rotL L 0 = L := by simp [rotL]
theorem rotL_succ {L : List Pt} {k : Nat} (hk : k < L.length) : ∃ x xs, rotL L k = x :: xs ∧ rotL L (k + 1) = xs ++ [x] := by
  refine ⟨L[k], L.drop (k + 1) ++ L.take k, ?_, ?_⟩
  · rw [rotL, List.drop_eq_getElem_cons hk]; rfl
  · rw [rotL, List.take_succ_eq_append_getElem hk, List.append_assoc]
theorem good_rot {L : List Pt} (h : Good L) : ∀ k, k ≤ L.length → Good (rotL L k) := by
  intro k
  induction k with
  | zero => intro _; rw [rotL_zero]; exact h
  | succ k ih =>
    intro hk
    obtain ⟨x, xs, e1, e2⟩ := rotL_succ (L := L) (k := k) (by omega)
    have := ih (by omega)
    rw [e1] at this
    rw [e2]
    exact (good_step x xs).2 this

/-! ### Without a straight corner -/
theorem cross_z (a b : Pt) : crossP a b b = 0 := by unfold crossP crossI; grind
theorem good_drop {b : Pt} {Y : List Pt} (h : Good (b :: Y)) (h4 : 3 ≤ Y.length) (hs : onP (gt Y (Y.length - 1)) (gt Y 0) b = true) : Good Y := by
  obtain ⟨h1, h2, h3, hg⟩ := h
  have hb : b ∉ Y := (List.nodup_cons.1 h3).1
  have hY : Y.Nodup := (List.nodup_cons.1 h3).2
  obtain ⟨c, Y', rfl⟩ : ∃ c Y', Y = c :: Y' := by
    cases Y with
    | nil => simp at h4
    | cons c Y' => exact ⟨c, Y', rfl⟩
  obtain ⟨a, ha⟩ : ∃ a, a = gt (c :: Y') ((c :: Y').length - 1) := ⟨_, rfl⟩
  have hc : gt (c :: Y') 0 = c := rfl
  rw [← ha, hc] at hs
  have hlast : c :: Y' = (c :: Y').dropLast ++ [a] := by
    have hl : (c :: Y').getLast (by simp) = a := by
      rw [ha, gt_at (by simp), List.getLast_eq_getElem]
    rw [← hl]
    exact (List.dropLast_concat_getLast _).symm
  have eL : sidesL (b :: c :: Y') = (b, c) :: consec (c :: Y') ++ [(a, b)] := by
    have e1 : sidesL (b :: c :: Y') = (b, c) :: consec (c :: Y' ++ [b]) := rfl
    rw [e1, hlast, consec_snoc]
    rfl
  have eY : sidesL (c :: Y') = consec (c :: Y') ++ [(a, c)] := by
    have e1 : sidesL (c :: Y') = consec (c :: Y' ++ [c]) := rfl
    rw [e1]
    conv => lhs; rw [hlast]
    rw [consec_snoc, ← hlast]
  have hbc : (b, c) ∈ sidesL (b :: c :: Y') := by rw [eL]; simp
  have hab : (a, b) ∈ sidesL (b :: c :: Y') := by rw [eL]; simp
  have hin : ∀ t, t ∈ consec (c :: Y') → t ∈ sidesL (b :: c :: Y') := fun t ht => by rw [eL]; simp [ht]
  have hmem : ∀ t, t ∈ consec (c :: Y') → t.1 ∈ c :: Y' ∧ t.2 ∈ c :: Y' := fun t ht => by
    have := List.of_mem_zip (a := t.1) (b := t.2) (l₁ := c :: Y') (l₂ := (c :: Y').tail) ht
    exact ⟨this.1, List.mem_of_mem_tail this.2⟩
  have haY : a ∈ c :: Y' := by rw [hlast]; simp
  have hba : b ≠ a := fun e => hb (e ▸ haY)
  have hbcn : b ≠ c := fun e => hb (e ▸ List.mem_cons_self)
  have hne1 : ∀ t, t ∈ consec (c :: Y') → t.1 ≠ b ∧ t.2 ≠ b := fun t ht => ⟨fun e => hb (e ▸ (hmem t ht).1), fun e => hb (e ▸ (hmem t ht).2)⟩
  -- a side from c does not lead to a
  have hca : ∀ t, t ∈ consec (c :: Y') → t.1 = c → t.2 ≠ a := fun t ht e1 e2 => by
    obtain ⟨i, hi, hti⟩ := mem_sides.1 (hin t ht)
    rw [hti] at e1 e2
    have k1 : gt (b :: c :: Y') i = gt (b :: c :: Y') 1 := e1
    have k2 := gt_inj h3 hi (by simp) k1
    have k3 : gt (b :: c :: Y') (nx (b :: c :: Y') i) = gt (b :: c :: Y') ((b :: c :: Y').length - 1) := by
      rw [show gt (b :: c :: Y') (nx (b :: c :: Y') i) = a from e2, ha]
      simp only [gt, List.length_cons, Nat.add_sub_cancel]
      cases hY' : Y'.length with
      | zero => simp at h4; omega
      | succ n => simp
    have k4 := gt_inj h3 (nx_lt (by simp) i) (by simp) k3
    rw [nx_eq hi] at k4
    simp only [List.length_cons] at k4 h4
    by_cases hl : i + 1 = Y'.length + 1 + 1
    · rw [if_pos hl] at k4; omega
    · rw [if_neg hl] at k4; omega
  have hac : a ≠ c := fun e => by
    have : gt (c :: Y') ((c :: Y').length - 1) = gt (c :: Y') 0 := by rw [← ha, e]; rfl
    have := gt_inj hY (by simp) (by simp) this
    simp only [List.length_cons] at this h4; omega
  -- the new side meets no other one
  have new0 : ∀ t, t ∈ consec (c :: Y') → t.1 ≠ c → t.2 ≠ a → meetI a c t.1 t.2 = 0 := fun t ht k1 k2 => by
    obtain ⟨n1, n2⟩ := hne1 t ht
    have m1 := (hg _ hab _ (hin t ht) (fun e => n2 (Prod.ext_iff.1 e).2.symm)).2 (Ne.symm n1) k2
    have m2 := (hg _ hbc _ (hin t ht) (fun e => n1 (Prod.ext_iff.1 e).1.symm)).2 (Ne.symm k1) n2
    exact meet_merge hs hba hbcn m1 m2
  have new1 : ∀ t, t ∈ consec (c :: Y') → t.1 = c → onP t.1 t.2 a = false ∧ onP a c t.2 = false := fun t ht k1 => by
    obtain ⟨n1, n2⟩ := hne1 t ht
    have k2 := hca t ht k1
    have m1 := (hg _ hab _ (hin t ht) (fun e => n2 (Prod.ext_iff.1 e).2.symm)).2 (Ne.symm n1) k2
    have m2 := (hg _ hbc _ (hin t ht) (fun e => n1 (Prod.ext_iff.1 e).1.symm)).1 k1.symm
    obtain ⟨-, z1, -, -, z4⟩ := meet_zero.1 m1
    refine ⟨z1, ?_⟩
    cases hq : onP a c t.2
    · rfl
    · rcases on_part hs hq with h5 | h5
      · rw [show onP a b t.2 = false from z4] at h5; cases h5
      · rw [show onP b c t.2 = false from m2.2] at h5; cases h5
  have new2 : ∀ t, t ∈ consec (c :: Y') → t.2 = a → onP a c t.1 = false ∧ onP t.1 t.2 c = false := fun t ht k1 => by
    obtain ⟨n1, n2⟩ := hne1 t ht
    have k2 : t.1 ≠ c := fun e => hca t ht e k1
    have m1 := (hg _ (hin t ht) _ hab (fun e => n2 (Prod.ext_iff.1 e).2)).1 k1
    have m2 := (hg _ hbc _ (hin t ht) (fun e => n1 (Prod.ext_iff.1 e).1.symm)).2 (Ne.symm k2) n2
    obtain ⟨-, -, z2, z3, -⟩ := meet_zero.1 m2
    refine ⟨?_, z2⟩
    cases hq : onP a c t.1
    · rfl
    · rcases on_part hs hq with h5 | h5
      · rw [show onP a b t.1 = false from m1.1] at h5; cases h5
      · rw [show onP b c t.1 = false from z3] at h5; cases h5
  refine ⟨⟨h4, by have := h1.2; simp at this ⊢; omega⟩, ?_, hY, ?_⟩
  · simp only [allOk, List.all_eq_true] at h2 ⊢
    exact fun p hp => h2 p (List.mem_cons_of_mem _ hp)
  · intro s hs1 t ht1 hst
    rw [eY] at hs1 ht1
    simp only [List.mem_append, List.mem_cons, List.not_mem_nil, or_false] at hs1 ht1
    rcases hs1 with hs1 | rfl <;> rcases ht1 with ht1 | rfl
    · exact hg s (hin s hs1) t (hin t ht1) hst
    · refine ⟨fun e => ?_, fun e1 e2 => ?_⟩
      · have := new2 s hs1 e
        exact ⟨this.1, this.2⟩
      · rw [meetI_swap]
        exact new0 s hs1 (Ne.symm e2) e1
    · exact ⟨fun e => new1 t ht1 e.symm, fun e1 e2 => new0 t ht1 (Ne.symm e1) e2⟩
    · exact absurd rfl hst
end Go.Proofs.Ythoniopkeiifnaa

/-! Shape -/
namespace Go.Proofs.Ythoniopkeiifnaa
open Go.RowKit

theorem straight_filter (L : List Pt) : ∀ k, straightTill L k = ((List.range k).filter (bentB L)).map (gt L) := by
  intro k
  induction k with
  | zero => rfl
  | succ k ih =>
    rw [straightTill, ih, List.range_succ, List.filter_append, List.map_append, List.filter_cons, List.filter_nil]
    cases bentB L k <;> simp
theorem straightL_eq (L : List Pt) : straightL L = ((List.range L.length).filter (bentB L)).map (gt L) := straight_filter L _
theorem gt_step (x : Pt) (xs : List Pt) {i : Nat} (hi : i < (x :: xs).length) : gt (xs ++ [x]) i = gt (x :: xs) (nx (x :: xs) i) := by
  rw [nx_eq hi]
  simp only [List.length_cons] at hi ⊢
  by_cases h : i + 1 = xs.length + 1
  · rw [if_pos h, gt_at (by simp; omega), List.getElem_append_right (by omega)]
    simp [gt]
  · rw [if_neg h, gt_at (by simp; omega), List.getElem_append_left (by omega), gt_at (by simp; omega)]
    rfl
theorem bent_step (x : Pt) (xs : List Pt) {i : Nat} (hi : i < (x :: xs).length) : bentB (xs ++ [x]) i = bentB (x :: xs) (nx (x :: xs) i) := by
  have hl : (xs ++ [x]).length = (x :: xs).length := by simp
  have h0 : 0 < (x :: xs).length := by simp
  have e1 : pv (xs ++ [x]) i = pv (x :: xs) i := by unfold pv; rw [hl]
  have e2 : nx (xs ++ [x]) i = nx (x :: xs) i := by unfold nx; rw [hl]
  have e3 : pv (x :: xs) (nx (x :: xs) i) = i := by
    rw [pv_eq (nx_lt h0 i), nx_eq hi]
    by_cases h : i + 1 = (x :: xs).length
    · rw [if_pos h, if_pos rfl]; omega
    · rw [if_neg h, if_neg (by omega)]; omega
  unfold bentB
  rw [e1, e2, gt_step x xs hi, gt_step x xs (pv_lt h0 i), gt_step x xs (nx_lt h0 i), nx_pv hi, e3]
theorem range_nx (x : Pt) (xs : List Pt) : (List.range (x :: xs).length).map (nx (x :: xs)) = (List.range xs.length).map Nat.succ ++ [0] := by
  rw [List.length_cons, List.range_succ, List.map_append]
  congr 1
  · apply List.map_congr_left
    intro i hi
    have : i < xs.length := List.mem_range.1 hi
    rw [nx_eq (by simp; omega), if_neg (by simp; omega)]
  · simp only [List.map_cons, List.map_nil]
    rw [nx_eq (by simp), if_pos (by simp)]
def restS (x : Pt) (xs : List Pt) : List Pt := (((List.range xs.length).map Nat.succ).filter (bentB (x :: xs))).map (gt (x :: xs))
theorem straight_cons (x : Pt) (xs : List Pt) : straightL (x :: xs) = (bif bentB (x :: xs) 0 then [x] else []) ++ restS x xs := by
  rw [straightL_eq, List.length_cons, List.range_succ_eq_map, List.filter_cons]
  cases h : bentB (x :: xs) 0
  · rfl
  · rfl
theorem straight_step (x : Pt) (xs : List Pt) : straightL (xs ++ [x]) = restS x xs ++ (bif bentB (x :: xs) 0 then [x] else []) := by
  have hl : (xs ++ [x]).length = (x :: xs).length := by simp
  have h1 : straightL (xs ++ [x]) = (((List.range (x :: xs).length).map (nx (x :: xs))).filter (bentB (x :: xs))).map (gt (x :: xs)) := by
    rw [straightL_eq, hl, List.filter_map, List.map_map]
    rw [List.filter_congr (q := bentB (x :: xs) ∘ nx (x :: xs)) (fun i hi => bent_step x xs (List.mem_range.1 hi))]
    apply List.map_congr_left
    intro i hi
    exact gt_step x xs (List.mem_range.1 (List.mem_filter.1 hi).1)
  rw [h1, range_nx, List.filter_append, List.map_append]
  congr 1
  cases h : bentB (x :: xs) 0 <;> simp [h, gt]
theorem good_straight_step {x : Pt} {xs : List Pt} (h : Good (straightL (xs ++ [x]))) : Good (straightL (x :: xs)) := by
  rw [straight_step] at h
  rw [straight_cons]
  cases hb : bentB (x :: xs) 0
  · rw [hb] at h; simpa using h
  · rw [hb] at h
    exact (good_step x _).1 h
theorem good_straight_rot {L : List Pt} : ∀ k, k ≤ L.length → Good (straightL (rotL L k)) → Good (straightL L) := by
  intro k
  induction k with
  | zero => intro _ h; rw [rotL_zero] at h; exact h
  | succ k ih =>
    intro hk h
    obtain ⟨x, xs, e1, e2⟩ := rotL_succ (L := L) (k := k) (by omega)
    rw [e2] at h
    refine ih (by omega) ?_
    rw [e1]
    exact good_straight_step h
theorem bent_rot {L : List Pt} : ∀ k, k ≤ L.length → ∀ j, j < L.length → bentB (rotL L k) j = bentB L ((j + k) % L.length) := by
  intro k
  induction k with
  | zero => intro _ j hj; rw [rotL_zero, Nat.add_zero, Nat.mod_eq_of_lt hj]
  | succ k ih =>
    intro hk j hj
    obtain ⟨x, xs, e1, e2⟩ := rotL_succ (L := L) (k := k) (by omega)
    have hl : (x :: xs).length = L.length := by rw [← e1, rotL_len]
    have h1 := ih (by omega) (nx (x :: xs) j) (by rw [← hl]; exact nx_lt (by simp) j)
    rw [e1] at h1
    rw [e2, bent_step x xs (by omega), h1]
    unfold nx
    rw [hl, Nat.mod_add_mod, show j + 1 + k = j + (k + 1) by omega]
theorem mul_zero_iff {m x q y : Int} (hm : 0 < m) (hq : 0 < q) (h : m * x = q * y) : x = 0 ↔ y = 0 := by
  constructor
  · intro hx; rw [hx, Int.mul_zero] at h; exact mul_zero_of hq h.symm
  · intro hy; rw [hy, Int.mul_zero] at h; exact mul_zero_of hm h
theorem bent_drop {b : Pt} {Y : List Pt} (hY : 3 ≤ Y.length) (hs : onP (gt Y (Y.length - 1)) (gt Y 0) b = true) (hb : b ∉ Y) {i : Nat} (hi : i < Y.length) : bentB (b :: Y) (i + 1) = bentB Y i := by
  have ha : gt Y (Y.length - 1) ∈ Y := by rw [gt_at (by omega)]; exact List.getElem_mem _
  have hc : gt Y 0 ∈ Y := by rw [gt_at (by omega)]; exact List.getElem_mem _
  obtain ⟨a, ea⟩ : ∃ a, a = gt Y (Y.length - 1) := ⟨_, rfl⟩
  obtain ⟨c, ec⟩ : ∃ c, c = gt Y 0 := ⟨_, rfl⟩
  rw [← ea, ← ec] at hs
  rw [← ea] at ha
  rw [← ec] at hc
  have hba : b ≠ a := fun e => hb (e ▸ ha)
  have hbc : b ≠ c := fun e => hb (e ▸ hc)
  have hac : a ≠ c := by
    intro h
    subst h
    obtain ⟨_, k2, k3⟩ := (onP_iff _ _ _).1 hs
    exact hba (by unfold bt at k2 k3; exact Prod.ext (by omega) (by omega))
  obtain ⟨p, q, hw⟩ := on_wt hs hac
  have hp := hw.ne_c hbc
  have hq := hw.ne_a hba
  have g1 : ∀ j, gt (b :: Y) (j + 1) = gt Y j := fun j => by simp [gt]
  have e1 : pv (b :: Y) (i + 1) = i := by rw [pv_eq (by simp; omega), if_neg (by omega)]; omega
  have e2 : nx (b :: Y) (i + 1) = if i + 1 = Y.length then 0 else i + 1 + 1 := by
    rw [nx_eq (by simp; omega)]
    by_cases h : i + 1 = Y.length
    · rw [if_pos h, if_pos (by simp; omega)]
    · rw [if_neg h, if_neg (by simp; omega)]
  unfold bentB
  rw [e1, e2, g1, pv_eq hi, nx_eq hi]
  have key : ∀ x y : Int, (x = 0 ↔ y = 0) → (!(x == 0)) = (!(y == 0)) := fun x y h => by
    rw [Bool.eq_iff_iff]; simp only [Bool.not_eq_true', beq_eq_false_iff_ne, ne_eq, h]
  apply key
  by_cases h0 : i = 0
  · subst h0
    rw [if_pos rfl, if_neg (by omega), if_neg (by omega), g1, ← ea, ← ec]
    exact mul_zero_iff hw.pq hp (hw.cross_bc _)
  · rw [if_neg h0]
    have e3 : gt (b :: Y) i = gt Y (i - 1) := by rw [show i = (i - 1) + 1 by omega, g1]; congr 1
    rw [e3]
    by_cases hl : i + 1 = Y.length
    · rw [if_pos hl, if_pos hl]
      have e4 : gt Y i = a := by rw [ea]; congr 1; omega
      rw [e4, ← ec]
      show crossP (gt Y (i - 1)) a b = 0 ↔ _
      have := hw.cross3 (gt Y (i - 1)) a
      rw [cross_z, Int.mul_zero, Int.zero_add] at this
      exact mul_zero_iff hw.pq hq this
    · rw [if_neg hl, if_neg hl, g1]
theorem straight_drop {b : Pt} {Y : List Pt} (hY : 3 ≤ Y.length) (hs : onP (gt Y (Y.length - 1)) (gt Y 0) b = true) (hb : b ∉ Y) (h0 : bentB (b :: Y) 0 = false) : straightL (b :: Y) = straightL Y := by
  rw [straight_cons, h0, straightL_eq]
  show [] ++ restS b Y = _
  rw [List.nil_append, restS, List.filter_map, List.map_map]
  rw [List.filter_congr (p := bentB (b :: Y) ∘ Nat.succ) (q := bentB Y) (fun i hi => bent_drop hY hs hb (List.mem_range.1 hi))]
  apply List.map_congr_left
  intro i _
  simp [gt]
/-- **The straightened polygon is one.** -/
theorem good_straight : ∀ n (L : List Pt), L.length = n → Good L → Good (straightL L) := by
  intro n
  induction n using Nat.strongRecOn with
  | _ n ih =>
    intro L hL hG
    by_cases hall : ∀ i, i < L.length → bentB L i = true
    · have : straightL L = L := by
        rw [straightL_eq, List.filter_eq_self.2 (fun i hi => hall i (List.mem_range.1 hi))]
        apply List.ext_getElem (by simp)
        intro i h1 h2
        simp [gt_at h2]
      rw [this]; exact hG
    · obtain ⟨i, hi, hb⟩ : ∃ i, i < L.length ∧ bentB L i = false := by
        false_or_by_contra
        rename_i hne
        exact hall fun i hi => by
          cases hb : bentB L i
          · exact absurd ⟨i, hi, hb⟩ hne
          · rfl
      refine good_straight_rot i (by omega) ?_
      have hG' := good_rot hG i (by omega)
      have hb' : bentB (rotL L i) 0 = false := by rw [bent_rot i (by omega) 0 (by omega), Nat.zero_add, Nat.mod_eq_of_lt hi, hb]
      obtain ⟨b, Y, e1, -⟩ := rotL_succ hi
      have hl : (b :: Y).length = n := by rw [← e1, rotL_len, hL]
      rw [e1] at hG' hb' ⊢
      have hY2 : 2 ≤ Y.length := by have := hG'.1.1; simp at this; omega
      have hbY : b ∉ Y := (List.nodup_cons.1 hG'.2.2.1).1
      have hon : onP (gt Y (Y.length - 1)) (gt Y 0) b = true := by
        have h1 := on_bent (good_poly hG') (i := 0) (by simp)
        rw [hb', Bool.not_false, onQ_ok (gt_ok hG'.2.1 _) (gt_ok hG'.2.1 _) (gt_ok hG'.2.1 _)] at h1
        rw [pv_eq (by simp), if_pos rfl, nx_eq (by simp), if_neg (by rw [List.length_cons]; omega)] at h1
        have e2 : gt (b :: Y) ((b :: Y).length - 1) = gt Y (Y.length - 1) := by
          rw [List.length_cons, Nat.add_sub_cancel, show Y.length = (Y.length - 1) + 1 by omega]; simp [gt]
        have e3 : gt (b :: Y) (0 + 1) = gt Y 0 := by simp [gt]
        rw [e2, e3] at h1
        exact h1
      have hY3 : 3 ≤ Y.length := by
        false_or_by_contra
        rename_i hlt
        have hm : Y.length = 2 := by omega
        obtain ⟨c, a, rfl⟩ : ∃ c a, Y = [c, a] := by
          match Y, hm with
          | [c, a], _ => exact ⟨c, a, rfl⟩
        have hs1 : (c, a) ∈ sidesL [b, c, a] := by simp [sidesL, consec]
        have hs2 : (a, b) ∈ sidesL [b, c, a] := by simp [sidesL, consec]
        have hne : (c, a) ≠ (a, b) := fun e => by
          have h1 := (Prod.ext_iff.1 e).2
          exact hbY (by rw [show b = a from h1.symm]; simp)
        have h1 := (hG'.2.2.2 _ hs1 _ hs2 hne).1 rfl
        have h2 : onP a c b = true := hon
        rw [← on_flip] at h2
        rw [show onP c a b = false from h1.2] at h2
        cases h2
      rw [straight_drop hY3 hon hbY hb']
      exact ih Y.length (by simp at hl; omega) Y rfl (good_drop hG' hY3 hon)
theorem poly_straight {L : List Pt} (h : polyB L = true) : polyB (straightL L) = true := good_poly (good_straight _ L rfl (poly_good h))
theorem poly_rot {L : List Pt} (h : polyB L = true) {k : Nat} (hk : k ≤ L.length) : polyB (rotL L k) = true := good_poly (good_rot (poly_good h) k hk)
end Go.Proofs.Ythoniopkeiifnaa

/-! MotP -/
namespace Go.Proofs.Ythoniopkeiifnaa
open Go.RowKit

def dn (b p : Pt) : Pt := (p.1 - b.1, p.2 - b.2)
def lowL (L : List Pt) : Pt := (boxTill L L.length).1
def cornL (L : List Pt) : List Pt := L.map (dn (lowL L))
def moveL (L : List Pt) (m : Nat) : List Pt := cornL (L.map (mot m))
def moveV (L : List Pt) (m : Int) : List Pt := bif polyB L && inB m 0 7 then moveL L m.toNat else []
theorem cornL_len (L : List Pt) : (cornL L).length = L.length := by simp [cornL]
theorem moveL_len (L : List Pt) (m : Nat) : (moveL L m).length = L.length := by simp [moveL, cornL]
theorem gt_map {f : Pt → Pt} {L : List Pt} {i : Nat} (h : i < L.length) : gt (L.map f) i = f (gt L i) := by
  rw [gt_at (by simpa using h), gt_at h]; simp
theorem minI_eq (x y : Int) : minI x y = min x y := by unfold minI; split <;> omega
theorem maxI_eq (x y : Int) : maxI x y = max x y := by unfold maxI; split <;> omega

/-- The box holds all corners. -/
theorem box_le {L : List Pt} : ∀ k, k ≤ L.length → ∀ i, i < k ∨ i = 0 → (boxTill L k).1.1 ≤ (gt L i).1 ∧ (boxTill L k).1.2 ≤ (gt L i).2 ∧ (gt L i).1 ≤ (boxTill L k).2.1 ∧ (gt L i).2 ≤ (boxTill L k).2.2
  | 0, _, i, hi => by
    obtain rfl : i = 0 := by omega
    simp [boxTill]
  | k + 1, hk, i, hi => by
    simp only [boxTill, boxStep, minI_eq, maxI_eq]
    rcases Nat.lt_or_ge i k with h | h
    · have := box_le (L := L) k (by omega) i (.inl h); omega
    · by_cases h0 : i = 0
      · have := box_le (L := L) k (by omega) i (.inr h0); omega
      · obtain rfl : i = k := by omega
        omega
/-- Each side of the box is reached. -/
theorem box_at {L : List Pt} : ∀ k, k ≤ L.length → 0 < L.length → (∃ i, i < L.length ∧ (boxTill L k).1.1 = (gt L i).1) ∧ (∃ i, i < L.length ∧ (boxTill L k).1.2 = (gt L i).2)
  | 0, _, h0 => ⟨⟨0, h0, rfl⟩, ⟨0, h0, rfl⟩⟩
  | k + 1, hk, h0 => by
    obtain ⟨⟨i, hi, e1⟩, ⟨j, hj, e2⟩⟩ := box_at k (by omega) h0
    simp only [boxTill, boxStep, minI]
    constructor
    · split
      · exact ⟨k, by omega, rfl⟩
      · exact ⟨i, hi, e1⟩
    · split
      · exact ⟨k, by omega, rfl⟩
      · exact ⟨j, hj, e2⟩
theorem box_hi {L : List Pt} (hok : allOk L = true) : ∀ k, k ≤ L.length → 0 < L.length → (boxTill L k).2.1 ≤ 40 ∧ (boxTill L k).2.2 ≤ 40
  | 0, _, h0 => by
    have := okP_bounds (all_at hok h0)
    simp only [boxTill]; omega
  | k + 1, hk, h0 => by
    have := box_hi hok k (by omega) h0
    have := okP_bounds (all_at hok (show k < L.length by omega))
    simp only [boxTill, boxStep, maxI_eq]
    omega
theorem low_le {L : List Pt} {i : Nat} (hi : i < L.length) : (lowL L).1 ≤ (gt L i).1 ∧ (lowL L).2 ≤ (gt L i).2 := by
  have := box_le (L := L) L.length (Nat.le_refl _) i (.inl hi)
  exact ⟨this.1, this.2.1⟩

/-- The least corner of a moved box: the lesser numbers of its two moved ends. -/
theorem box_mot {m : Nat} (hm : m < 8) {L : List Pt} : ∀ k, k ≤ L.length → 0 < L.length →
    ((boxTill L k).1.1 ≤ (boxTill L k).2.1 ∧ (boxTill L k).1.2 ≤ (boxTill L k).2.2) ∧
    (boxTill (L.map (mot m)) k).1 = (minI (mot m (boxTill L k).1).1 (mot m (boxTill L k).2).1, minI (mot m (boxTill L k).1).2 (mot m (boxTill L k).2).2)
  | 0, _, h0 => by
    simp only [boxTill, gt_map h0]
    exact ⟨⟨Int.le_refl _, Int.le_refl _⟩, by simp [minI]⟩
  | k + 1, hk, h0 => by
    obtain ⟨⟨h1, h2⟩, h3⟩ := box_mot hm k (by omega) h0
    simp only [boxTill, boxStep, gt_map (show k < L.length by omega), h3]
    clear h3
    generalize boxTill L k = B at *
    generalize gt L k = q at *
    refine ⟨⟨by simp only [minI_eq, maxI_eq]; omega, by simp only [minI_eq, maxI_eq]; omega⟩, ?_⟩
    match m, hm with
    | 0, _ => simp only [mot, minI_eq, maxI_eq]; exact Prod.ext (by simp only; omega) (by simp only; omega)
    | 1, _ => simp only [mot, minI_eq, maxI_eq]; exact Prod.ext (by simp only; omega) (by simp only; omega)
    | 2, _ => simp only [mot, minI_eq, maxI_eq]; exact Prod.ext (by simp only; omega) (by simp only; omega)
    | 3, _ => simp only [mot, minI_eq, maxI_eq]; exact Prod.ext (by simp only; omega) (by simp only; omega)
    | 4, _ => simp only [mot, minI_eq, maxI_eq]; exact Prod.ext (by simp only; omega) (by simp only; omega)
    | 5, _ => simp only [mot, minI_eq, maxI_eq]; exact Prod.ext (by simp only; omega) (by simp only; omega)
    | 6, _ => simp only [mot, minI_eq, maxI_eq]; exact Prod.ext (by simp only; omega) (by simp only; omega)
    | 7, _ => simp only [mot, minI_eq, maxI_eq]; exact Prod.ext (by simp only; omega) (by simp only; omega)
    | j + 8, h => omega
theorem low_mot {m : Nat} (hm : m < 8) {L : List Pt} (h0 : 0 < L.length) :
    lowL (L.map (mot m)) = (minI (mot m (boxTill L L.length).1).1 (mot m (boxTill L L.length).2).1, minI (mot m (boxTill L L.length).1).2 (mot m (boxTill L L.length).2).2) := by
  have := (box_mot hm L.length (Nat.le_refl _) h0).2
  unfold lowL
  rw [List.length_map]
  exact this

/-! ### isometries -/
structure Iso (f : Pt → Pt) : Prop where
  inj : ∀ a b, f a = f b → a = b
  cr : (∀ a b c, crossP (f a) (f b) (f c) = crossP a b c) ∨ (∀ a b c, crossP (f a) (f b) (f c) = -crossP a b c)
  on : ∀ a b c, onP (f a) (f b) (f c) = onP a b c
theorem iso_of {f : Pt → Pt} (inj : ∀ a b, f a = f b → a = b)
    (cr : (∀ a b c, crossP (f a) (f b) (f c) = crossP a b c) ∨ (∀ a b c, crossP (f a) (f b) (f c) = -crossP a b c))
    (bx : ∀ a b c : Pt, (bt a.1 b.1 c.1 ∧ bt a.2 b.2 c.2) ↔ (bt (f a).1 (f b).1 (f c).1 ∧ bt (f a).2 (f b).2 (f c).2)) : Iso f where
  inj := inj
  cr := cr
  on a b c := by
    rw [Bool.eq_iff_iff, onP_iff, onP_iff, ← bx]
    have : crossP (f a) (f b) (f c) = 0 ↔ crossP a b c = 0 := by
      rcases cr with h | h
      · rw [h]
      · rw [h]; omega
    rw [this]
theorem iso_dn (b : Pt) : Iso (dn b) :=
  iso_of (fun p q h => by simp only [dn, Prod.mk.injEq] at h; exact Prod.ext (by omega) (by omega))
    (.inl fun p q r => by unfold crossP crossI dn; grind)
    (fun p q r => by unfold bt dn; simp only; omega)
theorem iso_mot {m : Nat} (hm : m < 8) : Iso (mot m) := by
  have ax : ∀ p q : Pt, p.1 = q.1 → p.2 = q.2 → p = q := fun p q h1 h2 => Prod.ext h1 h2
  match m, hm with
  | 0, _ => exact iso_of (fun p q h => h) (.inl fun _ _ _ => rfl) (fun _ _ _ => Iff.rfl)
  | 1, _ => exact iso_of (fun p q h => by simp only [mot, Prod.mk.injEq] at h; exact ax _ _ (by omega) (by omega)) (.inl fun p q r => by unfold crossP crossI mot; grind) (fun p q r => by unfold bt mot; simp only; omega)
  | 2, _ => exact iso_of (fun p q h => by simp only [mot, Prod.mk.injEq] at h; exact ax _ _ (by omega) (by omega)) (.inl fun p q r => by unfold crossP crossI mot; grind) (fun p q r => by unfold bt mot; simp only; omega)
  | 3, _ => exact iso_of (fun p q h => by simp only [mot, Prod.mk.injEq] at h; exact ax _ _ (by omega) (by omega)) (.inl fun p q r => by unfold crossP crossI mot; grind) (fun p q r => by unfold bt mot; simp only; omega)
  | 4, _ => exact iso_of (fun p q h => by simp only [mot, Prod.mk.injEq] at h; exact ax _ _ (by omega) (by omega)) (.inr fun p q r => by unfold crossP crossI mot; grind) (fun p q r => by unfold bt mot; simp only; omega)
  | 5, _ => exact iso_of (fun p q h => by simp only [mot, Prod.mk.injEq] at h; exact ax _ _ (by omega) (by omega)) (.inr fun p q r => by unfold crossP crossI mot; grind) (fun p q r => by unfold bt mot; simp only; omega)
  | 6, _ => exact iso_of (fun p q h => by simp only [mot, Prod.mk.injEq] at h; exact ax _ _ (by omega) (by omega)) (.inr fun p q r => by unfold crossP crossI mot; grind) (fun p q r => by unfold bt mot; simp only; omega)
  | 7, _ => exact iso_of (fun p q h => by simp only [mot, Prod.mk.injEq] at h; exact ax _ _ (by omega) (by omega)) (.inr fun p q r => by unfold crossP crossI mot; grind) (fun p q r => by unfold bt mot; simp only; omega)
  | k + 8, h => omega
theorem Iso.opp {f : Pt → Pt} (h : Iso f) (a b c d : Pt) : opp (f a) (f b) (f c) (f d) = opp a b c d := by
  rw [Bool.eq_iff_iff, opp_iff, opp_iff]
  rcases h.cr with e | e
  · rw [e, e]
  · rw [e, e]; omega
theorem Iso.meet {f : Pt → Pt} (h : Iso f) (a b c d : Pt) : meetI (f a) (f b) (f c) (f d) = 0 ↔ meetI a b c d = 0 := by
  rw [meet_zero, meet_zero, h.opp, h.opp, h.on, h.on, h.on, h.on]
theorem sides_map {f : Pt → Pt} (L : List Pt) : sidesL (L.map f) = (sidesL L).map fun s => (f s.1, f s.2) := by
  rw [sides_eq, sides_eq, List.length_map, List.map_map]
  refine List.map_congr_left fun i hi => ?_
  rw [List.mem_range] at hi
  have hn : nx (L.map f) i = nx L i := by simp [nx]
  have hl : nx L i < L.length := Nat.mod_lt _ (by omega)
  rw [hn, gt_map hi, gt_map hl]
  rfl
theorem good_map {f : Pt → Pt} (h : Iso f) {L : List Pt} (g : Good L) (hok : allOk (L.map f) = true) : Good (L.map f) := by
  obtain ⟨hl, _, hnd, hs⟩ := g
  refine ⟨by rw [List.length_map]; exact hl, hok, ?_, ?_⟩
  · rw [nodup_iff] at hnd ⊢
    intro i k hik hk
    rw [List.length_map] at hk
    rw [gt_map (by omega), gt_map hk]
    exact fun e => hnd i k hik hk (h.inj _ _ e)
  · rw [sides_map]
    intro s hsm t htm hne
    obtain ⟨s', hs', rfl⟩ := List.mem_map.1 hsm
    obtain ⟨t', ht', rfl⟩ := List.mem_map.1 htm
    have hne' : s' ≠ t' := fun e => hne (by rw [e])
    obtain ⟨h1, h2⟩ := hs s' hs' t' ht' hne'
    refine ⟨fun e => ?_, fun e1 e2 => ?_⟩
    · have := h1 (h.inj _ _ e)
      simp only [h.on]
      exact this
    · exact (h.meet _ _ _ _).2 (h2 (fun e => e1 (by rw [e])) (fun e => e2 (by rw [e])))
theorem map_ok {L : List Pt} (hok : allOk L = true) {m : Nat} (hm : m < 8) : allOk (moveL L m) = true := by
  simp only [allOk, List.all_eq_true]
  intro p hp
  obtain ⟨q, hq, rfl⟩ := List.mem_map.1 hp
  obtain ⟨k, hk, rfl⟩ := List.getElem_of_mem hq
  have hk' : k < L.length := by simpa using hk
  rw [← gt_at hk]
  have b1 := low_le hk
  have h0 : 0 < (L.map (mot m)).length := by omega
  obtain ⟨⟨i, hi, e1⟩, ⟨j, hj, e2⟩⟩ := box_at (L := L.map (mot m)) _ (Nat.le_refl _) h0
  have hi' : i < L.length := by simpa using hi
  have hj' : j < L.length := by simpa using hj
  change (lowL _).1 = _ at e1
  change (lowL _).2 = _ at e2
  have ok1 := okP_bounds (all_at hok hk')
  have ok2 := okP_bounds (all_at hok hi')
  have ok3 := okP_bounds (all_at hok hj')
  rw [gt_map hk'] at b1 ⊢
  rw [gt_map hi'] at e1
  rw [gt_map hj'] at e2
  generalize lowL (L.map (mot m)) = b at *
  generalize gt L k = p1 at *
  generalize gt L i = p2 at *
  generalize gt L j = p3 at *
  simp only [okP, Bool.and_eq_true, inB_spec, dn]
  clear hp hq hk hi hj h0
  match m, hm with
  | 0, _ => simp only [mot] at *; omega
  | 1, _ => simp only [mot] at *; omega
  | 2, _ => simp only [mot] at *; omega
  | 3, _ => simp only [mot] at *; omega
  | 4, _ => simp only [mot] at *; omega
  | 5, _ => simp only [mot] at *; omega
  | 6, _ => simp only [mot] at *; omega
  | 7, _ => simp only [mot] at *; omega
  | k + 8, h => omega
theorem iso_move {L : List Pt} {m : Nat} (hm : m < 8) : ∃ f, Iso f ∧ moveL L m = L.map f := by
  refine ⟨dn (lowL (L.map (mot m))) ∘ mot m, ?_, by simp [moveL, cornL]⟩
  have h1 := iso_dn (lowL (L.map (mot m)))
  have h2 := iso_mot hm
  refine ⟨fun a b h => h2.inj _ _ (h1.inj _ _ h), ?_, fun a b c => (h1.on _ _ _).trans (h2.on _ _ _)⟩
  rcases h1.cr with e1 | e1
  · rcases h2.cr with e2 | e2
    · exact .inl fun a b c => (e1 _ _ _).trans (e2 _ _ _)
    · exact .inr fun a b c => (e1 _ _ _).trans (e2 _ _ _)
  · rcases h2.cr with e2 | e2
    · exact .inr fun a b c => (e1 _ _ _).trans (by rw [e2])
    · exact .inl fun a b c => (e1 _ _ _).trans (by rw [e2, Int.neg_neg])
theorem good_move {L : List Pt} (g : Good L) {m : Nat} (hm : m < 8) : Good (moveL L m) := by
  obtain ⟨f, hf, e⟩ := iso_move (L := L) hm
  have ok := map_ok g.2.1 hm
  rw [e] at ok ⊢
  exact good_map hf g ok
theorem poly_move {L : List Pt} (h : polyB L = true) {m : Nat} (hm : m < 8) : polyB (moveL L m) = true := good_poly (good_move (poly_good h) hm)
end Go.Proofs.Ythoniopkeiifnaa

/-! MoveS -/
namespace Go.Proofs.Ythoniopkeiifnaa
open Go.RowKit

theorem map_step {f : Pt → Pt} {L : List Pt} {k : Nat} (h : k < L.length) : (L.take (k + 1)).map f = (L.take k).map f ++ [f (gt L k)] := by
  rw [List.take_succ_eq_append_getElem h, List.map_append, gt_at h]; rfl
theorem map_len {f : Pt → Pt} {L : List Pt} {k : Nat} (h : k ≤ L.length) : ((L.take k).map f).length = k := by simp; omega
def Bd (B : Int) (L : List Pt) : Prop := ∀ i, i < L.length → -B ≤ (gt L i).1 ∧ (gt L i).1 ≤ B ∧ -B ≤ (gt L i).2 ∧ (gt L i).2 ≤ B
theorem bd_low {B : Int} {L : List Pt} (h : Bd B L) (h0 : 0 < L.length) : ∀ k, k ≤ L.length → -B ≤ (boxTill L k).1.1 ∧ (boxTill L k).1.1 ≤ B ∧ -B ≤ (boxTill L k).1.2 ∧ (boxTill L k).1.2 ≤ B := fun k hk => by
  obtain ⟨⟨i, hi, e1⟩, ⟨j, hj, e2⟩⟩ := box_at (L := L) k hk h0
  have := h i hi
  have := h j hj
  omega
theorem bd_mot {L : List Pt} (hok : allOk L = true) {m : Nat} (hm : m < 8) : Bd 40 (L.map (mot m)) := fun i hi => by
  have hi' : i < L.length := by simpa using hi
  rw [gt_map hi']
  have := okP_bounds (all_at hok hi')
  exact mot_bd hm (by omega)

end Go.Proofs.Ythoniopkeiifnaa

/-! Float -/
namespace Go.Proofs.Ythoniopkeiifnaa
open Go.Sort Go.RowKit

/-- Nothing that was there has changed. -/
def Now (w w' : World) : Prop := Below w.heap.size w w'
theorem Calls.now {P : Program} {f : FuncId} {args : Array Value} {w : World} {v : Value} (h : Calls P f args w fun e w' => e = .returned v ∧ Below w.heap.size w w') : Calls P f args w fun e w' => e = .returned v ∧ Now w w' := h
def uponB (P : Program) (w : World) (v : Value) : Result Next → Prop
  | .ok (.value u) w' => w' = w ∧ u = v
  | .ok .skip w' => w' = w ∧ v = undef
  | .ok (.enter f args) w' => w' = w ∧ Calls P f args w fun e w'' => e = .returned v ∧ Now w w''
  | _ => False
def quietB (P : Program) (C : World → Prop) (o : Oper) (a : Act) (K : Act → Prop) : Prop := ∃ v, (∀ w, C w → uponB P w v ((execOp a.eval o).run P w)) ∧ K (a.put o.dst v)
def wpQuietB (P : Program) (ops : Array Oper) (C : World → Prop) (Q : Act → Prop) : List Oper → Act → Prop
  | [], a => Q a
  | o :: rest, a => if Region.wanted o (yielded ops a.tmps) = true then quietB P C o a (wpQuietB P ops C Q rest) else wpQuietB P ops C Q rest (a.put o.dst undef)

section
variable {P : Program} {ops : Array Oper} {md : Region.Mode} {C : World → Prop}

theorem quietB_mono {o : Oper} {a : Act} {K K' : Act → Prop} (h : ∀ a, K a → K' a) (hh : quietB P C o a K) : quietB P C o a K' :=
  let ⟨v, h1, h2⟩ := hh
  ⟨v, h1, h _ h2⟩
theorem wpQuietB_step {Q : Act → Prop} {a : Act} {o : Oper} {rest : List Oper}
    (h : ∀ K : Act → Prop, (∀ a, wpQuietB P ops C Q rest a → K a) → if Region.wanted o (yielded ops a.tmps) = true then quietB P C o a K else K (a.put o.dst undef)) : wpQuietB P ops C Q (o :: rest) a := by
  have := h (wpQuietB P ops C Q rest) (fun _ h => h)
  exact this
theorem wpQuietB_nil {Q : Act → Prop} {a : Act} (h : Q a) : wpQuietB P ops C Q [] a := h

/-- What an operation yields, in every world of the class. -/
def YieldsB (P : Program) (ops : Array Oper) (C : World → Prop) (o : Oper) (v : Value) (a : Act) : Prop :=
  (Region.wanted o (yielded ops a.tmps) = true ∧ ∀ w, C w → uponB P w v ((execOp a.eval o).run P w)) ∨ (Region.wanted o (yielded ops a.tmps) = false ∧ v = undef)
theorem YieldsB.of_same {o : Oper} {v : Value} {a a' : Act} (hy : YieldsB P ops C o v a) (he : execOp a'.eval o = execOp a.eval o)
    (hw : Region.wanted o (yielded ops a'.tmps) = Region.wanted o (yielded ops a.tmps)) : YieldsB P ops C o v a' := by
  unfold YieldsB at *
  rw [he, hw]; exact hy
theorem YieldsB.put {o : Oper} {v : Value} {a : Act} (hy : YieldsB P ops C o v a) (hs : ∀ cs b, o.op ≠ .select cs b) {d : Option Tmp} {u : Value} (h : ∀ e, d = some e → e ∉ o.looksAt ops) : YieldsB P ops C o v (a.put d u) :=
  hy.of_same (execOp_put o hs a d u h) (wanted_put o a d u h)
/-- One operation, by what it yields. -/
def opB (P : Program) (ops : Array Oper) (C : World → Prop) (i : Nat) (K : Act → Prop) (a : Act) : Prop := ∃ o v, ops[i]? = some o ∧ YieldsB P ops C o v a ∧ K (a.put o.dst v)

theorem wpOp_of_opB {i : Nat} {a : Act} {K : Act → Prop} {K' : Act → World → Prop} {Q' : Exit → Act → World → Prop} {w : World} (hC : C w)
    (h : ∀ a w', Below w.heap.size w w' → K a → K' a w') (hh : opB P ops C i K a) : wpOp P ops Q' i K' a w := by
  obtain ⟨o, v, ho, hy, hK⟩ := hh
  unfold wpOp
  simp only [ho]
  rcases hy with ⟨hw, h1⟩ | ⟨hw, rfl⟩
  · rw [if_pos hw]
    left
    have h3 := h1 w hC
    unfold Oper.wp
    generalize (execOp a.eval o).run P w = r at *
    cases r with
    | ok nx w' =>
      cases nx <;> simp only [uponB] at h3 <;> simp only [Oper.upon]
      case value u =>
        obtain ⟨e1, e2⟩ := h3
        rw [e1, e2]
        exact h _ _ (Below.refl _ _) hK
      case skip =>
        obtain ⟨e1, e2⟩ := h3
        rw [e1, ← e2]
        exact h _ _ (Below.refl _ _) hK
      case enter f args =>
        obtain ⟨e1, hc⟩ := h3
        rw [e1]
        exact hc.mono fun e w'' ⟨he, hw''⟩ => by subst he; exact h _ _ hw'' hK
    | halt x w' => simp only [uponB] at h3
  · rw [if_neg (by rw [hw]; exact Bool.false_ne_true)]
    exact h _ _ (Below.refl _ _) hK

def upd (G : Nat → Nat) (i g : Nat) : Nat → Nat := fun k => if k = i then g else G k
theorem upd_comm (G : Nat → Nat) {i j : Nat} (g h : Nat) (hne : i ≠ j) : upd (upd G i g) j h = upd (upd G j h) i g := by
  funext k
  unfold upd
  by_cases h1 : k = i
  · subst h1
    rw [if_neg hne, if_pos rfl, if_pos rfl]
  · by_cases h2 : k = j
    · subst h2
      rw [if_pos rfl, if_neg h1, if_pos rfl]
    · rw [if_neg h2, if_neg h1, if_neg h1, if_neg h2]
abbrev ptrV (g : Nat) : Value := .pointer (some ⟨g, 0, none⟩)
def dstOf (ops : Array Oper) (i : Nat) : Option Tmp := (ops[i]?).bind (·.dst)

/-- Every order of the head and of the floats; L behind them. -/
def wpX (P : Program) (md : Region.Mode) (ops : Array Oper) (C : World → Prop) (m q : Nat) (L : Array Bool → Act → (Nat → Nat) → Prop) : Nat → Array Bool → Act → (Nat → Nat) → Prop
  | 0, listed, a, G => L listed a G
  | f + 1, listed, a, G => Region.ready md ops listed ≠ [] ∧ ∀ i ∈ Region.ready md ops listed, i < q ∧
      (i < m → opB P ops C i (fun a' => wpX P md ops C m q L f (listed.setIfInBounds i true) a' G) a) ∧
      (m ≤ i → ∀ g, wpX P md ops C m q L f (listed.setIfInBounds i true) (a.put (dstOf ops i) (ptrV g)) (upd G i g))

structure Floats (P : Program) (md : Region.Mode) (ops : Array Oper) (m q : Nat) (obj : Nat → Obj) : Prop where
  op : ∀ i, m ≤ i → i < q → ∃ o, ops[i]? = some o ∧ o.guard = none ∧ (∀ e ∈ o.after, Region.binds md e = false) ∧ (∀ a w, (execOp (Act.eval a) o).run P w = .ok (.value (ptrV w.heap.size)) (w.alloc (obj i)))
  ne : ∀ i j, m ≤ i → i < q → m ≤ j → j < q → i ≠ j → ∀ d, dstOf ops i = some d → dstOf ops j ≠ some d

def Fresh (base m q : Nat) (obj : Nat → Obj) (listed : Array Bool) (G : Nat → Nat) (w : World) : Prop :=
  ∀ i, m ≤ i → i < q → listed.getD i false = true → base ≤ G i ∧ w.heap[G i]? = some (obj i) ∧ ∀ j, m ≤ j → j < q → listed.getD j false = true → j ≠ i → G j ≠ G i
theorem Fresh.lt {base m q : Nat} {obj : Nat → Obj} {listed : Array Bool} {G : Nat → Nat} {w : World} (h : Fresh base m q obj listed G w) {i : Nat} (h1 : m ≤ i) (h2 : i < q) (h3 : listed.getD i false = true) : G i < w.heap.size :=
  (Array.getElem?_eq_some_iff.1 (h i h1 h2 h3).2.1).1
theorem Fresh.step {base m q : Nat} {obj : Nat → Obj} {listed : Array Bool} {G : Nat → Nat} {w w' : World} (h : Fresh base m q obj listed G w) (hb : Below w.heap.size w w') : Fresh base m q obj listed G w' :=
  fun i h1 h2 h3 => ⟨(h i h1 h2 h3).1, (hb.block _ (h.lt h1 h2 h3)).trans (h i h1 h2 h3).2.1, (h i h1 h2 h3).2.2⟩
theorem Fresh.head {base m q : Nat} {obj : Nat → Obj} {listed : Array Bool} {G : Nat → Nat} {w : World} (h : Fresh base m q obj listed G w) {k : Nat} (hk : k < m) : Fresh base m q obj (listed.setIfInBounds k true) G w :=
  fun i h1 h2 h3 => by
    rw [getD_set_ne false (by omega)] at h3
    refine ⟨(h i h1 h2 h3).1, (h i h1 h2 h3).2.1, fun j h4 h5 h6 => ?_⟩
    rw [getD_set_ne false (by omega)] at h6
    exact (h i h1 h2 h3).2.2 j h4 h5 h6
theorem Fresh.float {base m q : Nat} {obj : Nat → Obj} {listed : Array Bool} {G : Nat → Nat} {w : World} (h : Fresh base m q obj listed G w) (hb : base ≤ w.heap.size) (k : Nat) : Fresh base m q obj (listed.setIfInBounds k true) (upd G k w.heap.size) (w.alloc (obj k)) := by
  intro i h1 h2 h3
  by_cases hik : i = k
  · subst hik
    have e : upd G i w.heap.size i = w.heap.size := by simp [upd]
    refine ⟨by rw [e]; exact hb, by rw [e]; exact heap_alloc_new w _, fun j h4 h5 h6 h7 => ?_⟩
    rw [getD_set_ne false (Ne.symm h7)] at h6
    have := h.lt h4 h5 h6
    rw [e]
    simp only [upd, if_neg h7]
    omega
  · rw [getD_set_ne false (Ne.symm hik)] at h3
    have e : upd G k w.heap.size i = G i := by simp [upd, hik]
    have hl := h.lt h1 h2 h3
    refine ⟨by rw [e]; exact (h i h1 h2 h3).1, by rw [e]; exact (Below.heap_alloc w _ _ hl).trans (h i h1 h2 h3).2.1, fun j h4 h5 h6 h7 => ?_⟩
    rw [e]
    by_cases hjk : j = k
    · subst hjk
      simp only [upd, if_true]; omega
    · rw [getD_set_ne false (Ne.symm hjk)] at h6
      simp only [upd, if_neg hjk]
      exact (h i h1 h2 h3).2.2 j h4 h5 h6 h7

theorem wpAny_of_X {m q g base : Nat} {obj : Nat → Obj} {L : Array Bool → Act → (Nat → Nat) → Prop} {Q' : Exit → Act → World → Prop} (hF : Floats P md ops m q obj) (hCB : ∀ w w', C w → Below w.heap.size w w' → C w') (hbase : ∀ w, C w → base ≤ w.heap.size)
    (hL : ∀ listed a G w, C w → Fresh base m q obj listed G w → L listed a G → wpAny P md ops Q' g listed a w) :
    ∀ (f : Nat) (listed : Array Bool) (a : Act) (G : Nat → Nat) (w : World), C w → Fresh base m q obj listed G w → wpX P md ops C m q L f listed a G → wpAny P md ops Q' (f + g) listed a w
  | 0, listed, a, G, w, hw, hf, h => by rw [Nat.zero_add]; exact hL _ _ _ _ hw hf h
  | f + 1, listed, a, G, w, hw, hf, h => by
    rw [show f + 1 + g = (f + g) + 1 by omega]
    refine ⟨fun h0 => absurd h0 h.1, fun i hi => ?_⟩
    obtain ⟨hq, h1, h2⟩ := h.2 i hi
    rcases Nat.lt_or_ge i m with him | him
    · exact wpOp_of_opB hw (fun a' w' hb h' => wpAny_of_X hF hCB hbase hL f _ a' G w' (hCB _ _ hw hb) ((hf.head him).step hb) h') (h1 him)
    · obtain ⟨o, ho, hg, _, hr⟩ := hF.op i him hq
      unfold wpOp
      simp only [ho]
      have hwant : Region.wanted o (yielded ops a.tmps) = true := by simp [Region.wanted, hg]
      rw [if_pos hwant]
      left
      unfold Oper.wp
      rw [hr]
      simp only [Oper.upon]
      have hd : dstOf ops i = o.dst := by simp [dstOf, ho]
      have := h2 him w.heap.size
      rw [hd] at this
      exact wpAny_of_X hF hCB hbase hL f _ _ _ _ (hCB _ _ hw (Below.alloc (Below.refl _ _) (Nat.le_refl _) _)) (hf.float (hbase w hw) i) this

/-- While an operation ahead of q is not yet carried out, none behind it is ready ('pre': carried out from the start). -/
def TW (md : Region.Mode) (ops : Array Oper) (q : Nat) (pre : Nat → Bool) : Prop :=
  ∀ listed, HeadInv md ops q listed → (∀ i, pre i = true → listed.getD i false = true) → ∀ i, i < q → listed.getD i true = false → ∀ t, q ≤ t → t ∉ Region.ready md ops listed
theorem tw_none {q : Nat} (hs : Region.sinkB md ops q = true) (hc : Region.chainB md ops q = true) (hn : q < ops.size) : TW md ops q (fun _ => false) :=
  fun _ inv _ i hi hun t ht => tail_waits hs hc hn inv _ i rfl hi hun t ht
theorem wpX_first {m q i : Nat} {oi : Oper} {v : Value} {L : Array Bool → Act → (Nat → Nat) → Prop} (hi : ops[i]? = some oi) (hsel : ∀ (j : Nat) (o : Oper) cs b, ops[j]? = some o → o.op ≠ .select cs b)
    {pre : Nat → Bool} (htw : TW md ops q pre) (hmq : m ≤ q) (hin : i < m)
    (hdone : ∀ listed a G, L listed a G → ∀ j ∈ Region.ready md ops listed, q ≤ j) :
    ∀ (f : Nat) (listed : Array Bool) (a : Act) (G : Nat → Nat), HeadInv md ops q listed → (∀ k, pre k = true → listed.getD k false = true) →
      (∀ j oj, ops[j]? = some oj → j ≠ i → listed.getD j true = false → (∀ e ∈ oj.after, Region.binds md e = true → e.on ≠ i) → oi.apart ops oj = true) →
      i ∈ Region.ready md ops listed → YieldsB P ops C oi v a →
      wpX P md ops C m q L f (listed.setIfInBounds i true) (a.put oi.dst v) G → wpX P md ops C m q L (f + 1) listed a G := by
  intro f
  induction f with
  | zero =>
    intro listed a G inv hpre _ hr hy H
    have hun := (mem_ready.1 hr).1
    refine ⟨fun h => (by rw [h] at hr; cases hr), fun j hj => ?_⟩
    have hjn : j < q := by
      rcases Nat.lt_or_ge j q with h | h
      · exact h
      · exact absurd hj (htw listed inv hpre i (by omega) hun j h)
    by_cases hji : j = i
    · subst hji
      exact ⟨hjn, fun _ => ⟨oi, v, hi, hy, H⟩, fun h => by omega⟩
    · have := hdone _ _ _ H j (ready_mono hj hji)
      omega
  | succ f ih =>
    intro listed a G inv hpre hfree hr hy H
    have hun := (mem_ready.1 hr).1
    refine ⟨fun h => (by rw [h] at hr; cases hr), fun j hj => ?_⟩
    have hjn : j < q := by
      rcases Nat.lt_or_ge j q with h | h
      · exact h
      · exact absurd hj (htw listed inv hpre i (by omega) hun j h)
    refine ⟨hjn, ?_⟩
    by_cases hji : j = i
    · subst hji
      exact ⟨fun _ => ⟨oi, v, hi, hy, H⟩, fun h => by omega⟩
    · obtain ⟨_, h1, h2⟩ := H.2 j (ready_mono hj hji)
      obtain ⟨hjun, oj, hoj, hall⟩ := mem_ready.1 hj
      have hnot : ∀ e ∈ oj.after, Region.binds md e = true → e.on ≠ i := fun e he hb heq => by
        have h1 := hall e he hb
        rw [heq, getD_both hun] at h1
        cases h1
      obtain ⟨p1, p2, p3⟩ := Oper.apart_spec (hfree j oj hoj hji hjun hnot)
      have hfree' : ∀ k ok, ops[k]? = some ok → k ≠ i → (listed.setIfInBounds j true).getD k true = false →
          (∀ e ∈ ok.after, Region.binds md e = true → e.on ≠ i) → oi.apart ops ok = true := fun k ok hk hki hun hno => by
        refine hfree k ok hk hki ?_ hno
        by_cases hjk : j = k
        · subst hjk; exact hjun
        · rw [getD_set_ne true hjk] at hun; exact hun
      have hsi := fun cs b => hsel i oi cs b hi
      have hsj := fun cs b => hsel j oj cs b hoj
      refine ⟨fun hjm => ?_, fun hjm g => ?_⟩
      · obtain ⟨o', u, ho', hy', hK⟩ := h1 hjm
        obtain rfl : o' = oj := Option.some.inj (ho'.symm.trans hoj)
        refine ⟨o', u, hoj, ?_, ?_⟩
        · exact hy'.of_same (execOp_put o' hsj a oi.dst v p1).symm (wanted_put o' a oi.dst v p1).symm
        · refine ih (listed.setIfInBounds j true) _ G (inv.set hj hjn) (fun k hk => getD_set_true (hpre k hk)) hfree' (ready_mono hr (Ne.symm hji)) (hy.put hsi p3) ?_
          rw [Array.setIfInBounds_comm _ _ hji, ← Act.put_comm a v u p2]
          exact hK
      · have hd : dstOf ops j = oj.dst := by simp [dstOf, hoj]
        have h3 := h2 hjm g
        rw [hd] at h3 ⊢
        refine ih (listed.setIfInBounds j true) _ _ (inv.set hj hjn) (fun k hk => getD_set_true (hpre k hk)) hfree' (ready_mono hr (Ne.symm hji)) (hy.put hsi p3) ?_
        rw [Array.setIfInBounds_comm _ _ hji, ← Act.put_comm a v (ptrV g) p2]
        exact h3

theorem wpX_float {m q i : Nat} {obj : Nat → Obj} {L : Array Bool → Act → (Nat → Nat) → Prop} (hF : Floats P md ops m q obj)
    {pre : Nat → Bool} (htw : TW md ops q pre) (him : m ≤ i) (hin : i < q)
    (hdone : ∀ listed a G, L listed a G → ∀ j ∈ Region.ready md ops listed, q ≤ j) :
    ∀ (f : Nat) (listed : Array Bool) (a : Act) (G : Nat → Nat), HeadInv md ops q listed → (∀ k, pre k = true → listed.getD k false = true) → (∀ j, j < m → listed.getD j false = true) → listed.getD i true = false →
      (∀ g, wpX P md ops C m q L f (listed.setIfInBounds i true) (a.put (dstOf ops i) (ptrV g)) (upd G i g)) → wpX P md ops C m q L (f + 1) listed a G := by
  obtain ⟨oi, hoi, _, hdep, _⟩ := hF.op i him hin
  have rdy : ∀ listed : Array Bool, listed.getD i true = false → i ∈ Region.ready md ops listed := fun listed h => mem_ready.2 ⟨h, oi, hoi, fun e he hb => by rw [hdep e he] at hb; cases hb⟩
  intro f
  induction f with
  | zero =>
    intro listed a G inv hpre hh hun H
    have hr := rdy listed hun
    refine ⟨fun h => (by rw [h] at hr; cases hr), fun j hj => ?_⟩
    have hjn : j < q := by
      rcases Nat.lt_or_ge j q with h | h
      · exact h
      · exact absurd hj (htw listed inv hpre i hin hun j h)
    by_cases hji : j = i
    · subst hji
      exact ⟨hjn, fun h => by omega, fun _ g => H g⟩
    · have := hdone _ _ _ (H 0) j (ready_mono hj hji)
      omega
  | succ f ih =>
    intro listed a G inv hpre hh hun H
    have hr := rdy listed hun
    refine ⟨fun h => (by rw [h] at hr; cases hr), fun j hj => ?_⟩
    have hjn : j < q := by
      rcases Nat.lt_or_ge j q with h | h
      · exact h
      · exact absurd hj (htw listed inv hpre i hin hun j h)
    refine ⟨hjn, ?_⟩
    by_cases hji : j = i
    · subst hji
      exact ⟨fun h => by omega, fun _ g => H g⟩
    · have hjm : m ≤ j := by
        rcases Nat.lt_or_ge j m with h | h
        · have h1 := (mem_ready.1 hj).1
          have := hh j h
          rw [getD_both h1] at this
          cases this
        · exact h
      refine ⟨fun h => by omega, fun _ gj => ?_⟩
      refine ih _ _ _ (inv.set hj hjn) (fun k hk => getD_set_true (hpre k hk)) (fun k hk => getD_set_true (hh k hk)) (by rw [getD_set_ne true hji]; exact hun) fun gi => ?_
      have h2 := ((H gi).2 j (ready_mono hj hji)).2.2 hjm gj
      rw [Array.setIfInBounds_comm _ _ hji, upd_comm G gj gi hji, Act.put_comm a (ptrV gj) (ptrV gi) (hF.ne j i hjm hjn him hin hji)]
      exact h2

def lexHeadX (md : Region.Mode) (ops : Array Oper) (fin : Array Bool → Bool) : Nat → Nat → Array Bool → Bool
  | 0, _, listed => fin listed
  | f + 1, k, listed => (Region.ready md ops listed).contains k && Region.free md ops listed k && lexHeadX md ops fin f (k + 1) (listed.setIfInBounds k true)

theorem opB_of_quietB {Q : Act → Prop} {i : Nat} {a : Act} {o : Oper} {rest : List Oper} (hi : ops[i]? = some o) (h : wpQuietB P ops C Q (o :: rest) a) : opB P ops C i (wpQuietB P ops C Q rest) a := by
  unfold wpQuietB at h
  cases hw : Region.wanted o (yielded ops a.tmps)
  · rw [hw] at h
    exact ⟨o, undef, hi, .inr ⟨hw, rfl⟩, by simpa using h⟩
  · rw [hw] at h
    simp only [if_true] at h
    obtain ⟨v, hv, hK⟩ := h
    exact ⟨o, v, hi, .inl ⟨hw, hv⟩, hK⟩
theorem wpX_lex {m q r : Nat} {fin : Array Bool → Bool} {L : Array Bool → Act → (Nat → Nat) → Prop} {Lq : Act → Prop} (hsel : Region.noSelect ops = true) {pre : Nat → Bool} (htw : TW md ops q pre) (hn : q < ops.size) (hmq : m ≤ q)
    (hdone : ∀ listed a G, L listed a G → ∀ j ∈ Region.ready md ops listed, q ≤ j)
    (hfin : ∀ listed a G, HeadInv md ops q listed → (∀ k, pre k = true → listed.getD k false = true) → (∀ j, j < m → listed.getD j false = true) → (∀ j, m ≤ j → j < q → listed.getD j true = false) → fin listed = true → Lq a → wpX P md ops C m q L r listed a G) :
    ∀ (l : List Oper) (k : Nat) (listed : Array Bool) (a : Act) (G : Nat → Nat), (∀ j, j < l.length → l[j]? = ops[k + j]?) → k + l.length = m → HeadInv md ops q listed → (∀ k, pre k = true → listed.getD k false = true) →
    (∀ j, j < k → listed.getD j false = true) → (∀ j, m ≤ j → j < q → listed.getD j true = false) →
    lexHeadX md ops fin l.length k listed = true → wpQuietB P ops C Lq l a → wpX P md ops C m q L (l.length + r) listed a G
  | [], k, listed, a, G, _, hk, inv, hpre, hh, hf, hB, h => by
    have : k = m := by simpa using hk
    subst this
    rw [List.length_nil, Nat.zero_add]
    exact hfin _ _ _ inv hpre hh hf (by simpa [lexHeadX] using hB) h
  | o :: l, k, listed, a, G, hl, hk, inv, hpre, hh, hf, hB, h => by
    have h0 : ops[k]? = some o := by simpa using (hl 0 (by simp)).symm
    simp only [List.length_cons, lexHeadX, Bool.and_eq_true] at hB
    obtain ⟨⟨hr, hfr⟩, hB'⟩ := hB
    have hkn : k < m := by simp only [List.length_cons] at hk; omega
    have hr' : k ∈ Region.ready md ops listed := by simpa using hr
    obtain ⟨o', v, ho', hy, hK⟩ := opB_of_quietB h0 h
    obtain rfl : o' = o := Option.some.inj (ho'.symm.trans h0)
    rw [List.length_cons, show l.length + 1 + r = (l.length + r) + 1 by omega]
    refine wpX_first h0 (Region.noSelect_spec hsel) htw hmq hkn hdone _ listed a G inv hpre (Region.free_spec h0 hfr) hr' hy ?_
    refine wpX_lex hsel htw hn hmq hdone hfin l (k + 1) _ _ _ (fun j hj => by have := hl (j + 1) (by simp; omega); simpa [Nat.add_assoc, Nat.add_comm 1 j] using this) (by simp only [List.length_cons] at hk; omega) (inv.set hr' (by omega)) (fun k hk => getD_set_true (hpre k hk)) ?_ ?_ hB' hK
    · intro j hj
      by_cases hjk : j = k
      · subst hjk
        have hlt : j < listed.size := by rw [inv.size]; exact (Array.getElem?_eq_some_iff.1 h0).1
        simp [hlt]
      · exact getD_set_true (hh j (by omega))
    · intro j h1 h2
      rw [getD_set_ne true (by omega)]; exact hf j h1 h2

/-- No operation waits for a float but behind q, and floats wait for nothing. -/
def floatOp (md : Region.Mode) (o : Oper) : Bool := o.guard.isNone && o.after.all (fun e => !Region.binds md e) && o.dst.isSome
def float1B (md : Region.Mode) (ops : Array Oper) (m : Nat) : Bool :=
  Region.noSelect ops && decide (m + 1 < ops.size) && Region.sinkB md ops (m + 1) && Region.chainB md ops (m + 1) && (ops[m]?).any (floatOp md)
    && lexHeadX md ops (fun listed => Region.seqB md ops (ops.size - (m + 1)) (m + 1) (listed.setIfInBounds m true)) m 0 (Array.replicate ops.size false)
def float2B (md : Region.Mode) (ops : Array Oper) (m : Nat) : Bool :=
  Region.noSelect ops && decide (m + 2 < ops.size) && Region.sinkB md ops (m + 2) && Region.chainB md ops (m + 2) && (ops[m]?).any (floatOp md) && (ops[m + 1]?).any (floatOp md) && dstOf ops m != dstOf ops (m + 1)
    && lexHeadX md ops (fun listed => Region.seqB md ops (ops.size - (m + 2)) (m + 2) ((listed.setIfInBounds m true).setIfInBounds (m + 1) true)) m 0 (Array.replicate ops.size false)
theorem floatOp_spec {o : Oper} (h : floatOp md o = true) : o.guard = none ∧ (∀ e ∈ o.after, Region.binds md e = false) ∧ o.dst.isSome = true := by
  simp only [floatOp, Bool.and_eq_true, Option.isNone_iff_eq_none] at h
  refine ⟨h.1.1, fun e he => ?_, h.2⟩
  have := Array.all_eq_true'.1 h.1.2 e he
  simpa using this
theorem below_class {w w1 w2 : World} (h : ∃ p : Regrown, w1 = grow (redrawn w p.d) p.os) (hb : Below w1.heap.size w1 w2) : ∃ p : Regrown, w2 = grow (redrawn w p.d) p.os := by
  obtain ⟨p, rfl⟩ := h
  exact regrown_of_below ((below_regrown w p.d p.os).trans (hb.mono (below_regrown w p.d p.os).size))
theorem any_some {o : Option Oper} {p : Oper → Bool} (h : o.any p = true) : ∃ x, o = some x ∧ p x = true := by
  cases o with
  | none => cases h
  | some x => exact ⟨x, rfl, h⟩

def allocAtB (ops : Array Oper) (i : Nat) (T : TypeId) : Bool := (ops[i]?).any fun o => match o.op with
  | .alloc t => t == T
  | _ => false
theorem alloc_run {i : Nat} {T : TypeId} {ob : Obj} (h : allocAtB ops i T = true) (hz : ∀ w, (Instr.alloc T true (.tuple #[])).run P w = .ok (ptrV w.heap.size) (w.alloc ob)) :
    ∀ o, ops[i]? = some o → ∀ a w, (execOp (Act.eval a) o).run P w = .ok (.value (ptrV w.heap.size)) (w.alloc ob) := by
  intro o ho a w
  obtain ⟨o', ho', hb⟩ := any_some h
  obtain rfl : o' = o := Option.some.inj (ho'.symm.trans ho)
  have hop : o'.op = .alloc T := by
    revert hb
    cases o'.op <;> simp
  unfold execOp
  simp only [hop, Sem.run_bind, hz, Result.andThen, Sem.run_pure]
/-- **A head of m operations, an alloc at any time, a tail.** -/
theorem region_float1 {id : Nat} {Q : Exit → Act → World → Prop} {a : Act} {w : World} {l : List Oper} (m : Nat) (ob : Obj) (s : Tmp) (hsl : dstOf l.toArray m = some s) (hm : P.follows .mixedOrders = true) (hB : float1B .any l.toArray m = true)
    (hal : ∀ o, l.toArray[m]? = some o → ∀ a w, (execOp (Act.eval a) o).run P w = .ok (.value (ptrV w.heap.size)) (w.alloc ob))
    (h : wpQuietB P l.toArray (fun w' => ∃ p : Regrown, w' = grow (redrawn w p.d) p.os) (fun a' => ∀ g w', Below w.heap.size w w' → w.heap.size ≤ g → w'.heap[g]? = some ob → wpList P l.toArray Q (l.drop (m + 1)) (a'.put (some s) (ptrV g)) w') (l.take m) a) :
    (Code.region id l.toArray true).wp P Q a w := by
  simp only [float1B, Bool.and_eq_true, decide_eq_true_eq] at hB
  obtain ⟨⟨⟨⟨⟨hsel, hn⟩, hs⟩, hc⟩, hfl⟩, hlex⟩ := hB
  obtain ⟨o1, ho1, hf1⟩ := any_some hfl
  obtain ⟨g1, g2, g3⟩ := floatOp_spec hf1
  have hF : Floats P .any l.toArray m (m + 1) (fun _ => ob) := ⟨fun i h1 h2 => by
      obtain rfl : i = m := by omega
      exact ⟨o1, ho1, g1, g2, fun a w => hal o1 ho1 a w⟩, fun i j h1 h2 h3 h4 h5 => by omega⟩
  have hn' : m + 1 < l.length := by simpa using hn
  have htl : (l.take m).length = m := by simp; omega
  have hdl : (l.drop (m + 1)).length = l.toArray.size - (m + 1) := by simp
  have inv0 : HeadInv .any l.toArray (m + 1) (Array.replicate l.toArray.size false) :=
    ⟨by simp, fun j oj _ hl => (by rw [getD_replicate_false] at hl; cases hl), fun t _ ht => getD_in (by simpa using ht) (getD_replicate_false _ _)⟩
  have hdone : ∀ (listed : Array Bool) (a : Act) (G : Nat → Nat), (Region.seqB .any l.toArray (l.toArray.size - (m + 1)) (m + 1) listed = true ∧ listed.getD m false = true ∧ ∀ w', Below w.heap.size w w' → w.heap.size ≤ G m → w'.heap[G m]? = some ob → wpList P l.toArray Q (l.drop (m + 1)) a w') → ∀ j ∈ Region.ready .any l.toArray listed, m + 1 ≤ j := fun listed a G h => seqB_ready h.1
  have H := wpX_lex (P := P) (C := fun w' => ∃ p : Regrown, w' = grow (redrawn w p.d) p.os) (md := .any) (m := m) (q := m + 1) (r := 1)
    (fin := fun listed => Region.seqB .any l.toArray (l.toArray.size - (m + 1)) (m + 1) (listed.setIfInBounds m true)) hsel (tw_none hs hc hn) hn (by omega) hdone
    (fun listed a G inv hpre hh hf hfin hLq => wpX_float hF (tw_none hs hc hn) (Nat.le_refl m) (by omega) hdone 0 listed a G inv hpre hh (hf m (Nat.le_refl _) (by omega)) fun g =>
      ⟨hfin, (by have hlt : m < listed.size := by rw [inv.size]; omega
                 simp [hlt]), fun w' hb h1 h2 => by
        have e : upd G m g m = g := by simp [upd]
        rw [e] at h1 h2
        rw [hsl]
        exact hLq g w' hb h1 h2⟩)
    (l.take m) 0 _ a (fun _ => 0) (fun j hj => by
      have hj' : j < m := by rw [htl] at hj; exact hj
      simp [hj']) (by simpa using htl) inv0 (fun _ h => by cases h) (fun j hj => by omega) (fun j h1 h2 => getD_in (by simp; omega) (getD_replicate_false _ _)) (by rw [htl]; exact hlex) h
  have hC : ∃ p : Regrown, ({ w with drawn := w.drawn + 1 } : World) = grow (redrawn w p.d) p.os := ⟨⟨w.drawn + 1, #[]⟩, by rw [grow_empty]; rfl⟩
  refine wp_region_any hm ?_
  have := wpAny_of_X (Q' := Q) (g := l.toArray.size - (m + 1)) (base := w.heap.size) hF (fun _ _ => below_class) (fun w' ⟨p, hp⟩ => by rw [hp]; exact (below_regrown w p.d p.os).size)
    (fun listed a' G w' hw' hfr hL => by
      have hb : Below w.heap.size w w' := by obtain ⟨p, hp⟩ := hw'; rw [hp]; exact below_regrown w p.d p.os
      have hf := hfr m (Nat.le_refl _) (by omega) hL.2.1
      have := wpAny_of_seq (md := .any) (Q' := Q) (l.drop (m + 1)) (m + 1) listed a' w' (fun j => by simp [List.getElem?_drop]) (by rw [hdl]; exact hL.1) (hL.2.2 w' hb hf.1 hf.2.1)
      rwa [hdl] at this) _ _ _ _ _ hC (fun i h1 h2 h3 => by rw [getD_replicate_false] at h3; cases h3) H
  rw [htl, show m + 1 + (l.toArray.size - (m + 1)) = l.toArray.size by omega] at this
  exact this

/-- **A head of m operations, two allocs at any time, a tail.** -/
theorem region_float2 {id : Nat} {Q : Exit → Act → World → Prop} {a : Act} {w : World} {l : List Oper} (m : Nat) (ob : Obj) (s1 s2 : Tmp) (hs1 : dstOf l.toArray m = some s1) (hs2 : dstOf l.toArray (m + 1) = some s2) (hm : P.follows .mixedOrders = true) (hB : float2B .any l.toArray m = true)
    (hal : ∀ i o, m ≤ i → i < m + 2 → l.toArray[i]? = some o → ∀ a w, (execOp (Act.eval a) o).run P w = .ok (.value (ptrV w.heap.size)) (w.alloc ob))
    (h : wpQuietB P l.toArray (fun w' => ∃ p : Regrown, w' = grow (redrawn w p.d) p.os) (fun a' => ∀ g1 g2 w', Below w.heap.size w w' → w.heap.size ≤ g1 → w.heap.size ≤ g2 → g1 ≠ g2 → w'.heap[g1]? = some ob → w'.heap[g2]? = some ob →
      wpList P l.toArray Q (l.drop (m + 2)) ((a'.put (some s1) (ptrV g1)).put (some s2) (ptrV g2)) w') (l.take m) a) :
    (Code.region id l.toArray true).wp P Q a w := by
  simp only [float2B, Bool.and_eq_true, decide_eq_true_eq] at hB
  obtain ⟨⟨⟨⟨⟨⟨⟨hsel, hn⟩, hs⟩, hc⟩, hfl1⟩, hfl2⟩, hne⟩, hlex⟩ := hB
  obtain ⟨o1, ho1, hf1⟩ := any_some hfl1
  obtain ⟨g1, g2, g3⟩ := floatOp_spec hf1
  obtain ⟨o2, ho2, hf2⟩ := any_some hfl2
  obtain ⟨k1, k2, k3⟩ := floatOp_spec hf2
  have hne' : dstOf l.toArray m ≠ dstOf l.toArray (m + 1) := by simpa using hne
  have hF : Floats P .any l.toArray m (m + 2) (fun _ => ob) := ⟨fun i h1 h2 => by
      by_cases him : i = m
      · subst him; exact ⟨o1, ho1, g1, g2, fun a w => hal i o1 h1 h2 ho1 a w⟩
      · obtain rfl : i = m + 1 := by omega
        exact ⟨o2, ho2, k1, k2, fun a w => hal (m + 1) o2 h1 h2 ho2 a w⟩, fun i j h1 h2 h3 h4 h5 d hd hd' => by
      by_cases him : i = m
      · subst him
        obtain rfl : j = i + 1 := by omega
        exact hne' (hd.trans hd'.symm)
      · obtain rfl : i = m + 1 := by omega
        obtain rfl : j = m := by omega
        exact hne' (hd'.trans hd.symm)⟩
  have hn' : m + 2 < l.length := by simpa using hn
  have htl : (l.take m).length = m := by simp; omega
  have hdl : (l.drop (m + 2)).length = l.toArray.size - (m + 2) := by simp
  have inv0 : HeadInv .any l.toArray (m + 2) (Array.replicate l.toArray.size false) :=
    ⟨by simp, fun j oj _ hl => (by rw [getD_replicate_false] at hl; cases hl), fun t _ ht => getD_in (by simpa using ht) (getD_replicate_false _ _)⟩
  have hdone : ∀ (listed : Array Bool) (a : Act) (G : Nat → Nat), (Region.seqB .any l.toArray (l.toArray.size - (m + 2)) (m + 2) listed = true ∧ listed.getD m false = true ∧ listed.getD (m + 1) false = true ∧ ∀ w', Below w.heap.size w w' → w.heap.size ≤ G m → w.heap.size ≤ G (m + 1) → G m ≠ G (m + 1) → w'.heap[G m]? = some ob → w'.heap[G (m + 1)]? = some ob → wpList P l.toArray Q (l.drop (m + 2)) a w') → ∀ j ∈ Region.ready .any l.toArray listed, m + 2 ≤ j := fun listed a G h => seqB_ready h.1
  have H := wpX_lex (P := P) (C := fun w' => ∃ p : Regrown, w' = grow (redrawn w p.d) p.os) (md := .any) (m := m) (q := m + 2) (r := 2)
    (fin := fun listed => Region.seqB .any l.toArray (l.toArray.size - (m + 2)) (m + 2) ((listed.setIfInBounds m true).setIfInBounds (m + 1) true)) hsel (tw_none hs hc hn) hn (by omega) hdone
    (fun listed a G inv hpre hh hf hfin hLq => by
      have hlt1 : m < listed.size := by rw [inv.size]; omega
      have hlt2 : m + 1 < listed.size := by rw [inv.size]; omega
      have hr : m ∈ Region.ready .any l.toArray listed := mem_ready.2 ⟨hf m (Nat.le_refl _) (by omega), o1, ho1, fun e he hb => by rw [g2 e he] at hb; cases hb⟩
      refine wpX_float hF (tw_none hs hc hn) (Nat.le_refl m) (by omega) hdone 1 listed a G inv hpre hh (hf m (Nat.le_refl _) (by omega)) fun ga => ?_
      refine wpX_float hF (tw_none hs hc hn) (i := m + 1) (by omega) (by omega) hdone 0 _ _ _ (inv.set hr (by omega)) (fun k hk => getD_set_true (hpre k hk)) (fun j hj => getD_set_true (hh j hj)) (by rw [getD_set_ne true (by omega)]; exact hf (m + 1) (by omega) (by omega)) fun gb => ?_
      refine ⟨hfin, getD_set_true (by simp [hlt1]), by simp [hlt2], fun w' hb h1 h2 h3 h4 h5 => ?_⟩
      have e1 : upd (upd G m ga) (m + 1) gb m = ga := by simp [upd]
      have e2 : upd (upd G m ga) (m + 1) gb (m + 1) = gb := by simp [upd]
      rw [e1] at h1 h3 h4
      rw [e2] at h2 h3 h5
      rw [hs1, hs2]
      exact hLq ga gb w' hb h1 h2 h3 h4 h5)
    (l.take m) 0 _ a (fun _ => 0) (fun j hj => by
      have hj' : j < m := by rw [htl] at hj; exact hj
      simp [hj']) (by simpa using htl) inv0 (fun _ h => by cases h) (fun j hj => by omega) (fun j h1 h2 => getD_in (by simp; omega) (getD_replicate_false _ _)) (by rw [htl]; exact hlex) h
  have hC : ∃ p : Regrown, ({ w with drawn := w.drawn + 1 } : World) = grow (redrawn w p.d) p.os := ⟨⟨w.drawn + 1, #[]⟩, by rw [grow_empty]; rfl⟩
  refine wp_region_any hm ?_
  have := wpAny_of_X (Q' := Q) (g := l.toArray.size - (m + 2)) (base := w.heap.size) hF (fun _ _ => below_class) (fun w' ⟨p, hp⟩ => by rw [hp]; exact (below_regrown w p.d p.os).size)
    (fun listed a' G w' hw' hfr hL => by
      have hb : Below w.heap.size w w' := by obtain ⟨p, hp⟩ := hw'; rw [hp]; exact below_regrown w p.d p.os
      have hf := hfr m (Nat.le_refl _) (by omega) hL.2.1
      have hf2 := hfr (m + 1) (by omega) (by omega) hL.2.2.1
      have := wpAny_of_seq (md := .any) (Q' := Q) (l.drop (m + 2)) (m + 2) listed a' w' (fun j => by simp [List.getElem?_drop]) (by rw [hdl]; exact hL.1) (hL.2.2.2 w' hb hf.1 hf2.1 (hf2.2.2 m (Nat.le_refl _) (by omega) hL.2.1 (by omega)) hf.2.1 hf2.2.1)
      rwa [hdl] at this) _ _ _ _ _ hC (fun i h1 h2 h3 => by rw [getD_replicate_false] at h3; cases h3) H
  rw [htl, show m + 2 + (l.toArray.size - (m + 2)) = l.toArray.size by omega] at this
  exact this

/-! ### A move that may come at any time, a head, a tail -/
def sink1B (md : Region.Mode) (ops : Array Oper) (n : Nat) : Bool :=
  (List.range n).all fun i => i == 0 || (List.range (n + 1)).any fun j => decide (i < j) && Region.waitsFor md ops j i
theorem tw_one {q : Nat} (hs : sink1B md ops q = true) (hc : Region.chainB md ops q = true) (hn : q < ops.size) : TW md ops q (fun i => i == 0) := by
  intro listed inv hpre
  have h0 : listed.getD 0 false = true := hpre 0 rfl
  suffices H : ∀ (d i : Nat), q - i = d → i < q → listed.getD i true = false → ∀ t, q ≤ t → t ∉ Region.ready md ops listed from fun i hi hun t ht => H _ i rfl hi hun t ht
  intro d
  induction d using Nat.strongRecOn with
  | _ d ih =>
    intro i hd hi hun t ht hr
    obtain ⟨_, ot, hot, hall⟩ := mem_ready.1 hr
    have htlt : t < ops.size := (Array.getElem?_eq_some_iff.1 hot).1
    by_cases htn : t = q
    · subst htn
      have h1 := List.all_eq_true.1 hs i (List.mem_range.2 hi)
      simp only [Bool.or_eq_true, beq_iff_eq] at h1
      rcases h1 with rfl | h1
      · rw [getD_both hun] at h0; cases h0
      obtain ⟨j, hj, hj2⟩ := List.any_eq_true.1 h1
      simp only [Bool.and_eq_true, decide_eq_true_eq] at hj2
      obtain ⟨oj, hoj, e, he, hb, hon⟩ := Region.waitsFor_spec hj2.2
      have hjle : j ≤ t := by have := List.mem_range.1 hj; omega
      by_cases hjt : j = t
      · subst hjt
        have : oj = ot := Option.some.inj (hoj.symm.trans hot)
        subst this
        have h2 := hall e he hb
        rw [hon, getD_both hun] at h2
        cases h2
      · cases hl : listed.getD j false with
        | true =>
          have h2 := inv.closed j oj hoj hl e he hb
          rw [hon, getD_both hun] at h2
          cases h2
        | false =>
          have hjs : j < listed.size := by rw [inv.size]; omega
          exact ih (t - j) (by omega) j rfl (by omega) (getD_in hjs hl) t (Nat.le_refl _) hr
    · have h1 := List.all_eq_true.1 hc t (List.mem_range.2 htlt)
      simp only [Bool.or_eq_true, decide_eq_true_eq] at h1
      rcases h1 with h1 | h1
      · omega
      · obtain ⟨o', ho', e, he, hb, hon⟩ := Region.waitsFor_spec h1
        have : o' = ot := Option.some.inj (ho'.symm.trans hot)
        subst this
        have h2 := hall e he hb
        rw [hon, getD_both (inv.tail (t - 1) (by omega) (by omega))] at h2
        cases h2

def move1B (md : Region.Mode) (ops : Array Oper) (m : Nat) : Bool :=
  Region.noSelect ops && decide (m < ops.size) && decide (1 ≤ m) && sink1B md ops m && Region.chainB md ops m && (Region.ready md ops (Array.replicate ops.size false)).contains 0 && Region.free md ops (Array.replicate ops.size false) 0
    && lexHeadX md ops (fun listed => Region.seqB md ops (ops.size - m) m listed) (m - 1) 1 ((Array.replicate ops.size false).setIfInBounds 0 true)
/-- **A move that may come at any time, then operations 1 to m - 1 that read or call, then a tail.** -/
theorem region_move1 {id : Nat} {Q : Exit → Act → World → Prop} {a : Act} {w : World} {l : List Oper} (m : Nat) (o : Oper) (x : Operand) (h0 : l.toArray[0]? = some o) (hop : o.op = .move x) (hg : o.guard = none)
    (hQ : ∀ c a d v w, Q (.panic c) (a.put d v) w → Q (.panic c) a w) (hm : P.follows .mixedOrders = true) (hB : move1B .any l.toArray m = true)
    (h : wpQuietB P l.toArray (fun w' => ∃ p : Regrown, w' = grow (redrawn w p.d) p.os) (fun a' => ∀ w', Below w.heap.size w w' → wpList P l.toArray Q (l.drop m) a' w') ((l.take m).drop 1) (a.put o.dst (a.eval x))) :
    (Code.region id l.toArray true).wp P Q a w := by
  simp only [move1B, Bool.and_eq_true, decide_eq_true_eq] at hB
  obtain ⟨⟨⟨⟨⟨⟨⟨hsel, hn⟩, h1m⟩, hs⟩, hc⟩, hr0⟩, hf0⟩, hlex⟩ := hB
  have hn' : m < l.length := by simpa using hn
  have htl : ((l.take m).drop 1).length = m - 1 := by simp; omega
  have hdl : (l.drop m).length = l.toArray.size - m := by simp
  have inv0 : HeadInv .any l.toArray m (Array.replicate l.toArray.size false) :=
    ⟨by simp, fun j oj _ hl => (by rw [getD_replicate_false] at hl; cases hl), fun t _ ht => getD_in (by simpa using ht) (getD_replicate_false _ _)⟩
  have hr0' : 0 ∈ Region.ready .any l.toArray (Array.replicate l.toArray.size false) := by simpa using hr0
  have hF : Floats P .any l.toArray m m (fun _ => Obj.cells #[] 0) := ⟨fun i h1 h2 => by omega, fun i j h1 h2 h3 h4 h5 => by omega⟩
  have hdone : ∀ (listed : Array Bool) (a : Act) (G : Nat → Nat), (Region.seqB .any l.toArray (l.toArray.size - m) m listed = true ∧ ∀ w', Below w.heap.size w w' → wpList P l.toArray Q (l.drop m) a w') → ∀ j ∈ Region.ready .any l.toArray listed, m ≤ j := fun listed a G h => seqB_ready h.1
  have hset0 : ((Array.replicate l.toArray.size false).setIfInBounds 0 true).getD 0 false = true := by
    have : 0 < l.toArray.size := by omega
    simp
    omega
  have H := wpX_lex (P := P) (C := fun w' => ∃ p : Regrown, w' = grow (redrawn w p.d) p.os) (md := .any) (m := m) (q := m) (r := 0)
    (fin := fun listed => Region.seqB .any l.toArray (l.toArray.size - m) m listed) hsel (tw_one hs hc hn) hn (Nat.le_refl m) hdone
    (fun listed a G inv hpre hh hf hfin hLq => ⟨hfin, hLq⟩)
    ((l.take m).drop 1) 1 _ _ (fun _ => 0) (fun j hj => by
      have hj' : j < m - 1 := by rw [htl] at hj; exact hj
      have e1 : ((l.take m).drop 1)[j]? = l[1 + j]? := by
        rw [List.getElem?_drop, List.getElem?_take, if_pos (by omega)]
      rw [e1]; simp) (by rw [htl]; omega) (inv0.set hr0' (by omega))
    (fun i hi => by
      obtain rfl : i = 0 := by simpa using hi
      exact hset0) (fun j hj => by
      obtain rfl : j = 0 := by omega
      exact hset0) (fun j h1 h2 => by omega) (by rw [htl]; exact hlex) h
  have hC : ∃ p : Regrown, ({ w with drawn := w.drawn + 1 } : World) = grow (redrawn w p.d) p.os := ⟨⟨w.drawn + 1, #[]⟩, by rw [grow_empty]; rfl⟩
  refine wp_region_any hm ?_
  have hx := wpAny_of_X (Q' := Q) (g := l.toArray.size - m) (base := w.heap.size) hF (fun _ _ => below_class) (fun w' ⟨p, hp⟩ => by rw [hp]; exact (below_regrown w p.d p.os).size)
    (fun listed a' G w' hw' hfr hL => by
      have hb : Below w.heap.size w w' := by obtain ⟨p, hp⟩ := hw'; rw [hp]; exact below_regrown w p.d p.os
      have := wpAny_of_seq (md := .any) (Q' := Q) (l.drop m) m listed a' w' (fun j => by simp [List.getElem?_drop]) (by rw [hdl]; exact hL.1) (hL.2 w' hb)
      rwa [hdl] at this) _ _ _ _ _ hC (fun i h1 h2 h3 => by omega) H
  rw [htl, show m - 1 + 0 + (l.toArray.size - m) = l.toArray.size - 1 by omega] at hx
  have hy : Yields P l.toArray o (a.eval x) a := .inl ⟨by simp [Region.wanted, hg], fun w => by unfold execOp; rw [hop]; rfl⟩
  have := wpAny_first (md := .any) h0 (Region.noSelect_spec hsel) (fun c a w => hQ c a _ _ w) (l.toArray.size - 1) _ a _ (Region.free_spec h0 hf0) hr0' hy hx
  rwa [show l.toArray.size - 1 + 1 = l.toArray.size by omega] at this
end
end Go.Proofs.Ythoniopkeiifnaa

/-! Shift -/
namespace Go.Proofs.Ythoniopkeiifnaa
open Go.RowKit
attribute [local go_sem] quietB uponB

def up (x y : Int) (p : Pt) : Pt := (p.1 + x, p.2 + y)
def shiftL (L : List Pt) (x y : Int) : List Pt := L.map (up x y)
def shiftOk (L : List Pt) (x y : Int) : Bool := bif polyB L && (inB x (-40) 40 && inB y (-40) 40) then polyB (shiftL L x y) else false
def shiftV (L : List Pt) (x y : Int) : List Pt := bif shiftOk L x y then shiftL L x y else []
def ListsB (w : World) (M : List Pt) (b : Bool) (e : Ending) (w' : World) : Prop := ∃ v, e = .returned (.tuple #[v, .bool b]) ∧ w'.ownsRow w.heap.size 45 2 v M.length (flat M) ∧ Below w.heap.size w w'
theorem shift_no {L : List Pt} {x y : Int} (h : shiftOk L x y = false) : shiftV L x y = [] := by unfold shiftV; rw [h]; rfl
theorem plus_any (ax ay bx by' : Int) (w : World) :
    Calls Try.prog 97 #[(.agg #[.int .i64 ax, .int .i64 ay]), (.agg #[.int .i64 bx, .int .i64 by'])] w fun e w' => e = .returned (.agg #[.int .i64 (wrap64 (ax + bx)), .int .i64 (wrap64 (ay + by'))]) ∧ Below w.heap.size w w' := by
  go_enter Try.func97, Try.ntmps97
  go_wp2_with fail
  go_returns
  exact ⟨rfl, below3 _ _ _ _⟩
set_option maxRecDepth 100000 in
set_option maxHeartbeats 2000000 in
theorem impl_shift (A : Option Addr) (c : Nat) (L : List Pt) (x y : Int) (w : World) (hA : PtsA w A L) (hL : L.length ≤ 1048576) :
    Calls Try.prog 49 #[.slice A L.length c, .int .i64 x, .int .i64 y] w (ListsB w (shiftV L x y) (shiftOk L x y)) := by
  have PC := Lib.hid (impl_poly A c L w hA hL)
  have HV : Hid (shiftOk L x y = bif polyB L && (inB x (-40) 40 && inB y (-40) 40) then polyB (shiftL L x y) else false) := rfl
  cases hp : polyB L
  · rw [hp] at PC
    have HN : Hid (shiftOk L x y = false) := by
      show _ = _
      rw [HV.out, hp]; rfl
    rw [shift_no HN.out, HN.out]
    clear hA
    go_enter Try.func49, Try.ntmps49
    go_wp2_with fail
    refine PC.out.mono ?_
    rintro e w1 ⟨rfl, hb1⟩
    go_wp2_with fail
    go_ret2
    exact ⟨_, rfl, World.ownsRow_nil _ _ _ _, hb1⟩
  rw [hp] at PC
  cases hx : inB x (-40) 40
  · have HN : Hid (shiftOk L x y = false) := by
      show _ = _
      rw [HV.out, hx, Bool.false_and, Bool.and_false]; rfl
    rw [shift_no HN.out, HN.out]
    clear hA
    go_enter Try.func49, Try.ntmps49
    go_wp2_with fail
    refine PC.out.mono ?_
    rintro e w1 ⟨rfl, hb1⟩
    go_wp2_with fail
    refine (from_any _ _ _ _).mono ?_
    rintro e w2 ⟨rfl, rfl⟩
    rw [hx]
    go_wp2_with fail
    go_ret2
    exact ⟨_, rfl, World.ownsRow_nil _ _ _ _, hb1⟩
  cases hy : inB y (-40) 40
  · have HN : Hid (shiftOk L x y = false) := by
      show _ = _
      rw [HV.out, hy, Bool.and_false, Bool.and_false]; rfl
    rw [shift_no HN.out, HN.out]
    clear hA
    go_enter Try.func49, Try.ntmps49
    go_wp2_with fail
    refine PC.out.mono ?_
    rintro e w1 ⟨rfl, hb1⟩
    go_wp2_with fail
    refine (from_any _ _ _ _).mono ?_
    rintro e w2 ⟨rfl, rfl⟩
    rw [hx]
    go_wp2_with fail
    refine (from_any _ _ _ _).mono ?_
    rintro e w2 ⟨rfl, rfl⟩
    rw [hy]
    go_wp2_with fail
    go_ret2
    exact ⟨_, rfl, World.ownsRow_nil _ _ _ _, hb1⟩
  obtain ⟨h3, h10, hok⟩ := polyB_all hp
  have HV2 : Hid (shiftOk L x y = polyB (shiftL L x y)) := by
    show _ = _
    rw [HV.out, hp, hx, hy]; rfl
  have bx := inB_spec.1 hx
  have by' := inB_spec.1 hy
  obtain ⟨i0, hi0, hz0, hz1, hz2⟩ := info_parts infoPt
  obtain ⟨g, rfl, -⟩ := hA 0 (by omega)
  have HA := Lib.hid hA
  have HOK := Lib.hid (fun k (h : k < L.length) => okP_bounds (all_at hok h))
  have HP := Lib.hid (fun A c w hq => impl_poly A c (shiftL L x y) w hq (by simp [shiftL]; omega))
  have hsl : (shiftL L x y).length = L.length := by simp [shiftL]
  rw [hsl] at HP
  clear hA hok HV hL hsl
  go_enter Try.func49, Try.ntmps49
  go_wp2_with fail
  refine PC.out.mono ?_
  rintro e w1 ⟨rfl, hb1⟩
  go_wp2_with fail
  refine (from_any _ _ _ _).mono ?_
  rintro e w2 ⟨rfl, rfl⟩
  rw [hx]
  go_wp2_with fail
  refine (from_any _ _ _ _).mono ?_
  rintro e w3 ⟨rfl, rfl⟩
  rw [hy]
  clear PC hp
  have own0 := World.ownsRow_nil w3 w.heap.size 45 2
  go_wp2_with fail
  go_loopw [8, 10, 26] (fun s _ i wr => ∃ (k : Nat) (M : List (Int × Int)), k ≤ L.length ∧ i = .int .i64 k ∧ Hid (M = (L.take k).map (up x y)) ∧ wr.ownsRow w.heap.size 45 2 s M.length (flat M) ∧ Below w.heap.size w wr) (fun _ _ i _ => L.length - (intOf i).toNat)
  case atStart => exact ⟨0, [], Nat.zero_le _, rfl, rfl, own0, hb1⟩
  case round =>
    clear own0 hb1
    obtain ⟨wo, rfl⟩ : ∃ wo : World, wo = wr := ⟨_, rfl⟩
    obtain ⟨k, M, hk, rfl, HM, own, hb⟩ := hrel
    by_cases hlt : k < L.length
    · have HM2 : Hid (M ++ [((gt L k).1 + x, (gt L k).2 + y)] = (L.take (k + 1)).map (up x y)) := by
        show _ = _
        rw [map_step hlt, HM.out]; rfl
      have hML : M.length ≤ 10 := by rw [HM.out, map_len hk]; omega
      clear HM
      obtain ⟨d5, d6⟩ := gt_cells (ptsA_on HA.out hb) hlt
      have hbd := HOK.out k hlt
      generalize (gt L k).1 = u at *
      generalize (gt L k).2 = v at *
      have HPL := Lib.hid (fun w => plus_any u v x y w)
      have e1 : wrap64 (u + x) = u + x := IntWalk.wrap64_in _ (by omega)
      have e2 : wrap64 (v + y) = v + y := IntWalk.wrap64_in _ (by omega)
      rw [e1, e2] at HPL
      have n6 := at_new wo u v 45
      have c5 := n6.c0; have c6 := n6.c1
      have k5 := cell_regrown c5; have k6 := cell_regrown c6
      have b6 := hb.alloc hb.size (.cells #[.int .i64 u, .int .i64 v] 45)
      have own6 := own.alloc (.cells #[.int .i64 u, .int .i64 v] 45)
      clear hb own hbd n6 e1 e2
      go_wp2_with fail
      refine (HPL.out _).mono ?_
      rintro e w7 ⟨rfl, hb7⟩
      replace b6 := below_on b6 hb7
      replace own6 := own_below own6 hb7
      clear hb7 k5 k6 c5 c6 d5 d6 HPL
      generalize u + x = rx at *
      generalize v + y = ry at *
      have hs6 := b6.size
      go_wp2_with (at_builtin; refine wpList_append_own _ rfl _ _ 34 rfl w.heap.size 45 i0 (.agg #[.int .i64 0, .int .i64 0]) 2 16 Try.underlying34 hi0 hz0 hz1 hz2 rfl (by decide) _ _ _ rfl (own6.alloc _) ⟨w7.heap.size, 0, none⟩ 1 1 [.int .i64 rx, .int .i64 ry] rfl rfl ?d1 ?d2 ?d3 ?d4 ?d5 ?_)
      case d1 => exact World.news_of_block (cs := #[.int .i64 rx, .int .i64 ry]) (t := 45) (fr := (0, 0)) (heap_alloc_new w7 _)
      case d2 => simp [Value.oneCell']
      case d3 => unfold maxLen; omega
      case d4 => omega
      case d5 => simp; omega
      intro v' w8 own8 hgrow _
      have hrw := fun k hk => (own6.lt k hk).1
      have R : Hid (w8.ownsRow w.heap.size 45 2 v' (M ++ [(rx, ry)]).length (flat (M ++ [(rx, ry)])) ∧ Below w.heap.size w w8) :=
        ⟨by rw [flat_append, List.length_append]; exact own8, (b6.alloc b6.size _).grown hgrow (by simp; omega) hrw⟩
      clear own6 own8 hgrow b6 hrw 
      go_wp2_with fail
      go_roundw
      case rel => exact ⟨k + 1, M ++ [(rx, ry)], by omega, by go_num, HM2, R.out.1, R.out.2⟩
      case measure => simp [intOf]; omega
    · have e : k = L.length := by omega
      have HQ : Hid (M = shiftL L x y) := by
        show _ = _
        rw [HM.out, e, List.take_length]; rfl
      have hMl : M.length = L.length := by rw [HQ.out]; simp [shiftL]
      obtain ⟨_, A1, c1, rfl, p1⟩ := own_pts own
      rw [HQ.out] at p1
      have HC := Lib.hid (HP.out A1 c1 wo p1)
      have HO := Lib.hid own
      rw [hMl]
      clear HM e own p1
      cases hq : polyB (shiftL L x y)
      · rw [hq] at HC
        have HN : Hid (shiftOk L x y = false) := by
          show _ = _
          rw [HV2.out, hq]
        clear hMl HO
        go_wp2_with fail
        refine HC.out.mono ?_
        rintro e w8 ⟨rfl, hb8⟩
        have b8 := below_on hb hb8
        go_wp2_with fail
        go_ret2
        show ListsB _ _ _ _ _
        rw [shift_no HN.out, HN.out]
        exact ⟨_, rfl, World.ownsRow_nil _ _ _ _, b8⟩
      · rw [hq] at HC
        have HN : Hid (shiftOk L x y = true) := by
          show _ = _
          rw [HV2.out, hq]
        have HE : Hid (shiftV L x y = M) := by
          show _ = _
          rw [HQ.out, shiftV, HN.out]; rfl
        rw [hMl] at HO
        clear hq
        go_wp2_with fail
        refine HC.out.mono ?_
        rintro e w8 ⟨rfl, hb8⟩
        have b8 := below_on hb hb8
        have own8 := own_below HO.out hb8
        clear hb hb8
        go_wp2_with fail
        go_ret2
        show ListsB _ _ _ _ _
        rw [HE.out, HN.out]
        exact ⟨_, rfl, by rw [hMl]; exact own8, b8⟩
end Go.Proofs.Ythoniopkeiifnaa

/-! CorA12 -/
namespace Go.Proofs.Ythoniopkeiifnaa
open Go.RowKit

def corOk (w h : Int) (X : List Int) : Bool := inB w 1 40 && (inB h 1 40 && (decide (X.length ≤ 40) && areB X 1 40))
def corV (w h : Int) (X : List Int) : List (Int × Int) × Bool := bif corOk w h X then corN w.toNat h (X.map Int.toNat) else ([], false)
theorem areB_nat {X : List Int} {lo hi : Int} (h0 : 0 ≤ lo) (h : areB X lo hi = true) : X = nat12 (X.map Int.toNat) ∧ ∀ s ∈ X.map Int.toNat, lo ≤ s ∧ (s : Int) ≤ hi := by
  have h1 := areB_iff.1 h
  constructor
  · unfold nat12
    rw [List.map_map]
    have : X.map id = X.map ((fun k : Nat => (k : Int)) ∘ Int.toNat) := List.map_congr_left fun x hx => by
      have := h1 x hx
      simp only [id, Function.comp]
      omega
    rw [List.map_id] at this
    exact this
  · intro s hs
    obtain ⟨x, hx, rfl⟩ := List.mem_map.1 hs
    have := h1 x hx
    omega
theorem hI_ints {w : World} {g : Nat} {H : List Int} (h : IntsA w (some ⟨g, 0, none⟩) H) {k : Nat} (hk : k < H.length) : w.cell? ⟨g, k, none⟩ = some (.int .i64 (hI H k)) := by
  obtain ⟨g', hg, hc⟩ := h k hk
  cases hg
  rw [hI_at hk]; exact hc
theorem minT_step {f : Nat → Int} {k : Nat} (_ : 1 ≤ k) : minI (f (lowT f k)) (f k) = f (lowT f (k + 1)) := by
  rw [lowT]
  unfold minI
  split <;> rfl
set_option maxRecDepth 100000 in
set_option maxHeartbeats 1000000 in
theorem min_any12 (g c : Nat) (H : List Int) (W : World) (hP : IntsA W (some ⟨g, 0, none⟩) H) (h1 : 1 ≤ H.length) (h2 : H.length ≤ 1048576) :
    Calls Try.prog 80 #[.slice (some ⟨g, 0, none⟩) H.length c] W fun e w' => e = .returned (.int .i64 (hI H (lowC H))) ∧ w' = W := by
  have HV : Hid (hI H (lowC H) = hI H (lowT (hI H) H.length)) := rfl
  have HP := Lib.hid (fun k (hk : k < H.length) => hI_ints hP hk)
  have hc0 := hI_ints hP h1
  have HZ : Hid (hI H 0 = hI H (lowT (hI H) 1)) := by show _ = _; rw [lowT_one]
  have hmin : ∀ (w : World) (x y : Int) (ts : Array TypeId) (t : TypeId), (Builtin.min_ ts t #[.int .i64 x, .int .i64 y]).run Try.prog w = .ok (.int .i64 (minI x y)) w := run_minI
  have hl1 : ¬ ((H.length : Int) < 1) := by omega
  have hl0 : (0 : Int) < (H.length : Int) := by omega
  clear hP
  generalize hI H 0 = z at *
  go_enter Try.func80, Try.ntmps80
  go_wp2_with fail
  go_loopw [3, 4] (fun m i wr => ∃ (k : Nat) (v : Int), 1 ≤ k ∧ k ≤ H.length ∧ i = .int .i64 k ∧ m = .int .i64 v ∧ Hid (v = hI H (lowT (hI H) k)) ∧ wr = W) (fun _ i _ => H.length - (intOf i).toNat)
  case atStart => exact ⟨1, z, Nat.le_refl _, h1, rfl, rfl, HZ, rfl⟩
  case round =>
    obtain ⟨k, v, hk1, hk, rfl, rfl, hv, rfl⟩ := hrel
    clear hc0 HZ
    by_cases hlt : k < H.length
    · have hc := HP.out k hlt
      have hst := minT_step (f := hI H) hk1
      rw [← hv.out] at hst
      obtain ⟨v2, hv2⟩ : ∃ v2, v2 = hI H (lowT (hI H) (k + 1)) := ⟨_, rfl⟩
      have HV2 := Lib.hid hv2
      rw [← hv2] at hst
      clear hv2 hv
      generalize hI H k = x at *
      go_wp2_with fail
      go_roundw
      case rel => exact ⟨k + 1, v2, by omega, by omega, by go_num, by go_num, HV2, by first | trivial | rfl⟩
      case measure => simp [intOf]; omega
    · obtain rfl : k = H.length := by omega
      go_wp2_with fail
      go_ret
      exact ⟨ret_int (by rw [HV.out, hv.out]), rfl⟩
set_option maxRecDepth 100000 in
set_option maxHeartbeats 1000000 in
theorem ixF_any (g c m : Nat) (H : List Int) (x : Int) (W : World) (hP : IntsA W (some ⟨g, 0, none⟩) H) (h2 : H.length ≤ 1048576) (hm : m < H.length) (hx : hI H m = x) (hf : ∀ j, j < m → hI H j ≠ x) :
    Calls Try.prog 125 #[.slice (some ⟨g, 0, none⟩) H.length c, .int .i64 x] W fun e w' => e = .returned (.int .i64 (m : Int)) ∧ w' = W := by
  have HP := Lib.hid (fun k (hk : k < H.length) => hI_ints hP hk)
  have HF := Lib.hid hf
  have HX := Lib.hid hx
  clear hP hf hx
  go_enter Try.func125, Try.ntmps125
  go_wp2_with fail
  go_loop [5, 8] (fun _ i => ∃ k : Nat, k ≤ m ∧ i = .int .i64 k) (fun _ i => m - (intOf i).toNat)
  case atStart => exact ⟨0, Nat.zero_le _, rfl⟩
  case round =>
    obtain ⟨k, hk, rfl⟩ := hrel
    have hkl : k < H.length := by omega
    have hc := HP.out k hkl
    by_cases hlt : k < m
    · have hne : (x == hI H k) = false := by rw [beq_eq_false_iff_ne]; exact fun e => HF.out k hlt e.symm
      generalize hI H k = p at *
      go_wp2_with fail
      go_round
      case rel => exact ⟨k + 1, by omega, by go_num⟩
      case measure => simp [intOf]; omega
    · obtain rfl : k = m := by omega
      rw [HX.out] at hc
      go_wp2_with fail
      go_ret
      exact ⟨rfl, rfl⟩
theorem lowC_first {H : List Int} {j : Nat} (h : j < lowC H) : hI H j ≠ hI H (lowC H) := by
  have := lowT_first (hI H) H.length j h
  unfold lowC
  omega
theorem lowGap_any (g c : Nat) (H : List Int) (W : World) (hP : IntsA W (some ⟨g, 0, none⟩) H) (h1 : 1 ≤ H.length) (h2 : H.length ≤ 1048576) :
    Calls Try.prog 78 #[.slice (some ⟨g, 0, none⟩) H.length c] W fun e w' => e = .returned (.int .i64 ((lowC H : Nat) : Int)) ∧ w' = W := by
  have HM := Lib.hid (min_any12 g c H W hP h1 h2)
  have HI := Lib.hid (ixF_any g c (lowC H) H (hI H (lowC H)) W hP h2 (lowT_lt _ _ h1) rfl (fun j hj => lowC_first hj))
  clear hP
  generalize hI H (lowC H) = x at *
  generalize lowC H = m at *
  go_enter Try.func78, Try.ntmps78
  go_wp2_with fail
  refine HM.out.mono ?_
  rintro e w1 ⟨rfl, rfl⟩
  go_wp2_with fail
  refine HI.out.mono ?_
  rintro e w1 ⟨rfl, rfl⟩
  go_wp2_with fail
  go_ret
  exact ⟨rfl, rfl⟩
/-- The run of equal columns from a on ends at r. -/
def GapAt (H : List Int) (a r : Nat) : Prop := a ≤ r ∧ r ≤ H.length ∧ (∀ j, a ≤ j → j < r → hI H j = hI H a) ∧ (r = H.length ∨ (r < H.length ∧ hI H r ≠ hI H a))
set_option maxRecDepth 100000 in
set_option maxHeartbeats 1000000 in
theorem gapW_any (g c a : Nat) (H : List Int) (W : World) (hP : IntsA W (some ⟨g, 0, none⟩) H) (h2 : H.length ≤ 1048576) (ha : a < H.length) :
    Calls Try.prog 79 #[.slice (some ⟨g, 0, none⟩) H.length c, .int .i64 a] W fun e w' => (∃ r, GapAt H a r ∧ e = .returned (.int .i64 ((r - a : Nat) : Int))) ∧ Below W.heap.size W w' := by
  have HP := Lib.hid hP
  clear hP
  go_enter Try.func79, Try.ntmps79
  go_wp2_with fail
  go_loopw [5] (fun i wr => ∃ k : Nat, a ≤ k ∧ k ≤ H.length ∧ i = .int .i64 k ∧ Hid (∀ j, a ≤ j → j < k → hI H j = hI H a) ∧ Below W.heap.size W wr) (fun i _ => H.length - (intOf i).toNat)
  case atStart => exact ⟨a, Nat.le_refl _, by omega, rfl, fun j h1 h2 => by omega, Below.refl _ _⟩
  case round =>
    obtain ⟨wo, rfl⟩ : ∃ wo : World, wo = wr := ⟨_, rfl⟩
    obtain ⟨k, hak, hk, rfl, HN, hb⟩ := hrel
    have hca := hI_ints (intsA_on HP.out hb) ha
    have ha2 : (a : Int) < (H.length : Int) := by omega
    by_cases hlt : k < H.length
    · have hck := hI_ints (intsA_on HP.out hb) hlt
      have hlt2 : (k : Int) < (H.length : Int) := by omega
      have k1 := cell_regrown hca; have k2 := cell_regrown hck
      by_cases he : hI H k = hI H a
      · have HN2 : Hid (∀ j, a ≤ j → j < k + 1 → hI H j = hI H a) := fun j h1 h2 => by
          rcases Nat.lt_or_ge j k with h | h
          · exact HN.out j h1 h
          · obtain rfl : j = k := by omega
            exact he
        rw [he] at hck k2
        clear he
        generalize hI H a = z at *
        go_wp2_with fail
        refine wp_region_quiet_below (by kernel_rfl) (by kernel_rfl) ?_
        repeat (first
          | go_big_quiet_step (fail)
          | quiet_step (fail))
        refine wpQuiet_nil ?_
        rintro _ ⟨⟨dq, osq⟩, rfl⟩
        have hg := below_on hb (below_regrown wo dq osq)
        simp only at *
        generalize Go.Sort.grow (redrawn wo dq) osq = w9 at *
        clear k1 k2 hca hck hb
        go_wp2_with fail
        go_roundw
        case rel => exact ⟨k + 1, by omega, by omega, by go_num, HN2, hg⟩
        case measure => simp [intOf]; omega
      · have hne : (hI H k == hI H a) = false := by rw [beq_eq_false_iff_ne]; exact he
        have R : Hid (GapAt H a k) := ⟨hak, by omega, HN.out, .inr ⟨hlt, he⟩⟩
        obtain ⟨d, hd⟩ : ∃ d, d = k - a := ⟨_, rfl⟩
        have hsub : (k : Int) - (a : Int) = (d : Int) := by omega
        have HD := Lib.hid hd
        clear he HN hd
        generalize hI H a = z at *
        generalize hI H k = y at *
        go_wp2_with fail
        refine wp_region_quiet_below (by kernel_rfl) (by kernel_rfl) ?_
        repeat (first
          | go_big_quiet_step (fail)
          | quiet_step (fail))
        refine wpQuiet_nil ?_
        rintro _ ⟨⟨dq, osq⟩, rfl⟩
        have hg := below_on hb (below_regrown wo dq osq)
        simp only at *
        generalize Go.Sort.grow (redrawn wo dq) osq = w9 at *
        clear k1 k2 hca hck hb
        go_wp2_with fail
        go_ret
        exact ⟨⟨k, R.out, ret_int (by rw [HD.out])⟩, hg⟩
    · obtain rfl : k = H.length := by omega
      have R : Hid (GapAt H a H.length) := ⟨hak, Nat.le_refl _, HN.out, .inl rfl⟩
      obtain ⟨d, hd⟩ : ∃ d, d = H.length - a := ⟨_, rfl⟩
      have hsub : (H.length : Int) - (a : Int) = (d : Int) := by omega
      have HD := Lib.hid hd
      clear HN hd
      go_wp2_with fail
      refine wp_region_quiet_below (by kernel_rfl) (by kernel_rfl) ?_
      repeat (first
        | go_big_quiet_step (fail)
        | quiet_step (fail))
      refine wpQuiet_nil ?_
      rintro _ ⟨⟨dq, osq⟩, rfl⟩
      have hg := below_on hb (below_regrown wo dq osq)
      simp only at *
      generalize Go.Sort.grow (redrawn wo dq) osq = w9 at *
      clear hca hb
      go_wp2_with fail
      go_ret
      exact ⟨⟨_, R.out, ret_int (by rw [HD.out])⟩, hg⟩
end Go.Proofs.Ythoniopkeiifnaa

/-! Step11 -/
namespace Go.Proofs.Ythoniopkeiifnaa
open Go.RowKit

def stpsB (n a b : Int) : Bool := inB n 1 3 && inB a 1 10 && inB b 1 10
theorem stpsB_bounds {n a b : Int} (h : stpsB n a b = true) : 1 ≤ n ∧ n ≤ 3 ∧ 1 ≤ a ∧ a ≤ 10 ∧ 1 ≤ b ∧ b ≤ 10 := by
  simp only [stpsB, Bool.and_eq_true, inB_spec] at h
  omega
/-- A product of two small ints. -/
theorem mul_small {x y : Int} {p q : Nat} (h1 : 0 ≤ x) (h2 : x ≤ p) (h3 : 0 ≤ y) (h4 : y ≤ q) : 0 ≤ x * y ∧ x * y ≤ ((p * q : Nat) : Int) := by
  refine ⟨Int.mul_nonneg h1 h3, ?_⟩
  have e1 : x * y ≤ (p : Int) * y := Int.mul_le_mul_of_nonneg_right h2 h3
  have e2 : (p : Int) * y ≤ (p : Int) * (q : Int) := Int.mul_le_mul_of_nonneg_left h4 (by omega)
  rw [Int.natCast_mul]; omega
/-- The first 2k points of the cut. -/
def cutP (n a b : Int) : Nat → List (Int × Int)
  | 0 => []
  | k + 1 => cutP n a b k ++ [((k : Int) * a, (n - k) * b), (((k : Int) + 1) * a, (n - k) * b)]
theorem cutP_len (n a b : Int) : ∀ k, (cutP n a b k).length = 2 * k
  | 0 => rfl
  | k + 1 => by rw [cutP, List.length_append, cutP_len n a b k]; simp; omega
theorem cutP_flat (n a b : Int) (k : Nat) : flat (cutP n a b (k + 1)) = flat (cutP n a b k) ++ [.int .i64 ((k : Int) * a), .int .i64 ((n - k) * b), .int .i64 (((k : Int) + 1) * a), .int .i64 ((n - k) * b)] := by
  rw [cutP, flat_append]; rfl
def rcL (w h : Int) : List (Int × Int) := [(0, 0), (w, 0), (w, h), (0, h)]
def rcV (w h : Int) : List (Int × Int) := bif inB w 1 40 && inB h 1 40 then rcL w h else []
theorem rcV_len (w h : Int) : (rcV w h).length ≤ 4 := by unfold rcV; cases inB w 1 40 <;> cases inB h 1 40 <;> simp [rcL]
/-- Four points of a literal. -/
theorem four_own (w : World) (l : List (Int × Int)) (h : l.length = 4) (t : TypeId) : (w.alloc (.cells (flat l).toArray t)).ownsRow w.heap.size t 2 (.slice (some ⟨w.heap.size, 0, none⟩) 4 4) 4 (flat l) := by
  refine ⟨by rw [flat_len, h], .inr ⟨w.heap.size, 4, (flat l).toArray, rfl, Nat.le_refl _, heap_alloc_new w _, Nat.le_refl _, by decide, by simp [flat_len, h], ?_⟩⟩
  rw [List.take_of_length_le (by simp [flat_len, h])]
theorem hasSides_any (x y : Int) (w : World) :
    Calls Try.prog 77 #[.int .i64 x, .int .i64 y] w fun e w' => e = .returned (.bool (inB x 1 40 && inB y 1 40)) ∧ w' = w := by
  have H1 := Lib.hid (from_any x 1 40)
  have H2 := Lib.hid (from_any y 1 40)
  generalize inB x 1 40 = x1 at *
  generalize inB y 1 40 = x2 at *
  cases x1
  · go_enter Try.func77, Try.ntmps77
    go_wp2_with fail
    refine (H1.out _).mono ?_
    rintro e w1 ⟨rfl, rfl⟩
    go_wp2_with fail
    go_ret
    exact ⟨rfl, rfl⟩
  · go_enter Try.func77, Try.ntmps77
    go_wp2_with fail
    refine (H1.out _).mono ?_
    rintro e w1 ⟨rfl, rfl⟩
    go_wp2_with fail
    refine (H2.out _).mono ?_
    rintro e w2 ⟨rfl, rfl⟩
    go_wp2_with fail
    go_ret
    exact ⟨ret_bool (by simp), rfl⟩
set_option maxHeartbeats 1000000 in
theorem spec_rect (x y : Int) (w : World) :
    Calls Try.prog 119 #[.int .i64 x, .int .i64 y] w (Lists w (rcV x y)) := by
  have H1 := Lib.hid (in_any x 1 40)
  have H2 := Lib.hid (in_any y 1 40)
  have HU : Hid (∀ v w', w'.ownsRow w.heap.size 45 2 v (rcV x y).length (flat (rcV x y)) → Below w.heap.size w w' → Lists w (rcV x y) (.returned v) w') := fun v w' h1 h2 => ⟨v, rfl, h1, h2⟩
  have HR : Hid (rcV x y = bif inB x 1 40 && inB y 1 40 then rcL x y else []) := rfl
  generalize inB x 1 40 = x1 at *
  generalize inB y 1 40 = x2 at *
  cases x1
  · go_enter Try.func119, Try.ntmps119
    go_wp2_with fail
    refine (H1.out _).mono ?_
    rintro e w1 ⟨rfl, rfl⟩
    go_wp2_with fail
    go_ret
    exact HU.out _ _ (by rw [HR.out]; exact World.ownsRow_nil _ _ _ _) (Below.refl _ _)
  cases x2
  all_goals (
    go_enter Try.func119, Try.ntmps119
    go_wp2_with fail
    refine (H1.out _).mono ?_
    rintro e w1 ⟨rfl, rfl⟩
    go_wp2_with fail
    refine (H2.out _).mono ?_
    rintro e w2 ⟨rfl, rfl⟩
    go_wp2_with fail
    go_ret)
  · exact HU.out _ _ (by rw [HR.out]; exact World.ownsRow_nil _ _ _ _) (Below.refl _ _)
  · exact HU.out _ _ (by rw [HR.out]; exact four_own _ (rcL x y) rfl _) ((Below.refl _ _).alloc (Nat.le_refl _) _)
end Go.Proofs.Ythoniopkeiifnaa

/-! CorI12 -/
namespace Go.Proofs.Ythoniopkeiifnaa
open Go.RowKit

theorem fit_iff {h : Int} {H : List Int} {a s r : Nat} (k : GapAt H a r) : FitC h H a s ↔ hI H a + s ≤ h ∧ s ≤ r - a := fit_gap k.2.2.1 k.2.2.2 k.1
theorem flat_one12 (C : List (Int × Int)) (x y : Int) : flat (C ++ [(x, y)]) = flat C ++ [.int .i64 x, .int .i64 y] := by rw [flat_append]; rfl
theorem ints_setN (H : List Int) (a j : Nat) (v : Int) : (ints (setN H a v j)).set (a + j) (.int .i64 v) = ints (setN H a v (j + 1)) := by
  rw [setN]
  simp [ints, List.map_set]
theorem zeros_ints (n : Nat) : (madeCells #[.int .i64 0] n).toList = ints (List.replicate n 0) := by
  apply List.ext_getElem
  · rw [Array.length_toList, size_madeCells]; simp [ints]
  · intro k h1 h2
    simp [madeCells, ints, Nat.mod_one]
theorem drop_cons12 {S : List Nat} {k : Nat} (hk : k < S.length) : S.drop k = S[k] :: S.drop (k + 1) := List.drop_eq_getElem_cons hk
theorem nat12_get {N : List Nat} {k : Nat} (h : k < N.length) : (nat12 N)[k]'(by rw [nat12_len]; exact h) = ((N[k] : Nat) : Int) := by simp [nat12]
set_option maxRecDepth 100000 in
set_option maxHeartbeats 8000000 in
theorem impl_cor (w h : Int) (A : Option Addr) (c : Nat) (X : List Int) (W : World) (hA : IntsA W A X) (hL : X.length ≤ 1048576) :
    Calls Try.prog 29 #[.int .i64 w, .int .i64 h, .slice A X.length c] W (ListsB W (corV w h X).1 (corV w h X).2) := by
  have HS := Lib.hid (hasSides_any w h)
  have HAF := Lib.hid (are_any 1 40 A c X W hA hL)
  have HU : Hid (∀ V : List (Int × Int) × Bool, corV w h X = V → ∀ v w', w'.ownsRow W.heap.size 45 2 v V.1.length (flat V.1) → Below W.heap.size W w' → ListsB W (corV w h X).1 (corV w h X).2 (.returned (.tuple #[v, .bool V.2])) w') := fun V e v w' h1 h2 => by
    rw [e]; exact ⟨v, rfl, h1, h2⟩
  have HV : Hid (corV w h X = bif inB w 1 40 && (inB h 1 40 && (decide (X.length ≤ 40) && areB X 1 40)) then corN w.toNat h (X.map Int.toNat) else ([], false)) := rfl
  cases hs : inB w 1 40 && inB h 1 40
  · rw [hs] at HS
    have R := Lib.hid (HU.out ([], false) (by rw [HV.out, ← Bool.and_assoc, hs]; rfl) (.slice none 0 0) W (World.ownsRow_nil _ _ _ _) (Below.refl _ _))
    clear hA hs HU HV HAF
    go_enter Try.func29, Try.ntmps29
    go_wp2_with fail
    refine (HS.out _).mono ?_
    rintro e w1 ⟨rfl, rfl⟩
    go_wp2_with fail
    go_ret2
    exact R.out
  rw [hs] at HS
  by_cases hl : X.length ≤ 40
  case neg =>
    have hl' : (40 : Int) < (X.length : Int) := by omega
    have R := Lib.hid (HU.out ([], false) (by rw [HV.out, decide_eq_false hl, Bool.false_and, Bool.and_false, Bool.and_false]; rfl) (.slice none 0 0) W (World.ownsRow_nil _ _ _ _) (Below.refl _ _))
    clear hA hs HU HV HAF hl
    go_enter Try.func29, Try.ntmps29
    go_wp2_with fail
    refine (HS.out _).mono ?_
    rintro e w1 ⟨rfl, rfl⟩
    go_wp2_with fail
    go_ret2
    exact R.out
  cases ha : areB X 1 40
  · rw [ha] at HAF
    have R := Lib.hid (fun w' hb => HU.out ([], false) (by rw [HV.out, ha, Bool.and_false, Bool.and_false, Bool.and_false]; rfl) (.slice none 0 0) w' (World.ownsRow_nil _ _ _ _) hb)
    have hl' : ¬ (40 : Int) < (X.length : Int) := by omega
    clear hA hs HU HV hl ha
    go_enter Try.func29, Try.ntmps29
    go_wp2_with fail
    refine (HS.out _).mono ?_
    rintro e w1 ⟨rfl, rfl⟩
    go_wp2_with fail
    refine HAF.out.mono ?_
    rintro e w2 ⟨rfl, hb⟩
    have RR := Lib.hid (R.out _ hb)
    clear hb R
    go_wp2_with fail
    go_ret2
    exact RR.out
  rw [ha] at HAF
  have hw := inB_spec.1 (Bool.and_eq_true_iff.1 hs).1
  have hh := inB_spec.1 (Bool.and_eq_true_iff.1 hs).2
  obtain ⟨a, rfl⟩ : ∃ a : Nat, w = a := ⟨w.toNat, by omega⟩
  obtain ⟨hXS, hSb⟩ := areB_nat (by omega) ha
  obtain ⟨S, hS⟩ : ∃ S, S = X.map Int.toNat := ⟨_, rfl⟩
  rw [← hS] at hXS hSb
  have hlS : S.length = X.length := by rw [hS, List.length_map]
  have HC : Hid (corV a h X = corN a h S) := by
    show _ = _
    rw [HV.out, ha, decide_eq_true hl, ← Bool.and_assoc, hs, hS]; rfl
  have HU2 : Hid (∀ V : List (Int × Int) × Bool, corN a h S = V → ∀ v w', w'.ownsRow W.heap.size 45 2 v V.1.length (flat V.1) → Below W.heap.size W w' → ListsB W (corV a h X).1 (corV a h X).2 (.returned (.tuple #[v, .bool V.2])) w') := fun V e v w' h1 h2 => HU.out V (by rw [HC.out]; exact e) v w' h1 h2
  have hl' : ¬ (40 : Int) < (X.length : Int) := by omega
  have HA : Hid (IntsA W A (nat12 S)) := by rw [← hXS]; exact hA
  have HSB := Lib.hid hSb
  have HLS := Lib.hid hlS
  have hS40 : X.length ≤ 40 := hl
  clear HU HV HC hA hXS hSb hS hs ha hl hlS
  have HNO : Hid (goC h S (List.replicate a 0) [] = none → corN a h S = ([], false)) := fun e => by unfold corN; rw [e]
  have HYE : Hid (∀ H C, goC h S (List.replicate a 0) [] = some (H, C) → corN a h S = if ∀ x ∈ H, x = h then (C, true) else ([], false)) := fun H C e => by unfold corN; rw [e]
  obtain ⟨i0, hi0, hz0, hz1, hz2⟩ := info_parts infoI
  have hmk : ∀ w, (Instr.makeSlice 22 (.int .i64 (a : Int)) (.int .i64 (a : Int))).run Try.prog w = .ok (.slice (some ⟨w.heap.size, 0, none⟩) a a) (w.alloc (.cells (madeCells #[.int .i64 0] a) 3)) := fun w => by
    have h := run_make (P := Try.prog) w 22 3 i0 _ Try.underlying22 hi0 hz0 .i64 .i64 (a : Int) (a : Int) (by omega) (Int.le_refl _) (by rw [hz2]; omega) (by omega)
    rw [hz1] at h
    simpa [Value.cells, Nat.mul_one] using h
  go_enter Try.func29, Try.ntmps29
  go_wp2_with fail
  refine (HS.out _).mono ?_
  rintro e w1 ⟨rfl, rfl⟩
  go_wp2_with fail
  refine HAF.out.mono ?_
  rintro e w2 ⟨rfl, hb2⟩
  have own0 := World.ownsRow_lit (base := w2.heap.size) (e := 3) (size := 1) w2 (madeCells #[.int .i64 0] a) a (Nat.le_refl _) (by unfold maxLen; omega) ((size_madeCells _ _).trans (Nat.mul_one _).symm)
  rw [zeros_ints] at own0
  have hb0 : Below w1.heap.size w1 (w2.alloc (.cells (madeCells #[.int .i64 0] a) 3)) := hb2.alloc hb2.size _
  have hsz0 := hb2.size
  clear hb2 HS HAF
  go_wp2_with fail
  obtain ⟨g, hg⟩ : ∃ g, g = w2.heap.size := ⟨_, rfl⟩
  rw [← hg] at own0 hsz0 ⊢
  have hgl : g < (w2.alloc (.cells (madeCells #[.int .i64 0] a) 3)).heap.size := by rw [hg]; simp
  generalize w2.alloc (.cells (madeCells #[.int .i64 0] a) 3) = w3 at *
  clear hg hmk
  go_loopw [9, 11, 12, 13, 14, 33] (fun v _ _ _ _ i wr => ∃ (k : Nat) (H : List Int) (C : List (Int × Int)), k ≤ X.length ∧ i = .int .i64 k ∧ Hid (SkyOk a h H) ∧ Hid (goC h (S.drop k) H C = goC h S (List.replicate a 0) []) ∧ C.length = k ∧
    wr.ownsRow g 3 1 (.slice (some ⟨g, 0, none⟩) a a) a (ints H) ∧ wr.ownsRow (g + 1) 45 2 v C.length (flat C) ∧ Below w1.heap.size w1 wr) (fun _ _ _ _ _ i _ => X.length - (intOf i).toNat)
  case atStart => exact ⟨0, _, [], Nat.zero_le _, rfl, SkyOk.start (by omega), rfl, rfl, own0, World.ownsRow_nil _ _ _ _, hb0⟩
  case round =>
    obtain ⟨wo, rfl⟩ : ∃ wo : World, wo = wr := ⟨_, rfl⟩
    clear own0 hb0
    obtain ⟨k, H, C, hk, rfl, HSK, HG, hCl, own, ownC, hb⟩ := hrel
    obtain ⟨v9, hv9⟩ : ∃ v9, v9 = u9 := ⟨_, rfl⟩
    subst hv9
    have hHl : H.length = a := HSK.out.1
    by_cases hlt : k < X.length
    · obtain ⟨s, hks, HGS, hsb⟩ : ∃ s, (∃ hk : k < S.length, S[k] = s) ∧ Hid (goC h (s :: S.drop (k + 1)) H C = goC h S (List.replicate a 0) []) ∧ 1 ≤ (s : Int) ∧ (s : Int) ≤ 40 := by
        have hk' : k < S.length := by rw [HLS.out]; exact hlt
        exact ⟨S[k], ⟨hk', rfl⟩, by show _ = _; rw [← drop_cons12 hk']; exact HG.out, HSB.out _ (List.getElem_mem hk')⟩
      obtain ⟨g1, rfl, hc1⟩ : ∃ g1, A = some ⟨g1, 0, none⟩ ∧ wo.cell? ⟨g1, k, none⟩ = some (.int .i64 (s : Int)) := by
        obtain ⟨hk', e⟩ := hks
        obtain ⟨g1, hg1, hc⟩ := intsA_on HA.out hb k (by rw [nat12_len]; exact hk')
        rw [nat12_get hk', e] at hc
        exact ⟨g1, hg1, hc⟩
      clear HG hks
      have pH := intsA_of own
      have HLG := Lib.hid (lowGap_any g a H wo pH (by omega) (by omega))
      rw [hHl] at HLG
      have hm := lowC_lt HSK.out (by omega)
      obtain ⟨m, hmd⟩ : ∃ m, m = lowC H := ⟨_, rfl⟩
      rw [← hmd] at HLG hm
      have hcm := hI_ints pH (k := m) (by omega)
      have hyb := HSK.out.at hm
      have HMD := Lib.hid hmd
      obtain ⟨y, hy⟩ : ∃ y, y = hI H m := ⟨_, rfl⟩
      rw [← hy] at hcm hyb
      have HY := Lib.hid hy
      have HGW := Lib.hid (fun W' hP => gapW_any g a m H W' hP (by omega) (by omega))
      rw [hHl] at HGW
      have HPH := Lib.hid pH
      have hmi : (m : Int) < (a : Int) := by omega
      clear hmd hy pH hHl
      go_wp2_with fail
      refine HLG.out.mono ?_
      rintro e w4 ⟨rfl, rfl⟩
      have hbP := below1 w4 (.cells #[.int .i64 m, .int .i64 y] 45)
      have A0 := at_new w4 m y 45
      go_wp2_with fail
      refine (HGW.out _ (intsA_on HPH.out hbP)).mono ?_
      rintro e w5 ⟨⟨r, hgap, rfl⟩, hb5⟩
      have hbQ := below_on hbP hb5
      have c0 := A0.c0; have c1 := A0.c1
      have d0 := cell_on hb5 rfl c0; have d1 := cell_on hb5 rfl c1
      have own5 := own_below own hbQ
      have ownC5 := own_below ownC hbQ
      have hb6 := below_on hb hbQ
      obtain ⟨d, hd⟩ : ∃ d, d = r - m := ⟨_, rfl⟩
      rw [← hd]
      have hfi := fit_iff (h := h) (s := s) hgap
      rw [← HY.out, ← hd] at hfi
      have hgl5 : g < w5.heap.size := (own5.lt g rfl).2
      clear hgap hd hbQ hb5 hbP own ownC hb HGW HLG c0 c1 A0 hcm
      by_cases hf : FitC h H m s
      case neg =>
        have R := Lib.hid (HU2.out ([], false) (HNO.out (by rw [← HGS.out]; exact goC_no (by rw [← HMD.out]; exact hf))) (.slice none 0 0) w5 (World.ownsRow_nil _ _ _ _) hb6)
        clear own5 ownC5 hb6
        by_cases hsd : d < s
        · have hsd2 : (d : Int) < (s : Int) := by omega
          clear hf hfi
          go_wp2_with fail
          go_ret2
          exact R.out
        · have hbig : h < y + s := by
            rcases Nat.lt_or_ge d s with h1 | h1
            · exact absurd h1 hsd
            · have : ¬ (y + s ≤ h ∧ s ≤ d) := fun q => hf (hfi.2 q)
              omega
          have hsd2 : ¬ (d : Int) < (s : Int) := by omega
          clear hf hfi
          go_wp2_with fail
          go_ret2
          exact R.out
      obtain ⟨hf1, hf2⟩ := hfi.1 hf
      have hms := hf.2.1
      have HFE : Hid (∀ j, j < s → hI H (m + j) = y) := by
        show ∀ j, _
        rw [HY.out]; exact hf.2.2
      have HSK2 : Hid (SkyOk a h (setN H m (y + s) s)) := by
        have := HSK.out.next (by omega) (by rw [← HMD.out]; exact hf)
        rw [← HMD.out, ← HY.out] at this
        exact this
      have HGN : Hid (goC h (S.drop (k + 1)) (setN H m (y + s) s) (C ++ [((m : Int), y)]) = goC h S (List.replicate a 0) []) := by
        show _ = _
        have := goC_yes (S := S.drop (k + 1)) (C := C) (by rw [← HMD.out]; exact hf : FitC h H (lowC H) s)
        rw [← HMD.out, ← HY.out] at this
        rw [← this]; exact HGS.out
      have hsd2 : ¬ (d : Int) < (s : Int) := by omega
      have hbig : ¬ h < y + s := by omega
      obtain ⟨ip, hip, hzp0, hzp1, hzp2⟩ := info_parts infoPt
      have HHL : Hid (H.length = a) := HSK.out.1
      have hms2 : m + s ≤ a := by rw [← HHL.out]; exact hms
      clear hf hfi HGS hms
      go_wp2_with (at_builtin; refine wpList_append_own _ rfl _ _ 34 rfl (g + 1) 45 ip (.agg #[.int .i64 0, .int .i64 0]) 2 16 Try.underlying34 hip hzp0 hzp1 hzp2 rfl (by decide) _ _ _ rfl (ownC5.alloc _) ⟨w5.heap.size, 0, none⟩ 1 1 [.int .i64 m, .int .i64 y] rfl rfl (World.news_of_block (cs := #[.int .i64 m, .int .i64 y]) (t := 45) (fr := (0, 0)) (heap_alloc_new w5 _)) ?d2 ?d3 ?d4 ?d5 ?_)
      case d2 => simp [Value.oneCell']
      case d3 => unfold maxLen; omega
      case d4 => omega
      case d5 => first | omega | (simp; omega)
      intro v' w6 ownC6 hgrow _
      have hap : (Value.slice (some ⟨g, 0, none⟩) a a).ownBlock = none ∨ (Value.slice (some ⟨g, 0, none⟩) a a).ownBlock ≠ v9.ownBlock := .inr fun e => by
        have := (ownC5.lt g e.symm).1; omega
      have own6 := (own5.alloc (.cells #[.int .i64 m, .int .i64 y] 45)).kept hgrow hap
      have hb7 := (hb6.alloc hb6.size (.cells #[.int .i64 m, .int .i64 y] 45)).grown hgrow (by have := hb6.size; simp; omega) (fun q hq => by have := (ownC5.lt q hq).1; omega)
      rw [← flat_one12] at ownC6
      have hM0 : ints H = ints (setN H m (y + s) 0) := rfl
      rw [hM0] at own6
      clear own5 ownC5 hgrow hap hb6 hM0 d0 d1
      go_wp2_with fail
      go_loopw [14] (fun i wr => ∃ j q : Nat, j ≤ s ∧ i = .int .i64 q ∧ Hid (q = m + j) ∧ q ≤ a ∧ wr.ownsRow g 3 1 (.slice (some ⟨g, 0, none⟩) a a) a (ints (setN H m (y + s) j)) ∧ wr.ownsRow (g + 1) 45 2 v' (k + 1) (flat (C ++ [((m : Int), y)])) ∧ Below w1.heap.size w1 wr) (fun i _ => m + s - (intOf i).toNat)
      case atStart => exact ⟨0, m, Nat.zero_le _, rfl, rfl, by omega, own6, ownC6, hb7⟩
      case round =>
        obtain ⟨wp, rfl⟩ : ∃ wp : World, wp = wr := ⟨_, rfl⟩
        clear own6 ownC6 hb7
        obtain ⟨j, q, hj, rfl, hq, hqa, own6, ownC6, hb7⟩ := hrel
        by_cases hjl : j < s
        · have hq2 : (q : Int) < (m : Int) + (s : Int) := by have := hq.out; omega
          have hqa2 : (q : Int) < (a : Int) := by omega
          have hqa3 : q < a := by omega
          have hce : (ints (setN H m (y + s) j))[q]? = some (.int .i64 y) := by
            have e1 : (setN H m (y + s) j)[q]? = some y := by
              rw [setN_at, if_neg (by have := hq.out; omega), List.getElem?_eq_getElem (by rw [HHL.out]; exact hqa3)]
              have := HFE.out j hjl
              rw [← hq.out, hI_at (by rw [HHL.out]; exact hqa3)] at this
              rw [this]
            simp only [ints, List.getElem?_map, e1, Option.map_some]
          have hcq := (own6.cellAt q (by omega)).trans hce
          have hst := (own6.stored q (.int .i64 (y + s))).1
          have hse : (ints (setN H m (y + s) j)).set q (.int .i64 (y + s)) = ints (setN H m (y + s) (j + 1)) := by rw [hq.out]; exact ints_setN _ _ _ _
          rw [hse] at hst
          have hfz := own6.frozenAt q
          have hst2 := row_other ownC6 (show g < g + 1 by omega) q (.int .i64 (y + s))
          have hbs := hb7.setCell (p := ⟨g, q, none⟩) hsz0 (.int .i64 (y + s))
          have R := Lib.hid (And.intro hst (And.intro hst2 hbs))
          have HQ2 : Hid (q + 1 = m + (j + 1)) := by show _ = _; have := hq.out; omega
          clear hst hst2 hbs own6 ownC6 hb7 hse hce hq
          go_wp2_with fail
          go_roundw
          case rel => exact ⟨j + 1, q + 1, by omega, by go_num, HQ2, by omega, R.out.1, R.out.2.1, R.out.2.2⟩
          case measure => simp [intOf]; omega
        · obtain rfl : j = s := by omega
          have hq2 : ¬ (q : Int) < (m : Int) + (j : Int) := by have := hq.out; omega
          have R := Lib.hid (And.intro own6 (And.intro ownC6 hb7))
          clear own6 ownC6 hb7
          go_wp2_with fail
          go_roundw
          case rel => exact ⟨k + 1, _, C ++ [((m : Int), y)], by omega, by go_num, HSK2, HGN, by simp; omega, R.out.1, by simp only [List.length_append, List.length_cons, List.length_nil, hCl]; exact R.out.2.1, R.out.2.2⟩
          case measure => simp [intOf]; omega
    · obtain rfl : k = X.length := by omega
      have hgo : goC h S (List.replicate a 0) [] = some (H, C) := by
        rw [← HG.out, List.drop_of_length_le (by rw [HLS.out]; exact Nat.le_refl _)]; rfl
      have HCV := Lib.hid (HYE.out H C hgo)
      have HMN := Lib.hid (min_any12 g a H wo (intsA_of own) (by omega) (by omega))
      rw [hHl] at HMN
      have hiff := all_high HSK.out (by omega)
      have R1 : Hid (hI H (lowC H) < h → ListsB w1 (corV a h X).1 (corV a h X).2 (.returned (.tuple #[.slice none 0 0, .bool false])) wo) := fun e => HU2.out ([], false) (by rw [HCV.out, if_neg (fun q => (hiff.1 q) e)]) (.slice none 0 0) wo (World.ownsRow_nil _ _ _ _) hb
      have R2 : Hid (¬ hI H (lowC H) < h → ListsB w1 (corV a h X).1 (corV a h X).2 (.returned (.tuple #[v9, .bool true])) wo) := fun e => HU2.out (C, true) (by rw [HCV.out, if_pos (hiff.2 e)]) v9 wo (own_base ownC (by omega)) hb
      clear hiff HCV hgo own ownC hb hHl HG HSK
      generalize hI H (lowC H) = z at *
      by_cases hz : z < h
      · have RR := Lib.hid (R1.out hz)
        clear R1 R2
        go_wp2_with fail
        refine HMN.out.mono ?_
        rintro e w9 ⟨rfl, rfl⟩
        go_wp2_with fail
        go_ret2
        exact RR.out
      · have RR := Lib.hid (R2.out hz)
        clear R1 R2
        go_wp2_with fail
        refine HMN.out.mono ?_
        rintro e w9 ⟨rfl, rfl⟩
        go_wp2_with fail
        go_ret2
        exact RR.out
end Go.Proofs.Ythoniopkeiifnaa

/-! CorS12 -/
namespace Go.Proofs.Ythoniopkeiifnaa
open Go.RowKit

set_option maxRecDepth 100000 in
set_option maxHeartbeats 2000000 in
theorem specOk12 (w h : Int) (A : Option Addr) (c : Nat) (X : List Int) (W : World) (hA : IntsA W A X) (hL : X.length ≤ 1048576) :
    Calls Try.prog 75 #[.int .i64 w, .int .i64 h, .slice A X.length c] W fun e w' => e = .returned (.bool (corOk w h X)) ∧ w' = W := by
  have H1 := Lib.hid (in_any w 1 40)
  have H2 := Lib.hid (in_any h 1 40)
  have HF := Lib.hid (fun x => in_any x 1 40)
  have HV : Hid (corOk w h X = (inB w 1 40 && (inB h 1 40 && (decide (X.length ≤ 40) && areB X 1 40)))) := rfl
  have HA := Lib.hid hA
  clear hA
  generalize inB w 1 40 = x1 at *
  generalize inB h 1 40 = x2 at *
  cases x1
  · go_enter Try.func75, Try.ntmps75
    go_wp2_with fail
    refine (H1.out _).mono ?_
    rintro e w1 ⟨rfl, rfl⟩
    go_wp2_with fail
    go_ret
    exact ⟨ret_bool (by rw [HV.out]; rfl), rfl⟩
  cases x2
  · go_enter Try.func75, Try.ntmps75
    go_wp2_with fail
    refine (H1.out _).mono ?_
    rintro e w1 ⟨rfl, rfl⟩
    go_wp2_with fail
    refine (H2.out _).mono ?_
    rintro e w1 ⟨rfl, rfl⟩
    go_wp2_with fail
    go_ret
    exact ⟨ret_bool (by rw [HV.out]; rfl), rfl⟩
  by_cases hl : X.length ≤ 40
  case neg =>
    have hl' : (40 : Int) < (X.length : Int) := by omega
    have R : Hid (corOk w h X = false) := by show _ = _; rw [HV.out, decide_eq_false hl]; rfl
    clear hl
    go_enter Try.func75, Try.ntmps75
    go_wp2_with fail
    refine (H1.out _).mono ?_
    rintro e w1 ⟨rfl, rfl⟩
    go_wp2_with fail
    refine (H2.out _).mono ?_
    rintro e w1 ⟨rfl, rfl⟩
    go_wp2_with fail
    go_ret
    exact ⟨ret_bool R.out.symm, rfl⟩
  have hl' : ¬ (40 : Int) < (X.length : Int) := by omega
  have HD : Hid (corOk w h X = areB X 1 40) := by show _ = _; rw [HV.out, decide_eq_true hl]; rfl
  clear HV
  go_enter Try.func75, Try.ntmps75
  go_wp2_with fail
  refine (H1.out _).mono ?_
  rintro e w1 ⟨rfl, rfl⟩
  go_wp2_with fail
  refine (H2.out _).mono ?_
  rintro e w2 ⟨rfl, rfl⟩
  go_wp2_with fail
  go_loopw [8, 24] (fun _ i wr => ∃ k : Nat, k ≤ X.length ∧ i = .int .i64 k ∧ Hid (∀ t (ht : t < X.length), t < k → inB X[t] 1 40 = true) ∧ wr = w2) (fun _ i _ => X.length - (intOf i).toNat)
  case atStart => exact ⟨0, Nat.zero_le _, rfl, fun t _ ht => absurd ht (Nat.not_lt_zero t), rfl⟩
  case round =>
    obtain ⟨k, hk, rfl, HT, rfl⟩ := hrel
    by_cases hlt : k < X.length
    · obtain ⟨g, rfl, hc⟩ := HA.out k hlt
      have HI : Hid (inB X[k] 1 40 = false → corOk w h X = false) := fun q => by rw [HD.out, areB_no hlt q]
      have HN2 : Hid (inB X[k] 1 40 = true → (∀ t (ht : t < X.length), t < k + 1 → inB X[t] 1 40 = true)) := fun q t ht hlt2 => by
        rcases Nat.lt_or_ge t k with h1 | h1
        · exact HT.out t ht h1
        · obtain rfl : t = k := by omega
          exact q
      have HC := Lib.hid (HF.out X[k])
      generalize X[k] = x at *
      cases hin : inB x 1 40
      · rw [hin] at HC
        have HR := Lib.hid (HI.out hin)
        clear HN2 HI hin
        go_wp2_with fail
        refine (HC.out _).mono ?_
        rintro e w1 ⟨rfl, rfl⟩
        go_wp2_with fail
        go_ret
        exact ⟨ret_bool HR.out.symm, rfl⟩
      · rw [hin] at HC
        have HN4 := Lib.hid (HN2.out hin)
        clear HN2 HI hin
        go_wp2_with fail
        refine (HC.out _).mono ?_
        rintro e w1 ⟨rfl, rfl⟩
        go_wp2_with fail
        go_roundw
        case rel => exact ⟨k + 1, by omega, by go_num, HN4, by first | trivial | rfl⟩
        case measure => simp [intOf]; omega
    · obtain rfl : k = X.length := by omega
      have R : Hid (corOk w h X = true) := by show _ = _; rw [HD.out, areB_yes fun t ht _ => HT.out t ht ht]
      go_wp2_with fail
      go_ret
      exact ⟨ret_bool R.out.symm, rfl⟩
theorem lowT_next (f : Nat → Int) (k : Nat) : (f k < f (lowT f k) → lowT f (k + 1) = k) ∧ (¬ f k < f (lowT f k) → lowT f (k + 1) = lowT f k) := ⟨fun h => by rw [lowT, if_pos h], fun h => by rw [lowT, if_neg h]⟩
theorem lowT_le0 (f : Nat → Int) (k n : Nat) (hk : k ≤ n) (hn : 0 < n) : lowT f k < n := by
  rcases Nat.eq_zero_or_pos k with h | h
  · rw [h]; exact hn
  · exact Nat.lt_of_lt_of_le (lowT_lt f k h) hk
set_option maxRecDepth 100000 in
set_option maxHeartbeats 16000000 in
theorem specFill12 (a : Nat) (h : Int) (A : Option Addr) (c : Nat) (S : List Nat) (W : World) (ha : 1 ≤ a ∧ a ≤ 40) (hh : 1 ≤ h ∧ h ≤ 40) (hA : IntsA W A (nat12 S)) (hS40 : S.length ≤ 40) (hSB : ∀ s ∈ S, 1 ≤ (s : Int) ∧ (s : Int) ≤ 40) :
    Calls Try.prog 76 #[.int .i64 a, .int .i64 h, .slice A S.length c] W (ListsB W (corN a h S).1 (corN a h S).2) := by
  have HU : Hid (∀ V : List (Int × Int) × Bool, corN a h S = V → ∀ v w', w'.ownsRow W.heap.size 45 2 v V.1.length (flat V.1) → Below W.heap.size W w' → ListsB W (corN a h S).1 (corN a h S).2 (.returned (.tuple #[v, .bool V.2])) w') := fun V e v w' h1 h2 => by
    rw [e]; exact ⟨v, rfl, h1, h2⟩
  have HNO : Hid (goC h S (List.replicate a 0) [] = none → corN a h S = ([], false)) := fun e => by unfold corN; rw [e]
  have HYE : Hid (∀ H C, goC h S (List.replicate a 0) [] = some (H, C) → corN a h S = if ∀ x ∈ H, x = h then (C, true) else ([], false)) := fun H C e => by unfold corN; rw [e]
  have HA := Lib.hid hA
  have HSB := Lib.hid hSB
  clear hA hSB
  obtain ⟨i0, hi0, hz0, hz1, hz2⟩ := info_parts infoI
  obtain ⟨ip, hip, hzp0, hzp1, hzp2⟩ := info_parts infoPt
  have hmk : ∀ w, (Instr.makeSlice 22 (.int .i64 (a : Int)) (.int .i64 (a : Int))).run Try.prog w = .ok (.slice (some ⟨w.heap.size, 0, none⟩) a a) (w.alloc (.cells (madeCells #[.int .i64 0] a) 3)) := fun w => by
    have h := run_make (P := Try.prog) w 22 3 i0 _ Try.underlying22 hi0 hz0 .i64 .i64 (a : Int) (a : Int) (by omega) (Int.le_refl _) (by rw [hz2]; omega) (by omega)
    rw [hz1] at h
    simpa [Value.cells, Nat.mul_one] using h
  have own0 := (World.ownsRow_lit (base := W.heap.size) (e := 3) (size := 1) W (madeCells #[.int .i64 0] a) a (Nat.le_refl _) (by unfold maxLen; omega) ((size_madeCells _ _).trans (Nat.mul_one _).symm)).alloc (.cells #[] 45)
  rw [zeros_ints] at own0
  have ownC0 := World.ownsRow_lit (base := W.heap.size + 1) (e := 45) (size := 2) (W.alloc (.cells (madeCells #[.int .i64 0] a) 3)) #[] 0 (by simp) (by unfold maxLen; omega) (by rfl)
  rw [size_alloc] at ownC0
  have hb0 := below2 W (.cells (madeCells #[.int .i64 0] a) 3) (.cells #[] 45)
  go_enter Try.func76, Try.ntmps76
  go_wp2_with fail
  obtain ⟨g, hg⟩ : ∃ g, g = W.heap.size := ⟨_, rfl⟩
  rw [← hg] at own0 ownC0 ⊢
  have hgl : W.heap.size ≤ g := by omega
  generalize (W.alloc (.cells (madeCells #[.int .i64 0] a) 3)).alloc (.cells #[] 45) = w3 at *
  clear hg hmk
  go_loopw [9, 11, 12, 13, 14, 15, 23] (fun v _ _ _ _ _ i wr => ∃ (k : Nat) (H : List Int) (C : List (Int × Int)), k ≤ S.length ∧ i = .int .i64 k ∧ Hid (SkyOk a h H) ∧ Hid (goC h (S.drop k) H C = goC h S (List.replicate a 0) []) ∧ C.length = k ∧
    wr.ownsRow g 3 1 (.slice (some ⟨g, 0, none⟩) a a) a (ints H) ∧ wr.ownsRow (g + 1) 45 2 v C.length (flat C) ∧ Below W.heap.size W wr) (fun _ _ _ _ _ _ i _ => S.length - (intOf i).toNat)
  case atStart => exact ⟨0, _, [], Nat.zero_le _, rfl, SkyOk.start (by omega), rfl, rfl, own0, ownC0, hb0⟩
  case round =>
    obtain ⟨wo, rfl⟩ : ∃ wo : World, wo = wr := ⟨_, rfl⟩
    clear own0 ownC0 hb0
    obtain ⟨k, H, C, hk, rfl, HSK, HG, hCl, own, ownC, hb⟩ := hrel
    obtain ⟨v9, hv9⟩ : ∃ v9, v9 = u9 := ⟨_, rfl⟩
    subst hv9
    have HHL : Hid (H.length = a) := HSK.out.1
    by_cases hlt : k < S.length
    · obtain ⟨g1, rfl, hc1⟩ := intsA_on HA.out hb k (by rw [nat12_len]; exact hlt)
      rw [nat12_get hlt] at hc1
      have hsb := HSB.out _ (List.getElem_mem hlt)
      have HGS : Hid (goC h (S[k] :: S.drop (k + 1)) H C = goC h S (List.replicate a 0) []) := by show _ = _; rw [← drop_cons12 hlt]; exact HG.out
      clear HG
      generalize S[k] = s at *
      have HPH : Hid (∀ W', Below wo.heap.size wo W' → ∀ q, q < a → W'.cell? ⟨g, q, none⟩ = some (.int .i64 (hI H q))) := fun W' hW q hq => hI_ints (intsA_on (intsA_of own) hW) (by rw [HHL.out]; exact hq)
      go_wp2_with fail
      go_loopw [12, 13, 29] (fun m _ i wr => ∃ (q t : Nat), q ≤ a ∧ i = .int .i64 q ∧ m = .int .i64 t ∧ t < a ∧ Hid (t = lowT (hI H) q) ∧ Below wo.heap.size wo wr) (fun _ _ i _ => a - (intOf i).toNat)
      case atStart => exact ⟨0, 0, Nat.zero_le _, rfl, rfl, by omega, rfl, Below.refl _ _⟩
      case round =>
        obtain ⟨wp, rfl⟩ : ∃ wp : World, wp = wr := ⟨_, rfl⟩
        obtain ⟨q, t, hq, rfl, rfl, hta, HT, hbp⟩ := hrel
        have hct := HPH.out wp hbp t hta
        have hta2 : (t : Int) < (a : Int) := by omega
        by_cases hql : q < a
        · have hcq := HPH.out wp hbp q hql
          have hq2 : (q : Int) < (a : Int) := by omega
          have hnx := lowT_next (hI H) q
          rw [← HT.out] at hnx
          have k1 := cell_regrown hct; have k2 := cell_regrown hcq
          by_cases hlo : hI H q < hI H t
          · have HT2 : Hid (q = lowT (hI H) (q + 1)) := (hnx.1 hlo).symm
            clear hnx HT
            generalize hI H q = z1 at *
            generalize hI H t = z2 at *
            go_wp2_with fail
            refine wp_region_quiet_below (by kernel_rfl) (by kernel_rfl) ?_
            repeat (first
              | go_big_quiet_step (fail)
              | quiet_step (fail))
            refine wpQuiet_nil ?_
            rintro _ ⟨⟨dq, osq⟩, rfl⟩
            have hg := below_on hbp (below_regrown wp dq osq)
            simp only at *
            generalize Go.Sort.grow (redrawn wp dq) osq = w9 at *
            clear k1 k2 hct hcq hbp
            go_wp2_with fail
            go_roundw
            case rel => exact ⟨q + 1, q, by omega, by go_num, by go_num, by omega, HT2, hg⟩
            case measure => simp [intOf]; omega
          · have HT2 : Hid (t = lowT (hI H) (q + 1)) := (hnx.2 hlo).symm
            clear hnx HT
            generalize hI H q = z1 at *
            generalize hI H t = z2 at *
            go_wp2_with fail
            refine wp_region_quiet_below (by kernel_rfl) (by kernel_rfl) ?_
            repeat (first
              | go_big_quiet_step (fail)
              | quiet_step (fail))
            refine wpQuiet_nil ?_
            rintro _ ⟨⟨dq, osq⟩, rfl⟩
            have hg := below_on hbp (below_regrown wp dq osq)
            simp only at *
            generalize Go.Sort.grow (redrawn wp dq) osq = w9 at *
            clear k1 k2 hct hcq hbp
            go_wp2_with fail
            go_roundw
            case rel => exact ⟨q + 1, t, by omega, by go_num, by go_num, by omega, HT2, hg⟩
            case measure => simp [intOf]; omega
        · obtain rfl : q = a := by omega
          obtain ⟨m, rfl⟩ : ∃ m, m = t := ⟨_, rfl⟩
          have HMD : Hid (m = lowC H) := by show _ = _; unfold lowC; rw [HHL.out]; exact HT.out
          have hyb := HSK.out.at hta
          obtain ⟨y, hy⟩ : ∃ y, y = hI H m := ⟨_, rfl⟩
          rw [← hy] at hct hyb
          have HY := Lib.hid hy
          have own5 := own_below own hbp
          have ownC5 := own_below ownC hbp
          have hb6 := below_on hb hbp
          have hgl5 : g < wp.heap.size := (own5.lt g rfl).2
          have HRN : Hid (¬ FitC h H m s → ∀ w', Below W.heap.size W w' → ListsB W (corN q h S).1 (corN q h S).2 (.returned (.tuple #[.slice none 0 0, .bool false])) w') := fun hf w' hw =>
            HU.out ([], false) (HNO.out (by rw [← HGS.out]; exact goC_no (by rw [← HMD.out]; exact hf))) (.slice none 0 0) w' (World.ownsRow_nil _ _ _ _) hw
          clear HT hy own ownC hb hbp HPH
          by_cases hf1 : h < y + s
          · have R := Lib.hid (HRN.out (fun f => by have := f.1; rw [← HY.out] at this; omega) wp hb6)
            clear own5 ownC5 hb6
            go_wp2_with fail
            go_ret2
            exact R.out
          by_cases hf2 : (q : Int) < (m : Int) + (s : Int)
          · have R := Lib.hid (HRN.out (fun f => by have := f.2.1; rw [HHL.out] at this; omega) wp hb6)
            clear own5 ownC5 hb6
            go_wp2_with fail
            go_ret2
            exact R.out
          have hM0 : ints H = ints (setN H m (y + s) 0) := rfl
          rw [hM0] at own5
          clear hM0
          go_wp2_with fail
          go_loopw [15] (fun i wr => ∃ j r : Nat, j ≤ s ∧ i = .int .i64 r ∧ Hid (r = m + j) ∧ r ≤ q ∧ Hid (∀ i, i < j → hI H (m + i) = y) ∧ wr.ownsRow g 3 1 (.slice (some ⟨g, 0, none⟩) q q) q (ints (setN H m (y + s) j)) ∧ wr.ownsRow (g + 1) 45 2 v9 C.length (flat C) ∧ Below W.heap.size W wr) (fun i _ => m + s - (intOf i).toNat)
          case atStart => exact ⟨0, m, Nat.zero_le _, rfl, rfl, by omega, fun i hi => absurd hi (Nat.not_lt_zero i), own5, ownC5, hb6⟩
          case round =>
            obtain ⟨wm, rfl⟩ : ∃ wm : World, wm = wr := ⟨_, rfl⟩
            clear own5 ownC5 hb6
            obtain ⟨j, r, hj, rfl, hr, hrq, HEQ, own6, ownC6, hb7⟩ := hrel
            by_cases hjl : j < s
            · have hr2 : (r : Int) < (m : Int) + (s : Int) := by have := hr.out; omega
              have hrq3 : r < q := by have := hr.out; omega
              have hrq2 : (r : Int) < (q : Int) := by omega
              obtain ⟨z, hz⟩ : ∃ z, z = hI H r := ⟨_, rfl⟩
              have hzb := HSK.out.at hrq3
              rw [← hz] at hzb
              have hce : (ints (setN H m (y + s) j))[r]? = some (.int .i64 z) := by
                have e1 : (setN H m (y + s) j)[r]? = some z := by
                  rw [setN_at, if_neg (by have := hr.out; omega), List.getElem?_eq_getElem (by rw [HHL.out]; exact hrq3), hz, hI_at (by rw [HHL.out]; exact hrq3)]
                simp only [ints, List.getElem?_map, e1, Option.map_some]
              have hcq := (own6.cellAt r (by omega)).trans hce
              by_cases hzy : z = y
              · have HE2 : Hid (∀ i, i < j + 1 → hI H (m + i) = y) := fun i hi => by
                  rcases Nat.lt_or_ge i j with h1 | h1
                  · exact HEQ.out i h1
                  · obtain rfl : i = j := by omega
                    rw [← hr.out, ← hz, hzy]
                have hst := (own6.stored r (.int .i64 (y + s))).1
                have hse : (ints (setN H m (y + s) j)).set r (.int .i64 (y + s)) = ints (setN H m (y + s) (j + 1)) := by rw [hr.out]; exact ints_setN _ _ _ _
                rw [hse] at hst
                have hfz := own6.frozenAt r
                have hst2 := row_other ownC6 (show g < g + 1 by omega) r (.int .i64 (y + s))
                have hbs := hb7.setCell (p := ⟨g, r, none⟩) hgl (.int .i64 (y + s))
                have R := Lib.hid (And.intro hst (And.intro hst2 hbs))
                have HQ2 : Hid (r + 1 = m + (j + 1)) := by show _ = _; have := hr.out; omega
                clear hst hst2 hbs own6 ownC6 hb7 hse hce hr HEQ hz
                subst hzy
                go_wp2_with fail
                go_roundw
                case rel => exact ⟨j + 1, r + 1, by omega, by go_num, HQ2, by omega, HE2, R.out.1, R.out.2.1, R.out.2.2⟩
                case measure => simp [intOf]; omega
              · have hzy2 : (z != y) = true := by rw [bne_iff_ne]; exact hzy
                have R := Lib.hid (HRN.out (fun f => by
                  have := f.2.2 j hjl
                  rw [← hr.out, ← hz, ← HY.out] at this
                  exact hzy this) wm hb7)
                clear own6 ownC6 hb7 hce hr HEQ hz hzy
                go_wp2_with fail
                go_ret2
                exact R.out
            · obtain rfl : j = s := by omega
              have hgl6 : g < wm.heap.size := (own6.lt g rfl).2
              have hr2 : ¬ (r : Int) < (m : Int) + (j : Int) := by have := hr.out; omega
              have hfit : FitC h H (lowC H) j := by
                rw [← HMD.out]
                exact ⟨by rw [← HY.out]; omega, by rw [HHL.out]; omega, fun i hi => by rw [← HY.out]; exact HEQ.out i hi⟩
              have HSK2 : Hid (SkyOk q h (setN H m (y + j) j)) := by
                have := HSK.out.next (by omega) hfit
                rw [← HMD.out, ← HY.out] at this
                exact this
              have HGN : Hid (goC h (S.drop (k + 1)) (setN H m (y + j) j) (C ++ [((m : Int), y)]) = goC h S (List.replicate q 0) []) := by
                show _ = _
                have := goC_yes (S := S.drop (k + 1)) (C := C) hfit
                rw [← HMD.out, ← HY.out] at this
                rw [← this]; exact HGS.out
              clear hfit HEQ hr HRN HGS
              go_wp2_with (at_builtin; refine wpList_append_own _ rfl _ _ 34 rfl (g + 1) 45 ip (.agg #[.int .i64 0, .int .i64 0]) 2 16 Try.underlying34 hip hzp0 hzp1 hzp2 rfl (by decide) _ _ _ rfl (ownC6.alloc _) ⟨wm.heap.size, 0, none⟩ 1 1 [.int .i64 m, .int .i64 y] rfl rfl (World.news_of_block (cs := #[.int .i64 m, .int .i64 y]) (t := 45) (fr := (0, 0)) (heap_alloc_new wm _)) ?d2 ?d3 ?d4 ?d5 ?_)
              case d2 => simp [Value.oneCell']
              case d3 => unfold maxLen; omega
              case d4 => omega
              case d5 => first | omega | (simp; omega)
              intro v' w6 ownC7 hgrow _
              have hap : (Value.slice (some ⟨g, 0, none⟩) q q).ownBlock = none ∨ (Value.slice (some ⟨g, 0, none⟩) q q).ownBlock ≠ v9.ownBlock := .inr fun e => by
                have := (ownC6.lt g e.symm).1; omega
              have own7 := (own6.alloc (.cells #[.int .i64 m, .int .i64 y] 45)).kept hgrow hap
              have hb8 := (hb7.alloc hb7.size (.cells #[.int .i64 m, .int .i64 y] 45)).grown hgrow (by have := hb7.size; first | omega | (simp; omega)) (fun b hb => by have := (ownC6.lt b hb).1; omega)
              rw [← flat_one12] at ownC7
              have R := Lib.hid (And.intro own7 (And.intro ownC7 hb8))
              clear own6 ownC6 hgrow hap hb7 own7 ownC7 hb8
              go_wp2_with fail
              go_roundw
              case rel => exact ⟨k + 1, _, C ++ [((m : Int), y)], by omega, by go_num, HSK2, HGN, by simp; omega, R.out.1, by rw [List.length_append, hCl]; exact R.out.2.1, R.out.2.2⟩
              case measure => simp [intOf]; omega
    · obtain rfl : k = S.length := by omega
      have hgo : goC h S (List.replicate a 0) [] = some (H, C) := by
        rw [← HG.out, List.drop_of_length_le (Nat.le_refl _)]; rfl
      have HCV := Lib.hid (HYE.out H C hgo)
      have HC9 : Hid (∀ q, q < a → wo.cell? ⟨g, q, none⟩ = some (.int .i64 (hI H q))) := fun q hq => hI_ints (intsA_of own) (by rw [HHL.out]; exact hq)
      have R1 : Hid (¬ (∀ x ∈ H, x = h) → ListsB W (corN a h S).1 (corN a h S).2 (.returned (.tuple #[.slice none 0 0, .bool false])) wo) := fun e => HU.out ([], false) (by rw [HCV.out, if_neg e]) (.slice none 0 0) wo (World.ownsRow_nil _ _ _ _) hb
      have R2 : Hid ((∀ x ∈ H, x = h) → ListsB W (corN a h S).1 (corN a h S).2 (.returned (.tuple #[v9, .bool true])) wo) := fun e => HU.out (C, true) (by rw [HCV.out, if_pos e]) v9 wo (own_base ownC (by omega)) hb
      clear HCV hgo own ownC hb HG
      go_wp2_with fail
      go_loopw [17, 88] (fun _ i wr => ∃ q : Nat, q ≤ a ∧ i = .int .i64 q ∧ Hid (∀ j, j < q → hI H j = h) ∧ wr = wo) (fun _ i _ => a - (intOf i).toNat)
      case atStart => exact ⟨0, Nat.zero_le _, rfl, fun j hj => absurd hj (Nat.not_lt_zero j), rfl⟩
      case round =>
        obtain ⟨q, hq, rfl, HE, rfl⟩ := hrel
        by_cases hql : q < a
        · have hcq := HC9.out q hql
          have hzb := HSK.out.at hql
          obtain ⟨z, hz⟩ : ∃ z, z = hI H q := ⟨_, rfl⟩
          rw [← hz] at hcq hzb
          by_cases hzh : z = h
          · have HE2 : Hid (∀ j, j < q + 1 → hI H j = h) := fun j hj => by
              rcases Nat.lt_or_ge j q with h1 | h1
              · exact HE.out j h1
              · obtain rfl : j = q := by omega
                rw [← hz]; exact hzh
            have hne : (z != h) = false := by rw [hzh]; simp
            clear hz hzh
            go_wp2_with fail
            go_roundw
            case rel => exact ⟨q + 1, by omega, by go_num, HE2, by first | trivial | rfl⟩
            case measure => simp [intOf]; omega
          · have hne : (z != h) = true := by rw [bne_iff_ne]; exact hzh
            have R := Lib.hid (R1.out (fun e => hzh (by
              rw [hz, hI_at (by rw [HHL.out]; exact hql)]
              exact e _ (List.getElem_mem _))))
            clear hz hzh R1 R2
            go_wp2_with fail
            go_ret2
            exact R.out
        · obtain rfl : q = a := by omega
          have R := Lib.hid (R2.out (fun x hx => by
            obtain ⟨j, hj, rfl⟩ := List.getElem_of_mem hx
            rw [← hI_at hj]
            exact HE.out j (by rw [← HHL.out]; exact hj)))
          clear R1 R2
          go_wp2_with fail
          go_ret2
          exact R.out
set_option maxRecDepth 100000 in
set_option maxHeartbeats 2000000 in
theorem spec_cor (w h : Int) (A : Option Addr) (c : Nat) (X : List Int) (W : World) (hA : IntsA W A X) (hL : X.length ≤ 1048576) :
    Calls Try.prog 28 #[.int .i64 w, .int .i64 h, .slice A X.length c] W (ListsB W (corV w h X).1 (corV w h X).2) := by
  have HO := Lib.hid (specOk12 w h A c X W hA hL)
  cases hok : corOk w h X
  · rw [hok] at HO
    have R : Hid (ListsB W (corV w h X).1 (corV w h X).2 (.returned (.tuple #[.slice none 0 0, .bool false])) W) := by
      show ListsB _ _ _ _ _
      unfold corV; rw [hok]
      exact ⟨_, rfl, World.ownsRow_nil _ _ _ _, Below.refl _ _⟩
    clear hA hok
    go_enter Try.func28, Try.ntmps28
    go_wp2_with fail
    refine HO.out.mono ?_
    rintro e w1 ⟨rfl, rfl⟩
    go_wp2_with fail
    go_ret2
    exact R.out
  rw [hok] at HO
  have hok2 := hok
  unfold corOk at hok2
  simp only [Bool.and_eq_true, decide_eq_true_eq] at hok2
  obtain ⟨k1, k2, k3, k4⟩ := hok2
  have hw := inB_spec.1 k1
  have hh := inB_spec.1 k2
  obtain ⟨a, rfl⟩ : ∃ a : Nat, w = a := ⟨w.toNat, by omega⟩
  obtain ⟨hXS, hSb⟩ := areB_nat (by omega) k4
  obtain ⟨S, hS⟩ : ∃ S, S = X.map Int.toNat := ⟨_, rfl⟩
  rw [← hS] at hXS hSb
  have hlS : S.length = X.length := by rw [hS, List.length_map]
  have HF := specFill12 a h A c S W (by omega) (by omega) (by rw [← hXS]; exact hA) (by omega) hSb
  rw [hlS] at HF
  have HC : Hid (corV a h X = corN a h S) := by show _ = _; unfold corV; rw [hok, hS]; rfl
  have HFF : Hid (Calls Try.prog 76 #[.int .i64 a, .int .i64 h, .slice A X.length c] W fun e w' => ∃ v, e = .returned (.tuple #[v, .bool (corV a h X).2]) ∧ ListsB W (corV a h X).1 (corV a h X).2 (.returned (.tuple #[v, .bool (corV a h X).2])) w') := HF.mono fun e w' h1 => by
    rw [HC.out]
    obtain ⟨v, rfl, h2, h3⟩ := h1
    exact ⟨v, rfl, v, rfl, h2, h3⟩
  clear HF hXS hSb hS hlS HC hA hok k1 k2 k3 k4
  generalize hV : corV a h X = V at *
  clear hV
  go_enter Try.func28, Try.ntmps28
  go_wp2_with fail
  refine HO.out.mono ?_
  rintro e w1 ⟨rfl, rfl⟩
  go_wp2_with fail
  refine HFF.out.mono ?_
  rintro e w2 ⟨v, rfl, hv⟩
  have R := Lib.hid hv
  clear hv
  go_wp2_with fail
  go_ret2
  exact R.out
end Go.Proofs.Ythoniopkeiifnaa

/-! CorL12 -/
namespace Go.Proofs.Ythoniopkeiifnaa
open Go.RowKit

theorem goC_len {h : Int} : ∀ (T : List Nat) (H H' : List Int) (C C' : List (Int × Int)), goC h T H C = some (H', C') → C'.length = C.length + T.length
  | [], H, H', C, C', e => by
    simp only [goC, Option.some.injEq, Prod.mk.injEq] at e
    rw [← e.2]; simp
  | s :: T, H, H', C, C', e => by
    by_cases c : FitC h H (lowC H) s
    · rw [goC_yes c] at e
      have := goC_len T _ H' _ C' e
      rw [this]; simp; omega
    · rw [goC_no c] at e; cases e
theorem corV_len (w h : Int) (X : List Int) : (corV w h X).1.length ≤ 40 := by
  unfold corV
  cases hok : corOk w h X
  · simp
  · simp only [cond_true]
    unfold corOk at hok
    simp only [Bool.and_eq_true, decide_eq_true_eq] at hok
    unfold corN
    split
    · next H C e =>
      split
      · have := goC_len _ _ _ _ _ e
        simp only [List.length_nil, Nat.zero_add, List.length_map] at this
        simp only
        omega
      · simp
    · simp
set_option maxRecDepth 100000 in
theorem spec_sqd (w h : Int) (A : Option Addr) (c : Nat) (X : List Int) (W : World) (hA : IntsA W A X) (hL : X.length ≤ 1048576) :
    Calls Try.prog 33 #[.int .i64 w, .int .i64 h, .slice A X.length c] W fun e w' => ∃ v, e = .returned (.bool v) ∧ (v = true ↔ (corV w h X).2 = true) ∧ Below W.heap.size W w' := by
  have HS := Lib.hid (spec_cor w h A c X W hA hL)
  unfold ListsB at HS
  clear hA
  generalize corV w h X = V at *
  go_enter Try.func33, Try.ntmps33
  go_wp2_with fail
  refine HS.out.mono ?_
  rintro e w1 ⟨v, rfl, -, hb⟩
  go_wp2_with fail
  go_ret
  exact ⟨_, rfl, Iff.rfl, hb⟩
set_option maxRecDepth 100000 in
theorem impl_sqd (w h : Int) (A : Option Addr) (c : Nat) (X : List Int) (W : World) (hA : IntsA W A X) (hL : X.length ≤ 1048576) :
    Calls Try.prog 34 #[.int .i64 w, .int .i64 h, .slice A X.length c] W fun e w' => ∃ v, e = .returned (.bool v) ∧ (v = true ↔ (corV w h X).2 = true) ∧ Below W.heap.size W w' := by
  have HS := Lib.hid (impl_cor w h A c X W hA hL)
  unfold ListsB at HS
  clear hA
  generalize corV w h X = V at *
  go_enter Try.func34, Try.ntmps34
  go_wp2_with fail
  refine HS.out.mono ?_
  rintro e w1 ⟨v, rfl, -, hb⟩
  go_wp2_with fail
  go_ret
  exact ⟨_, rfl, Iff.rfl, hb⟩
end Go.Proofs.Ythoniopkeiifnaa

/-! MarkS10 -/
namespace Go.Proofs.Ythoniopkeiifnaa
open Go.RowKit

theorem markS_ints (B : Nat) (v : Value) (n : Nat) (xs : List Value) (s : Int) (w : World) (hown : w.ownsRow B 3 1 v n xs) (hn : n ≤ 1048576) (hs0 : 0 ≤ s) (hs1 : s ≤ 1000000000) :
    Calls Try.prog 17 #[v, .int .i64 s] w fun e w' => e = .returned (.int .i64 (s + (n : Int))) ∧ w'.ownsRow B 3 1 v n (ints (marksS s n)) ∧ w.grownBy w' v.ownBlock := by
  rcases hown.2 with ⟨rfl, rfl⟩ | ⟨g, cap, cur, rfl, _⟩
  · have e : s + ((0 : Nat) : Int) = s := by omega
    rw [e]
    go_enter Try.func17, Try.ntmps17
    go_wp2_with fail
    refine wp_loop_rounds 1 ?_
    rw [rounds_succ]
    go_wp2_with fail
    go_ret
    exact ⟨rfl, World.ownsRow_nil _ _ _ _, World.grownBy.refl _ _⟩
  · exact mark_row B g cap n xs s w hown hn hs0 hs1
theorem heldS_ints (B : Nat) (v : Value) (n : Nat) (s : Int) (w : World) (hown : w.ownsRow B 3 1 v n (ints (marksS s n))) (hn : n ≤ 1048576) (hs0 : 0 ≤ s) (hs1 : s ≤ 1000000000) :
    Calls Try.prog 18 #[v, .int .i64 s] w fun e w' => e = .returned (.int .i64 (s + (n : Int))) ∧ w' = w := by
  rcases hown.2 with ⟨rfl, rfl⟩ | ⟨g, cap, cur, rfl, _⟩
  · have e : s + ((0 : Nat) : Int) = s := by omega
    rw [e]
    go_enter Try.func18, Try.ntmps18
    go_wp2_with fail
    refine wp_loop_rounds 1 ?_
    rw [rounds_succ]
    go_wp2_with fail
    go_ret
    exact ⟨rfl, rfl⟩
  · exact held_row B g cap n s w hown hn hs0 hs1
open Go.ChangeShapes
section
variable {H : Type} {enc : TypeId × Value → H} {P : Program} {w : World} {base : Nat} {spare : Nat → Bool} {held : Bool}
theorem trodAll_five {t0 t1 t2 t3 t4 : TypeId} {args : Array Value} {ds : List (DataW H)} {ps : List MemPlace} (h : DataW.TrodAll enc P w base spare held [t0, t1, t2, t3, t4] args.toList ds ps) :
    ∃ v0 v1 v2 v3 v4 d0 d1 d2 d3 d4 p0 p1 p2 p3 p4, args = #[v0, v1, v2, v3, v4] ∧ ds = [d0, d1, d2, d3, d4] ∧ ps = p0 ++ p1 ++ p2 ++ p3 ++ p4 ∧ DataW.Trod enc P w base spare held t0 v0 d0 p0 ∧ DataW.Trod enc P w base spare held t1 v1 d1 p1 ∧ DataW.Trod enc P w base spare held t2 v2 d2 p2 ∧ DataW.Trod enc P w base spare held t3 v3 d3 p3 ∧ DataW.Trod enc P w base spare held t4 v4 d4 p4 := by
  obtain ⟨v0, vs0, d0, ds0, p0, q0, hargs, rfl, rfl, h0, r0⟩ := trodAll_cons h
  obtain ⟨v1, vs1, d1, ds1, p1, q1, rfl, rfl, rfl, h1, r1⟩ := trodAll_cons r0
  obtain ⟨v2, vs2, d2, ds2, p2, q2, rfl, rfl, rfl, h2, r2⟩ := trodAll_cons r1
  obtain ⟨v3, vs3, d3, ds3, p3, q3, rfl, rfl, rfl, h3, r3⟩ := trodAll_cons r2
  obtain ⟨v4, vs4, d4, ds4, p4, q4, rfl, rfl, rfl, h4, r4⟩ := trodAll_cons r3
  obtain ⟨rfl, rfl, rfl⟩ := trodAll_nil r4
  exact ⟨v0, v1, v2, v3, v4, d0, d1, d2, d3, d4, p0, p1, p2, p3, p4, by cases args; simp_all, rfl, by simp, h0, h1, h2, h3, h4⟩
theorem trodAll_six {t0 t1 t2 t3 t4 t5 : TypeId} {args : Array Value} {ds : List (DataW H)} {ps : List MemPlace} (h : DataW.TrodAll enc P w base spare held [t0, t1, t2, t3, t4, t5] args.toList ds ps) :
    ∃ v0 v1 v2 v3 v4 v5 d0 d1 d2 d3 d4 d5 p0 p1 p2 p3 p4 p5, args = #[v0, v1, v2, v3, v4, v5] ∧ ds = [d0, d1, d2, d3, d4, d5] ∧ ps = p0 ++ p1 ++ p2 ++ p3 ++ p4 ++ p5 ∧ DataW.Trod enc P w base spare held t0 v0 d0 p0 ∧ DataW.Trod enc P w base spare held t1 v1 d1 p1 ∧ DataW.Trod enc P w base spare held t2 v2 d2 p2 ∧ DataW.Trod enc P w base spare held t3 v3 d3 p3 ∧ DataW.Trod enc P w base spare held t4 v4 d4 p4 ∧ DataW.Trod enc P w base spare held t5 v5 d5 p5 := by
  obtain ⟨v0, vs0, d0, ds0, p0, q0, hargs, rfl, rfl, h0, r0⟩ := trodAll_cons h
  obtain ⟨v1, vs1, d1, ds1, p1, q1, rfl, rfl, rfl, h1, r1⟩ := trodAll_cons r0
  obtain ⟨v2, vs2, d2, ds2, p2, q2, rfl, rfl, rfl, h2, r2⟩ := trodAll_cons r1
  obtain ⟨v3, vs3, d3, ds3, p3, q3, rfl, rfl, rfl, h3, r3⟩ := trodAll_cons r2
  obtain ⟨v4, vs4, d4, ds4, p4, q4, rfl, rfl, rfl, h4, r4⟩ := trodAll_cons r3
  obtain ⟨v5, vs5, d5, ds5, p5, q5, rfl, rfl, rfl, h5, r5⟩ := trodAll_cons r4
  obtain ⟨rfl, rfl, rfl⟩ := trodAll_nil r5
  exact ⟨v0, v1, v2, v3, v4, v5, d0, d1, d2, d3, d4, d5, p0, p1, p2, p3, p4, p5, by cases args; simp_all, rfl, by simp, h0, h1, h2, h3, h4, h5⟩
end
end Go.Proofs.Ythoniopkeiifnaa

/-! Law12D -/
namespace Go.Proofs.Ythoniopkeiifnaa
open Go.RowKit

set_option maxRecDepth 100000 in
set_option maxHeartbeats 4000000 in
theorem law_cor (w h : Int) (A : Option Addr) (c : Nat) (X : List Int) (M : List (Int × Int)) (b : Bool) (W : World) (hA : ArgI W A X) (_hL : X.length ≤ maxLen)
    (SC : X.length ≤ 1048576 → ∀ A c W, IntsA W A X → Calls Try.prog 28 #[.int .i64 w, .int .i64 h, .slice A X.length c] W (ListsB W M b))
    (IC : X.length ≤ 1048576 → ∀ A c W, IntsA W A X → Calls Try.prog 29 #[.int .i64 w, .int .i64 h, .slice A X.length c] W (ListsB W M b)) (hM : M.length ≤ 1048576) :
    Calls Try.prog 8 #[.int .i64 w, .int .i64 h, .slice A X.length c] W fun e w' => e = .returned (.bool true) ∧ Below W.heap.size W w' := by
  by_cases hs : X.length ≤ 1048576
  case neg =>
    have hs' : ((1048576 : Int) < (X.length : Int)) := by omega
    clear hA hs SC IC hM
    unfold maxLen at _hL
    go_enter Try.func8, Try.ntmps8
    go_wp2_with fail
    go_ret
    exact ⟨rfl, Below.refl _ _⟩
  have HS : Hid (∀ A c W, IntsA W A X → Calls Try.prog 28 #[.int .i64 w, .int .i64 h, .slice A X.length c] W fun e w' => ∃ v, e = .returned (.tuple #[v, .bool b]) ∧ w'.ownsRow W.heap.size 45 2 v M.length (flat M) ∧ Below W.heap.size W w') := SC hs
  have HI : Hid (∀ A c W, IntsA W A X → Calls Try.prog 29 #[.int .i64 w, .int .i64 h, .slice A X.length c] W fun e w' => ∃ v, e = .returned (.tuple #[v, .bool b]) ∧ w'.ownsRow W.heap.size 45 2 v M.length (flat M) ∧ Below W.heap.size W w') := IC hs
  have HT := Lib.hid (fun W hA => toI_any A c X W hA hs)
  have HA := Lib.hid hA
  have hs' : ¬ ((1048576 : Int) < (X.length : Int)) := by omega
  have HSZ := Lib.hid hs
  have HMM := Lib.hid hM
  clear hA _hL hs SC IC hM
  go_enter Try.func8, Try.ntmps8
  go_wp2_with fail
  refine (HT.out _ HA.out).mono ?_
  rintro e w1 ⟨rfl, own1, b1⟩
  have p1 := intsA_of own1
  clear own1
  go_wp2_with fail
  refine (HS.out _ _ _ p1).mono ?_
  rintro e w2 ⟨v2, rfl, own2, hb2⟩
  have b2 := below_on b1 hb2
  clear hb2 b1 p1
  go_wp2_with fail
  refine (HT.out _ (HA.out.step b2)).mono ?_
  rintro e w3 ⟨rfl, own3, hb3⟩
  have b3 := below_on b2 hb3
  have ap23 := own_apart_g own2 (Nat.le_refl _) own3
  replace own2 := own_below own2 hb3
  have b23 := hb3.size
  replace own3 := own_base own3 (Nat.le_trans b2.size (Nat.le_refl _))
  have p3 := intsA_of own3
  clear hb3 b2
  go_wp2_with fail
  refine (HI.out _ _ _ p3).mono ?_
  rintro e w4 ⟨v4, rfl, own4, hb4⟩
  have b4 := below_on b3 hb4
  have ap24 := own_apart_g own2 (Nat.le_refl _) own4
  have ap34 := own_apart_g own3 (Nat.le_refl _) own4
  have ap43 := own_apart_g' own3 (Nat.le_refl _) own4
  replace own2 := own_below own2 hb4
  replace own3 := own_below own3 hb4
  replace own4 := own_base own4 b3.size
  clear hb4 b3 p3
  obtain ⟨_, A4, c4, rfl, p4⟩ := own_pts own4
  obtain ⟨_, A2, c2, rfl, p2⟩ := own_pts own2
  go_wp2_with fail
  refine (eq_pts A4 A2 c4 c2 _ w4 p4 p2 HMM.out).mono ?_
  rintro e w5 ⟨rfl, hb5⟩
  have b5 := below_on b4 hb5
  replace own2 := own_below own2 hb5
  replace own3 := own_below own3 hb5
  replace own4 := own_below own4 hb5
  clear hb5 p4 p2 b4
  go_wp2_with fail
  refine (HT.out _ (HA.out.step b5)).mono ?_
  rintro e w6 ⟨rfl, own6, hb6⟩
  have b6 := below_on b5 hb6
  replace own2 := own_below own2 hb6
  replace own3 := own_below own3 hb6
  replace own4 := own_below own4 hb6
  have p3 := intsA_of own3
  have p6 := intsA_of own6
  clear hb6 own6 b5
  go_wp2_with fail
  refine (eq_ints _ _ _ _ X w6 p3 p6 HSZ.out).mono ?_
  rintro e w7 ⟨rfl, hb7⟩
  have b7 := below_on b6 hb7
  replace own2 := own_below own2 hb7
  replace own3 := own_below own3 hb7
  replace own4 := own_below own4 hb7
  clear hb7 p3 p6 b6
  go_wp2_with fail
  refine (mark_ints _ _ _ _ w7 own3 HSZ.out).mono ?_
  rintro e w8 ⟨rfl, -, hg8⟩
  have b8 := b7.grown hg8 b7.size (fun k hk => (own3.lt k hk).1)
  replace own2 := own2.kept hg8 ap23
  replace own4 := own4.kept hg8 ap43
  have p2 := ptsA_of own2
  have p4 := ptsA_of own4
  clear hg8 own3 b7 ap23 ap34 ap43
  go_wp2_with fail
  refine (eq_pts A4 A2 c4 c2 _ w8 p4 p2 HMM.out).mono ?_
  rintro e w9 ⟨rfl, hb9⟩
  have b9 := below_on b8 hb9
  replace own2 := own_below own2 hb9
  replace own4 := own_below own4 hb9
  clear hb9 p4 p2 b8
  go_wp2_with fail
  refine (mark_pts _ _ _ _ w9 own4 HMM.out).mono ?_
  rintro e w10 ⟨rfl, own4m, hg10⟩
  have b10 := b9.grown hg10 b9.size (fun k hk => (own4.lt k hk).1)
  replace own2 := own2.kept hg10 ap24
  clear hg10 own4 ap24 b9
  go_wp2_with fail
  refine (held_pts _ _ _ w10 own4m HMM.out).mono ?_
  rintro e w11 ⟨rfl, rfl⟩
  go_wp2_with fail
  refine (HT.out _ (HA.out.step b10)).mono ?_
  rintro e w12 ⟨rfl, own12, hb12⟩
  have b12 := below_on b10 hb12
  replace own2 := own_below own2 hb12
  replace own4m := own_below own4m hb12
  have p12 := intsA_of own12
  clear hb12 own12 b10
  go_wp2_with fail
  refine (HI.out _ _ _ p12).mono ?_
  rintro e w13 ⟨v13, rfl, own13, hb13⟩
  have b13 := below_on b12 hb13
  replace own2 := own_below own2 hb13
  replace own4m := own_below own4m hb13
  obtain ⟨_, A13, c13, rfl, p13⟩ := own_pts own13
  have p2 := ptsA_of own2
  clear hb13 own13 b12 p12
  go_wp2_with fail
  refine (eq_pts A13 A2 c13 c2 _ w13 p13 p2 HMM.out).mono ?_
  rintro e w14 ⟨rfl, hb14⟩
  have b14 := below_on b13 hb14
  replace own4m := own_below own4m hb14
  clear hb14 own2 p2 p13 b13
  go_wp2_with fail
  refine (held_pts _ _ _ w14 own4m HMM.out).mono ?_
  rintro e w15 ⟨rfl, rfl⟩
  go_wp2_with fail
  go_ret
  exact ⟨rfl, b14⟩
theorem ex_cor (w h : Int) (A : Option Addr) (c : Nat) (X : List Int) (W : World) (hA : ArgI W A X) (_hL : X.length ≤ maxLen) : Calls Try.prog 8 #[.int .i64 w, .int .i64 h, .slice A X.length c] W fun e w' => e = .returned (.bool true) ∧ Below W.heap.size W w' :=
  law_cor w h A c X (corV w h X).1 (corV w h X).2 W hA _hL (fun hl A c W hA => spec_cor w h A c X W hA hl) (fun hl A c W hA => impl_cor w h A c X W hA hl) (Nat.le_trans (corV_len w h X) (by omega))
set_option maxRecDepth 100000 in
set_option maxHeartbeats 4000000 in
theorem ex_sqd (w h : Int) (AX : Option Addr) (cX : Nat) (X : List Int) (W : World) (hX : ArgI W AX X) (_lX : X.length ≤ maxLen) :
    Calls Try.prog 9 #[.int .i64 w, .int .i64 h, .slice AX X.length cX] W fun e w' => e = .returned (.bool true) ∧ Below W.heap.size W w' := by
  by_cases hsX : X.length ≤ 1048576
  case neg =>
    have hq : ((1048576 : Int) < (X.length : Int)) := by omega
    clear hX hsX
    unfold maxLen at *
    go_enter Try.func9, Try.ntmps9
    go_wp2_with fail
    go_ret
    exact ⟨rfl, Below.refl _ _⟩
  have HS := Lib.hid (fun AX cX W hX => spec_sqd w h AX cX X W hX hsX)
  have HI := Lib.hid (fun AX cX W hX => impl_sqd w h AX cX X W hX hsX)
  have HTX := Lib.hid (fun W h => toI_any AX cX X W h hsX)
  have HAX := Lib.hid hX
  have hnX : ¬ ((1048576 : Int) < (X.length : Int)) := by omega
  have HZX := Lib.hid hsX
  clear hX _lX hsX
  go_enter Try.func9, Try.ntmps9
  go_wp2_with fail
  refine (HTX.out _ HAX.out).mono ?_
  rintro e w1 ⟨rfl, osX, hb1⟩
  have b1 := hb1
  clear hb1
  go_wp2_with fail
  have psX := intsA_of osX
  clear osX
  refine (HS.out _ _ _ psX).mono ?_
  rintro e w2 ⟨v, rfl, hv, hb2⟩
  have HV := Lib.hid hv
  clear hv
  have b2 := below_on b1 hb2
  clear hb2 b1
  clear psX
  go_wp2_with fail
  refine (HTX.out _ (HAX.out.step b2)).mono ?_
  rintro e w3 ⟨rfl, oxX, hb3⟩
  have b3 := below_on b2 hb3
  replace oxX := own_base oxX b2.size
  clear hb3 b2
  go_wp2_with fail
  have psX := intsA_of oxX
  refine (HI.out _ _ _ psX).mono ?_
  rintro e w4 ⟨v', rfl, hv', hb4⟩
  obtain rfl : v = v' := by rw [Bool.eq_iff_iff, HV.out, hv']
  clear hv'
  have b4 := below_on b3 hb4
  replace oxX := own_below oxX hb4
  clear hb4 b3
  clear psX
  go_wp2_with fail
  refine (HTX.out _ (HAX.out.step b4)).mono ?_
  rintro e w5 ⟨rfl, oy, hb5⟩
  have ap_oxX_oy := own_apart_g oxX (Nat.le_refl _) oy
  have ap_oy_oxX := own_apart_g' oxX (Nat.le_refl _) oy
  have b5 := below_on b4 hb5
  replace oxX := own_below oxX hb5
  replace oy := own_base oy b4.size
  clear hb5 b4
  go_wp2_with fail
  refine (eq_ints _ _ _ _ X _ (intsA_of oxX) (intsA_of oy) HZX.out).mono ?_
  rintro e w6 ⟨rfl, hb6⟩
  have b6 := below_on b5 hb6
  replace oxX := own_below oxX hb6
  replace oy := own_below oy hb6
  clear hb6 b5
  clear oy ap_oxX_oy ap_oy_oxX
  go_wp2_with fail
  go_ret
  exact ⟨rfl, b6⟩
end Go.Proofs.Ythoniopkeiifnaa
