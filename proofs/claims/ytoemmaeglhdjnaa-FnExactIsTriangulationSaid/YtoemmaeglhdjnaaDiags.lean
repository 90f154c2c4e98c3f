/-
  The diagonals of a polygon in a map whose keys are pairs of indices: 'diagonalsIn'.
-/
import Derived.Test.YtoemmaeglhdjnaaKey
import Derived.Test.YtoemmaeglhdjnaaDiagJ
namespace Go.Proofs.Ytoemmaeglhdjnaa
open Go.RowKit
open Go.Maps (Keyed)

/-- Block b is a map with just the keys R, each with the value true. -/
def MapB (w : World) (b : Nat) (R : List (Int × Int)) : Prop :=
  ∃ D : DataW Unit, w.ownsMap Try.prog 72 (plainElem Try.prog 4) b R.length D ∧ (∀ a c, wf64 a → wf64 c → (Maps.has D (kl a c) = true ↔ (a, c) ∈ R)) ∧ (∀ z ∈ R, wf64 z.1 ∧ wf64 z.2) ∧ (∀ l zd, Maps.has D l = true → D.atKey l zd = .lit (.bool true))
theorem mapB_made (w : World) : MapB (w.alloc (.map #[] 0)) w.heap.size [] :=
  ⟨.map [], World.ownsMap_made _ _ _ _, fun a c _ _ => (by simp [Maps.has]), fun z hz => (by cases hz), fun l zd h => (by cases h)⟩
theorem below_grown {w w' : World} (hb : Below w.heap.size w w') : w.grownBy w' none := ⟨hb.os, hb.tape, hb.output, hb.size, fun k hk _ => hb.block k hk⟩
theorem MapB.on {w w' : World} {b : Nat} {R : List (Int × Int)} (h : MapB w b R) (hb : Below w.heap.size w w') : MapB w' b R := by
  obtain ⟨D, h1, h2⟩ := h
  exact ⟨D, h1.kept (below_grown hb) (by simp), h2⟩
theorem mapB_put {w' : World} {b : Nat} {R : List (Int × Int)} {D : DataW Unit} {n : Nat} {x y : Int} (hD : Maps.IsMap D) (hx : wf64 x) (hy : wf64 y) (hn : n ≤ R.length + 1)
    (h2 : ∀ a c, wf64 a → wf64 c → (Maps.has D (kl a c) = true ↔ (a, c) ∈ R)) (h3 : ∀ z ∈ R, wf64 z.1 ∧ wf64 z.2) (h4 : ∀ l zd, Maps.has D l = true → D.atKey l zd = .lit (.bool true))
    (h : w'.ownsMap Try.prog 72 (plainElem Try.prog 4) b n (D.put (kl x y) (.lit (.bool true)))) : MapB w' b (R ++ [(x, y)]) := by
  have hk := pr_keyed.key (pr_key hx hy)
  refine ⟨_, h.mono (by simp; omega), ?_, ?_, ?_⟩
  · intro a c ha hc
    rw [List.mem_append, List.mem_singleton]
    by_cases e : (a, c) = (x, y)
    · simp only [Prod.mk.injEq] at e
      obtain ⟨rfl, rfl⟩ := e
      rw [Maps.has_put_same hD hk]
      simp
    · have e2 : kl a c ≠ kl x y := fun q => e (by obtain ⟨rfl, rfl⟩ := kl_inj ha hc hx hy q; rfl)
      rw [Maps.has_put_other e2, h2 a c ha hc]
      simp only [e, or_false]
  · intro z hz
    rcases List.mem_append.1 hz with hz | hz
    · exact h3 z hz
    · rw [List.mem_singleton.1 hz]; exact ⟨hx, hy⟩
  · intro l zd hl
    by_cases e : l = kl x y
    · subst e
      exact Maps.atKey_put_same hD hk _ _
    · rw [Maps.atKey_put_other e]
      rw [Maps.has_put_other e] at hl
      exact h4 l zd hl
/-- The diagonals from corner a to corners before k; those from corners before i. -/
def rowD (L : List (Int × Int)) (a k : Nat) : List (Int × Int) := ((List.range k).filter fun (c : Nat) => decide (a < c) && diagB L a c).map fun (c : Nat) => ((a : Int), (c : Int))
def allD (L : List (Int × Int)) (i : Nat) : List (Int × Int) := (List.range i).flatMap fun (a : Nat) => rowD L a L.length
theorem rowD_step (L : List (Int × Int)) (a k : Nat) : rowD L a (k + 1) = bif decide (a < k) && diagB L a k then rowD L a k ++ [((a : Int), (k : Int))] else rowD L a k := by
  unfold rowD
  rw [List.range_succ, List.filter_append, List.map_append]
  cases h : (decide (a < k) && diagB L a k) <;> simp [h]
theorem allD_step (L : List (Int × Int)) (i : Nat) : allD L (i + 1) = allD L i ++ rowD L i L.length := by
  unfold allD
  rw [List.range_succ, List.flatMap_append]
  simp
theorem rowD_start (L : List (Int × Int)) (a : Nat) : rowD L a (a + 1) = [] := by
  unfold rowD
  rw [List.map_eq_nil_iff, List.filter_eq_nil_iff]
  intro c hc
  rw [List.mem_range] at hc
  simp; omega
theorem rowD_mem (L : List (Int × Int)) (a k : Nat) (x y : Int) : (x, y) ∈ rowD L a k ↔ x = (a : Int) ∧ ∃ c : Nat, y = (c : Int) ∧ c < k ∧ a < c ∧ diagB L a c = true := by
  simp only [rowD, List.mem_map, List.mem_filter, List.mem_range, Bool.and_eq_true, decide_eq_true_eq, Prod.mk.injEq]
  constructor
  · rintro ⟨c, ⟨h1, h2, h3⟩, rfl, rfl⟩; exact ⟨rfl, c, rfl, h1, h2, h3⟩
  · rintro ⟨rfl, c, rfl, h1, h2, h3⟩; exact ⟨c, ⟨h1, h2, h3⟩, rfl, rfl⟩
theorem allD_mem (L : List (Int × Int)) (i : Nat) (x y : Int) : (x, y) ∈ allD L i ↔ ∃ a c : Nat, x = (a : Int) ∧ y = (c : Int) ∧ a < i ∧ c < L.length ∧ a < c ∧ diagB L a c = true := by
  simp only [allD, List.mem_flatMap, List.mem_range, rowD_mem]
  constructor
  · rintro ⟨a, h0, rfl, c, rfl, h1, h2, h3⟩; exact ⟨a, c, rfl, rfl, h0, h1, h2, h3⟩
  · rintro ⟨a, c, rfl, rfl, h0, h1, h2, h3⟩; exact ⟨a, h0, rfl, c, rfl, h1, h2, h3⟩
theorem rowD_len (L : List (Int × Int)) (a k : Nat) : (rowD L a k).length ≤ k := by
  unfold rowD
  rw [List.length_map]
  exact Nat.le_trans (List.length_filter_le _ _) (by simp)
theorem allD_len (L : List (Int × Int)) : ∀ i, (allD L i).length ≤ i * L.length
  | 0 => by simp [allD]
  | i + 1 => by
    have h1 := allD_len L i
    have h2 := rowD_len L i L.length
    rw [allD_step, List.length_append, Nat.succ_mul]; omega
theorem diag_at {L : List (Int × Int)} {i k : Nat} {A : Option Addr} {c : Nat} {w : World} (hp : polyB L = true) (hi : i < L.length) (hk : k < L.length)
    (h : Calls Try.prog 92 #[.slice A L.length c, .int .i64 i, .int .i64 k] w fun e w' => e = .returned (.bool (diagV L i k)) ∧ Below w.heap.size w w') :
    Calls Try.prog 92 #[.slice A L.length c, .int .i64 i, .int .i64 k] w fun e w' => e = .returned (.bool (diagB L i k)) ∧ Below w.heap.size w w' := by
  have e : diagV L i k = diagB L i k := by
    rw [diagV, hp, inB_spec.2 (by omega), inB_spec.2 (by omega)]; rfl
  rw [e] at h
  exact h
set_option maxRecDepth 100000 in
set_option maxHeartbeats 2000000 in
theorem impl_diags (A : Option Addr) (c : Nat) (L : List (Int × Int)) (w : World) (hA : PtsA w A L) (hp : polyB L = true) :
    Calls Try.prog 51 #[.slice A L.length c] w fun e w' => ∃ b, e = .returned (.map (some b)) ∧ w.heap.size ≤ b ∧ MapB w' b (allD L L.length) ∧ Below w.heap.size w w' := by
  obtain ⟨h3, h10, hok⟩ := polyB_all hp
  have HE := Lib.hid (fun (i k : Nat) (hi : i < L.length) (hk : k < L.length) W (hb : Below w.heap.size w W) => diag_at hp hi hk (impl_diag A c L i k W (ptsA_on hA hb) (by omega)))
  clear hA
  have hmm := @run_makeMap Try.prog
  go_enter Try.func51, Try.ntmps51
  go_wp2_with fail
  go_loopw [4, 5, 9] (fun _ _ i wr => ∃ (k : Nat) (R : List (Int × Int)), k ≤ L.length ∧ i = .int .i64 k ∧ Hid (R = allD L k) ∧ Hid (MapB wr w.heap.size R) ∧ Hid (Below w.heap.size w wr)) (fun _ _ i _ => L.length - (intOf i).toNat)
  case atStart => exact ⟨0, [], Nat.zero_le _, rfl, rfl, mapB_made _, (Below.refl _ _).alloc (Nat.le_refl _) _⟩
  case round =>
    obtain ⟨wo, rfl⟩ : ∃ wo : World, wo = wr := ⟨_, rfl⟩
    obtain ⟨i, R, hi, rfl, HR, HM, HB⟩ := hrel
    by_cases hlt : i < L.length
    · have f5 : wrap64 ((i : Int) + 1) = (i : Int) + 1 := IntWalk.wrap64_in _ (by omega)
      go_wp2_with fail
      go_loopw [5] (fun i2 wr => ∃ (k : Nat) (kv : Int) (R2 : List (Int × Int)), k ≤ L.length ∧ i < k ∧ Hid (kv = (k : Int)) ∧ i2 = .int .i64 kv ∧ Hid (R2 = R ++ rowD L i k) ∧ Hid (MapB wr w.heap.size R2) ∧ Hid (Below w.heap.size w wr)) (fun i2 _ => L.length - (intOf i2).toNat)
      case atStart => exact ⟨i + 1, (i : Int) + 1, R, by omega, by omega, by show (i : Int) + 1 = ((i + 1 : Nat) : Int); omega, rfl, by show R = _; rw [rowD_start, List.append_nil], HM, HB⟩
      case round =>
        obtain ⟨wi, rfl⟩ : ∃ wi : World, wi = wr := ⟨_, rfl⟩
        obtain ⟨k, kv, R2, hk, hik, HK, rfl, HR2, HM2, HB2⟩ := hrel
        by_cases hlk : k < L.length
        · have HC := HE.out i k hlt hlk _ HB2.out
          have HS : Hid (R ++ rowD L i (k + 1) = bif diagB L i k then R2 ++ [((i : Int), kv)] else R2) := by
            show _ = _
            rw [HR2.out, rowD_step, decide_eq_true hik, Bool.true_and, HK.out]
            cases diagB L i k <;> simp
          rw [← HK.out] at HC
          have f6 : wrap64 (kv + 1) = kv + 1 := IntWalk.wrap64_in _ (by have := HK.out; omega)
          have f7 : kv < (L.length : Int) := by have := HK.out; omega
          have f8 : 0 ≤ kv := by have := HK.out; omega
          have HC' := Lib.hid HC
          have hRL : R2.length ≤ 1000 := by
            rw [HR2.out, HR.out, List.length_append]
            have q1 := allD_len L i; have q2 := rowD_len L i k
            have q3 : i * L.length ≤ 10 * 10 := Nat.mul_le_mul (by omega) (by omega)
            omega
          clear HC HM HB
          go_wp2_with fail
          refine HC'.out.mono ?_
          rintro e w6 ⟨rfl, hb6⟩
          have HM6 := Lib.hid (HM2.out.on hb6)
          have HB6 := Lib.hid (below_on HB2.out hb6)
          clear hb6 HM2 HB2 HC'
          cases hd : diagB L i k
          · have HT : Hid (R2 = R ++ rowD L i (k + 1)) := by show _ = _; rw [HS.out, hd]; rfl
            clear HS
            go_wp2_with fail
            go_roundw
            case rel => exact ⟨k + 1, kv + 1, R2, by omega, by omega, by show kv + 1 = ((k + 1 : Nat) : Int); have := HK.out; omega, rfl, HT, HM6, HB6⟩
            case measure => simp [intOf]; have := HK.out; omega
          · have HT : Hid (R2 ++ [((i : Int), kv)] = R ++ rowD L i (k + 1)) := by show _ = _; rw [HS.out, hd]; rfl
            have wi1 : wf64 (i : Int) := WalkArith.wf_i64 (by omega)
            have wk1 : wf64 kv := WalkArith.wf_i64 (by omega)
            obtain ⟨D, hown, hh, hw, hv⟩ := HM6.out
            have HH := Lib.hid (And.intro hh (And.intro hw hv))
            clear HS hh hw hv HM6
            go_wp2_with (first
              | (at_mapUpdate; refine wpList_mapUpdate_own _ rfl _ _ _ 61 rfl 72 4 pr_keyed Try.underlying61 _ w.heap.size R2.length D rfl hown (by unfold maxLen; omega) _ _ _ rfl rfl (pr_key wi1 wk1) _ [] (plainElem_bool Try.underlying4 true) ?_; intro w7 hown1 hgrow1)
              | go_in)
            have R' : Hid (MapB w7 w.heap.size (R2 ++ [((i : Int), kv)])) := mapB_put hown.isMap wi1 wk1 (Nat.le_refl _) HH.out.1 HH.out.2.1 HH.out.2.2 hown1
            have B' : Hid (Below w.heap.size w w7) := HB6.out.grown hgrow1 HB6.out.size (fun j hj => by cases hj; exact Nat.le_refl _)
            clear hown hown1 hgrow1 HH HB6
            go_wp2_with fail
            go_roundw
            case rel => exact ⟨k + 1, kv + 1, R2 ++ [((i : Int), kv)], by omega, by omega, by show kv + 1 = ((k + 1 : Nat) : Int); have := HK.out; omega, rfl, HT, R', B'⟩
            case measure => simp [intOf]; have := HK.out; omega
        · have f7 : ¬ kv < (L.length : Int) := by have := HK.out; omega
          have HT : Hid (R2 = allD L (i + 1)) := by
            show _ = _
            rw [HR2.out, allD_step, HR.out, show k = L.length from by omega]
          clear HR HM HB HR2
          go_wp2_with fail
          go_roundw
          case rel => exact ⟨i + 1, R2, by omega, by go_num, HT, HM2, HB2⟩
          case measure => simp [intOf]; omega
    · have e : i = L.length := by omega
      have HQ : Hid (MapB wo w.heap.size (allD L L.length)) := by
        have q := HM.out
        rw [HR.out, e] at q
        exact q
      clear HR HM e
      go_wp2_with fail
      go_ret
      exact ⟨_, rfl, Nat.le_refl _, HQ.out, HB.out⟩
end Go.Proofs.Ytoemmaeglhdjnaa
