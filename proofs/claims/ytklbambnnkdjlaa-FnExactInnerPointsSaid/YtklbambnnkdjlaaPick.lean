/-
  Plain geometry: Pick's theorem for rings.
-/
import Derived.Test.YtklbambnnkdjlaaSeg
namespace Go.Proofs.Ytklbambnnkdjlaa

/-! ### A larger scale -/
def scP (K : Int) (a : Pt) : Pt := (K * a.1, K * a.2)
theorem sc_cross (K : Int) (a b c : Pt) : crossP (scP K a) (scP K b) (scP K c) = K * K * crossP a b c := by unfold scP crossP crossI; simp only; grind
theorem sc_le {K x y : Int} (hK : 0 < K) : K * x ≤ K * y ↔ x ≤ y := ⟨fun h => Int.le_of_mul_le_mul_left h hK, fun h => Int.mul_le_mul_of_nonneg_left h (by omega)⟩
theorem sc_lt {K x y : Int} (hK : 0 < K) : K * x < K * y ↔ x < y := by have := sc_le (x := y) (y := x) hK; omega
theorem sc_sign {K x : Int} (hK : 0 < K) : (0 < K * K * x ↔ 0 < x) ∧ (K * K * x < 0 ↔ x < 0) := by
  have hh := Int.mul_pos hK hK
  have := sign_same (m := 1) (n := K * K) (x := K * K * x) (y := x) (by omega) hh (by omega)
  exact this
theorem sc_wS {K : Int} (hK : 0 < K) (a b v : Pt) : wS (scP K a) (scP K b) (scP K v) = wS a b v := by
  unfold wS
  rw [sc_cross]
  simp only [scP, sc_le hK, sc_lt hK, (sc_sign hK).1, (sc_sign hK).2]
theorem sc_rS {K : Int} (hK : 0 < K) (a b v : Pt) : rS (scP K a) (scP K b) (scP K v) = rS a b v := by
  unfold rS
  rw [sc_cross]
  simp only [scP, sc_le hK, sc_lt hK, (sc_sign hK).1, (sc_sign hK).2]
theorem sc_eq {K x y : Int} (hK : 0 < K) : K * x = K * y ↔ x = y := ⟨fun h => eq_of_mulD (by omega) h, fun h => by rw [h]⟩
theorem sc_rho {K : Int} (hK : 0 < K) (a b : Pt) : rho (scP K a) (scP K b) = rho a b := by
  unfold rho
  simp only [scP, sc_lt hK, sc_eq hK]
theorem sc_on {K : Int} (hK : 0 < K) (a b v : Pt) : onP (scP K a) (scP K b) (scP K v) = onP a b v := by
  have e : onP (scP K a) (scP K b) (scP K v) = true ↔ onP a b v = true := by
    rw [onP_iff, onP_iff, sc_cross]
    unfold bt
    simp only [scP, sc_le hK]
    have : K * K * crossP a b v = 0 ↔ crossP a b v = 0 := by have := sc_sign (x := crossP a b v) hK; omega
    rw [this]
  cases h : onP a b v
  · cases h2 : onP (scP K a) (scP K b) (scP K v)
    · rfl
    · rw [e.1 h2] at h; cases h
  · exact e.2 h
theorem Ring.sc {p : Nat → Pt} {n : Nat} (h : Ring p n) {K : Int} (hK : 0 < K) : Ring (fun k => scP K (p k)) n where
  n3 := h.n3
  per k := by rw [h.per]
  ne k e := h.ne k (Prod.ext ((sc_eq hK).1 (congrArg Prod.fst e)) ((sc_eq hK).1 (congrArg Prod.snd e)))
  apart i j h1 h2 s t p' q hs ht hp hq h5 h6 := fun ⟨e1, e2⟩ => by
    refine h.apart i j h1 h2 s t p' q hs ht hp hq h5 h6 ⟨eq_of_mulD (d := K) (by omega) ?_, eq_of_mulD (d := K) (by omega) ?_⟩
    · simp only [scP] at e1; grind
    · simp only [scP] at e2; grind
  corner k := by
    rcases h.corner k with c | c
    · left; rw [sc_cross]
      have := sc_sign (x := crossP (p k) (p (k + 1)) (p (k + 2))) hK
      omega
    · right; rw [sc_on hK]; exact c
theorem bound_up (f : Nat → Int) : ∀ n, ∃ K : Int, 0 < K ∧ ∀ k, k < n → f k ≠ 0 → ∃ q, K = f k * q
  | 0 => ⟨1, by omega, fun k hk => by omega⟩
  | n + 1 => by
    obtain ⟨K, h1, h2⟩ := bound_up f n
    by_cases h0 : f n = 0
    · refine ⟨K, h1, fun k hk hf => ?_⟩
      rcases Nat.lt_or_ge k n with l | l
      · exact h2 k l hf
      · rw [show k = n by omega] at hf; exact absurd h0 hf
    · refine ⟨K * (f n).natAbs, Int.mul_pos h1 (by omega), fun k hk hf => ?_⟩
      rcases Nat.lt_or_ge k n with l | l
      · obtain ⟨q, hq⟩ := h2 k l hf
        exact ⟨q * (f n).natAbs, by rw [← Int.mul_assoc, ← hq]⟩
      · rw [show k = n by omega]
        rcases Int.le_total 0 (f n) with m | m
        · exact ⟨K, by rw [show (((f n).natAbs : Nat) : Int) = f n by omega, Int.mul_comm]⟩
        · exact ⟨-K, by rw [show (((f n).natAbs : Nat) : Int) = -f n by omega, Int.mul_neg, Int.mul_neg, Int.mul_comm]⟩
theorem fine_sc {a b v : Pt} {K q : Int} (hK : 0 < K) (hk' : b.2 - a.2 ≠ 0) (hq : K = (b.2 - a.2) * q) (hb' : bt a.2 b.2 v.2) : ∃ x, onP (scP K a) (scP K b) (x, (scP K v).2) = true := by
  refine ⟨K * a.1 + (b.1 - a.1) * (v.2 - a.2) * q, (onP_iff _ _ _).2 ⟨?_, ?_, ?_⟩⟩
  · unfold crossP crossI
    simp only [scP]
    grind
  · simp only [scP]
    unfold bt at hb'
    rcases Int.lt_or_gt_of_ne hk' with l | l
    · refine frac_bt (m := a.2 - b.2) (q := a.2 - v.2) (by omega) (by omega) (by omega) ?_
      grind
    · refine frac_bt (m := b.2 - a.2) (q := v.2 - a.2) (by omega) (by omega) (by omega) ?_
      grind
  · unfold bt at hb' ⊢
    simp only [scP, sc_le hK]
    exact hb'
theorem turnAt_sc {K : Int} (hK : 0 < K) (p : Nat → Pt) (k : Nat) : turnAt (fun k => scP K (p k)) k = turnAt p k := by
  unfold turnAt mu
  rw [sc_rS hK, sc_wS hK]
theorem upAt_sc {K : Int} (hK : 0 < K) (p : Nat → Pt) (k : Nat) : upAt (fun k => scP K (p k)) k = upAt p k := sc_rho hK _ _
theorem wN_sc {K : Int} (hK : 0 < K) (p : Nat → Pt) (n : Nat) (v : Pt) : wN (fun k => scP K (p k)) n (scP K v) = wN p n v := sumT_congr n fun _ _ => sc_wS hK _ _ _
theorem Ring.off_any {p : Nat → Pt} {n : Nat} (h : Ring p n) {z : Int} (hz : ∀ k, wN p n (p (k + 1)) = z + turnAt p k - upAt p (k + 1)) {v : Pt} (hv : ∀ k, onP (p k) (p (k + 1)) v = false) : wN p n v = 0 ∨ wN p n v = z ∨ wN p n v = z - 1 := by
  obtain ⟨K, hK, hd⟩ := bound_up (fun k => (p (k + 1)).2 - (p k).2) n
  rw [← wN_sc hK p n v]
  refine (h.sc hK).off (z := z) (fun k => by rw [turnAt_sc hK, upAt_sc hK, wN_sc hK]; exact hz k) (fun k hk hb => ?_) fun k => by rw [sc_on hK]; exact hv k
  have hn : 0 < n := by have := h.n3; omega
  have e1 : p (k + 1) = p (k % n + 1) := by
    have := (h.shift 1).mod k
    exact this
  have e0 := h.mod k
  have hb' : bt (p k).2 (p (k + 1)).2 v.2 := by
    unfold bt at hb ⊢
    simp only [scP, sc_le hK] at hb
    exact hb
  have hk' : (p (k + 1)).2 - (p k).2 ≠ 0 := fun e => hk (by simp only [scP]; rw [show (p (k + 1)).2 = (p k).2 by omega])
  obtain ⟨q, hq⟩ := hd (k % n) (Nat.mod_lt _ hn) (by rw [← e1, ← e0]; exact hk')
  rw [← e1, ← e0] at hq
  exact fine_sc hK hk' hq hb'

/-! ### What a point adds -/
def wR (p : Nat → Pt) (n : Nat) (v : Pt) : Int := sumT (fun k => rS (p k) (p (k + 1)) v) n
def sN (p : Nat → Pt) (n : Nat) (v : Pt) : Int := sumT (fun k => sS (p k) (p (k + 1)) v) n
theorem sN_eq (p : Nat → Pt) (n : Nat) (v : Pt) : sN p n v = wN p n v - wR p n v := sumT_sub _ _ n
theorem Ring.s_off {p : Nat → Pt} {n : Nat} (h : Ring p n) {v : Pt} (hv : ∀ k, onP (p k) (p (k + 1)) v = false) : sN p n v = 2 * wN p n v := by
  have e := sumT_congr n fun k _ => side_id (hv k)
  rw [sumT_add, sumT_tele (fun k => rho v (p k))] at e
  have per := h.per 0
  rw [Nat.zero_add] at per
  rw [per] at e
  rw [sN_eq]
  unfold wN wR
  omega
theorem rho_flip {a b : Pt} (h : a ≠ b) : rho b a = 1 - rho a b := by
  have : ¬ (a.1 = b.1 ∧ a.2 = b.2) := fun e => h (Prod.ext e.1 e.2)
  unfold rho
  split <;> split <;> omega
theorem rS_zero {a b v : Pt} (h : crossP a b v = 0) : rS a b v = 0 := by unfold rS; rw [h]; simp
theorem wS_zero {a b v : Pt} (h : crossP a b v = 0) : wS a b v = 0 := by unfold wS; rw [h]; simp
theorem Ring.s_open {p : Nat → Pt} {n : Nat} (h : Ring p n) {z : Int} (hz : ∀ k, wN p n (p (k + 1)) = z + turnAt p k - upAt p (k + 1)) {x : Pt} (hx : onP (p 0) (p 1) x = true) (h0 : x ≠ p 0) (h1 : x ≠ p 1) : sN p n x = 2 * z - 1 := by
  have w := h.open0 hz hx h0 h1
  rw [sN_eq]
  obtain ⟨m, rfl⟩ : ∃ m, n = m + 1 := ⟨n - 1, by have := h.n3; omega⟩
  have e := sumT_congr m fun k hk => side_id (h.on0 hx h0 h1 (j := k + 1) (by omega) (by omega))
  rw [sumT_add, sumT_tele (fun k => rho x (p (k + 1)))] at e
  have per := h.per 0
  rw [Nat.zero_add] at per
  have c := ((onP_iff _ _ _).1 hx).1
  unfold wN wR at *
  rw [sumT_succ'] at w ⊢
  rw [sumT_succ' (fun k => rS (p k) (p (k + 1)) x)]
  simp only [Nat.zero_add] at *
  rw [per] at e
  rw [wS_zero c] at w ⊢
  rw [rS_zero c]
  have r1 := rho_part (h.ne 0) hx h1
  have r0 := rho_part (a := p 1) (b := p 0) (Ne.symm (h.ne 0)) (by rw [onP_flip]; exact hx) h0
  have r2 := rho_flip (h.ne 0)
  simp only [Nat.zero_add] at r1 r2
  unfold upAt at w
  simp only [Nat.zero_add] at w
  omega
theorem Ring.s_corner {p : Nat → Pt} {n : Nat} (h : Ring p n) {z : Int} (hz : ∀ k, wN p n (p (k + 1)) = z + turnAt p k - upAt p (k + 1)) : sN p n (p 1) = 2 * z - 1 + (turnAt p 0 + turnAt' p 0) := by
  have w := hz 0
  have tt := h.turns 0
  rw [sN_eq]
  obtain ⟨m, rfl⟩ : ∃ m, n = m + 1 + 1 := ⟨n - 2, by have := h.n3; omega⟩
  have e := sumT_congr m fun k hk => side_id (h.on1 (j := k + 1 + 1) (by omega) (by omega))
  rw [sumT_add, sumT_tele (fun k => rho (p 1) (p (k + 1 + 1)))] at e
  have per := h.per 0
  rw [Nat.zero_add] at per
  unfold wN wR at *
  rw [sumT_succ', sumT_succ'] at w ⊢
  rw [sumT_succ' (fun k => rS (p k) (p (k + 1)) (p 1)), sumT_succ' (fun k => rS (p (k + 1)) (p (k + 1 + 1)) (p 1))]
  simp only [Nat.zero_add, show (1 : Nat) + 1 = 2 from rfl] at *
  rw [per] at e
  rw [wS_b, wS_a] at w ⊢
  rw [rS_zero (cross_abb _ _), rS_zero (cross_aa _ _)]
  have r2 := rho_flip (h.ne 0)
  have r3 := rho_flip (h.ne 1)
  unfold upAt at *
  simp only [Nat.zero_add, show (1 : Nat) + 1 = 2 from rfl] at *
  have r4 : rho (p 1) (p 2) = 1 - rho (p 2) (p 1) := by omega
  omega
end Go.Proofs.Ytklbambnnkdjlaa
