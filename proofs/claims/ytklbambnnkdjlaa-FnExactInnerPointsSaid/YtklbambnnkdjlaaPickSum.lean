/-
  Plain geometry: Pick's theorem for rings, summed up.
-/
import Derived.Test.YtklbambnnkdjlaaPick
namespace Go.Proofs.Ytklbambnnkdjlaa

theorem sumT_first {f : Nat → Int} {n : Nat} (hn : 0 < n) (h : ∀ j, 1 ≤ j → j < n → f j = 0) : sumT f n = f 0 := by
  obtain ⟨m, rfl⟩ : ∃ m, n = m + 1 := ⟨n - 1, by omega⟩
  rw [sumT_succ', sumT_zero _ m fun k hk => h (k + 1) (by omega) (by omega)]
  omega
theorem half_of {a b v : Pt} (h : onP a b v = true) (hne : v ≠ a) : half a b v = true := by unfold half; rw [h]; simpa using hne
theorem half_no {a b v : Pt} (h : onP a b v = false) : half a b v = false := by unfold half; rw [h]; rfl
theorem half_a (a b : Pt) : half a b a = false := by unfold half; simp
theorem at1_self (c : Pt) : at1 c c = 1 := by unfold at1; simp
theorem at1_ne {c v : Pt} (h : v ≠ c) : at1 c v = 0 := by unfold at1; rw [if_neg]; exact fun e => h (Prod.ext e.1 e.2)
def halves (p : Nat → Pt) (n : Nat) (v : Pt) : Int := sumT (fun k => ind (half (p k) (p (k + 1)) v)) n
def corners (p : Nat → Pt) (n : Nat) (v : Pt) : Int := sumT (fun k => (turnAt p k + turnAt' p k) * at1 (p (k + 1)) v) n
theorem halves_shift {p : Nat → Pt} {n : Nat} (h : Ring p n) (v : Pt) (t : Nat) : halves (fun k => p (k + t)) n v = halves p n v := by
  unfold halves
  rw [← sumT_shift (f := fun k => ind (half (p k) (p (k + 1)) v)) (n := n) (fun k => by rw [show k + n + 1 = k + 1 + n by omega, h.per, h.per]) t]
  exact sumT_congr n fun k _ => by simp only; rw [show k + 1 + t = k + t + 1 by omega]
theorem turnAt'_shift (p : Nat → Pt) (t k : Nat) : turnAt' (fun k => p (k + t)) k = turnAt' p (k + t) := by
  unfold turnAt'
  simp only
  rw [show k + 1 + t = k + t + 1 by omega, show k + 2 + t = k + t + 2 by omega]
theorem corners_shift {p : Nat → Pt} {n : Nat} (h : Ring p n) (v : Pt) (t : Nat) : corners (fun k => p (k + t)) n v = corners p n v := by
  unfold corners
  rw [← sumT_shift (f := fun k => (turnAt p k + turnAt' p k) * at1 (p (k + 1)) v) (n := n) (fun k => by
    unfold turnAt turnAt'
    rw [show k + n + 1 = k + 1 + n by omega, show k + n + 2 = k + 2 + n by omega, h.per, h.per, h.per]) t]
  exact sumT_congr n fun k _ => by
    simp only
    rw [turnAt_shift, turnAt'_shift, show k + 1 + t = k + t + 1 by omega]
theorem sN_shift {p : Nat → Pt} {n : Nat} (h : Ring p n) (v : Pt) (t : Nat) : sN (fun k => p (k + t)) n v = sN p n v := by
  unfold sN
  rw [← sumT_shift (f := fun k => sS (p k) (p (k + 1)) v) (n := n) (fun k => by rw [show k + n + 1 = k + 1 + n by omega, h.per, h.per]) t]
  exact sumT_congr n fun k _ => by simp only; rw [show k + 1 + t = k + t + 1 by omega]
theorem Ring.p_open {p : Nat → Pt} {n : Nat} (h : Ring p n) {x : Pt} (hx : onP (p 0) (p 1) x = true) (h0 : x ≠ p 0) (h1 : x ≠ p 1) : halves p n x = 1 ∧ corners p n x = 0 := by
  have hn := h.n3
  constructor
  · unfold halves
    rw [sumT_first (by omega) fun j h2 h3 => by rw [half_no (h.on0 hx h0 h1 h2 h3)]; rfl]
    rw [Nat.zero_add, half_of hx h0]; rfl
  · refine sumT_zero _ _ fun j hj => ?_
    rw [at1_ne, Int.mul_zero]
    intro e
    rcases Nat.eq_zero_or_pos j with k | k
    · subst k; exact h1 e
    · have := h.on0 hx h0 h1 (j := j) k hj
      rw [e, on_b] at this; cases this
theorem Ring.p_corner {p : Nat → Pt} {n : Nat} (h : Ring p n) : halves p n (p 1) = 1 ∧ corners p n (p 1) = turnAt p 0 + turnAt' p 0 := by
  have hn := h.n3
  have n0 := h.ne 0
  have n1 := h.ne 1
  simp only [Nat.zero_add] at n0
  constructor
  · unfold halves
    rw [sumT_first (by omega) fun j h2 h3 => by
      rcases Nat.lt_or_ge 1 j with k | k
      · rw [half_no (h.on1 k h3)]; rfl
      · rw [show j = 1 by omega, half_a]; rfl]
    rw [Nat.zero_add, half_of (on_b _ _) (Ne.symm n0)]; rfl
  · unfold corners
    rw [sumT_first (by omega) fun j h2 h3 => by
      rw [at1_ne, Int.mul_zero]
      intro e
      rcases Nat.lt_or_ge 1 j with k | k
      · have := h.on1 k h3
        rw [e, on_b] at this; cases this
      · rw [show j = 1 by omega] at e
        exact n1 e]
    rw [Nat.zero_add, at1_self, Int.mul_one]
/-- What each point adds. -/
theorem Ring.point {p : Nat → Pt} {n : Nat} (h : Ring p n) {z : Int} (z01 : z = 0 ∨ z = 1) (hz : ∀ k, wN p n (p (k + 1)) = z + turnAt p k - upAt p (k + 1)) (v : Pt) (i : Bool) (hi : i = true ↔ (∀ k, onP (p k) (p (k + 1)) v = false) ∧ wN p n v ≠ 0) :
    sN p n v = (2 * (2 * z - 1)) * ind i + ((2 * z - 1) * halves p n v + corners p n v) := by
  by_cases hv : ∀ k, onP (p k) (p (k + 1)) v = false
  · have e1 : halves p n v = 0 := sumT_zero _ _ fun k _ => by rw [half_no (hv k)]; rfl
    have e2 : corners p n v = 0 := sumT_zero _ _ fun k _ => by
      rw [at1_ne, Int.mul_zero]
      intro e
      have := hv k
      rw [e, on_b] at this; cases this
    rw [e1, e2, h.s_off hv]
    have e3 := h.off_any hz hv
    cases i
    · have : wN p n v = 0 := by
        by_cases k : wN p n v = 0
        · exact k
        · have := hi.2 ⟨hv, k⟩; cases this
      rw [this]; simp [ind]
    · have := (hi.1 rfl).2
      rcases z01 with rfl | rfl <;> simp [ind] <;> omega
  · have i0 : i = false := by
      cases i
      · rfl
      · exact absurd (hi.1 rfl).1 hv
    subst i0
    have hv' : ∃ k, onP (p k) (p (k + 1)) v = true := by
      refine Classical.byContradiction fun hc => hv fun k => ?_
      cases hk : onP (p k) (p (k + 1)) v
      · rfl
      · exact (hc ⟨k, hk⟩).elim
    obtain ⟨k, hk⟩ := hv'
    have hz' : ∀ t j, wN (fun k => p (k + t)) n ((fun k => p (k + t)) (j + 1)) = z + turnAt (fun k => p (k + t)) j - upAt (fun k => p (k + t)) (j + 1) := fun t j => by
      show wN (fun k => p (k + t)) n (p (j + 1 + t)) = _
      rw [wN_shift h, turnAt_shift, upAt_shift, show j + 1 + t = j + t + 1 by omega]; exact hz _
    have corner : ∀ t, v = p (1 + t) → sN p n v = (2 * (2 * z - 1)) * ind false + ((2 * z - 1) * halves p n v + corners p n v) := fun t e => by
      have e1 := (h.shift t).s_corner (hz' t)
      have e2 := (h.shift t).p_corner
      rw [← e] at e1 e2
      rw [sN_shift h] at e1
      rw [halves_shift h, corners_shift h] at e2
      rw [e1, e2.1, e2.2]
      simp [ind]
    by_cases k0 : v = p k
    · refine corner (k + n - 1) ?_
      rw [show 1 + (k + n - 1) = k + n by have := h.n3; omega, h.per]; exact k0
    · by_cases k1 : v = p (k + 1)
      · exact corner k (by rw [Nat.add_comm 1 k]; exact k1)
      · have a1 : onP ((fun j => p (j + k)) 0) ((fun j => p (j + k)) 1) v = true := by simp only [Nat.zero_add]; rwa [Nat.add_comm 1 k]
        have a2 : v ≠ (fun j => p (j + k)) 0 := by simp only [Nat.zero_add]; exact k0
        have a3 : v ≠ (fun j => p (j + k)) 1 := by simp only; rwa [Nat.add_comm 1 k]
        have e1 := (h.shift k).s_open (hz' k) a1 a2 a3
        have e2 := (h.shift k).p_open a1 a2 a3
        rw [sN_shift h] at e1
        rw [halves_shift h, corners_shift h] at e2
        rw [e1, e2.1, e2.2]
        simp [ind]
/-- Pick's theorem. -/
theorem Ring.pick {p : Nat → Pt} {n : Nat} (h : Ring p n) {x0 y0 : Int} {w hh : Nat} (hb : ∀ k, x0 ≤ (p k).1 ∧ (p k).1 < x0 + w ∧ y0 ≤ (p k).2 ∧ (p k).2 < y0 + hh)
    (i : Pt → Bool) (hi : ∀ v, i v = true ↔ (∀ k, onP (p k) (p (k + 1)) v = false) ∧ wN p n v ≠ 0) :
    ∃ e : Int, (e = 1 ∨ e = -1) ∧ sumT (fun k => (p k).1 * (p (k + 1)).2 - (p k).2 * (p (k + 1)).1) n = e * (2 * sumB (fun v => ind (i v)) x0 y0 w hh + sumT (fun k => (Nat.gcd ((p (k + 1)).1 - (p k).1).natAbs ((p (k + 1)).2 - (p k).2).natAbs : Int)) n - 2) := by
  obtain ⟨z, z01, hz, ht⟩ := h.hopf
  refine ⟨2 * z - 1, by omega, ?_⟩
  have area : sumB (sN p n) x0 y0 w hh = sumT (fun k => (p k).1 * (p (k + 1)).2 - (p k).2 * (p (k + 1)).1) n := by
    have e0 : sumB (sN p n) x0 y0 w hh = sumT (fun k => sumB (sS (p k) (p (k + 1))) x0 y0 w hh) n := sumB_swap (fun k v => sS (p k) (p (k + 1)) v) x0 y0 w hh n
    rw [e0, sumT_congr n fun k _ => side_area (hb k).1 (hb k).2.1 (hb (k + 1)).1 (hb (k + 1)).2.1 (hb k).2.2.1 (hb k).2.2.2 (hb (k + 1)).2.2.1 (hb (k + 1)).2.2.2]
    have e1 : sumT (fun k => ((p (k + 1)).1 * (p (k + 1)).2 - (x0 + (x0 + w - 1)) * (p (k + 1)).2) - ((p k).1 * (p k).2 - (x0 + (x0 + w - 1)) * (p k).2)) n = 0 := by
      rw [sumT_tele (fun k => (p k).1 * (p k).2 - (x0 + (x0 + w - 1)) * (p k).2)]
      have := h.per 0
      rw [Nat.zero_add] at this
      rw [this]; omega
    have e2 := sumT_add (fun k => (p k).1 * (p (k + 1)).2 - (p k).2 * (p (k + 1)).1) (fun k => ((p (k + 1)).1 * (p (k + 1)).2 - (x0 + (x0 + w - 1)) * (p (k + 1)).2) - ((p k).1 * (p k).2 - (x0 + (x0 + w - 1)) * (p k).2)) n
    rw [e1, Int.add_zero] at e2
    rw [← e2]
    refine sumT_congr n fun k _ => ?_
    generalize p k = a
    generalize p (k + 1) = b
    grind
  rw [← area]
  rw [sumB_congr (g := fun v => (2 * (2 * z - 1)) * ind (i v) + ((2 * z - 1) * halves p n v + corners p n v)) fun v _ _ _ _ => h.point z01 hz v (i v) (hi v)]
  rw [sumB_add, sumB_add, sumB_mul, sumB_mul]
  have e1 : sumB (halves p n) x0 y0 w hh = sumT (fun k => (Nat.gcd ((p (k + 1)).1 - (p k).1).natAbs ((p (k + 1)).2 - (p k).2).natAbs : Int)) n := by
    have e0 : sumB (halves p n) x0 y0 w hh = sumT (fun k => sumB (fun v => ind (half (p k) (p (k + 1)) v)) x0 y0 w hh) n := sumB_swap (fun k v => ind (half (p k) (p (k + 1)) v)) x0 y0 w hh n
    rw [e0]
    exact sumT_congr n fun k _ => seg_count (h.ne k) (hb k).1 (hb k).2.1 (hb (k + 1)).1 (hb (k + 1)).2.1 (hb k).2.2.1 (hb k).2.2.2 (hb (k + 1)).2.2.1 (hb (k + 1)).2.2.2
  have e2 : sumB (corners p n) x0 y0 w hh = 2 * (1 - 2 * z) := by
    have e0 : sumB (corners p n) x0 y0 w hh = sumT (fun k => sumB (fun v => (turnAt p k + turnAt' p k) * at1 (p (k + 1)) v) x0 y0 w hh) n := sumB_swap (fun k v => (turnAt p k + turnAt' p k) * at1 (p (k + 1)) v) x0 y0 w hh n
    rw [e0, sumT_congr (g := fun k => turnAt p k + turnAt' p k) n fun k _ => by
      rw [sumB_mul, sumB_one (hb (k + 1)).1 (hb (k + 1)).2.1 (hb (k + 1)).2.2.1 (hb (k + 1)).2.2.2, Int.mul_one]]
    have s4 := sumT_congr n fun k _ => h.turns k
    rw [sumT_sub, sumT_tele] at s4
    have u : upAt p n = upAt p 0 := by
      unfold upAt
      have a0 := h.per 0
      have a1 := h.per 1
      rw [Nat.zero_add] at a0
      rw [Nat.add_comm] at a1
      rw [a0, a1]
    rw [sumT_add]
    have s6 : sumT (fun k => turnAt p k) n = sumT (turnAt p) n := rfl
    have s7 : sumT (fun k => turnAt' p k) n = sumT (turnAt' p) n := rfl
    omega
  rw [e1, e2]
  generalize sumT (fun k => (Nat.gcd ((p (k + 1)).1 - (p k).1).natAbs ((p (k + 1)).2 - (p k).2).natAbs : Int)) n = B
  generalize sumB (fun v => ind (i v)) x0 y0 w hh = I
  grind
end Go.Proofs.Ytklbambnnkdjlaa
