/-
  The model's reach: the part of a set of cells with its least cell; PartsOf and IsWhole of the model.
-/
import Derived.Test.YtimkknljoeiceaaNear
import Derived.Test.YtimkknljoeiceaaInts
namespace Go.Proofs.Ytimkknljoeiceaa
open Go.RowKit

def ReachP (a b m k : Nat) (W : World) (e : Ending) (w' : World) : Prop := ∃ p : Nat, e = .returned (.int .i64 p) ∧ PartOf (Adj a b) m.testBit k p ∧ w' = W
set_option maxRecDepth 100000 in
set_option maxHeartbeats 2000000 in
theorem reach_any (a b m k : Nat) (W : World) (ha : 1 ≤ a ∧ a ≤ 6) (hb : 1 ≤ b ∧ b ≤ 6) (hab : a * b ≤ 36) (hm : m < 2 ^ (a * b)) (hk : m.testBit k = true) (hl : ∀ j, j < k → m.testBit j = false) :
    Calls Try.prog 77 #[.int .i64 a, .int .i64 b, .int .i64 m] W (ReachP a b m k W) := by
  have hm36 := lt62 hm hab
  have hneg : wrap64 (-(m : Int)) = -(m : Int) := IntWalk.wrap64_in _ (by omega)
  have hlb := least_bit (m := m) (by omega) hk hl
  have HG : Hid (Grown a b m k (2 ^ k)) := Grown.start hk
  have HNX := Lib.hid (fun p (g : Grown a b m k p) => g.next (h := b) (by omega))
  have HDN := Lib.hid (fun p (g : Grown a b m k p) he => g.done (h := b) (by omega) he)
  have HLE := Lib.hid (fun p (g : Grown a b m k p) => g.sub.le)
  have HNE := Lib.hid (fun p W (g : Grown a b m k p) => near_any a b p W ha hb hab (Nat.lt_of_le_of_lt g.sub.le hm))
  have HNL := Lib.hid (fun p (g : Grown a b m k p) => Nat.lt_of_lt_of_le (nearT_lt (w := a) (h := b) (M := p) (by omega) (Nat.lt_of_le_of_lt g.sub.le hm) (a * b) (Nat.le_refl _)) (Nat.pow_le_pow_right (n := 2) (by omega) hab))
  clear hm hk hl
  generalize 2 ^ k = p0 at *
  go_enter Try.func77, Try.ntmps77
  go_wp2_with fail
  go_loop [7, 8] (fun s _ => ∃ p : Nat, s = .int .i64 p ∧ Hid (Grown a b m k p)) (fun s _ => m - (intOf s).toNat)
  case atStart => exact ⟨p0, rfl, HG⟩
  case round =>
    clear HG hlb hneg
    obtain ⟨p, rfl, HG⟩ := hrel
    have HC := Lib.hid (HNE.out p W HG.out)
    have hnl := HNL.out p HG.out
    have hle := HLE.out p HG.out
    obtain ⟨HG2, hle2⟩ := HNX.out p HG.out
    have hle3 := HLE.out _ HG2
    have HG3 := Lib.hid HG2
    clear HG2
    have HDQ := Lib.hid (HDN.out p HG.out)
    have hE : grow1 a b m p = nearT a b p (a * b) &&& m := rfl
    generalize grow1 a b m p = q at *
    generalize nearT a b p (a * b) = n at *
    have hand := and_nat (a := n) (b := m) (by omega) (by omega)
    rw [← hE] at hand
    clear hE
    by_cases he : q = p
    · subst he
      have R : Hid (ReachP a b m k W (.returned (.int .i64 q)) W) := ⟨q, rfl, HDQ.out rfl, rfl⟩
      go_wp2_with fail
      refine HC.out.mono ?_
      rintro e w1 ⟨rfl, rfl⟩
      go_wp2_with fail
      go_ret
      exact R.out
    · have hne : ((q : Int) == (p : Int)) = false := by rw [beq_eq_false_iff_ne]; omega
      go_wp2_with fail
      refine HC.out.mono ?_
      rintro e w1 ⟨rfl, rfl⟩
      go_wp2_with fail
      go_round
      case rel => exact ⟨q, rfl, HG3⟩
      case measure => simp [intOf]; omega
/-- What PartsOf answers: the parts, in order; nothing if it is no shape. -/
def PartsV (w h M : Int) (L : List Int) : Prop := (shapeB w h M = false ∧ L = []) ∨ (∃ (a b m : Nat) (K : List Nat), shapeB w h M = true ∧ w = a ∧ h = b ∧ M = m ∧ PartsR (Adj a b) m K ∧ L = K.map fun k : Nat => (k : Int))
theorem PartsV.uniq {w h M : Int} {L L' : List Int} (h1 : PartsV w h M L) (h2 : PartsV w h M L') : L = L' := by
  rcases h1 with ⟨e, rfl⟩ | ⟨a, b, m, K, e, rfl, rfl, rfl, p, rfl⟩ <;> rcases h2 with ⟨e', rfl⟩ | ⟨a', b', m', K', e', q1, q2, q3, p', rfl⟩
  · rfl
  · rw [e] at e'; cases e'
  · rw [e] at e'; cases e'
  · have q1 := Int.ofNat.inj q1
    have q2 := Int.ofNat.inj q2
    have q3 := Int.ofNat.inj q3
    subst q1; subst q2; subst q3
    rw [p.uniq p']
theorem parts_low {A : Nat → Nat → Prop} {m k p lo : Nat} (hk : m.testBit k = true) (hlo : ∀ j, j < lo → m.testBit j = false) (hl : ∀ j, j < k → m.testBit j = false) (hA : PartOf A m.testBit k p) : lo ≤ k ∧ ∀ j, j < k + 1 → (m - p).testBit j = false := by
  refine ⟨?_, fun j hj => ?_⟩
  · rcases Nat.lt_or_ge k lo with h | h
    · rw [hlo k h] at hk; cases hk
    · exact h
  · rw [testBit_sub hA.sub]
    by_cases e : j = k
    · subst e
      rw [(hA j).2 (.here hk)]; simp
    · rw [hl j (by omega)]; rfl
theorem bit_lt {m n k : Nat} (h : m < 2 ^ n) (hk : m.testBit k = true) : k < n := by
  rcases Nat.lt_or_ge k n with h' | h'
  · exact h'
  · rw [Nat.testBit_lt_two_pow (Nat.lt_of_lt_of_le h (Nat.pow_le_pow_right (by omega) h'))] at hk; cases hk
theorem partsR_len {A : Nat → Nat → Prop} {n m : Nat} {L : List Nat} (h : PartsR A m L) (hm : m < 2 ^ n) : ∀ lo, lo ≤ n → (∀ j, j < lo → m.testBit j = false) → L.length + lo ≤ n := by
  induction h with
  | none => intro lo h _; simpa using h
  | @more m k p L hk hl hp _ ih =>
    intro lo h hlo
    have h1 := parts_low hk hlo hl hp
    have h2 := bit_lt hm hk
    have := ih (by omega) (k + 1) (by omega) h1.2
    simp
    omega
/-- What has been found, and what is left. -/
def AccP (A : Nat → Nat → Prop) (m q : Nat) (K : List Nat) : Prop := ∀ L, PartsR A q L → PartsR A m (K ++ L)
theorem AccP.start {A : Nat → Nat → Prop} {m : Nat} : AccP A m m [] := fun _ h => h
theorem AccP.step {A : Nat → Nat → Prop} {m q k p : Nat} {K : List Nat} (h : AccP A m q K) (hk : q.testBit k = true) (hl : ∀ j, j < k → q.testBit j = false) (hp : PartOf A q.testBit k p) : AccP A m (q - p) (K ++ [p]) := fun L hL => by
  rw [List.append_assoc]
  exact h _ (.more hk hl hp hL)
theorem AccP.done {A : Nat → Nat → Prop} {m : Nat} {K : List Nat} (h : AccP A m 0 K) : PartsR A m K := by
  have := h [] .none
  rwa [List.append_nil] at this
def castL (K : List Nat) : List Int := K.map fun k : Nat => (k : Int)
theorem castL_len (K : List Nat) : (castL K).length = K.length := by simp [castL]
theorem castL_snoc (K : List Nat) (p : Nat) : castL (K ++ [p]) = castL K ++ [(p : Int)] := by simp [castL]
def PartsP (w h M : Int) (W : World) (e : Ending) (w' : World) : Prop := ∃ L : List Int, PartsV w h M L ∧ L.length ≤ 36 ∧ ListsI W L e w'
set_option maxRecDepth 100000 in
set_option maxHeartbeats 2000000 in
theorem spec_parts (w h M : Int) (W : World) : Calls Try.prog 28 #[.int .i64 w, .int .i64 h, .int .i64 M] W (PartsP w h M W) := by
  have HS := Lib.hid (fun W => spec_shape w h M W)
  cases hB : shapeB w h M
  · rw [hB] at HS
    have R : Hid (PartsP w h M W (.returned (.slice none 0 0)) W) := ⟨[], .inl ⟨hB, rfl⟩, by simp, _, rfl, World.ownsRow_nil _ _ _ _, Below.refl _ _⟩
    clear hB
    go_enter Try.func28, Try.ntmps28
    go_wp2_with fail
    refine (HS.out _).mono ?_
    rintro e w1 ⟨rfl, rfl⟩
    go_wp2_with fail
    go_ret
    exact R.out
  · rw [hB] at HS
    obtain ⟨a, b, m, rfl, rfl, rfl, ha1, ha2, hb1, hb2, hm, hab⟩ := mask_nat hB
    obtain ⟨i0, hi0, hz0, hz1, hz2⟩ := info_parts infoI
    have HPV := Lib.hid hB
    have HAB := Lib.hid hab
    have own0 := World.ownsRow_lit (base := W.heap.size) (e := 3) (size := 1) W #[] 0 (Nat.le_refl _) (by unfold maxLen; omega) (by rfl)
    have b0 := below1 W (.cells #[] 3)
    have HR := Lib.hid (fun q k (h : q < 2 ^ (a * b)) h1 h2 W => reach_any a b q k W ⟨ha1, ha2⟩ ⟨hb1, hb2⟩ hab h h1 h2)
    have HM := Lib.hid hm
    have hm36 := lt62 hm hab
    clear hB hm hab
    go_enter Try.func28, Try.ntmps28
    go_wp2_with fail
    refine (HS.out _).mono ?_
    rintro e w1 ⟨rfl, rfl⟩
    go_wp2_with fail
    go_loopw [2, 7, 8] (fun s o _ wr => ∃ (q lo : Nat) (K : List Nat), s = .int .i64 q ∧ q ≤ m ∧ lo ≤ 36 ∧ K.length ≤ lo ∧ Hid (AccP (Adj a b) m q K ∧ lo ≤ a * b ∧ ∀ j, j < lo → q.testBit j = false) ∧ wr.ownsRow w1.heap.size 3 1 o (castL K).length (ints (castL K)) ∧ Below w1.heap.size w1 wr) (fun s _ _ _ => (intOf s).toNat)
    case atStart => exact ⟨m, 0, [], rfl, Nat.le_refl _, by omega, Nat.le_refl _, ⟨AccP.start, Nat.zero_le _, fun j hj => by omega⟩, own0, b0⟩
    case round =>
      clear own0 b0
      obtain ⟨wo, rfl⟩ : ∃ wo : World, wo = wr := ⟨_, rfl⟩
      obtain ⟨q, lo, K, rfl, hq, hlo, hKl, HA, own, hb⟩ := hrel
      by_cases h0 : 0 < q
      · obtain ⟨k, hk, hl⟩ := exists_bit h0
        have hqm : q < 2 ^ (a * b) := Nat.lt_of_le_of_lt hq HM.out
        have HC := Lib.hid (HR.out q k hqm hk hl wo)
        have hkn := bit_lt hqm hk
        have HQ := Lib.hid (And.intro hk (And.intro hl hkn))
        have hkn36 : k < 36 := by have := HAB.out; omega
        clear hk hl hqm hkn
        go_wp2_with fail
        refine HC.out.mono ?_
        rintro e w2 ⟨p, rfl, hP, rfl⟩
        have hlow := parts_low HQ.out.1 HA.out.2.2 HQ.out.2.1 hP
        have HA2 : Hid (AccP (Adj a b) m (q - p) (K ++ [p]) ∧ k + 1 ≤ a * b ∧ ∀ j, j < k + 1 → (q - p).testBit j = false) := ⟨HA.out.1.step HQ.out.1 HQ.out.2.1 hP, HQ.out.2.2, hlow.2⟩
        have hpq := hP.sub.le
        have hp0 : 0 < p := by
          rcases Nat.eq_zero_or_pos p with rfl | h
          · have := (hP k).2 (.here HQ.out.1)
            simp at this
          · exact h
        have hlok := hlow.1
        have hKL : (castL K).length ≤ 36 := by rw [castL_len]; omega
        have hs6 := hb.size
        clear HA HC hP hlow HQ
        go_wp2_with (at_builtin; refine wpList_append_own _ rfl _ _ 36 rfl w1.heap.size 3 i0 (.int .i64 0) 1 8 Try.underlying36 hi0 hz0 hz1 hz2 rfl (by decide) _ _ _ rfl (own.alloc _) ⟨w2.heap.size, 0, none⟩ 1 1 [.int .i64 (p : Int)] rfl rfl ?d1 ?d2 ?d3 ?d4 ?d5 ?_)
        case d1 => exact World.news_of_block (cs := #[.int .i64 (p : Int)]) (t := 3) (fr := (0, 0)) (heap_alloc_new w2 _)
        case d2 => simp [Value.oneCell']
        case d3 => unfold maxLen; omega
        case d4 => omega
        case d5 => simp; omega
        intro v' w7 own7 hgrow _
        have hrw := fun k hk => (own.lt k hk).1
        have R : Hid (w7.ownsRow w1.heap.size 3 1 v' (castL (K ++ [p])).length (ints (castL (K ++ [p]))) ∧ Below w1.heap.size w1 w7) :=
          ⟨by rw [castL_snoc, ints_snoc, List.length_append]; exact own7, (hb.alloc hs6 _).grown hgrow (by simp; omega) hrw⟩
        clear own own7 hgrow hb hrw
        have hsub : wrap64 ((q : Int) - (p : Int)) = ((q - p : Nat) : Int) := by
          rw [Int.natCast_sub hpq]
          exact IntWalk.wrap64_in _ (by omega)
        go_wp2_with fail
        go_roundw
        case rel => exact ⟨q - p, k + 1, K ++ [p], by go_num, by omega, by omega, by simp; omega, HA2, R.out.1, R.out.2⟩
        case measure => simp [intOf]; omega
      · obtain rfl : q = 0 := by omega
        have hpr := HA.out.1.done
        have R : Hid (∀ v, wo.ownsRow w1.heap.size 3 1 v (castL K).length (ints (castL K)) → PartsP a b m w1 (.returned v) wo) := fun v hv => ⟨castL K, .inr ⟨a, b, m, K, HPV.out, rfl, rfl, rfl, hpr, rfl⟩, by rw [castL_len]; omega, v, rfl, hv, hb⟩
        clear hpr HA hb
        have HO := Lib.hid (R.out _ own)
        clear own R
        go_wp2_with fail
        go_ret
        exact HO.out
end Go.Proofs.Ytimkknljoeiceaa
