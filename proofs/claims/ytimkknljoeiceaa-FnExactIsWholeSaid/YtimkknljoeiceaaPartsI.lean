/-
  PartsOf of the program; IsWhole of both; their laws.
-/
import Derived.Test.YtimkknljoeiceaaReachS
import Derived.Test.YtimkknljoeiceaaTake
import Derived.Test.YtimkknljoeiceaaIntsLaw
namespace Go.Proofs.Ytimkknljoeiceaa
open Go.RowKit

theorem less_sub {A : Nat → Nat → Prop} {q k p : Nat} (h : PartOf A q.testBit k p) : less q.testBit p = (q - p).testBit := by
  funext j
  rw [testBit_sub h.sub]; rfl
theorem cell_index {a b k : Nat} (ha : 0 < a) (hk : k < a * b) : k % a < a ∧ k / a < b ∧ k / a * a + k % a = k := by
  refine ⟨Nat.mod_lt _ ha, by rw [Nat.div_lt_iff_lt_mul ha, Nat.mul_comm]; exact hk, ?_⟩
  have := Nat.div_add_mod k a
  rw [Nat.mul_comm] at this; exact this
set_option maxRecDepth 100000 in
set_option maxHeartbeats 2000000 in
theorem impl_parts (w h M : Int) (W : World) : Calls Try.prog 29 #[.int .i64 w, .int .i64 h, .int .i64 M] W (PartsP w h M W) := by
  have HS := Lib.hid (fun W => impl_shape w h M W)
  cases hB : shapeB w h M
  · rw [hB] at HS
    have R : Hid (PartsP w h M W (.returned (.slice none 0 0)) W) := ⟨[], .inl ⟨hB, rfl⟩, by simp, _, rfl, World.ownsRow_nil _ _ _ _, Below.refl _ _⟩
    clear hB
    go_enter Try.func29, Try.ntmps29
    go_wp2_with fail
    refine (HS.out _).mono ?_
    rintro e w1 ⟨rfl, rfl⟩
    go_wp2_with fail
    go_ret
    exact R.out
  · rw [hB] at HS
    obtain ⟨a, b, m, rfl, rfl, rfl, ha1, ha2, hb1, hb2, hm, hab⟩ := mask_nat hB
    obtain ⟨i0, hi0, hz0, hz1, hz2⟩ := info_parts infoI
    have HPV := Lib.hid hB
    have HBO := Lib.hid (fun W => boardOf_any a b m W hm hab)
    have HTK := Lib.hid (fun F x y g W h1 h2 h3 => take_any a b ⟨ha1, ha2⟩ ⟨hb1, hb2⟩ hab (cntF F (a * b)) F x y g W (Nat.le_refl _) h1 h2 h3)
    have HCI := Lib.hid (fun k hk => cell_index (a := a) (b := b) (k := k) (by omega) hk)
    obtain ⟨n, hn⟩ : ∃ n, n = a * b := ⟨_, rfl⟩
    have hN : ((a : Int) * (b : Int) = (n : Int)) := by rw [hn, Int.natCast_mul]
    have HN := Lib.hid hn
    have HM := Lib.hid hm
    have hn36 : n ≤ 36 := by omega
    have hm36 := lt62 hm hab
    clear hB hm hab hn
    go_enter Try.func29, Try.ntmps29
    go_wp2_with fail
    refine (HS.out _).mono ?_
    rintro e w1 ⟨rfl, rfl⟩
    go_wp2_with fail
    refine (HBO.out _).mono ?_
    rintro e w2 ⟨rfl, hb2'⟩
    have hw2 := hb2'.size
    have t2 := brd_new w2 0 0 fun _ => false
    go_wp2_with (first
      | (refine wpList_allocB rfl rfl ?_; try simp only [size_alloc])
      | refine wpList_storeB rfl _ _ rfl w2.heap.size a b _ _ m.testBit _ rfl rfl t2 ?_)
    have t1 := brd_setRow t2 a b m.testBit
    have bb := below_rowB (hb2'.alloc hw2 (.cells (bdV 0 0 fun _ => false) 75)) hw2 (bdV a b m.testBit)
    have hsz : ((w2.alloc (.cells (bdV 0 0 fun _ => false) 75)).setRow w2.heap.size (bdV a b m.testBit)).heap.size = w2.heap.size + 1 := by simp
    generalize (w2.alloc (.cells (bdV 0 0 fun _ => false) 75)).setRow w2.heap.size (bdV a b m.testBit) = w3 at *
    have hsz2 : w2.heap.size + 1 ≤ w3.heap.size := by omega
    clear t2 hb2' hsz HBO HS
    go_loopw [8, 9, 22] (fun o _ i wr => ∃ (k q : Nat) (K : List Nat), i = .int .i64 k ∧ k ≤ n ∧ q ≤ m ∧ K.length ≤ k ∧ Hid (AccP (Adj a b) m q K ∧ ∀ j, j < k → q.testBit j = false) ∧ Brd wr w2.heap.size a b q.testBit ∧ wr.ownsRow (w2.heap.size + 1) 3 1 o (castL K).length (ints (castL K)) ∧ w2.heap.size + 1 ≤ wr.heap.size ∧ Below w1.heap.size w1 wr) (fun _ _ i _ => n - (intOf i).toNat)
    case atStart => exact ⟨0, m, [], rfl, Nat.zero_le _, Nat.le_refl _, by simp, ⟨AccP.start, fun j hj => by omega⟩, t1, World.ownsRow_nil _ _ _ _, hsz2, bb⟩
    case round =>
      clear t1 bb hsz2
      obtain ⟨wo, rfl⟩ : ∃ wo : World, wo = wr := ⟨_, rfl⟩
      obtain ⟨k, q, K, rfl, hk, hq, hKl, HA, hg, own, hsz, hb⟩ := hrel
      by_cases hlt : k < n
      · have hk36 : k < 36 := by omega
        have c1 := hg.at hk36
        cases hF : q.testBit k
        · rw [hF] at c1
          have HA2 : Hid (AccP (Adj a b) m q K ∧ ∀ j, j < k + 1 → q.testBit j = false) := ⟨HA.out.1, fun j hj => by
            by_cases e : j = k
            · subst e; exact hF
            · exact HA.out.2 j (by omega)⟩
          have R := Lib.hid (And.intro hg (And.intro own hb))
          clear HA hF hg own hb
          go_wp2_with fail
          go_roundw
          case rel => exact ⟨k + 1, q, K, by go_num, by omega, hq, by omega, HA2, R.out.1, R.out.2.1, hsz, R.out.2.2⟩
          case measure => simp [intOf]; omega
        · rw [hF] at c1
          have HQ := Lib.hid hF
          have hoff : ∀ j, a * b ≤ j → q.testBit j = false := fun j hj => Nat.testBit_lt_two_pow (Nat.lt_of_lt_of_le (Nat.lt_of_le_of_lt hq HM.out) (Nat.pow_le_pow_right (by omega) hj))
          obtain ⟨i1, i2, i3⟩ := HCI.out k (by have := HN.out; omega)
          have hsp := spot_nat (a := a) (b := b) i1 i2
          rw [i3] at hsp
          have HCA := Lib.hid (fun w => cellAt_any a b q.testBit k w ha1 (by omega))
          generalize k % a = x at *
          generalize k / a = y at *
          have HTC := Lib.hid (fun w hw => HTK.out q.testBit (x : Int) (y : Int) w2.heap.size w hoff hw ⟨by omega, by omega, by omega, by omega⟩)
          rw [hsp] at HTC
          clear hF hoff i1 i2 i3 hsp
          go_wp2_with (refine wpList_loadB rfl _ rfl _ _ _ _ rfl hg ?_)
          refine (HCA.out _).mono ?_
          rintro e w4 ⟨rfl, hb4⟩
          have hb5 := below_on hb hb4
          replace hg := hg.step hb4
          replace own := own_below own hb4
          have hsz4 : w2.heap.size + 1 ≤ w4.heap.size := Nat.le_trans hsz hb4.size
          clear hb hb4 hsz HCA c1
          go_wp2_with fail
          refine (HTC.out _ hg).mono ?_
          rintro e w5 ⟨p, rfl, hP, hg5, hgr5⟩
          have hPP := hP.part
          rw [less_sub hPP] at hg5
          have hlow := parts_low HQ.out (fun j hj => HA.out.2 j hj) (fun j hj => HA.out.2 j hj) hPP
          have HA2 : Hid (AccP (Adj a b) m (q - p) (K ++ [p]) ∧ ∀ j, j < k + 1 → (q - p).testBit j = false) := ⟨HA.out.1.step HQ.out (fun j hj => HA.out.2 j hj) hPP, hlow.2⟩
          have own5 := own.kept hgr5 (.inr fun e => by have := (own.lt _ e).1; omega)
          have hb6 : Below w1.heap.size w1 w5 := hb5.grown hgr5 hb5.size (fun q hq => by
            have : w2.heap.size = q := by simpa using hq
            omega)
          have hsz5 : w2.heap.size + 1 ≤ w5.heap.size := Nat.le_trans hsz4 hgr5.size
          have hKL : (castL K).length ≤ 36 := by rw [castL_len]; omega
          have hpq := hPP.sub.le
          have hs6 := hb6.size
          clear HA HQ hP hPP hlow hg hgr5 own hb5 hsz4 HTC
          go_wp2_with (at_builtin; refine wpList_append_own _ rfl _ _ 36 rfl (w2.heap.size + 1) 3 i0 (.int .i64 0) 1 8 Try.underlying36 hi0 hz0 hz1 hz2 rfl (by decide) _ _ _ rfl (own5.alloc _) ⟨w5.heap.size, 0, none⟩ 1 1 [.int .i64 (p : Int)] rfl rfl ?d1 ?d2 ?d3 ?d4 ?d5 ?_)
          case d1 => exact World.news_of_block (cs := #[.int .i64 (p : Int)]) (t := 3) (fr := (0, 0)) (heap_alloc_new w5 _)
          case d2 => simp [Value.oneCell']
          case d3 => unfold maxLen; omega
          case d4 => omega
          case d5 => simp; omega
          intro v' w7 own7 hgrow _
          have hrw := fun k hk => (own5.lt k hk).1
          have R : Hid (Brd w7 w2.heap.size a b (q - p).testBit ∧ w7.ownsRow (w2.heap.size + 1) 3 1 v' (castL (K ++ [p])).length (ints (castL (K ++ [p]))) ∧ w2.heap.size + 1 ≤ w7.heap.size ∧ Below w1.heap.size w1 w7) :=
            ⟨(hgrow.block _ (hg5.alloc _).lt (fun e => by have := hrw _ e.symm; omega)).trans (hg5.alloc _), by rw [castL_snoc, ints_snoc, List.length_append]; exact own7, Nat.le_trans hsz5 (by have := hgrow.size; simp at this; omega), (hb6.alloc hs6 _).grown hgrow (by simp; omega) (fun k hk => by have := hrw k hk; omega)⟩
          clear own5 own7 hgrow hb6 hrw hg5 hsz5
          go_wp2_with fail
          go_roundw
          case rel => exact ⟨k + 1, q - p, K ++ [p], by go_num, by omega, by omega, by simp; omega, HA2, R.out.1, R.out.2.1, R.out.2.2.1, R.out.2.2.2⟩
          case measure => simp [intOf]; omega
      · obtain rfl : k = n := by omega
        have hq0 : q = 0 := by
          apply Nat.eq_of_testBit_eq
          intro j
          rw [Nat.zero_testBit]
          rcases Nat.lt_or_ge j k with h | h
          · exact HA.out.2 j h
          · exact Nat.testBit_lt_two_pow (Nat.lt_of_lt_of_le (Nat.lt_of_le_of_lt hq HM.out) (Nat.pow_le_pow_right (by omega) (by have := HN.out; omega)))
        subst hq0
        have hpr := HA.out.1.done
        have R : Hid (∀ v, wo.ownsRow w1.heap.size 3 1 v (castL K).length (ints (castL K)) → PartsP a b m w1 (.returned v) wo) := fun v hv => ⟨castL K, .inr ⟨a, b, m, K, HPV.out, rfl, rfl, rfl, hpr, rfl⟩, by rw [castL_len]; omega, v, rfl, hv, hb⟩
        clear hpr HA hb hg
        have HO := Lib.hid (R.out _ (own_base own (by omega)))
        clear own R
        go_wp2_with fail
        go_ret
        exact HO.out
end Go.Proofs.Ytimkknljoeiceaa
