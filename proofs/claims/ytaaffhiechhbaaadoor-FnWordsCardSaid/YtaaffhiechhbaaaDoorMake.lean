/-
  Walks for spec.l31New, spec.MakeNum, spec.l01Str, spec.MakeText.
-/
import Derived.Test.YtaaffhiechhbaaaDoorCur
namespace Go.Proofs.YtaaffhiechhbaaaDoor
open Go.RowKit

set_option maxHeartbeats 800000 in
/-- A reader that is some bytes ahead. -/
theorem ahead_any (A : Option Addr) (n c : Nat) (m : Int) (w : World) (hC : CodeAt w w.heap.size A n) (hn : n ≤ 1048576) (hm1 : 0 ≤ m) (hm2 : m ≤ 1000) :
    Calls Tryd.prog 16 #[.slice A n c, .int .i64 m] w (NewCur w A n c) := by
  have HN := Lib.hid (new_any A n c w hC hn)
  have HC := Lib.hid hC; clear hC
  go_enter Tryd.func16, Tryd.ntmps16
  go_wp2_with fail
  refine HN.out.mono ?_
  rintro e w1 ⟨g, rfl, hgw, hg, hb⟩
  go_wp2_with fail
  go_loopw [6] (fun i wr => ∃ k : Int, 0 ≤ k ∧ k ≤ m ∧ i = .int .i64 k ∧ CurAt wr A n c g ∧ Below w.heap.size w wr) (fun i _ => (m - intOf i).toNat)
  case atStart => exact ⟨0, Int.le_refl _, hm1, rfl, hg, hb⟩
  case round =>
    obtain ⟨wo, rfl⟩ : ∃ wo : World, wo = wr := ⟨_, rfl⟩
    clear hg hb
    obtain ⟨k, hk0, hk, rfl, hg, hb⟩ := hrel
    by_cases hlt : k < m
    · have HBy := Lib.hid (byte_any A n c g w.heap.size wo (HC.out.below hb) hg hgw hn)
      have hgl := hg.lt
      clear hg
      go_wp2_with fail
      refine HBy.out.mono ?_
      rintro e w2 ⟨⟨x, hx1, hx2, rfl⟩, hg2, hb2⟩
      have R := Lib.hid (And.intro hg2 (hb.trans (og_below hb2 hgw hgl)))
      clear hg2 hb2 hb
      go_wp2_with fail
      go_roundw
      case rel => exact ⟨k + 1, by omega, by omega, rfl, R.out.1, R.out.2⟩
      case measure => simp [intOf]; omega
    · go_wp2_with fail
      go_ret
      exact ⟨g, rfl, hgw, hg, hb⟩

set_option maxHeartbeats 800000 in
/-- A number from 0 to 65535. -/
theorem num_any (A : Option Addr) (n c : Nat) (m : Int) (w : World) (hC : CodeAt w w.heap.size A n) (hn : n ≤ 1048576) (hm1 : 0 ≤ m) (hm2 : m ≤ 1000) :
    Calls Tryd.prog 6 #[.slice A n c, .int .i64 m] w fun e w' => (∃ x : Int, 0 ≤ x ∧ x ≤ 65535 ∧ e = .returned (.int .i64 x)) ∧ Below w.heap.size w w' := by
  have HN := Lib.hid (ahead_any A n c m w hC hn hm1 hm2)
  have HC := Lib.hid hC; clear hC
  go_enter Tryd.func6, Tryd.ntmps6
  go_wp2_with fail
  refine HN.out.mono ?_
  rintro e w1 ⟨g, rfl, hgw, hg, hb⟩
  have HB1 := Lib.hid (byte_any A n c g w.heap.size w1 (HC.out.below hb) hg hgw hn)
  have hgl := hg.lt
  clear hg
  go_wp2_with fail
  refine HB1.out.mono ?_
  rintro e w2 ⟨⟨x, hx1, hx2, rfl⟩, hg2, hb2⟩
  have hb3 := hb.trans (og_below hb2 hgw hgl)
  have hgl2 := hg2.lt
  have HB2 := Lib.hid (byte_any A n c g w.heap.size w2 (HC.out.below hb3) hg2 hgw hn)
  clear hg2 hb2 hb
  go_wp2_with fail
  refine HB2.out.mono ?_
  rintro e w3 ⟨⟨y, hy1, hy2, rfl⟩, hg3, hb4⟩
  have R := Lib.hid (hb3.trans (og_below hb4 hgw hgl2))
  clear hg3 hb4 hb3
  go_wp2_with fail
  go_ret
  exact ⟨⟨_, by omega, by omega, rfl⟩, R.out⟩

set_option maxHeartbeats 800000 in
/-- One of the strings of a list. -/
theorem str_any (A : Option Addr) (n c g B b : Nat) (M : List ByteArray) (cp : Nat) (w : World) (hC : CodeAt w B A n) (hg : CurAt w A n c g) (hB : B ≤ g) (hn : n ≤ 1048576) (hm1 : 1 ≤ M.length) (hm2 : M.length ≤ 256)
    (hM : ∀ k (h : k < M.length), w.cell? ⟨b, k, none⟩ = some (.string M[k])) (hbg : b ≠ g) (hbl : b < w.heap.size) :
    Calls Tryd.prog 22 #[.pointer (some ⟨g, 0, none⟩), .slice (some ⟨b, 0, none⟩) M.length cp] w fun e w' => (∃ s ∈ M, e = .returned (.string s)) ∧ CurAt w' A n c g ∧ w.grownBy w' (some g) := by
  have HB := Lib.hid (below_any A n c g B M.length w hC hg hB hn (by omega) (by omega))
  have HM := Lib.hid hM
  clear hC hg hM
  go_enter Tryd.func22, Tryd.ntmps22
  go_wp2_with fail
  refine HB.out.mono ?_
  rintro e w1 ⟨⟨x, hx1, hx2, rfl⟩, hg1, hb1⟩
  obtain ⟨k, rfl⟩ : ∃ k : Nat, x = k := ⟨x.toNat, by omega⟩
  have hk : k < M.length := by omega
  have hc : w1.cell? ⟨b, k, none⟩ = some (.string M[k]) := (World.cell?_of_block (a := ⟨b, k, none⟩) (hb1.block b hbl (by simpa using hbg))).trans (HM.out k hk)
  have hmem : M[k] ∈ M := List.getElem_mem hk
  obtain ⟨s, hs⟩ : ∃ s, s = M[k] := ⟨_, rfl⟩
  rw [← hs] at hc hmem
  clear hs
  have HG := Lib.hid (And.intro hg1 hb1); clear hg1 hb1
  go_wp2_with fail
  go_ret
  exact ⟨⟨s, hmem, rfl⟩, HG.out.1, HG.out.2⟩
/-- The strings that a text is made of. -/
def letters : List ByteArray := [⟨#[97]⟩, ⟨#[98, 99]⟩, ⟨#[32]⟩, ⟨#[44]⟩, ⟨#[120, 49]⟩]
theorem letters_len : ∀ s ∈ letters, s.size ≤ 2 := by
  intro s hs
  simp only [letters, List.mem_cons, List.not_mem_nil, or_false] at hs
  rcases hs with rfl | rfl | rfl | rfl | rfl <;> decide
theorem letter_any (A : Option Addr) (n c g B : Nat) (w : World) (hC : CodeAt w B A n) (hg : CurAt w A n c g) (hB : B ≤ g) (hn : n ≤ 1048576) :
    Calls Tryd.prog 22 #[.pointer (some ⟨g, 0, none⟩), .slice (some ⟨w.heap.size, 0, none⟩) 5 5] (w.alloc (.cells #[.string ⟨#[97]⟩, .string ⟨#[98, 99]⟩, .string ⟨#[32]⟩, .string ⟨#[44]⟩, .string ⟨#[120, 49]⟩] 9)) fun e w' =>
      (∃ s : ByteArray, s.size ≤ 2 ∧ e = .returned (.string s)) ∧ CurAt w' A n c g ∧ Below B w w' := by
  have hgl := hg.lt
  have hg' : CurAt (w.alloc (.cells #[.string ⟨#[97]⟩, .string ⟨#[98, 99]⟩, .string ⟨#[32]⟩, .string ⟨#[44]⟩, .string ⟨#[120, 49]⟩] 9)) A n c g := by
    obtain ⟨i, x, hh, hi⟩ := hg
    exact ⟨i, x, (Below.heap_alloc w _ g hgl).trans hh, hi⟩
  have hba : Below B w (w.alloc (.cells #[.string ⟨#[97]⟩, .string ⟨#[98, 99]⟩, .string ⟨#[32]⟩, .string ⟨#[44]⟩, .string ⟨#[120, 49]⟩] 9)) := (Below.refl _ _).alloc (by omega) _
  refine (str_any A n c g B w.heap.size letters 5 _ (hC.below hba) hg' hB hn (by decide) (by decide) (fun k hk => ?_) (by omega) (by simp)).mono ?_
  · rw [World.cell?_alloc_mark]
    have hk5 : k < 5 := hk
    match k, hk5 with
    | 0, _ => rfl
    | 1, _ => rfl
    | 2, _ => rfl
    | 3, _ => rfl
    | 4, _ => rfl
  · rintro e w' ⟨⟨s, hs, rfl⟩, h1, h2⟩
    exact ⟨⟨s, letters_len s hs, rfl⟩, h1, hba.trans (og_below h2 hB (by simp; omega))⟩

set_option maxHeartbeats 1600000 in
/-- A text of at most 14 bytes. -/
theorem text_any (A : Option Addr) (n c : Nat) (w : World) (hC : CodeAt w w.heap.size A n) (hn : n ≤ 1048576) :
    Calls Tryd.prog 9 #[.slice A n c] w fun e w' => (∃ s : ByteArray, s.size ≤ 14 ∧ e = .returned (.string s)) ∧ Below w.heap.size w w' := by
  have HN := Lib.hid (new_any A n c w hC hn)
  have HC := Lib.hid hC; clear hC
  go_enter Tryd.func9, Tryd.ntmps9
  go_wp2_with fail
  refine HN.out.mono ?_
  rintro e w1 ⟨g, rfl, hgw, hg, hb⟩
  have HB1 := Lib.hid (below_any A n c g w.heap.size 8 w1 (HC.out.below hb) hg hgw hn (by omega) (by omega))
  have hgl := hg.lt
  clear hg
  go_wp2_with fail
  refine HB1.out.mono ?_
  rintro e w2 ⟨⟨x, hx1, hx2, rfl⟩, hg2, hb2⟩
  have hb3 := hb.trans (og_below hb2 hgw hgl)
  clear hb2 hb
  go_wp2_with fail
  go_loopw [4, 5] (fun t i wr => ∃ (k : Int) (s : ByteArray), 0 ≤ k ∧ i = .int .i64 k ∧ t = .string s ∧ (s.size : Int) + 2 * k ≤ 14 ∧ CurAt wr A n c g ∧ Below w.heap.size w wr) (fun _ i _ => (intOf i).toNat)
  case atStart => exact ⟨x, ⟨#[]⟩, hx1, rfl, rfl, by show (0 : Int) + _ ≤ _; omega, hg2, hb3⟩
  case round =>
    obtain ⟨wo, rfl⟩ : ∃ wo : World, wo = wr := ⟨_, rfl⟩
    clear hg2 hb3
    obtain ⟨k, s, hk0, rfl, rfl, hsz, hg, hb⟩ := hrel
    by_cases hlt : 0 < k
    · have HL := Lib.hid (letter_any A n c g w.heap.size wo (HC.out.below hb) hg hgw hn)
      clear hg
      go_wp2_with fail
      refine HL.out.mono ?_
      rintro e w3 ⟨⟨x, hx, rfl⟩, hg3, hb4⟩
      have R := Lib.hid (And.intro hg3 (hb.trans hb4))
      clear hg3 hb4 hb HL
      have hsx : (s ++ x).size = s.size + x.size := ByteArray.size_append
      have hadd : (Op.stringOp .add s x).run Tryd.prog w3 = .ok (.string (s ++ x)) w3 := run_string_add_sum w3 _ _ (by omega)
      have HX := Lib.hid hsx; clear hsx
      go_wp2_with fail
      go_roundw
      case rel => exact ⟨k - 1, s ++ x, by omega, rfl, rfl, by have := HX.out; omega, R.out.1, R.out.2⟩
      case measure => simp [intOf]; omega
    · go_wp2_with fail
      go_ret
      exact ⟨⟨s, by omega, rfl⟩, hb⟩
end Go.Proofs.YtaaffhiechhbaaaDoor
