/-
  The law FnWords: an int comes back from its text, and a text from its parts.
-/
import Derived.Test.YtaaffhiechhbaaaDoorParseLaw
import Derived.Test.YtaaffhiechhbaaaDoorMake
import Derived.Test.YtaaffhiechhbaaaDoorLines
import Derived.Test.YtaaffhiechhbaaaDoorJoin
namespace Go.Proofs.YtaaffhiechhbaaaDoor
open Go.RowKit

/-- The blank. -/
def blank : ByteArray := ⟨#[32]⟩
/-- The strings, a blank behind each. -/
def cat (C : List ByteArray) : List UInt8 := C.flatMap (fun x => x.data.toList ++ [32])
theorem cat_snoc (C : List ByteArray) (x : ByteArray) : cat (C ++ [x]) = cat C ++ (x.data.toList ++ [32]) := by simp [cat]
theorem occurs_blank {c : UInt8} (h : occurs blank c = true) : c = 32 := by
  simpa [occurs, blank] using h
theorem part (s : ByteArray) {f k : Nat} (h : f ≤ k) (hk : k ≤ s.size) : s.data.toList.take f ++ (s.extract f k).data.toList = s.data.toList.take k := by
  rw [Lib.extract_data]
  have hl : s.data.toList.length = s.size := size_data s
  have e : s.data.toList.take k = (s.data.toList.take k).take f ++ (s.data.toList.take k).drop f := (List.take_append_drop f _).symm
  rw [e, List.take_take, Nat.min_eq_left h, List.drop_take]
theorem cuts_cat (s : ByteArray) (k : Nat) : k ≤ s.size → cat (cuts s blank k).1 = s.data.toList.take (cuts s blank k).2 := by
  induction k with
  | zero => intro _; simp [cuts, cat]
  | succ k ih =>
    intro hk
    have hlt : k < s.size := by omega
    have ih' := ih (by omega)
    have hf := (cuts_le s blank k).1
    cases ho : occurs blank s[k]
    · rw [cuts_no hlt ho]; exact ih'
    · rw [cuts_yes hlt ho]
      have hc := occurs_blank ho
      show cat (_ ++ [_]) = _
      have hl : k < s.data.toList.length := by rw [size_data]; exact hlt
      rw [cat_snoc, ih', ← List.append_assoc, part s hf (by omega)]
      show _ = s.data.toList.take (k + 1)
      rw [List.take_succ_eq_append_getElem hl]
      have : s.data.toList[k] = 32 := hc
      rw [this]
theorem jl_cat (L : List ByteArray) (k : Nat) : (h : k < L.length) → jl L [32] (k + 1) = cat (L.take k) ++ L[k].data.toList := by
  induction k with
  | zero => intro h; rw [jl_first h]; simp [cat, jl]
  | succ k ih =>
    intro h
    have hk : k < L.length := by omega
    rw [jl_next (by omega) h, ih hk, List.take_succ_eq_append_getElem hk, cat_snoc]
    simp
theorem join_split (s : ByteArray) : jl (splitB s blank) [32] (splitB s blank).length = s.data.toList := by
  have hf := (cuts_le s blank s.size).1
  have hc := cuts_cat s s.size (Nat.le_refl _)
  unfold splitB
  obtain ⟨C, hC⟩ : ∃ C, C = (cuts s blank s.size).1 := ⟨_, rfl⟩
  obtain ⟨f, hF⟩ : ∃ f, f = (cuts s blank s.size).2 := ⟨_, rfl⟩
  rw [← hC, ← hF] at hc
  rw [← hF] at hf
  rw [← hC, ← hF]
  have hlen : (C ++ [s.extract f s.size]).length = C.length + 1 := by simp
  rw [hlen, jl_cat _ C.length (by rw [hlen]; omega)]
  have e1 : (C ++ [s.extract f s.size]).take C.length = C := List.take_left
  have e2 : (C ++ [s.extract f s.size])[C.length]'(by rw [hlen]; omega) = s.extract f s.size := by simp
  rw [e1, e2, hc, part s hf (Nat.le_refl _), List.take_of_length_le (by rw [size_data]; exact Nat.le_refl _)]
theorem tots_jl (L : List ByteArray) (b : List UInt8) (k : Nat) : tots L k ≤ (jl L b k).length := by
  induction k with
  | zero => simp [tots]
  | succ k ih =>
    have hl : ((L.getD k ⟨#[]⟩).data.toList).length = (L.getD k ⟨#[]⟩).size := Array.length_toList
    simp only [jl, tots]
    split <;> simp only [List.length_append] <;> omega
theorem split_small (s : ByteArray) (h : s.size ≤ 14) : (splitB s blank).length + tots (splitB s blank) (splitB s blank).length ≤ 1048576 := by
  have h1 := splitB_len s blank
  have h2 := tots_jl (splitB s blank) [32] (splitB s blank).length
  rw [join_split, size_data] at h2
  omega
theorem name_x1 : nameB ⟨#[120, 49]⟩ = true := by decide +kernel
theorem lines_two : (linesB ⟨#[97, 10, 98, 10]⟩).length = 2 := by decide +kernel

theorem CodeAt.mono {w : World} {B B' : Nat} {A : Option Addr} {n : Nat} (h : CodeAt w B A n) (hB : B ≤ B') : CodeAt w B' A n := fun k hk => by
  obtain ⟨a, x, e, hl, hc⟩ := h k hk
  exact ⟨a, x, e, by omega, hc⟩

set_option maxHeartbeats 1600000 in
theorem law_words (A : Option Addr) (n c : Nat) (w : World) (hC : CodeAt w w.heap.size A n) (hn : n ≤ maxLen) (hp : Pow w) (he : Err w) :
    Calls Tryd.prog 3 #[.slice A n c] w fun e w' => e = .returned (.bool true) ∧ Below w.heap.size w w' := by
  have hn' := hn
  unfold maxLen at hn'
  by_cases h1 : n ≤ 1048576
  case neg =>
    clear hC hp he
    go_enter Tryd.func3, Tryd.ntmps3
    go_wp2_with fail
    go_ret
    exact ⟨rfl, Below.refl _ _⟩
  have HN := Lib.hid (num_any A n c 1 w hC h1 (by omega) (by omega))
  have HC := Lib.hid hC; clear hC
  have HP := Lib.hid hp; clear hp
  have HE := Lib.hid he; clear he
  go_enter Tryd.func3, Tryd.ntmps3
  go_wp2_with fail
  refine HN.out.mono ?_
  rintro e w1 ⟨⟨x, hx1, hx2, rfl⟩, b1⟩
  go_wp2_with fail
  refine (impl_fmt (x - 30000) _ (by omega) (by omega) (HP.out.on b1)).mono ?_
  rintro e w2 ⟨rfl, b2⟩
  have b12 := b1.trans (b2.mono b1.size)
  have hlen := Lib.itoa_length_le (x - 30000) (by omega) (by omega)
  have HR : Hid (Reads10 (ByteArray.mk (Lib.itoa (x - 30000)).toArray).data.toList (x - 30000)) := ⟨by omega, by omega, by simp⟩
  obtain ⟨X, hX⟩ : ∃ X, X = ByteArray.mk (Lib.itoa (x - 30000)).toArray := ⟨_, rfl⟩
  have hXs : X.size ≤ 1048576 := by rw [hX, mk_len]; omega
  rw [← hX] at HR ⊢
  clear hX hlen b1 b2
  have HI := Lib.hid (impl_parse X w2 hXs (HP.out.on b12) (fun w' h' => HE.out w' (b12.trans (h'.mono b12.size))))
  go_wp2_with fail
  refine HI.out.mono ?_
  rintro e w3 ⟨hr, b3⟩
  obtain rfl : e = .returned (.tuple #[.int .i64 (x - 30000), .bool true]) := by
    rcases hr with ⟨m, hm, rfl⟩ | ⟨hm, _⟩
    · rw [reads_unique hm HR.out]
    · exact absurd HR.out (hm _)
  clear hr
  have b13 := b12.trans (b3.mono b12.size)
  clear b3 b12
  have HT := Lib.hid (text_any A n c w3 ((HC.out.below b13).mono b13.size) h1)
  go_wp2_with fail
  refine HT.out.mono ?_
  rintro e w4 ⟨⟨s, hs, rfl⟩, b4⟩
  have b14 := b13.trans (b4.mono b13.size)
  clear b4 b13
  have HS := Lib.hid (impl_split s blank w4 (by omega) (by decide))
  go_wp2_with fail
  refine HS.out.mono ?_
  rintro e w5 ⟨v, rfl, own, b5⟩
  obtain ⟨_, A5, c5, rfl, _⟩ := own_strs own
  have b15 := b14.trans (b5.mono b14.size)
  have HJ := Lib.hid (impl_join A5 c5 (splitB s blank) blank w5 (StrsAt.of own) (split_small s hs) (by decide))
  have HQ := Lib.hid (join_split s)
  clear own b5 b14
  go_wp2_with fail
  refine HJ.out.mono ?_
  rintro e w6 ⟨he6, b6⟩
  have hb32 : blank.data.toList = [32] := rfl
  rw [hb32, HQ.out, mk_data] at he6
  subst he6
  have b16 := b15.trans (b6.mono b15.size)
  have HX := Lib.hid (impl_name ⟨#[120, 49]⟩ w6 (by decide))
  clear b6 b15
  go_wp2_with fail
  refine HX.out.mono ?_
  rintro e w7 ⟨he7, b7⟩
  rw [name_x1] at he7
  subst he7
  have b17 := b16.trans (b7.mono b16.size)
  have HY := Lib.hid (impl_lines ⟨#[97, 10, 98, 10]⟩ w7 (by decide))
  clear b7 b16
  go_wp2_with fail
  refine HY.out.mono ?_
  rintro e w8 ⟨v8, rfl, own8, b8⟩
  obtain ⟨_, A8, c8, rfl, _⟩ := own_strs own8
  rw [lines_two]
  have R := Lib.hid (b17.trans (b8.mono b17.size))
  clear own8 b8 b17
  go_wp2_with fail
  go_ret
  exact ⟨rfl, R.out⟩
end Go.Proofs.YtaaffhiechhbaaaDoor
