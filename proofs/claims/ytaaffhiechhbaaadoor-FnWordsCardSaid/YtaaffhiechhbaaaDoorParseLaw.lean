/-
  impl.ParseInt and the law FnExactParseInt.
-/
import Derived.Test.YtaaffhiechhbaaaDoorParse
import Derived.Lib.AtoiAllCases
namespace Go.Proofs.YtaaffhiechhbaaaDoor
open Go.RowKit

/-- How strconv.Atoi ends at s in a world w: with the int whose digits s has and no error, or with an error. -/
def AtoiEnds (s : ByteArray) (w : World) (e : Ending) (w' : World) : Prop :=
  ((∃ v, Lib.atoiAll s.data.toList = .ok v ∧ e = .returned (.tuple #[.int .i64 v, .nilIface])) ∨
    ((∀ v, Lib.atoiAll s.data.toList ≠ .ok v) ∧ ∃ (x : Int) (N : Nat), e = .returned (.tuple #[.int .i64 x, .iface 61 (.pointer (some ⟨N, 0, none⟩))]))) ∧ Below w.heap.size w w'
/-- The errors of the library lie as it lays them: now, and behind whatever makes new blocks only. -/
def Err (w : World) : Prop := ∀ w', Below w.heap.size w w' → ∀ s : ByteArray, s.size ≤ 1048576 → Calls Tryd.prog 18 #[.string s] w' (AtoiEnds s w')

set_option maxHeartbeats 800000 in
theorem impl_parse (s : ByteArray) (w : World) (hs : s.size ≤ 1048576) (hp : Pow w) (he : Err w) :
    Calls Tryd.prog 7 #[.string s] w (ParseOut s w) := by
  have HP := Lib.hid hp; clear hp
  have HE := Lib.hid (he w (Below.refl _ _) s hs); clear he
  go_enter Tryd.func7, Tryd.ntmps7
  go_wp2_with fail
  refine HE.out.mono ?_
  rintro e w1 ⟨⟨v, hv, rfl⟩ | ⟨hv, x, N, rfl⟩, hb⟩
  · have hbd := Lib.atoiAll_bounds hv
    obtain ⟨hbd1, hbd2⟩ := hbd
    have HV := Lib.hid hv; clear hv
    go_wp2_with fail
    refine (impl_fmt v _ hbd1 hbd2 (HP.out.on hb)).mono ?_
    rintro e w2 ⟨rfl, hb2⟩
    have HB := Lib.hid (hb.trans (hb2.mono hb.size))
    obtain ⟨X, hX⟩ : ∃ X, X = ByteArray.mk (Lib.itoa v).toArray := ⟨_, rfl⟩
    rw [← hX]
    by_cases hE : X = s
    · have HR : Hid (Reads10 s.data.toList v) := ⟨hbd1, hbd2, by rw [← hE, hX]⟩
      rw [hE]
      clear hE hX
      go_wp2_with fail
      go_ret2
      exact ⟨.inl ⟨_, HR.out, rfl⟩, HB.out⟩
    · have HN : Hid (∀ n, ¬ Reads10 s.data.toList n) := fun n hn => by
        have e1 := atoi_itoa n hn.1 hn.2.1
        rw [hn.2.2, HV.out] at e1
        injection e1 with e1
        apply hE
        rw [hX, e1, hn.2.2]
      have hne := str_ne hE
      clear hE hX
      go_wp2_with fail
      go_ret2
      exact ⟨.inr ⟨HN.out, rfl⟩, HB.out⟩
  · have HN : Hid (∀ n, ¬ Reads10 s.data.toList n) := fun n hn => by
      have e1 := atoi_itoa n hn.1 hn.2.1
      rw [hn.2.2] at e1
      exact hv n e1
    clear hv
    go_wp2_with fail
    go_ret2
    exact ⟨.inr ⟨HN.out, rfl⟩, hb⟩

set_option maxHeartbeats 800000 in
theorem law_parse (s : ByteArray) (w : World) (hs : s.size ≤ maxLen) (hp : Pow w) (he : Err w) :
    Calls Tryd.prog 5 #[.string s] w fun e w' => e = .returned (.bool true) ∧ Below w.heap.size w w' := by
  have hs' := hs
  unfold maxLen at hs'
  have HP := Lib.hid hp; clear hp
  have HE := Lib.hid he; clear he
  by_cases h1 : s.size ≤ 1048576
  case neg =>
    go_enter Tryd.func5, Tryd.ntmps5
    go_wp2_with fail
    go_ret
    exact ⟨rfl, Below.refl _ _⟩
  go_enter Tryd.func5, Tryd.ntmps5
  go_wp2_with fail
  refine (spec_parse s _ h1).mono ?_
  rintro e w1 ⟨hs1, hb1⟩
  have HI := Lib.hid (impl_parse s w1 h1 (HP.out.on hb1) (fun w' h' => HE.out w' (hb1.trans (h'.mono hb1.size))))
  rcases hs1 with ⟨n, hn, rfl⟩ | ⟨hn, rfl⟩
  · go_wp2_with fail
    refine HI.out.mono ?_
    rintro e w2 ⟨hs2, hb2⟩
    have HB := Lib.hid (hb1.trans (hb2.mono hb1.size))
    rcases hs2 with ⟨m, hm, rfl⟩ | ⟨hm, rfl⟩
    · obtain rfl := reads_unique hn hm
      clear hn hm
      go_wp2_with fail
      go_ret
      exact ⟨rfl, HB.out⟩
    · exact absurd hn (hm n)
  · have HN := Lib.hid hn; clear hn
    go_wp2_with fail
    refine HI.out.mono ?_
    rintro e w2 ⟨hs2, hb2⟩
    have HB := Lib.hid (hb1.trans (hb2.mono hb1.size))
    rcases hs2 with ⟨m, hm, rfl⟩ | ⟨hm, rfl⟩
    · exact absurd hm (HN.out m)
    · clear hm
      go_wp2_with fail
      go_ret
      exact ⟨rfl, HB.out⟩
end Go.Proofs.YtaaffhiechhbaaaDoor
