/-
  impl.FormatInt and the law FnExactFormatInt.
-/
import Derived.Test.YtaaffhiechhbaaaDoorFmt
import Derived.Test.YtaaffhiechhbaaaDoorShelf
import Derived.Lib.AppendIntMem
namespace Go.Proofs.YtaaffhiechhbaaaDoor
open Go.RowKit Go.Sort

/-- The table of the powers of ten lies as the library lays it, now and behind whatever makes new blocks only. -/
def Pow (w : World) : Prop := ∀ w', Below w.heap.size w w' → ∀ (n : Int), -9223372036854775808 ≤ n → n ≤ 9223372036854775807 →
  Calls Tryd.prog 19 #[.int .i64 n] w' fun e w'' => e = .returned (.string ⟨(Lib.itoa n).toArray⟩) ∧ Below w'.heap.size w' w''

theorem Pow.on {w w1 : World} (h : Pow w) (hb : Below w.heap.size w w1) : Pow w1 := fun w' h' => h w' (hb.trans (h'.mono hb.size))

theorem impl_fmt (n : Int) (w : World) (h0 : -9223372036854775808 ≤ n) (h1 : n ≤ 9223372036854775807) (hp : Pow w) :
    Calls Tryd.prog 8 #[.int .i64 n] w fun e w' => e = .returned (.string ⟨(Lib.itoa n).toArray⟩) ∧ Below w.heap.size w w' := by
  have HP := Lib.hid (hp w (Below.refl _ _) n h0 h1)
  clear hp
  go_enter Tryd.func8, Tryd.ntmps8
  go_wp2_with fail
  refine HP.out.mono ?_
  rintro e w1 ⟨rfl, hb⟩
  go_wp2_with fail
  go_ret
  exact ⟨rfl, hb⟩

theorem law_fmt (n : Int) (w : World) (h0 : -9223372036854775808 ≤ n) (h1 : n ≤ 9223372036854775807) (hp : Pow w) :
    Calls Tryd.prog 4 #[.int .i64 n] w fun e w' => e = .returned (.bool true) ∧ Below w.heap.size w w' := by
  have HP := Lib.hid hp; clear hp
  go_enter Tryd.func4, Tryd.ntmps4
  go_wp2_with fail
  refine (spec_fmt n _ h0 h1).mono ?_
  rintro e w1 ⟨rfl, hb1⟩
  go_wp2_with fail
  refine (impl_fmt n _ h0 h1 (HP.out.on hb1)).mono ?_
  rintro e w2 ⟨rfl, hb2⟩
  have HB := Lib.hid (hb1.trans (hb2.mono hb1.size))
  go_wp2_with fail
  go_ret
  exact ⟨rfl, HB.out⟩
end Go.Proofs.YtaaffhiechhbaaaDoor
