/-
  spec.HowMeet and impl.HowMeet answer alike at every four points, and no argument is written: the law returns true. No condition.
-/
import Derived.Test.YthepgmpkakmcdaaRows
import Derived.Test.YthepgmpkakmcdaaMeetLaw
import Derived.Test.YthepgmpkakmcdaaPair
namespace Go.Proofs.Ythepgmpkakmcdaa.howMeet
open Go.ChangeShapes Go.WideShapes Go.ChangeAt Go.RowKit
open Go.ChangeMaps (open_string shut_string)

theorem own : ownKnob Try.prog.godebug = none := by kernel_rfl
theorem laidOut : laidOutB Try.prog = true := by kernel_rfl

set_option maxRecDepth 100000 in
theorem lifted (os : Os) (started : os.Started) (H : Type) (enc : TypeId × Value → H) :
    ReturnsInHanded {} Try.checked os 11 .any (Rows.fnExactHowMeetSpec.pre6 enc Try.prog Try.f11 Rows.fnExactHowMeetRow.domain false) (Rows.fnExactHowMeetSpec.post enc Try.prog Try.f11 false true false false) := by
  refine returnsInHanded_of_change (C := Try.checked) own started (by kernel_rfl) Try.func11
    (ChangeSpec.witness6 (enc := enc) (C := Try.checked) false ⟨#[], #[(.agg #[.int .i64 0, .int .i64 0]), (.agg #[.int .i64 0, .int .i64 0]), (.agg #[.int .i64 0, .int .i64 0]), (.agg #[.int .i64 0, .int .i64 0])], []⟩ 8 (by kernel_rfl) (by kernel_rfl) (by kernel_rfl) (by kernel_rfl)) ?_
  intro W base args ds gs before hval0 hW _ _
  have hval : ∀ (j : Nat) t v, Try.f11.params[j]? = some t → args[j]? = some v → Value.okWide Try.prog W .any base t v := hval0
  have hW' := hW
  obtain ⟨p, q, hA0, hV, rfl, _, _⟩ := hW
  have hA : DataW.TrodAll enc Try.prog W 0 (fun _ => true) true Try.f11.params.toList args.toList ds p := hA0
  rw [Try.params11] at hA hval
  obtain ⟨v0, v1, v2, v3, d0, d1, d2, d3, p0, p1, p2, p3, rfl, rfl, rfl, h0, h1, h2, h3⟩ := trodAll_four hA
  obtain ⟨rfl, rfl⟩ := trodVars_none hV
  obtain ⟨x0, y0, rfl⟩ := open_pt Try.underlying35 (by kernel_rfl) (by kernel_rfl) Try.underlying3 Try.underlying3 (hval 0 35 v0 rfl rfl) h0
  obtain ⟨x1, y1, rfl⟩ := open_pt Try.underlying35 (by kernel_rfl) (by kernel_rfl) Try.underlying3 Try.underlying3 (hval 1 35 v1 rfl rfl) h1
  obtain ⟨x2, y2, rfl⟩ := open_pt Try.underlying35 (by kernel_rfl) (by kernel_rfl) Try.underlying3 Try.underlying3 (hval 2 35 v2 rfl rfl) h2
  obtain ⟨x3, y3, rfl⟩ := open_pt Try.underlying35 (by kernel_rfl) (by kernel_rfl) Try.underlying3 Try.underlying3 (hval 3 35 v3 rfl rfl) h3
  clear hA0 hval0
  refine (law_meet x0 y0 x1 y1 x2 y2 x3 y3 W    ).mono fun e W' ⟨he, hb⟩ => ?_
  subst he
  exact ⟨_, rfl, law_post laidOut (by kernel_rfl) (by kernel_rfl) Try.underlying4 rfl ⟨rfl, rfl, rfl⟩ hW' hb⟩

theorem proved : Rows.FnExactHowMeetSaid :=
  OpenClaim.holds_of_wide 11 Try.f11 rfl rfl rfl rfl rfl rfl rfl ⟨rfl, rfl, rfl, rfl, rfl⟩ rfl rfl rfl rfl rfl (by kernel_rfl) Try.func11 (by kernel_rfl)
    (of_decide_eq_true (by kernel_rfl)) (by unfold Func.isWrapper; first | (rw [if_pos (by decide +kernel)]; kernel_rfl) | (rw [if_neg (by decide +kernel)]; exact ⟨rfl, rfl⟩))
    (fun os started H enc _ => lifted os started H enc)
#print axioms proved
end Go.Proofs.Ythepgmpkakmcdaa.howMeet
