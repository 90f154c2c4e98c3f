/-
  Maps whose keys are points: what such a key reads as.
-/
import Derived.Test.YtbmeemmihkedoaaKey
import Derived.Test.YtbmeemmihkedoaaMeas
namespace Go.Proofs.Ytbmeemmihkedoaa
open Go.RowKit
open Go.Maps (Keyed)

theorem pt_laidOut : laidOutB Try.prog = true := by kernel_rfl
theorem pt_row : (27 : TypeId) < Try.prog.types.size := of_decide_eq_true (by kernel_rfl)
theorem pt_at : Try.prog.keyTypeAt 2 27 = true := by kernel_rfl
theorem pt_law : WideMaps.KeyLaw Try.prog 27 := deep_law_laid (m := 2) pt_laidOut (by omega) pt_row pt_at (by rw [Try.underlying27])
theorem pt_keyed : Keyed Try.prog 27 := Keyed.of_law pt_law
theorem pt_is : Try.prog.keyType 27 = true := by kernel_rfl
theorem pt_cells : Try.prog.cellsOf 27 = 2 := by kernel_rfl
theorem pt_cellI : Try.prog.cellsOf 3 = 1 := by kernel_rfl
theorem pt_size : ∃ n, Try.prog.types.size + 1 = n + 2 := ⟨Try.prog.types.size - 1, by have h : 0 < Try.prog.types.size := Nat.lt_of_le_of_lt (Nat.zero_le _) pt_row; omega⟩
theorem pt_two : TwoInts Try.prog 27 3 := ⟨⟨_, _, Try.underlying27, rfl, rfl, rfl, rfl, rfl, rfl⟩, pt_is, pt_cells, pt_cellI, Try.underlying3, pt_size⟩
theorem pt_key {a b : Int} (ha : wf64 a) (hb : wf64 b) : keyOf Try.prog 27 (.agg #[.int .i64 a, .int .i64 b]) = some (kl a b) := key_of pt_two ha hb
theorem pt_inv {v : Value} {l : Lit} (h : keyOf Try.prog 27 v = some l) : ∃ a b, v = (.agg #[.int .i64 a, .int .i64 b]) ∧ l = kl a b ∧ wf64 a ∧ wf64 b := key_inv pt_two h
theorem klT_inj {a b c d : Int} (ha : wf64 a) (hb : wf64 b) (hc : wf64 c) (hd : wf64 d) (h : kl a b = kl c d) : a = c ∧ b = d := by
  have := pt_keyed.inj (pt_key ha hb) ((pt_key hc hd).trans (by rw [h]))
  simpa using this
theorem klT_ne {a c x y : Int} (ha : wf64 a) (hc : wf64 c) (hx : wf64 x) (hy : wf64 y) (h : (a, c) ≠ (x, y)) : kl a c ≠ kl x y := fun q => h (by obtain ⟨rfl, rfl⟩ := klT_inj ha hc hx hy q; rfl)
theorem zeroT (w : World) : (zeroValue 3).run Try.prog w = .ok (.int .i64 0) w := by kernel_rfl
theorem litT_inj {a b : Int} (h : (DataW.lit (.int .i64 a) : DataW Unit) = .lit (.int .i64 b)) : a = b := by injection h with h; injection h
theorem belowT_grown {w w' : World} (hb : Below w.heap.size w w') : w.grownBy w' none := ⟨hb.os, hb.tape, hb.output, hb.size, fun k hk _ => hb.block k hk⟩
theorem grownT_refl (w : World) (r : Option Nat) : w.grownBy w r := ⟨rfl, rfl, rfl, Nat.le_refl _, fun _ _ _ => rfl⟩
/-- Block b is a map that tells V, with the keys K. -/
structure MapV (w : World) (b : Nat) (K : List (Int × Int)) (V : Int × Int → Int) (n : Nat) (D : DataW Unit) : Prop where
  own : w.ownsMap Try.prog 27 (plainElem Try.prog 3) b n D
  has : ∀ a c, wf64 a → wf64 c → (Maps.has D (kl a c) = true ↔ (a, c) ∈ K)
  at' : ∀ a c, wf64 a → wf64 c → D.atKey (kl a c) (.lit (.int .i64 0)) = .lit (.int .i64 (V (a, c)))
  wf : ∀ z ∈ K, wf64 z.1 ∧ wf64 z.2
theorem MapV.grown {w w' : World} {b n : Nat} {K : List (Int × Int)} {V : Int × Int → Int} {D : DataW Unit} (h : MapV w b K V n D) {row : Option Nat} (hg : w.grownBy w' row) (hne : some b ≠ row) : MapV w' b K V n D :=
  ⟨h.own.kept hg hne, h.has, h.at', h.wf⟩
theorem mapV_put {w w' : World} {b n : Nat} {K : List (Int × Int)} {V : Int × Int → Int} {D : DataW Unit} {p q v : Int} (hp : wf64 p) (hq : wf64 q) (h : MapV w b K V n D)
    (ho : w'.ownsMap Try.prog 27 (plainElem Try.prog 3) b (n + 1) (D.put (kl p q) (.lit (.int .i64 v)))) :
    MapV w' b ((p, q) :: K) (fun z => if z = (p, q) then v else V z) (n + 1) (D.put (kl p q) (.lit (.int .i64 v))) := by
  have hk := pt_keyed.key (pt_key hp hq)
  have hD := h.own.isMap
  refine ⟨ho, ?_, ?_, ?_⟩
  · intro a c ha hc
    by_cases e : (a, c) = (p, q)
    · simp only [Prod.mk.injEq] at e
      obtain ⟨rfl, rfl⟩ := e
      rw [Maps.has_put_same hD hk]
      simp
    · rw [Maps.has_put_other (klT_ne ha hc hp hq e), h.has a c ha hc, List.mem_cons]
      exact ⟨.inr, fun x => x.resolve_left e⟩
  · intro a c ha hc
    by_cases e : (a, c) = (p, q)
    · rw [if_pos e]
      simp only [Prod.mk.injEq] at e
      obtain ⟨rfl, rfl⟩ := e
      rw [Maps.atKey_put_same hD hk]
    · rw [if_neg e, Maps.atKey_put_other (klT_ne ha hc hp hq e), h.at' a c ha hc]
  · intro z hz
    rcases List.mem_cons.1 hz with rfl | hz
    · exact ⟨hp, hq⟩
    · exact h.wf z hz
/-- Block b is a map that tells the measures M. -/
def MapM (w : World) (b : Nat) (M : Ms) (n : Nat) : Prop := ∃ D, MapV w b (M.map Prod.fst) (valM M) n D
theorem MapM.kept {w w' : World} {b n : Nat} {M : Ms} (h : MapM w b M n) {row : Option Nat} (hg : w.grownBy w' row) (hne : some b ≠ row) : MapM w' b M n := by
  obtain ⟨D, h⟩ := h; exact ⟨D, h.grown hg hne⟩
theorem MapM.on {w w' : World} {b n : Nat} {M : Ms} (h : MapM w b M n) (hb : Below w.heap.size w w') : MapM w' b M n := h.kept (belowT_grown hb) (by simp)
theorem MapM.lt {w : World} {b n : Nat} {M : Ms} (h : MapM w b M n) : b < w.heap.size := by obtain ⟨D, h⟩ := h; exact h.own.lt
theorem mapM_made (w : World) : MapM (w.alloc (.map #[] 0)) w.heap.size [] 0 :=
  ⟨.map [], World.ownsMap_made _ _ _ _, fun _ _ _ _ => ⟨fun h => absurd h Bool.false_ne_true, fun h => absurd h List.not_mem_nil⟩, fun _ _ _ _ => rfl, fun _ hz => absurd hz List.not_mem_nil⟩
/-- Behind 't[key] += n', with the sum not zero. -/
theorem mapM_put {w w' : World} {b n : Nat} {M : Ms} {D : DataW Unit} {p q v : Int} (hM : OrdM M) (hp : wf64 p) (hq : wf64 q) (h : MapV w b (M.map Prod.fst) (valM M) n D) (hv : valM M (p, q) + v ≠ 0)
    (ho : w'.ownsMap Try.prog 27 (plainElem Try.prog 3) b (n + 1) (D.put (kl p q) (.lit (.int .i64 (valM M (p, q) + v))))) : MapM w' b (putM M (p, q) v) (n + 1) := by
  have h1 := mapV_put hp hq h ho
  have hO := putM_ord hM (p, q) v
  have hV : ∀ z, valM (putM M (p, q) v) z = if z = (p, q) then valM M (p, q) + v else valM M z := fun z => by
    rw [valM_put hM]
    by_cases e : z = (p, q)
    · subst e; simp
    · rw [if_neg e, if_neg e, Int.add_zero]
  refine ⟨_, h1.own, fun a c ha hc => (h1.has a c ha hc).trans ?_, fun a c ha hc => by rw [h1.at' a c ha hc, hV], fun z hz => ?_⟩
  · rw [← valM_iff hO, hV, List.mem_cons]
    by_cases e : (a, c) = (p, q)
    · rw [if_pos e]; exact ⟨fun _ => hv, fun _ => .inl e⟩
    · rw [if_neg e, valM_iff hM]; exact ⟨fun x => x.resolve_left e, .inr⟩
  · rw [← valM_iff hO, hV] at hz
    by_cases e : z = (p, q)
    · rw [e]; exact ⟨hp, hq⟩
    · rw [if_neg e, valM_iff hM] at hz; exact h.wf z hz
/-- Behind 'delete', with the sum zero. -/
theorem mapM_del {w w' : World} {b n : Nat} {M : Ms} {D : DataW Unit} {p q v : Int} (hM : OrdM M) (hp : wf64 p) (hq : wf64 q) (h : MapV w b ((p, q) :: M.map Prod.fst) (fun z => if z = (p, q) then valM M (p, q) + v else valM M z) n D) (hv : valM M (p, q) + v = 0)
    (ho : w'.ownsMap Try.prog 27 (plainElem Try.prog 3) b n (D.del (kl p q))) : MapM w' b (putM M (p, q) v) n := by
  have hO := putM_ord hM (p, q) v
  have hV : ∀ z, valM (putM M (p, q) v) z = if z = (p, q) then 0 else valM M z := fun z => by
    rw [valM_put hM]
    by_cases e : z = (p, q)
    · subst e; simp [hv]
    · rw [if_neg e, if_neg e, Int.add_zero]
  refine ⟨_, ho, fun a c ha hc => ?_, fun a c ha hc => ?_, fun z hz => ?_⟩
  · rw [← valM_iff hO, hV]
    by_cases e : (a, c) = (p, q)
    · rw [if_pos e]
      simp only [Prod.mk.injEq] at e
      obtain ⟨rfl, rfl⟩ := e
      rw [Maps.has_del_same]; simp
    · rw [if_neg e, Maps.has_del_other (klT_ne ha hc hp hq e), h.has a c ha hc, valM_iff hM, List.mem_cons]
      exact ⟨fun x => x.resolve_left e, .inr⟩
  · by_cases e : (a, c) = (p, q)
    · rw [hV, if_pos e]
      simp only [Prod.mk.injEq] at e
      obtain ⟨rfl, rfl⟩ := e
      rw [Maps.atKey_del_same]
    · have := h.at' a c ha hc
      rw [if_neg e] at this
      rw [Maps.atKey_del_other (klT_ne ha hc hp hq e), this, hV, if_neg e]
  · rw [← valM_iff hO, hV] at hz
    by_cases e : z = (p, q)
    · rw [e]; exact ⟨hp, hq⟩
    · rw [if_neg e, valM_iff hM] at hz; exact h.wf z (List.mem_cons_of_mem _ hz)
end Go.Proofs.Ytbmeemmihkedoaa
