/-
  'm[k]++' in a region that draws its order: m operations that only look (the lookup among them), which may come as late as behind the entry's making, then the entry, its extract, the store.
-/
import Derived.Test.YtbmeemmihkedoaaMaker
import Derived.WideKeyEntry
namespace Go.Proofs.Ytbmeemmihkedoaa
open Go.Sort Go.RowKit

def lookOpB : Op → Bool
  | .move _ | .load _ _ | .fieldAddr _ _ _ | .indexAddr _ _ _ | .build _ _ | .binOp _ _ _ _ _ | .lookup _ _ _ _ => true
  | _ => false
theorem look_value (P : Program) (o : Oper) (a : Act) (w w' : World) (x : Next) (hp : lookOpB o.op = true) (h : (execOp a.eval o).run P w = .ok x w') : ∃ u, x = .value u := by
  unfold execOp at h
  revert hp h
  cases o.op <;> intro hp h <;> first
    | (simp [lookOpB] at hp; done)
    | exact value_only _ _ _ _ _ h
    | (simp only [Sem.run_pure, Result.ok.injEq] at h; exact ⟨_, h.1.symm⟩)
theorem look_upon {P : Program} {C : World → Prop} {o : Oper} (hp : lookOpB o.op = true) {a : Act} {w : World} {v : Value} (h : o.quietAt P a C w v) : (execOp a.eval o).run P w = .ok (.value v) w := by
  have hv := fun x w' => look_value P o a w w' x hp
  unfold Oper.quietAt at h
  generalize (execOp a.eval o).run P w = r at *
  cases r with
  | ok x w' =>
    obtain ⟨u, rfl⟩ := hv _ _ rfl
    simp only [Oper.quietUpon] at h
    obtain ⟨rfl, rfl⟩ := h; rfl
  | halt x w' => simp only [Oper.quietUpon] at h

section
variable {F : Fence} {n : Nat} {P : Program} {ops : Array Oper} {md : Region.Mode} {C : World → Prop}
theorem lexC0 {m q g : Nat} {K0 : Act → World → Prop} {Lq : Act → Prop} (hF : IsWide F) (hd : noDeferB ops = true) (hsel : Region.noSelect ops = true) (hs : Region.sinkB md ops q = true) (hc : Region.chainB md ops q = true) (hn : q < ops.size) (hmq : m ≤ q) (w : World) (hC : C w)
    (hT : ∀ listed a, Region.seqB md ops g m listed = true → Lq a → wpAnyC F n P md ops C K0 q g listed a w) :
    ∀ (l : List Oper) (k : Nat) (listed : Array Bool) (a : Act), (∀ j, j < l.length → l[j]? = ops[k + j]?) → k + l.length = m → HeadInv md ops q listed →
    Region.lexHead md ops g l.length k listed = true → (l.all fun o => lookOpB o.op) = true → wpQuiet P ops C Lq l a → wpAnyC F n P md ops C K0 q (l.length + g) listed a w
  | [], k, listed, a, _, hk, _, hB, _, h => by
    have : k = m := by simpa using hk
    subst this
    rw [List.length_nil, Nat.zero_add]
    exact hT listed a (by simpa [Region.lexHead] using hB) h
  | o :: l, k, listed, a, hl, hk, inv, hB, hp, h => by
    have h0 : ops[k]? = some o := by simpa using (hl 0 (by simp)).symm
    simp only [List.length_cons, Region.lexHead, Bool.and_eq_true] at hB
    obtain ⟨⟨hr, hf⟩, hB'⟩ := hB
    simp only [List.all_cons, Bool.and_eq_true] at hp
    have hkn : k < m := by simp only [List.length_cons] at hk; omega
    have hr' : k ∈ Region.ready md ops listed := by simpa using hr
    have hy : ∃ v, PureAt P ops C o v a ∧ wpQuiet P ops C Lq l (a.put o.dst v) := by
      unfold wpQuiet at h
      cases hw : Region.wanted o (yielded ops a.tmps)
      · rw [hw] at h
        exact ⟨undef, .inr ⟨hw, rfl⟩, by simpa using h⟩
      · rw [hw] at h
        simp only [if_true] at h
        obtain ⟨v, hv, hK⟩ := h
        exact ⟨v, .inl ⟨hw, fun w' hw' => look_upon hp.1 (hv w' hw')⟩, hK⟩
    obtain ⟨v, hy, hK⟩ := hy
    rw [List.length_cons, show l.length + 1 + g = (l.length + g) + 1 by omega]
    exact firstC hF hd h0 (Region.noSelect_spec hsel) hs hc hn (by omega) _ listed a w inv (Region.free_spec h0 hf) hr' hy hC
      (lexC0 hF hd hsel hs hc hn hmq w hC hT l (k + 1) _ _ (fun j hj => by have := hl (j + 1) (by simp; omega); simpa [Nat.add_assoc, Nat.add_comm 1 j] using this) (by simp only [List.length_cons] at hk; omega) (inv.set hr' (by omega)) hB' hp.2 hK)

/-- One operation that is ready alone, by its run. -/
theorem runC {q g : Nat} {K0 : Act → World → Prop} {o : Oper} {k : Nat} {listed : Array Bool} {a : Act} {w w1 : World} {x : Next} {v : Value} (hF : IsWide F) (hd : noDeferB ops = true) (h0 : ops[k]? = some o) (hg : o.guard = none)
    (hB : Region.seqB md ops (g + 1) k listed = true) (hx : x = .value v ∨ (x = .skip ∧ v = undef)) (hr : (execOp a.eval o).run P w = .ok x w1)
    (hK : ∀ listed', Region.seqB md ops g (k + 1) listed' = true → (k < q → C w1) ∧ wpAnyC F n P md ops C K0 q g listed' (a.put o.dst v) w1) : wpAnyC F n P md ops C K0 q (g + 1) listed a w := by
  simp only [Region.seqB, Bool.and_eq_true, decide_eq_true_eq] at hB
  refine ⟨fun h1 => (by rw [hB.1] at h1; cases h1), fun i hi => ?_⟩
  rw [hB.1] at hi
  have hik : i = k := by simpa using hi
  subst hik
  unfold wpOpIn
  simp only [h0]
  rw [if_pos (by simp [Region.wanted, hg])]
  refine ⟨fun f _ => hF.fn f, ?_⟩
  rw [semAt_any (noDefer_at hd h0), hr]
  rcases hx with rfl | ⟨rfl, rfl⟩
  · simp only [Oper.uponIn]
    exact hK _ hB.2
  · simp only [Oper.uponIn]
    exact hK _ hB.2

def looksB (md : Region.Mode) (ops : Array Oper) (m : Nat) : Bool :=
  noDeferB ops && Region.noSelect ops && decide (m + 3 = ops.size) && Region.sinkB md ops (m + 2) && Region.chainB md ops (m + 2) && Region.lexHead md ops 3 m 0 (Array.replicate ops.size false) && ((ops.toList.take m).all fun o => lookOpB o.op)
/-- **m operations that only look, an entry's making, its extract, a store.** -/
theorem region_entry {id : Nat} {Q : Exit → Act → World → Prop} {a : Act} {w : World} {l : List Oper} (m : Nat) {S : Type} (sel : S → World) (s0 : S) (hs0 : sel s0 = { w with drawn := w.drawn + 1 }) (o1 o2 o3 : Oper)
    (h1 : l.toArray[m]? = some o1) (h2 : l.toArray[m + 1]? = some o2) (h3 : l.toArray[m + 2]? = some o3) (g1 : o1.guard = none) (g2 : o2.guard = none) (g3 : o3.guard = none)
    (hm : P.follows .mixedOrders = true) (hB : looksB .any l.toArray m = true)
    (h : wpQuiet P l.toArray (fun w' => ∃ s, w' = sel s) (fun a' => ∃ v1 s v2 w3, (execOp a'.eval o1).run P (sel s0) = .ok (.value v1) (sel s) ∧ (execOp (a'.put o1.dst v1).eval o2).run P (sel s) = .ok (.value v2) (sel s) ∧
      (execOp ((a'.put o1.dst v1).put o2.dst v2).eval o3).run P (sel s) = .ok .skip w3 ∧ Q .normal (((a'.put o1.dst v1).put o2.dst v2).put o3.dst undef) w3) (l.take m) a) :
    (Code.region id l.toArray true).wp P Q a w := by
  simp only [looksB, Bool.and_eq_true, decide_eq_true_eq] at hB
  obtain ⟨⟨⟨⟨⟨⟨hd, hsel⟩, hn⟩, hs⟩, hc⟩, hlex⟩, hpu⟩ := hB
  have hn' : m + 3 = l.length := by simpa using hn
  have htl : (l.take m).length = m := by simp; omega
  have inv0 : HeadInv .any l.toArray (m + 2) (Array.replicate l.toArray.size false) :=
    ⟨by simp, fun j oj _ hl => (by rw [getD_replicate_false] at hl; cases hl), fun t _ ht => getD_in (by simpa using ht) (getD_replicate_false _ _)⟩
  have H := lexC0 (md := .any) (P := P) (F := Fence.wide) (n := 0) (C := fun w' => ∃ s, w' = sel s) (K0 := Q .normal) (m := m) (q := m + 2) (g := 3) wide0 hd hsel hs hc (by omega) (by omega) (sel s0) ⟨s0, rfl⟩
    (fun listed a' hseq hL => by
      obtain ⟨v1, s, v2, w3, r1, r2, r3, hq⟩ := hL
      refine runC wide0 hd h1 g1 hseq (.inl rfl) r1 fun listed1 hseq1 => ⟨fun _ => ⟨s, rfl⟩, ?_⟩
      refine runC wide0 hd h2 g2 hseq1 (.inl rfl) r2 fun listed2 hseq2 => ⟨fun _ => ⟨s, rfl⟩, ?_⟩
      refine runC wide0 hd h3 g3 hseq2 (.inr ⟨rfl, rfl⟩) r3 fun listed3 hseq3 => ⟨fun h => by omega, ?_⟩
      exact ⟨by simpa [Region.seqB] using hseq3, hq⟩)
    (l.take m) 0 _ a (fun j hj => by
      have hj' : j < m := by rw [htl] at hj; exact hj
      simp [hj']) (by simpa using htl) inv0 (by rw [htl]; exact hlex) (by simpa using hpu) h
  rw [htl, show m + 3 = l.toArray.size from hn, hs0] at H
  refine wpIn_wide.1 (Go.wpIn_mono (wpIn_region_any hm (wpAnyC_any _ _ _ _ H)) ?_)
  intro e a' w' h'
  cases e <;> first | exact h' | exact False.elim h'
end
theorem entry_op {P : Program} {o : Oper} {a : Act} {w w' : World} {t : TypeId} {m x : Operand} {M X v : Value} (ho : o.op = .mapEntry t m x) (hm : a.eval m = M) (hx : a.eval x = X) (h : (Instr.mapEntry t M X).run P w = .ok v w') : (execOp a.eval o).run P w = .ok (.value v) w' := by
  unfold execOp
  rw [ho]
  simp only [hm, hx, Sem.run_bind, h, Result.andThen, Sem.run_pure]
theorem extract_op {P : Program} {o : Oper} {a : Act} {w : World} {m : Operand} {i : Nat} {vs : Array Value} {v : Value} (ho : o.op = .extract m i) (hm : a.eval m = .tuple vs) (h : vs[i]? = some v) : (execOp a.eval o).run P w = .ok (.value v) w := by
  unfold execOp
  rw [ho]
  simp only [hm]
  simp [go_sem, h]
theorem store_op {P : Program} {o : Oper} {a : Act} {w w' : World} {t : TypeId} {m x y : Operand} {M X Y : Value} (ho : o.op = .entryStore t m x y) (hm : a.eval m = M) (hx : a.eval x = X) (hy : a.eval y = Y) (h : (Instr.entryStore t M X Y).run P w = .ok () w') : (execOp a.eval o).run P w = .ok .skip w' := by
  unfold execOp
  rw [ho]
  simp only [hm, hx, hy, Sem.run_bind, h, Result.andThen, Sem.run_pure]
end Go.Proofs.Ytbmeemmihkedoaa
