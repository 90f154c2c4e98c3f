/-
  A region that draws its order, under the fence that lets everything by: m operations that only look (loads of cells that stay, addresses), then a call, then an operation that makes memory, then a tail in sequence. What only looks may be carried out as late as behind the maker: it is carried out first.
-/
import Derived.Test.YtbmeemmihkedoaaRound
namespace Go.Proofs.Ytbmeemmihkedoaa
open Go.Sort Go.RowKit

/-- No way but the normal one. -/
def Bot : Exit → Act → World → Prop := fun _ _ _ => False
def pureOpB : Op → Bool
  | .move _ | .load _ _ | .fieldAddr _ _ _ | .indexAddr _ _ _ => true
  | _ => false
theorem value_only (P : Program) (s : Sem Value) (w w' : World) (x : Next) (h : (do pure (Next.value (← s)) : Sem Next).run P w = .ok x w') : ∃ u, x = .value u := by
  rw [Sem.run_bind] at h
  cases hs : s.run P w with
  | ok v w1 =>
    rw [hs] at h
    simp only [Result.andThen, Sem.run_pure, Result.ok.injEq] at h
    exact ⟨v, h.1.symm⟩
  | halt y w1 => rw [hs] at h; simp [Result.andThen] at h
theorem pure_value (P : Program) (o : Oper) (a : Act) (w w' : World) (x : Next) (hp : pureOpB o.op = true) (h : (execOp a.eval o).run P w = .ok x w') : ∃ u, x = .value u := by
  unfold execOp at h
  revert hp h
  cases o.op <;> intro hp h <;> first
    | (simp [pureOpB] at hp; done)
    | exact value_only _ _ _ _ _ h
    | (simp only [Sem.run_pure, Result.ok.injEq] at h; exact ⟨_, h.1.symm⟩)
theorem pure_upon {P : Program} {C : World → Prop} {o : Oper} (hp : pureOpB o.op = true) {a : Act} {w : World} {v : Value} (h : o.quietAt P a C w v) : (execOp a.eval o).run P w = .ok (.value v) w := by
  have hv := fun x w' => pure_value P o a w w' x hp
  unfold Oper.quietAt at h
  generalize (execOp a.eval o).run P w = r at *
  cases r with
  | ok x w' =>
    obtain ⟨u, rfl⟩ := hv _ _ rfl
    simp only [Oper.quietUpon] at h
    obtain ⟨rfl, rfl⟩ := h; rfl
  | halt x w' => simp only [Oper.quietUpon] at h

section
variable {F : Fence} {n : Nat} {P : Program} {ops : Array Oper} {md : Region.Mode} {C : World → Prop} {Q : Exit → Act → World → Prop}

theorem oper_bot {o : Oper} {a : Act} {w : World} {K K' K1 : Act → World → Prop} (h : ∀ a w, K a w → K' a w) (hh : o.wpIn F n P a w K (Exit.then K1 Bot)) : o.wpIn F n P a w K' Q := by
  unfold Oper.wpIn at *
  refine ⟨hh.1, ?_⟩
  have hh := hh.2
  generalize (o.semAt F.round a.eval).run P w = r at *
  cases r with
  | ok x w' =>
    cases x <;> simp only [Oper.uponIn] at hh ⊢ <;>
      first
        | exact h _ _ hh
        | exact ⟨hh.1, RowsIn.mono hh.2 (fun _ _ he => h _ _ he)⟩
        | exact ⟨hh.1, CallsIn.mono hh.2 (fun e w'' he => by cases e <;> first | exact h _ _ he | exact False.elim he | (obtain ⟨_, _, he⟩ := he; exact False.elim he))⟩
        | exact ⟨hh.1, RoundIn.mono hh.2 (fun e w'' he => by cases e <;> first | exact h _ _ he | exact False.elim he | (obtain ⟨_, _, he⟩ := he; exact False.elim he))⟩
  | halt x w' => cases x <;> simp only [Oper.uponIn] at hh ⊢ <;> first | exact hh | exact False.elim hh

def wpAnyC (F : Fence) (n : Nat) (P : Program) (md : Region.Mode) (ops : Array Oper) (C : World → Prop) (K : Act → World → Prop) (q : Nat) : Nat → Array Bool → Act → World → Prop
  | 0, listed, a, w => Region.ready md ops listed = [] ∧ K a w
  | fuel + 1, listed, a, w =>
    (Region.ready md ops listed = [] → K a w) ∧
    ∀ i ∈ Region.ready md ops listed, wpOpIn F n P ops (Exit.then K Bot) i (fun a' w' => (i < q → C w') ∧ wpAnyC F n P md ops C K q fuel (listed.setIfInBounds i true) a' w') a w

theorem wpAnyC_any {K : Act → World → Prop} {q : Nat} : ∀ (fuel : Nat) (listed : Array Bool) (a : Act) (w : World), wpAnyC F n P md ops C K q fuel listed a w → wpAnyIn F n P md ops (Exit.then K Bot) fuel listed a w
  | 0, _, _, _, h => h
  | fuel + 1, _, _, _, h => ⟨h.1, fun i hi => wpOpIn_mono (fun a' w' h' => wpAnyC_any fuel _ a' w' h'.2) (h.2 i hi)⟩

/-- In every world of the class the operation yields v and nothing else happens. -/
def PureAt (P : Program) (ops : Array Oper) (C : World → Prop) (o : Oper) (v : Value) (a : Act) : Prop :=
  (Region.wanted o (yielded ops a.tmps) = true ∧ ∀ w, C w → (execOp a.eval o).run P w = .ok (.value v) w) ∨ (Region.wanted o (yielded ops a.tmps) = false ∧ v = undef)
theorem PureAt.of_same {o : Oper} {v : Value} {a a' : Act} (hy : PureAt P ops C o v a) (he : execOp a'.eval o = execOp a.eval o)
    (hw : Region.wanted o (yielded ops a'.tmps) = Region.wanted o (yielded ops a.tmps)) : PureAt P ops C o v a' := by
  unfold PureAt at *
  rw [he, hw]; exact hy
theorem PureAt.step {i : Nat} {o : Oper} {v : Value} {a : Act} {w : World} {K : Act → World → Prop} (hF : IsWide F) (hd : noDeferB ops = true) (hi : ops[i]? = some o) (hC : C w) (hy : PureAt P ops C o v a) (h : K (a.put o.dst v) w) : wpOpIn F n P ops Q i K a w := by
  unfold Go.wpOpIn
  simp only [hi]
  rcases hy with ⟨hw, hv⟩ | ⟨hw, rfl⟩
  · simp only [hw, if_true, Oper.wpIn, semAt_any (noDefer_at hd hi), hv w hC, Oper.uponIn]; exact ⟨fun f _ => hF.fn f, h⟩
  · simp only [hw, Bool.false_eq_true, if_false]; exact ⟨fun f _ => hF.fn f, h⟩

theorem op_putC {j : Nat} {oi oj : Oper} {v : Value} {K0 : Act → World → Prop} (hF : IsWide F) (hd : noDeferB ops = true) (hj : ops[j]? = some oj) (hap : oi.apart ops oj = true)
    (hsi : ∀ cs b, oi.op ≠ .select cs b) (hsj : ∀ cs b, oj.op ≠ .select cs b) {K : Act → World → Prop} {a : Act} {w : World}
    (hy : PureAt P ops C oi v a) (h : wpOpIn F n P ops (Exit.then K0 Bot) j K (a.put oi.dst v) w) :
    wpOpIn F n P ops (Exit.then K0 Bot) j (fun a' w' => PureAt P ops C oi v a' ∧ K (a'.put oi.dst v) w') a w := by
  obtain ⟨h1, h2, h3⟩ := Oper.apart_spec hap
  have keep : ∀ (a : Act), PureAt P ops C oi v a → ∀ u, PureAt P ops C oi v (a.put oj.dst u) := fun a hy u =>
    hy.of_same (execOp_put oi hsi a oj.dst u h3) (wanted_put oi a oj.dst u h3)
  have keepD : ∀ d, PureAt P ops C oi v { a with defers := d :: a.defers } := fun d => hy.of_same rfl rfl
  have hnd := noDefer_at hd hj
  unfold wpOpIn at *
  simp only [hj] at h ⊢
  rw [wanted_put oj a oi.dst v h1] at h
  split
  · rename_i hw
    simp only [hw, if_true] at h
    unfold Oper.wpIn at *
    refine ⟨fun f _ => hF.fn f, ?_⟩
    have h := h.2
    rw [semAt_any hnd, execOp_put oj hsj a oi.dst v h1] at h
    rw [semAt_any hnd]
    generalize (execOp a.eval oj).run P w = r at *
    cases r with
    | ok x w' =>
      cases x <;> simp only [Oper.uponIn] at h ⊢
      case value u => exact ⟨keep a hy u, by rw [← Act.put_comm a v u h2]; exact h⟩
      case skip => exact ⟨keep a hy _, by rw [← Act.put_comm a v undef h2]; exact h⟩
      case defer d =>
        refine ⟨keep _ (keepD d) _, ?_⟩
        rw [← Act.put_comm _ v undef h2, ← Act.put_defers]
        exact h
      case enter f args =>
        refine ⟨h.1, CallsIn.mono h.2 fun e w'' he => ?_⟩
        cases e with
        | returned u => exact ⟨keep a hy u, by rw [← Act.put_comm a v u h2]; exact he⟩
        | panicked c => exact False.elim he
        | outgrown => obtain ⟨_, _, he⟩ := he; exact False.elim he
      case row row args => exact ⟨h.1, RowsIn.mono h.2 fun u w'' he => ⟨keep a hy u, by rw [← Act.put_comm a v u h2]; exact he⟩⟩
      case round l f tmps assign body =>
        refine ⟨h.1, RoundIn.mono h.2 fun e w'' he => ?_⟩
        cases e with
        | returned u => exact ⟨keep a hy u, by rw [← Act.put_comm a v u h2]; exact he⟩
        | panicked c => exact False.elim he
        | outgrown => obtain ⟨_, _, he⟩ := he; exact False.elim he
    | halt x w' =>
      cases x <;> simp only [Oper.uponIn] at h ⊢
      case panic u => exact False.elim h
  · rename_i hw
    simp only [hw] at h
    exact ⟨fun f _ => hF.fn f, keep a hy _, by rw [← Act.put_comm a v undef h2]; exact h.2⟩

theorem firstC {i q : Nat} {oi : Oper} {v : Value} {K0 : Act → World → Prop} (hF : IsWide F) (hd : noDeferB ops = true) (hi : ops[i]? = some oi) (hsel : ∀ (j : Nat) (o : Oper) cs b, ops[j]? = some o → o.op ≠ .select cs b)
    (hs : Region.sinkB md ops q = true) (hc : Region.chainB md ops q = true) (hn : q < ops.size) (hin : i < q) :
    ∀ (fuel : Nat) (listed : Array Bool) (a : Act) (w : World), HeadInv md ops q listed →
      (∀ j oj, ops[j]? = some oj → j ≠ i → listed.getD j true = false → (∀ e ∈ oj.after, Region.binds md e = true → e.on ≠ i) → oi.apart ops oj = true) →
      i ∈ Region.ready md ops listed → PureAt P ops C oi v a → C w →
      wpAnyC F n P md ops C K0 q fuel (listed.setIfInBounds i true) (a.put oi.dst v) w → wpAnyC F n P md ops C K0 q (fuel + 1) listed a w := by
  intro fuel
  induction fuel with
  | zero =>
    intro listed a w inv _ hr hy hC H
    have hun := (mem_ready.1 hr).1
    refine ⟨fun h => (by rw [h] at hr; cases hr), fun j hj => ?_⟩
    by_cases hji : j = i
    · subst hji; exact hy.step hF hd hi hC ⟨fun _ => hC, H⟩
    · have := ready_mono hj hji
      rw [H.1] at this
      cases this
  | succ fuel ih =>
    intro listed a w inv hfree hr hy hC H
    have hun := (mem_ready.1 hr).1
    refine ⟨fun h => (by rw [h] at hr; cases hr), fun j hj => ?_⟩
    have hjn : j < q := by
      rcases Nat.lt_or_ge j q with h | h
      · exact h
      · exact absurd hj (tail_waits hs hc hn inv _ i rfl hin hun j h)
    by_cases hji : j = i
    · subst hji; exact hy.step hF hd hi hC ⟨fun _ => hC, H⟩
    · have h1 := H.2 j (ready_mono hj hji)
      obtain ⟨hjun, oj, hoj, hall⟩ := mem_ready.1 hj
      have hnot : ∀ e ∈ oj.after, Region.binds md e = true → e.on ≠ i := fun e he hb heq => by
        have h1 := hall e he hb
        rw [heq, getD_both hun] at h1
        cases h1
      have h2 := op_putC hF hd hoj (hfree j oj hoj hji hjun hnot) (fun cs b => hsel i oi cs b hi) (fun cs b => hsel j oj cs b hoj) hy h1
      have hfree' : ∀ k ok, ops[k]? = some ok → k ≠ i → (listed.setIfInBounds j true).getD k true = false →
          (∀ e ∈ ok.after, Region.binds md e = true → e.on ≠ i) → oi.apart ops ok = true := fun k ok hk hki hun hno => by
        refine hfree k ok hk hki ?_ hno
        by_cases hjk : j = k
        · subst hjk; exact hjun
        · rw [getD_set_ne true hjk] at hun; exact hun
      refine wpOpIn_mono (fun a' w' h3 => ⟨h3.2.1, ih (listed.setIfInBounds j true) a' w' (inv.set hj hjn) hfree' (ready_mono hr (Ne.symm hji)) h3.1 (h3.2.1 hjn) ?_⟩) h2
      rw [Array.setIfInBounds_comm _ _ hji]
      exact h3.2.2

theorem lexC {m q g : Nat} {K0 : Act → World → Prop} {Lq : Act → Prop} (hF : IsWide F) (hd : noDeferB ops = true) (hsel : Region.noSelect ops = true) (hs : Region.sinkB md ops q = true) (hc : Region.chainB md ops q = true) (hn : q < ops.size) (hmq : m ≤ q)
    (hT : ∀ listed a w, C w → Region.seqB md ops g m listed = true → Lq a → wpAnyC F n P md ops C K0 q g listed a w) :
    ∀ (l : List Oper) (k : Nat) (listed : Array Bool) (a : Act) (w : World), (∀ j, j < l.length → l[j]? = ops[k + j]?) → k + l.length = m → HeadInv md ops q listed →
    Region.lexHead md ops g l.length k listed = true → (l.all fun o => pureOpB o.op) = true → C w → wpQuiet P ops C Lq l a → wpAnyC F n P md ops C K0 q (l.length + g) listed a w
  | [], k, listed, a, w, _, hk, _, hB, _, hC, h => by
    have : k = m := by simpa using hk
    subst this
    rw [List.length_nil, Nat.zero_add]
    exact hT listed a w hC (by simpa [Region.lexHead] using hB) h
  | o :: l, k, listed, a, w, hl, hk, inv, hB, hp, hC, h => by
    have h0 : ops[k]? = some o := by simpa using (hl 0 (by simp)).symm
    simp only [List.length_cons, Region.lexHead, Bool.and_eq_true] at hB
    obtain ⟨⟨hr, hf⟩, hB'⟩ := hB
    simp only [List.all_cons, Bool.and_eq_true] at hp
    have hkn : k < m := by simp only [List.length_cons] at hk; omega
    have hr' : k ∈ Region.ready md ops listed := by simpa using hr
    have hy : ∃ v, PureAt P ops C o v a ∧ wpQuiet P ops C Lq l (a.put o.dst v) := by
      unfold wpQuiet at h
      cases hw : Region.wanted o (yielded ops a.tmps)
      · rw [hw] at h
        exact ⟨undef, .inr ⟨hw, rfl⟩, by simpa using h⟩
      · rw [hw] at h
        simp only [if_true] at h
        obtain ⟨v, hv, hK⟩ := h
        exact ⟨v, .inl ⟨hw, fun w' hw' => pure_upon hp.1 (hv w' hw')⟩, hK⟩
    obtain ⟨v, hy, hK⟩ := hy
    rw [List.length_cons, show l.length + 1 + g = (l.length + g) + 1 by omega]
    exact firstC hF hd h0 (Region.noSelect_spec hsel) hs hc hn (by omega) _ listed a w inv (Region.free_spec h0 hf) hr' hy hC
      (lexC hF hd hsel hs hc hn hmq hT l (k + 1) _ _ w (fun j hj => by have := hl (j + 1) (by simp; omega); simpa [Nat.add_assoc, Nat.add_comm 1 j] using this) (by simp only [List.length_cons] at hk; omega) (inv.set hr' (by omega)) hB' hp.2 hC hK)

theorem seqC {q : Nat} {K0 : Act → World → Prop} : ∀ (l : List Oper) (k : Nat) (listed : Array Bool) (a : Act) (w : World), q ≤ k → (∀ j, l[j]? = ops[k + j]?) →
    Region.seqB md ops l.length k listed = true → wpListIn F n P ops (Exit.then K0 Bot) l a w → wpAnyC F n P md ops C K0 q l.length listed a w
  | [], _, _, _, _, _, _, hB, h => ⟨by simpa [Region.seqB] using hB, h⟩
  | o :: l, k, listed, a, w, hq, hl, hB, h => by
    have h0 : ops[k]? = some o := by simpa using (hl 0).symm
    simp only [List.length_cons, Region.seqB, Bool.and_eq_true, decide_eq_true_eq] at hB
    refine ⟨fun h1 => (by rw [hB.1] at h1; cases h1), fun i hi => ?_⟩
    rw [hB.1] at hi
    have hik : i = k := by simpa using hi
    subst hik
    have hw : wpOpIn F n P ops (Exit.then K0 Bot) i (wpListIn F n P ops (Exit.then K0 Bot) l) a w := by unfold wpOpIn; simp only [h0]; exact h
    exact wpOpIn_mono (fun a' w' h' => ⟨fun h1 => by omega, seqC l (i + 1) _ a' w' (by omega) (fun j => by have := hl (j + 1); simpa [Nat.add_assoc, Nat.add_comm 1 j] using this) hB.2 h'⟩) hw

/-- One operation that is ready alone, behind which the class still holds. -/
theorem oneC {q g : Nat} {K0 K1 : Act → World → Prop} {o : Oper} {k : Nat} {listed : Array Bool} {a : Act} {w : World} (h0 : ops[k]? = some o)
    (hB : Region.seqB md ops (g + 1) k listed = true) (h : wpListIn F n P ops (Exit.then K1 Bot) [o] a w)
    (hK : ∀ listed' a' w', Region.seqB md ops g (k + 1) listed' = true → K1 a' w' → C w' ∧ wpAnyC F n P md ops C K0 q g listed' a' w') : wpAnyC F n P md ops C K0 q (g + 1) listed a w := by
  simp only [Region.seqB, Bool.and_eq_true, decide_eq_true_eq] at hB
  refine ⟨fun h1 => (by rw [hB.1] at h1; cases h1), fun i hi => ?_⟩
  rw [hB.1] at hi
  have hik : i = k := by simpa using hi
  subst hik
  unfold wpOpIn
  simp only [h0]
  unfold wpListIn at h
  split
  · rename_i hw
    rw [if_pos hw] at h
    exact oper_bot (fun a' w' h' => by
      obtain ⟨h1, h2⟩ := hK _ a' w' hB.2 h'
      exact ⟨fun _ => h1, h2⟩) h
  · rename_i hw
    rw [if_neg hw] at h
    refine ⟨h.1, ?_⟩
    obtain ⟨h1, h2⟩ := hK _ _ w hB.2 h.2
    exact ⟨fun _ => h1, h2⟩

def makeB (md : Region.Mode) (ops : Array Oper) (m : Nat) : Bool :=
  Region.noSelect ops && decide (m + 2 < ops.size) && Region.sinkB md ops (m + 2) && Region.chainB md ops (m + 2) && Region.lexHead md ops (ops.size - m) m 0 (Array.replicate ops.size false) && ((ops.toList.take m).all fun o => pureOpB o.op)

/-- **m operations that only look, a call, a maker, a tail in sequence.** -/
theorem region_make_in {id : Nat} {a : Act} {w : World} {l : List Oper} (m : Nat) (hF : IsWide F) (hd : noDeferB l.toArray = true) (hm : P.follows .mixedOrders = true) (hB : makeB .any l.toArray m = true)
    (h : wpQuiet P l.toArray (fun w' => ∃ p : Regrown, w' = grow (redrawn w p.d) p.os) (fun a' => ∀ w', (∃ p : Regrown, w' = grow (redrawn w p.d) p.os) →
      wpListIn F n P l.toArray (Exit.then (fun a1 w1 => Below w.heap.size w w1 ∧ wpListIn F n P l.toArray (Exit.then (fun a2 w2 => Below w.heap.size w w2 ∧ wpListIn F n P l.toArray (Exit.then (Q .normal) Bot) (l.drop (m + 2)) a2 w2) Bot) ((l.drop (m + 1)).take 1) a1 w1) Bot) ((l.drop m).take 1) a' w') (l.take m) a) :
    (Code.region id l.toArray true).wpIn F n P Q a w := by
  simp only [makeB, Bool.and_eq_true, decide_eq_true_eq] at hB
  obtain ⟨⟨⟨⟨⟨hsel, hn⟩, hs⟩, hc⟩, hlex⟩, hpu⟩ := hB
  have hn' : m + 2 < l.length := by simpa using hn
  have htl : (l.take m).length = m := by simp; omega
  have inv0 : HeadInv .any l.toArray (m + 2) (Array.replicate l.toArray.size false) :=
    ⟨by simp, fun j oj _ hl => (by rw [getD_replicate_false] at hl; cases hl), fun t _ ht => getD_in (by simpa using ht) (getD_replicate_false _ _)⟩
  have hC : ∃ p : Regrown, ({ w with drawn := w.drawn + 1 } : World) = grow (redrawn w p.d) p.os := ⟨⟨w.drawn + 1, #[]⟩, by rw [grow_empty]; rfl⟩
  obtain ⟨g, hg⟩ : ∃ g, l.toArray.size - m = g + 1 + 1 := ⟨l.toArray.size - m - 2, by simp; omega⟩
  have e0 : (l.drop m).take 1 = [l[m]'(by omega)] := by rw [List.drop_eq_getElem_cons (by omega)]; rfl
  have e1 : (l.drop (m + 1)).take 1 = [l[m + 1]'(by omega)] := by rw [List.drop_eq_getElem_cons (by omega)]; rfl
  have hdl : (l.drop (m + 2)).length = g := by simp at hg ⊢; omega
  have H := lexC (md := .any) (P := P) (F := F) (n := n) (C := fun w' => ∃ p : Regrown, w' = grow (redrawn w p.d) p.os) (K0 := Q .normal) (m := m) (q := m + 2) (g := l.toArray.size - m) hF hd hsel hs hc hn (by omega)
    (fun listed a' w' hC' hseq hL => by
      rw [hg] at hseq ⊢
      have h1 := hL w' hC'
      rw [e0] at h1
      refine oneC (k := m) (by simp) hseq h1 fun listed1 a1 w1 hseq1 ⟨hb1, h2⟩ => ⟨regrown_of_below hb1, ?_⟩
      rw [e1] at h2
      refine oneC (k := m + 1) (by simp) hseq1 h2 fun listed2 a2 w2 hseq2 ⟨hb2, h3⟩ => ⟨regrown_of_below hb2, ?_⟩
      have := seqC (md := .any) (C := fun w' => ∃ p : Regrown, w' = grow (redrawn w p.d) p.os) (q := m + 2) (l.drop (m + 2)) (m + 2) listed2 a2 w2 (Nat.le_refl _) (fun j => by simp [List.getElem?_drop]) (by rw [hdl]; exact hseq2) h3
      rwa [hdl] at this)
    (l.take m) 0 _ a _ (fun j hj => by
      have hj' : j < m := by rw [htl] at hj; exact hj
      simp [hj']) (by simpa using htl) inv0 (by rw [htl]; exact hlex) (by simpa using hpu) hC h
  rw [htl, show m + (l.toArray.size - m) = l.toArray.size by simp at hn ⊢; omega] at H
  refine Go.wpIn_mono (wpIn_region_any hm (wpAnyC_any _ _ _ _ H)) ?_
  intro e a' w' h'
  cases e <;> first | exact h' | exact False.elim h'
end
end Go.Proofs.Ytbmeemmihkedoaa
