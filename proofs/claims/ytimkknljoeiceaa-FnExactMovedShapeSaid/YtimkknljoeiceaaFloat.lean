/-
  A region that draws its order in a function's own frame: m operations that read or call (callees may make memory), one or two allocs that may come at any time, then a tail in sequence. One walk of the head serves every order; where a new block lies is any number.
-/
import Derived.Test.YtimkknljoeiceaaRound
namespace Go.Proofs.Ytimkknljoeiceaa
open Go.Sort Go.RowKit

/-- Nothing that was there has changed. -/
def Now (w w' : World) : Prop := Below w.heap.size w w'
theorem Calls.now {P : Program} {f : FuncId} {args : Array Value} {w : World} {v : Value} (h : Calls P f args w fun e w' => e = .returned v ∧ Below w.heap.size w w') : Calls P f args w fun e w' => e = .returned v ∧ Now w w' := h
def uponB (P : Program) (w : World) (v : Value) : Result Next → Prop
  | .ok (.value u) w' => w' = w ∧ u = v
  | .ok .skip w' => w' = w ∧ v = undef
  | .ok (.enter f args) w' => w' = w ∧ Calls P f args w fun e w'' => e = .returned v ∧ Now w w''
  | _ => False
def quietB (P : Program) (C : World → Prop) (o : Oper) (a : Act) (K : Act → Prop) : Prop := ∃ v, (∀ w, C w → uponB P w v ((execOp a.eval o).run P w)) ∧ K (a.put o.dst v)
def wpQuietB (P : Program) (ops : Array Oper) (C : World → Prop) (Q : Act → Prop) : List Oper → Act → Prop
  | [], a => Q a
  | o :: rest, a => if Region.wanted o (yielded ops a.tmps) = true then quietB P C o a (wpQuietB P ops C Q rest) else wpQuietB P ops C Q rest (a.put o.dst undef)

section
variable {P : Program} {ops : Array Oper} {md : Region.Mode} {C : World → Prop}

theorem quietB_mono {o : Oper} {a : Act} {K K' : Act → Prop} (h : ∀ a, K a → K' a) (hh : quietB P C o a K) : quietB P C o a K' :=
  let ⟨v, h1, h2⟩ := hh
  ⟨v, h1, h _ h2⟩
theorem wpQuietB_step {Q : Act → Prop} {a : Act} {o : Oper} {rest : List Oper}
    (h : ∀ K : Act → Prop, (∀ a, wpQuietB P ops C Q rest a → K a) → if Region.wanted o (yielded ops a.tmps) = true then quietB P C o a K else K (a.put o.dst undef)) : wpQuietB P ops C Q (o :: rest) a := by
  have := h (wpQuietB P ops C Q rest) (fun _ h => h)
  exact this
theorem wpQuietB_nil {Q : Act → Prop} {a : Act} (h : Q a) : wpQuietB P ops C Q [] a := h

/-- What an operation yields, in every world of the class. -/
def YieldsB (P : Program) (ops : Array Oper) (C : World → Prop) (o : Oper) (v : Value) (a : Act) : Prop :=
  (Region.wanted o (yielded ops a.tmps) = true ∧ ∀ w, C w → uponB P w v ((execOp a.eval o).run P w)) ∨ (Region.wanted o (yielded ops a.tmps) = false ∧ v = undef)
theorem YieldsB.of_same {o : Oper} {v : Value} {a a' : Act} (hy : YieldsB P ops C o v a) (he : execOp a'.eval o = execOp a.eval o)
    (hw : Region.wanted o (yielded ops a'.tmps) = Region.wanted o (yielded ops a.tmps)) : YieldsB P ops C o v a' := by
  unfold YieldsB at *
  rw [he, hw]; exact hy
theorem YieldsB.put {o : Oper} {v : Value} {a : Act} (hy : YieldsB P ops C o v a) (hs : ∀ cs b, o.op ≠ .select cs b) {d : Option Tmp} {u : Value} (h : ∀ e, d = some e → e ∉ o.looksAt ops) : YieldsB P ops C o v (a.put d u) :=
  hy.of_same (execOp_put o hs a d u h) (wanted_put o a d u h)
/-- One operation, by what it yields. -/
def opB (P : Program) (ops : Array Oper) (C : World → Prop) (i : Nat) (K : Act → Prop) (a : Act) : Prop := ∃ o v, ops[i]? = some o ∧ YieldsB P ops C o v a ∧ K (a.put o.dst v)

theorem wpOp_of_opB {i : Nat} {a : Act} {K : Act → Prop} {K' : Act → World → Prop} {Q' : Exit → Act → World → Prop} {w : World} (hC : C w)
    (h : ∀ a w', Below w.heap.size w w' → K a → K' a w') (hh : opB P ops C i K a) : wpOp P ops Q' i K' a w := by
  obtain ⟨o, v, ho, hy, hK⟩ := hh
  unfold wpOp
  simp only [ho]
  rcases hy with ⟨hw, h1⟩ | ⟨hw, rfl⟩
  · rw [if_pos hw]
    left
    have h3 := h1 w hC
    unfold Oper.wp
    generalize (execOp a.eval o).run P w = r at *
    cases r with
    | ok nx w' =>
      cases nx <;> simp only [uponB] at h3 <;> simp only [Oper.upon]
      case value u =>
        obtain ⟨e1, e2⟩ := h3
        rw [e1, e2]
        exact h _ _ (Below.refl _ _) hK
      case skip =>
        obtain ⟨e1, e2⟩ := h3
        rw [e1, ← e2]
        exact h _ _ (Below.refl _ _) hK
      case enter f args =>
        obtain ⟨e1, hc⟩ := h3
        rw [e1]
        exact hc.mono fun e w'' ⟨he, hw''⟩ => by subst he; exact h _ _ hw'' hK
    | halt x w' => simp only [uponB] at h3
  · rw [if_neg (by rw [hw]; exact Bool.false_ne_true)]
    exact h _ _ (Below.refl _ _) hK

def upd (G : Nat → Nat) (i g : Nat) : Nat → Nat := fun k => if k = i then g else G k
theorem upd_comm (G : Nat → Nat) {i j : Nat} (g h : Nat) (hne : i ≠ j) : upd (upd G i g) j h = upd (upd G j h) i g := by
  funext k
  unfold upd
  by_cases h1 : k = i
  · subst h1
    rw [if_neg hne, if_pos rfl, if_pos rfl]
  · by_cases h2 : k = j
    · subst h2
      rw [if_pos rfl, if_neg h1, if_pos rfl]
    · rw [if_neg h2, if_neg h1, if_neg h1, if_neg h2]
abbrev ptrV (g : Nat) : Value := .pointer (some ⟨g, 0, none⟩)
def dstOf (ops : Array Oper) (i : Nat) : Option Tmp := (ops[i]?).bind (·.dst)

/-- Every order of the head and of the floats; L behind them. -/
def wpX (P : Program) (md : Region.Mode) (ops : Array Oper) (C : World → Prop) (m q : Nat) (L : Array Bool → Act → (Nat → Nat) → Prop) : Nat → Array Bool → Act → (Nat → Nat) → Prop
  | 0, listed, a, G => L listed a G
  | f + 1, listed, a, G => Region.ready md ops listed ≠ [] ∧ ∀ i ∈ Region.ready md ops listed, i < q ∧
      (i < m → opB P ops C i (fun a' => wpX P md ops C m q L f (listed.setIfInBounds i true) a' G) a) ∧
      (m ≤ i → ∀ g, wpX P md ops C m q L f (listed.setIfInBounds i true) (a.put (dstOf ops i) (ptrV g)) (upd G i g))

structure Floats (P : Program) (md : Region.Mode) (ops : Array Oper) (m q : Nat) (obj : Nat → Obj) : Prop where
  op : ∀ i, m ≤ i → i < q → ∃ o, ops[i]? = some o ∧ o.guard = none ∧ (∀ e ∈ o.after, Region.binds md e = false) ∧ (∀ a w, (execOp (Act.eval a) o).run P w = .ok (.value (ptrV w.heap.size)) (w.alloc (obj i)))
  ne : ∀ i j, m ≤ i → i < q → m ≤ j → j < q → i ≠ j → ∀ d, dstOf ops i = some d → dstOf ops j ≠ some d

def Fresh (base m q : Nat) (obj : Nat → Obj) (listed : Array Bool) (G : Nat → Nat) (w : World) : Prop :=
  ∀ i, m ≤ i → i < q → listed.getD i false = true → base ≤ G i ∧ w.heap[G i]? = some (obj i) ∧ ∀ j, m ≤ j → j < q → listed.getD j false = true → j ≠ i → G j ≠ G i
theorem Fresh.lt {base m q : Nat} {obj : Nat → Obj} {listed : Array Bool} {G : Nat → Nat} {w : World} (h : Fresh base m q obj listed G w) {i : Nat} (h1 : m ≤ i) (h2 : i < q) (h3 : listed.getD i false = true) : G i < w.heap.size :=
  (Array.getElem?_eq_some_iff.1 (h i h1 h2 h3).2.1).1
theorem Fresh.step {base m q : Nat} {obj : Nat → Obj} {listed : Array Bool} {G : Nat → Nat} {w w' : World} (h : Fresh base m q obj listed G w) (hb : Below w.heap.size w w') : Fresh base m q obj listed G w' :=
  fun i h1 h2 h3 => ⟨(h i h1 h2 h3).1, (hb.block _ (h.lt h1 h2 h3)).trans (h i h1 h2 h3).2.1, (h i h1 h2 h3).2.2⟩
theorem Fresh.head {base m q : Nat} {obj : Nat → Obj} {listed : Array Bool} {G : Nat → Nat} {w : World} (h : Fresh base m q obj listed G w) {k : Nat} (hk : k < m) : Fresh base m q obj (listed.setIfInBounds k true) G w :=
  fun i h1 h2 h3 => by
    rw [getD_set_ne false (by omega)] at h3
    refine ⟨(h i h1 h2 h3).1, (h i h1 h2 h3).2.1, fun j h4 h5 h6 => ?_⟩
    rw [getD_set_ne false (by omega)] at h6
    exact (h i h1 h2 h3).2.2 j h4 h5 h6
theorem Fresh.float {base m q : Nat} {obj : Nat → Obj} {listed : Array Bool} {G : Nat → Nat} {w : World} (h : Fresh base m q obj listed G w) (hb : base ≤ w.heap.size) (k : Nat) : Fresh base m q obj (listed.setIfInBounds k true) (upd G k w.heap.size) (w.alloc (obj k)) := by
  intro i h1 h2 h3
  by_cases hik : i = k
  · subst hik
    have e : upd G i w.heap.size i = w.heap.size := by simp [upd]
    refine ⟨by rw [e]; exact hb, by rw [e]; exact heap_alloc_new w _, fun j h4 h5 h6 h7 => ?_⟩
    rw [getD_set_ne false (Ne.symm h7)] at h6
    have := h.lt h4 h5 h6
    rw [e]
    simp only [upd, if_neg h7]
    omega
  · rw [getD_set_ne false (Ne.symm hik)] at h3
    have e : upd G k w.heap.size i = G i := by simp [upd, hik]
    have hl := h.lt h1 h2 h3
    refine ⟨by rw [e]; exact (h i h1 h2 h3).1, by rw [e]; exact (Below.heap_alloc w _ _ hl).trans (h i h1 h2 h3).2.1, fun j h4 h5 h6 h7 => ?_⟩
    rw [e]
    by_cases hjk : j = k
    · subst hjk
      simp only [upd, if_true]; omega
    · rw [getD_set_ne false (Ne.symm hjk)] at h6
      simp only [upd, if_neg hjk]
      exact (h i h1 h2 h3).2.2 j h4 h5 h6 h7

theorem wpAny_of_X {m q g base : Nat} {obj : Nat → Obj} {L : Array Bool → Act → (Nat → Nat) → Prop} {Q' : Exit → Act → World → Prop} (hF : Floats P md ops m q obj) (hCB : ∀ w w', C w → Below w.heap.size w w' → C w') (hbase : ∀ w, C w → base ≤ w.heap.size)
    (hL : ∀ listed a G w, C w → Fresh base m q obj listed G w → L listed a G → wpAny P md ops Q' g listed a w) :
    ∀ (f : Nat) (listed : Array Bool) (a : Act) (G : Nat → Nat) (w : World), C w → Fresh base m q obj listed G w → wpX P md ops C m q L f listed a G → wpAny P md ops Q' (f + g) listed a w
  | 0, listed, a, G, w, hw, hf, h => by rw [Nat.zero_add]; exact hL _ _ _ _ hw hf h
  | f + 1, listed, a, G, w, hw, hf, h => by
    rw [show f + 1 + g = (f + g) + 1 by omega]
    refine ⟨fun h0 => absurd h0 h.1, fun i hi => ?_⟩
    obtain ⟨hq, h1, h2⟩ := h.2 i hi
    rcases Nat.lt_or_ge i m with him | him
    · exact wpOp_of_opB hw (fun a' w' hb h' => wpAny_of_X hF hCB hbase hL f _ a' G w' (hCB _ _ hw hb) ((hf.head him).step hb) h') (h1 him)
    · obtain ⟨o, ho, hg, _, hr⟩ := hF.op i him hq
      unfold wpOp
      simp only [ho]
      have hwant : Region.wanted o (yielded ops a.tmps) = true := by simp [Region.wanted, hg]
      rw [if_pos hwant]
      left
      unfold Oper.wp
      rw [hr]
      simp only [Oper.upon]
      have hd : dstOf ops i = o.dst := by simp [dstOf, ho]
      have := h2 him w.heap.size
      rw [hd] at this
      exact wpAny_of_X hF hCB hbase hL f _ _ _ _ (hCB _ _ hw (Below.alloc (Below.refl _ _) (Nat.le_refl _) _)) (hf.float (hbase w hw) i) this

/-- While an operation ahead of q is not yet carried out, none behind it is ready ('pre': carried out from the start). -/
def TW (md : Region.Mode) (ops : Array Oper) (q : Nat) (pre : Nat → Bool) : Prop :=
  ∀ listed, HeadInv md ops q listed → (∀ i, pre i = true → listed.getD i false = true) → ∀ i, i < q → listed.getD i true = false → ∀ t, q ≤ t → t ∉ Region.ready md ops listed
theorem tw_none {q : Nat} (hs : Region.sinkB md ops q = true) (hc : Region.chainB md ops q = true) (hn : q < ops.size) : TW md ops q (fun _ => false) :=
  fun _ inv _ i hi hun t ht => tail_waits hs hc hn inv _ i rfl hi hun t ht
theorem wpX_first {m q i : Nat} {oi : Oper} {v : Value} {L : Array Bool → Act → (Nat → Nat) → Prop} (hi : ops[i]? = some oi) (hsel : ∀ (j : Nat) (o : Oper) cs b, ops[j]? = some o → o.op ≠ .select cs b)
    {pre : Nat → Bool} (htw : TW md ops q pre) (hmq : m ≤ q) (hin : i < m)
    (hdone : ∀ listed a G, L listed a G → ∀ j ∈ Region.ready md ops listed, q ≤ j) :
    ∀ (f : Nat) (listed : Array Bool) (a : Act) (G : Nat → Nat), HeadInv md ops q listed → (∀ k, pre k = true → listed.getD k false = true) →
      (∀ j oj, ops[j]? = some oj → j ≠ i → listed.getD j true = false → (∀ e ∈ oj.after, Region.binds md e = true → e.on ≠ i) → oi.apart ops oj = true) →
      i ∈ Region.ready md ops listed → YieldsB P ops C oi v a →
      wpX P md ops C m q L f (listed.setIfInBounds i true) (a.put oi.dst v) G → wpX P md ops C m q L (f + 1) listed a G := by
  intro f
  induction f with
  | zero =>
    intro listed a G inv hpre _ hr hy H
    have hun := (mem_ready.1 hr).1
    refine ⟨fun h => (by rw [h] at hr; cases hr), fun j hj => ?_⟩
    have hjn : j < q := by
      rcases Nat.lt_or_ge j q with h | h
      · exact h
      · exact absurd hj (htw listed inv hpre i (by omega) hun j h)
    by_cases hji : j = i
    · subst hji
      exact ⟨hjn, fun _ => ⟨oi, v, hi, hy, H⟩, fun h => by omega⟩
    · have := hdone _ _ _ H j (ready_mono hj hji)
      omega
  | succ f ih =>
    intro listed a G inv hpre hfree hr hy H
    have hun := (mem_ready.1 hr).1
    refine ⟨fun h => (by rw [h] at hr; cases hr), fun j hj => ?_⟩
    have hjn : j < q := by
      rcases Nat.lt_or_ge j q with h | h
      · exact h
      · exact absurd hj (htw listed inv hpre i (by omega) hun j h)
    refine ⟨hjn, ?_⟩
    by_cases hji : j = i
    · subst hji
      exact ⟨fun _ => ⟨oi, v, hi, hy, H⟩, fun h => by omega⟩
    · obtain ⟨_, h1, h2⟩ := H.2 j (ready_mono hj hji)
      obtain ⟨hjun, oj, hoj, hall⟩ := mem_ready.1 hj
      have hnot : ∀ e ∈ oj.after, Region.binds md e = true → e.on ≠ i := fun e he hb heq => by
        have h1 := hall e he hb
        rw [heq, getD_both hun] at h1
        cases h1
      obtain ⟨p1, p2, p3⟩ := Oper.apart_spec (hfree j oj hoj hji hjun hnot)
      have hfree' : ∀ k ok, ops[k]? = some ok → k ≠ i → (listed.setIfInBounds j true).getD k true = false →
          (∀ e ∈ ok.after, Region.binds md e = true → e.on ≠ i) → oi.apart ops ok = true := fun k ok hk hki hun hno => by
        refine hfree k ok hk hki ?_ hno
        by_cases hjk : j = k
        · subst hjk; exact hjun
        · rw [getD_set_ne true hjk] at hun; exact hun
      have hsi := fun cs b => hsel i oi cs b hi
      have hsj := fun cs b => hsel j oj cs b hoj
      refine ⟨fun hjm => ?_, fun hjm g => ?_⟩
      · obtain ⟨o', u, ho', hy', hK⟩ := h1 hjm
        obtain rfl : o' = oj := Option.some.inj (ho'.symm.trans hoj)
        refine ⟨o', u, hoj, ?_, ?_⟩
        · exact hy'.of_same (execOp_put o' hsj a oi.dst v p1).symm (wanted_put o' a oi.dst v p1).symm
        · refine ih (listed.setIfInBounds j true) _ G (inv.set hj hjn) (fun k hk => getD_set_true (hpre k hk)) hfree' (ready_mono hr (Ne.symm hji)) (hy.put hsi p3) ?_
          rw [Array.setIfInBounds_comm _ _ hji, ← Act.put_comm a v u p2]
          exact hK
      · have hd : dstOf ops j = oj.dst := by simp [dstOf, hoj]
        have h3 := h2 hjm g
        rw [hd] at h3 ⊢
        refine ih (listed.setIfInBounds j true) _ _ (inv.set hj hjn) (fun k hk => getD_set_true (hpre k hk)) hfree' (ready_mono hr (Ne.symm hji)) (hy.put hsi p3) ?_
        rw [Array.setIfInBounds_comm _ _ hji, ← Act.put_comm a v (ptrV g) p2]
        exact h3

theorem wpX_float {m q i : Nat} {obj : Nat → Obj} {L : Array Bool → Act → (Nat → Nat) → Prop} (hF : Floats P md ops m q obj)
    {pre : Nat → Bool} (htw : TW md ops q pre) (him : m ≤ i) (hin : i < q)
    (hdone : ∀ listed a G, L listed a G → ∀ j ∈ Region.ready md ops listed, q ≤ j) :
    ∀ (f : Nat) (listed : Array Bool) (a : Act) (G : Nat → Nat), HeadInv md ops q listed → (∀ k, pre k = true → listed.getD k false = true) → (∀ j, j < m → listed.getD j false = true) → listed.getD i true = false →
      (∀ g, wpX P md ops C m q L f (listed.setIfInBounds i true) (a.put (dstOf ops i) (ptrV g)) (upd G i g)) → wpX P md ops C m q L (f + 1) listed a G := by
  obtain ⟨oi, hoi, _, hdep, _⟩ := hF.op i him hin
  have rdy : ∀ listed : Array Bool, listed.getD i true = false → i ∈ Region.ready md ops listed := fun listed h => mem_ready.2 ⟨h, oi, hoi, fun e he hb => by rw [hdep e he] at hb; cases hb⟩
  intro f
  induction f with
  | zero =>
    intro listed a G inv hpre hh hun H
    have hr := rdy listed hun
    refine ⟨fun h => (by rw [h] at hr; cases hr), fun j hj => ?_⟩
    have hjn : j < q := by
      rcases Nat.lt_or_ge j q with h | h
      · exact h
      · exact absurd hj (htw listed inv hpre i hin hun j h)
    by_cases hji : j = i
    · subst hji
      exact ⟨hjn, fun h => by omega, fun _ g => H g⟩
    · have := hdone _ _ _ (H 0) j (ready_mono hj hji)
      omega
  | succ f ih =>
    intro listed a G inv hpre hh hun H
    have hr := rdy listed hun
    refine ⟨fun h => (by rw [h] at hr; cases hr), fun j hj => ?_⟩
    have hjn : j < q := by
      rcases Nat.lt_or_ge j q with h | h
      · exact h
      · exact absurd hj (htw listed inv hpre i hin hun j h)
    refine ⟨hjn, ?_⟩
    by_cases hji : j = i
    · subst hji
      exact ⟨fun h => by omega, fun _ g => H g⟩
    · have hjm : m ≤ j := by
        rcases Nat.lt_or_ge j m with h | h
        · have h1 := (mem_ready.1 hj).1
          have := hh j h
          rw [getD_both h1] at this
          cases this
        · exact h
      refine ⟨fun h => by omega, fun _ gj => ?_⟩
      refine ih _ _ _ (inv.set hj hjn) (fun k hk => getD_set_true (hpre k hk)) (fun k hk => getD_set_true (hh k hk)) (by rw [getD_set_ne true hji]; exact hun) fun gi => ?_
      have h2 := ((H gi).2 j (ready_mono hj hji)).2.2 hjm gj
      rw [Array.setIfInBounds_comm _ _ hji, upd_comm G gj gi hji, Act.put_comm a (ptrV gj) (ptrV gi) (hF.ne j i hjm hjn him hin hji)]
      exact h2

def lexHeadX (md : Region.Mode) (ops : Array Oper) (fin : Array Bool → Bool) : Nat → Nat → Array Bool → Bool
  | 0, _, listed => fin listed
  | f + 1, k, listed => (Region.ready md ops listed).contains k && Region.free md ops listed k && lexHeadX md ops fin f (k + 1) (listed.setIfInBounds k true)

theorem opB_of_quietB {Q : Act → Prop} {i : Nat} {a : Act} {o : Oper} {rest : List Oper} (hi : ops[i]? = some o) (h : wpQuietB P ops C Q (o :: rest) a) : opB P ops C i (wpQuietB P ops C Q rest) a := by
  unfold wpQuietB at h
  cases hw : Region.wanted o (yielded ops a.tmps)
  · rw [hw] at h
    exact ⟨o, undef, hi, .inr ⟨hw, rfl⟩, by simpa using h⟩
  · rw [hw] at h
    simp only [if_true] at h
    obtain ⟨v, hv, hK⟩ := h
    exact ⟨o, v, hi, .inl ⟨hw, hv⟩, hK⟩
theorem wpX_lex {m q r : Nat} {fin : Array Bool → Bool} {L : Array Bool → Act → (Nat → Nat) → Prop} {Lq : Act → Prop} (hsel : Region.noSelect ops = true) {pre : Nat → Bool} (htw : TW md ops q pre) (hn : q < ops.size) (hmq : m ≤ q)
    (hdone : ∀ listed a G, L listed a G → ∀ j ∈ Region.ready md ops listed, q ≤ j)
    (hfin : ∀ listed a G, HeadInv md ops q listed → (∀ k, pre k = true → listed.getD k false = true) → (∀ j, j < m → listed.getD j false = true) → (∀ j, m ≤ j → j < q → listed.getD j true = false) → fin listed = true → Lq a → wpX P md ops C m q L r listed a G) :
    ∀ (l : List Oper) (k : Nat) (listed : Array Bool) (a : Act) (G : Nat → Nat), (∀ j, j < l.length → l[j]? = ops[k + j]?) → k + l.length = m → HeadInv md ops q listed → (∀ k, pre k = true → listed.getD k false = true) →
    (∀ j, j < k → listed.getD j false = true) → (∀ j, m ≤ j → j < q → listed.getD j true = false) →
    lexHeadX md ops fin l.length k listed = true → wpQuietB P ops C Lq l a → wpX P md ops C m q L (l.length + r) listed a G
  | [], k, listed, a, G, _, hk, inv, hpre, hh, hf, hB, h => by
    have : k = m := by simpa using hk
    subst this
    rw [List.length_nil, Nat.zero_add]
    exact hfin _ _ _ inv hpre hh hf (by simpa [lexHeadX] using hB) h
  | o :: l, k, listed, a, G, hl, hk, inv, hpre, hh, hf, hB, h => by
    have h0 : ops[k]? = some o := by simpa using (hl 0 (by simp)).symm
    simp only [List.length_cons, lexHeadX, Bool.and_eq_true] at hB
    obtain ⟨⟨hr, hfr⟩, hB'⟩ := hB
    have hkn : k < m := by simp only [List.length_cons] at hk; omega
    have hr' : k ∈ Region.ready md ops listed := by simpa using hr
    obtain ⟨o', v, ho', hy, hK⟩ := opB_of_quietB h0 h
    obtain rfl : o' = o := Option.some.inj (ho'.symm.trans h0)
    rw [List.length_cons, show l.length + 1 + r = (l.length + r) + 1 by omega]
    refine wpX_first h0 (Region.noSelect_spec hsel) htw hmq hkn hdone _ listed a G inv hpre (Region.free_spec h0 hfr) hr' hy ?_
    refine wpX_lex hsel htw hn hmq hdone hfin l (k + 1) _ _ _ (fun j hj => by have := hl (j + 1) (by simp; omega); simpa [Nat.add_assoc, Nat.add_comm 1 j] using this) (by simp only [List.length_cons] at hk; omega) (inv.set hr' (by omega)) (fun k hk => getD_set_true (hpre k hk)) ?_ ?_ hB' hK
    · intro j hj
      by_cases hjk : j = k
      · subst hjk
        have hlt : j < listed.size := by rw [inv.size]; exact (Array.getElem?_eq_some_iff.1 h0).1
        simp [hlt]
      · exact getD_set_true (hh j (by omega))
    · intro j h1 h2
      rw [getD_set_ne true (by omega)]; exact hf j h1 h2

/-- No operation waits for a float but behind q, and floats wait for nothing. -/
def floatOp (md : Region.Mode) (o : Oper) : Bool := o.guard.isNone && o.after.all (fun e => !Region.binds md e) && o.dst.isSome
def float1B (md : Region.Mode) (ops : Array Oper) (m : Nat) : Bool :=
  Region.noSelect ops && decide (m + 1 < ops.size) && Region.sinkB md ops (m + 1) && Region.chainB md ops (m + 1) && (ops[m]?).any (floatOp md)
    && lexHeadX md ops (fun listed => Region.seqB md ops (ops.size - (m + 1)) (m + 1) (listed.setIfInBounds m true)) m 0 (Array.replicate ops.size false)
def float2B (md : Region.Mode) (ops : Array Oper) (m : Nat) : Bool :=
  Region.noSelect ops && decide (m + 2 < ops.size) && Region.sinkB md ops (m + 2) && Region.chainB md ops (m + 2) && (ops[m]?).any (floatOp md) && (ops[m + 1]?).any (floatOp md) && dstOf ops m != dstOf ops (m + 1)
    && lexHeadX md ops (fun listed => Region.seqB md ops (ops.size - (m + 2)) (m + 2) ((listed.setIfInBounds m true).setIfInBounds (m + 1) true)) m 0 (Array.replicate ops.size false)
theorem floatOp_spec {o : Oper} (h : floatOp md o = true) : o.guard = none ∧ (∀ e ∈ o.after, Region.binds md e = false) ∧ o.dst.isSome = true := by
  simp only [floatOp, Bool.and_eq_true, Option.isNone_iff_eq_none] at h
  refine ⟨h.1.1, fun e he => ?_, h.2⟩
  have := Array.all_eq_true'.1 h.1.2 e he
  simpa using this
theorem below_class {w w1 w2 : World} (h : ∃ p : Regrown, w1 = grow (redrawn w p.d) p.os) (hb : Below w1.heap.size w1 w2) : ∃ p : Regrown, w2 = grow (redrawn w p.d) p.os := by
  obtain ⟨p, rfl⟩ := h
  exact regrown_of_below ((below_regrown w p.d p.os).trans (hb.mono (below_regrown w p.d p.os).size))
theorem any_some {o : Option Oper} {p : Oper → Bool} (h : o.any p = true) : ∃ x, o = some x ∧ p x = true := by
  cases o with
  | none => cases h
  | some x => exact ⟨x, rfl, h⟩

def allocAtB (ops : Array Oper) (i : Nat) (T : TypeId) : Bool := (ops[i]?).any fun o => match o.op with
  | .alloc t => t == T
  | _ => false
theorem alloc_run {i : Nat} {T : TypeId} {ob : Obj} (h : allocAtB ops i T = true) (hz : ∀ w, (Instr.alloc T true (.tuple #[])).run P w = .ok (ptrV w.heap.size) (w.alloc ob)) :
    ∀ o, ops[i]? = some o → ∀ a w, (execOp (Act.eval a) o).run P w = .ok (.value (ptrV w.heap.size)) (w.alloc ob) := by
  intro o ho a w
  obtain ⟨o', ho', hb⟩ := any_some h
  obtain rfl : o' = o := Option.some.inj (ho'.symm.trans ho)
  have hop : o'.op = .alloc T := by
    revert hb
    cases o'.op <;> simp
  unfold execOp
  simp only [hop, Sem.run_bind, hz, Result.andThen, Sem.run_pure]
/-- **A head of m operations, an alloc at any time, a tail.** -/
theorem region_float1 {id : Nat} {Q : Exit → Act → World → Prop} {a : Act} {w : World} {l : List Oper} (m : Nat) (ob : Obj) (s : Tmp) (hsl : dstOf l.toArray m = some s) (hm : P.follows .mixedOrders = true) (hB : float1B .any l.toArray m = true)
    (hal : ∀ o, l.toArray[m]? = some o → ∀ a w, (execOp (Act.eval a) o).run P w = .ok (.value (ptrV w.heap.size)) (w.alloc ob))
    (h : wpQuietB P l.toArray (fun w' => ∃ p : Regrown, w' = grow (redrawn w p.d) p.os) (fun a' => ∀ g w', Below w.heap.size w w' → w.heap.size ≤ g → w'.heap[g]? = some ob → wpList P l.toArray Q (l.drop (m + 1)) (a'.put (some s) (ptrV g)) w') (l.take m) a) :
    (Code.region id l.toArray true).wp P Q a w := by
  simp only [float1B, Bool.and_eq_true, decide_eq_true_eq] at hB
  obtain ⟨⟨⟨⟨⟨hsel, hn⟩, hs⟩, hc⟩, hfl⟩, hlex⟩ := hB
  obtain ⟨o1, ho1, hf1⟩ := any_some hfl
  obtain ⟨g1, g2, g3⟩ := floatOp_spec hf1
  have hF : Floats P .any l.toArray m (m + 1) (fun _ => ob) := ⟨fun i h1 h2 => by
      obtain rfl : i = m := by omega
      exact ⟨o1, ho1, g1, g2, fun a w => hal o1 ho1 a w⟩, fun i j h1 h2 h3 h4 h5 => by omega⟩
  have hn' : m + 1 < l.length := by simpa using hn
  have htl : (l.take m).length = m := by simp; omega
  have hdl : (l.drop (m + 1)).length = l.toArray.size - (m + 1) := by simp
  have inv0 : HeadInv .any l.toArray (m + 1) (Array.replicate l.toArray.size false) :=
    ⟨by simp, fun j oj _ hl => (by rw [getD_replicate_false] at hl; cases hl), fun t _ ht => getD_in (by simpa using ht) (getD_replicate_false _ _)⟩
  have hdone : ∀ (listed : Array Bool) (a : Act) (G : Nat → Nat), (Region.seqB .any l.toArray (l.toArray.size - (m + 1)) (m + 1) listed = true ∧ listed.getD m false = true ∧ ∀ w', Below w.heap.size w w' → w.heap.size ≤ G m → w'.heap[G m]? = some ob → wpList P l.toArray Q (l.drop (m + 1)) a w') → ∀ j ∈ Region.ready .any l.toArray listed, m + 1 ≤ j := fun listed a G h => seqB_ready h.1
  have H := wpX_lex (P := P) (C := fun w' => ∃ p : Regrown, w' = grow (redrawn w p.d) p.os) (md := .any) (m := m) (q := m + 1) (r := 1)
    (fin := fun listed => Region.seqB .any l.toArray (l.toArray.size - (m + 1)) (m + 1) (listed.setIfInBounds m true)) hsel (tw_none hs hc hn) hn (by omega) hdone
    (fun listed a G inv hpre hh hf hfin hLq => wpX_float hF (tw_none hs hc hn) (Nat.le_refl m) (by omega) hdone 0 listed a G inv hpre hh (hf m (Nat.le_refl _) (by omega)) fun g =>
      ⟨hfin, (by have hlt : m < listed.size := by rw [inv.size]; omega
                 simp [hlt]), fun w' hb h1 h2 => by
        have e : upd G m g m = g := by simp [upd]
        rw [e] at h1 h2
        rw [hsl]
        exact hLq g w' hb h1 h2⟩)
    (l.take m) 0 _ a (fun _ => 0) (fun j hj => by
      have hj' : j < m := by rw [htl] at hj; exact hj
      simp [hj']) (by simpa using htl) inv0 (fun _ h => by cases h) (fun j hj => by omega) (fun j h1 h2 => getD_in (by simp; omega) (getD_replicate_false _ _)) (by rw [htl]; exact hlex) h
  have hC : ∃ p : Regrown, ({ w with drawn := w.drawn + 1 } : World) = grow (redrawn w p.d) p.os := ⟨⟨w.drawn + 1, #[]⟩, by rw [grow_empty]; rfl⟩
  refine wp_region_any hm ?_
  have := wpAny_of_X (Q' := Q) (g := l.toArray.size - (m + 1)) (base := w.heap.size) hF (fun _ _ => below_class) (fun w' ⟨p, hp⟩ => by rw [hp]; exact (below_regrown w p.d p.os).size)
    (fun listed a' G w' hw' hfr hL => by
      have hb : Below w.heap.size w w' := by obtain ⟨p, hp⟩ := hw'; rw [hp]; exact below_regrown w p.d p.os
      have hf := hfr m (Nat.le_refl _) (by omega) hL.2.1
      have := wpAny_of_seq (md := .any) (Q' := Q) (l.drop (m + 1)) (m + 1) listed a' w' (fun j => by simp [List.getElem?_drop]) (by rw [hdl]; exact hL.1) (hL.2.2 w' hb hf.1 hf.2.1)
      rwa [hdl] at this) _ _ _ _ _ hC (fun i h1 h2 h3 => by rw [getD_replicate_false] at h3; cases h3) H
  rw [htl, show m + 1 + (l.toArray.size - (m + 1)) = l.toArray.size by omega] at this
  exact this

/-- **A head of m operations, two allocs at any time, a tail.** -/
theorem region_float2 {id : Nat} {Q : Exit → Act → World → Prop} {a : Act} {w : World} {l : List Oper} (m : Nat) (ob : Obj) (s1 s2 : Tmp) (hs1 : dstOf l.toArray m = some s1) (hs2 : dstOf l.toArray (m + 1) = some s2) (hm : P.follows .mixedOrders = true) (hB : float2B .any l.toArray m = true)
    (hal : ∀ i o, m ≤ i → i < m + 2 → l.toArray[i]? = some o → ∀ a w, (execOp (Act.eval a) o).run P w = .ok (.value (ptrV w.heap.size)) (w.alloc ob))
    (h : wpQuietB P l.toArray (fun w' => ∃ p : Regrown, w' = grow (redrawn w p.d) p.os) (fun a' => ∀ g1 g2 w', Below w.heap.size w w' → w.heap.size ≤ g1 → w.heap.size ≤ g2 → g1 ≠ g2 → w'.heap[g1]? = some ob → w'.heap[g2]? = some ob →
      wpList P l.toArray Q (l.drop (m + 2)) ((a'.put (some s1) (ptrV g1)).put (some s2) (ptrV g2)) w') (l.take m) a) :
    (Code.region id l.toArray true).wp P Q a w := by
  simp only [float2B, Bool.and_eq_true, decide_eq_true_eq] at hB
  obtain ⟨⟨⟨⟨⟨⟨⟨hsel, hn⟩, hs⟩, hc⟩, hfl1⟩, hfl2⟩, hne⟩, hlex⟩ := hB
  obtain ⟨o1, ho1, hf1⟩ := any_some hfl1
  obtain ⟨g1, g2, g3⟩ := floatOp_spec hf1
  obtain ⟨o2, ho2, hf2⟩ := any_some hfl2
  obtain ⟨k1, k2, k3⟩ := floatOp_spec hf2
  have hne' : dstOf l.toArray m ≠ dstOf l.toArray (m + 1) := by simpa using hne
  have hF : Floats P .any l.toArray m (m + 2) (fun _ => ob) := ⟨fun i h1 h2 => by
      by_cases him : i = m
      · subst him; exact ⟨o1, ho1, g1, g2, fun a w => hal i o1 h1 h2 ho1 a w⟩
      · obtain rfl : i = m + 1 := by omega
        exact ⟨o2, ho2, k1, k2, fun a w => hal (m + 1) o2 h1 h2 ho2 a w⟩, fun i j h1 h2 h3 h4 h5 d hd hd' => by
      by_cases him : i = m
      · subst him
        obtain rfl : j = i + 1 := by omega
        exact hne' (hd.trans hd'.symm)
      · obtain rfl : i = m + 1 := by omega
        obtain rfl : j = m := by omega
        exact hne' (hd'.trans hd.symm)⟩
  have hn' : m + 2 < l.length := by simpa using hn
  have htl : (l.take m).length = m := by simp; omega
  have hdl : (l.drop (m + 2)).length = l.toArray.size - (m + 2) := by simp
  have inv0 : HeadInv .any l.toArray (m + 2) (Array.replicate l.toArray.size false) :=
    ⟨by simp, fun j oj _ hl => (by rw [getD_replicate_false] at hl; cases hl), fun t _ ht => getD_in (by simpa using ht) (getD_replicate_false _ _)⟩
  have hdone : ∀ (listed : Array Bool) (a : Act) (G : Nat → Nat), (Region.seqB .any l.toArray (l.toArray.size - (m + 2)) (m + 2) listed = true ∧ listed.getD m false = true ∧ listed.getD (m + 1) false = true ∧ ∀ w', Below w.heap.size w w' → w.heap.size ≤ G m → w.heap.size ≤ G (m + 1) → G m ≠ G (m + 1) → w'.heap[G m]? = some ob → w'.heap[G (m + 1)]? = some ob → wpList P l.toArray Q (l.drop (m + 2)) a w') → ∀ j ∈ Region.ready .any l.toArray listed, m + 2 ≤ j := fun listed a G h => seqB_ready h.1
  have H := wpX_lex (P := P) (C := fun w' => ∃ p : Regrown, w' = grow (redrawn w p.d) p.os) (md := .any) (m := m) (q := m + 2) (r := 2)
    (fin := fun listed => Region.seqB .any l.toArray (l.toArray.size - (m + 2)) (m + 2) ((listed.setIfInBounds m true).setIfInBounds (m + 1) true)) hsel (tw_none hs hc hn) hn (by omega) hdone
    (fun listed a G inv hpre hh hf hfin hLq => by
      have hlt1 : m < listed.size := by rw [inv.size]; omega
      have hlt2 : m + 1 < listed.size := by rw [inv.size]; omega
      have hr : m ∈ Region.ready .any l.toArray listed := mem_ready.2 ⟨hf m (Nat.le_refl _) (by omega), o1, ho1, fun e he hb => by rw [g2 e he] at hb; cases hb⟩
      refine wpX_float hF (tw_none hs hc hn) (Nat.le_refl m) (by omega) hdone 1 listed a G inv hpre hh (hf m (Nat.le_refl _) (by omega)) fun ga => ?_
      refine wpX_float hF (tw_none hs hc hn) (i := m + 1) (by omega) (by omega) hdone 0 _ _ _ (inv.set hr (by omega)) (fun k hk => getD_set_true (hpre k hk)) (fun j hj => getD_set_true (hh j hj)) (by rw [getD_set_ne true (by omega)]; exact hf (m + 1) (by omega) (by omega)) fun gb => ?_
      refine ⟨hfin, getD_set_true (by simp [hlt1]), by simp [hlt2], fun w' hb h1 h2 h3 h4 h5 => ?_⟩
      have e1 : upd (upd G m ga) (m + 1) gb m = ga := by simp [upd]
      have e2 : upd (upd G m ga) (m + 1) gb (m + 1) = gb := by simp [upd]
      rw [e1] at h1 h3 h4
      rw [e2] at h2 h3 h5
      rw [hs1, hs2]
      exact hLq ga gb w' hb h1 h2 h3 h4 h5)
    (l.take m) 0 _ a (fun _ => 0) (fun j hj => by
      have hj' : j < m := by rw [htl] at hj; exact hj
      simp [hj']) (by simpa using htl) inv0 (fun _ h => by cases h) (fun j hj => by omega) (fun j h1 h2 => getD_in (by simp; omega) (getD_replicate_false _ _)) (by rw [htl]; exact hlex) h
  have hC : ∃ p : Regrown, ({ w with drawn := w.drawn + 1 } : World) = grow (redrawn w p.d) p.os := ⟨⟨w.drawn + 1, #[]⟩, by rw [grow_empty]; rfl⟩
  refine wp_region_any hm ?_
  have := wpAny_of_X (Q' := Q) (g := l.toArray.size - (m + 2)) (base := w.heap.size) hF (fun _ _ => below_class) (fun w' ⟨p, hp⟩ => by rw [hp]; exact (below_regrown w p.d p.os).size)
    (fun listed a' G w' hw' hfr hL => by
      have hb : Below w.heap.size w w' := by obtain ⟨p, hp⟩ := hw'; rw [hp]; exact below_regrown w p.d p.os
      have hf := hfr m (Nat.le_refl _) (by omega) hL.2.1
      have hf2 := hfr (m + 1) (by omega) (by omega) hL.2.2.1
      have := wpAny_of_seq (md := .any) (Q' := Q) (l.drop (m + 2)) (m + 2) listed a' w' (fun j => by simp [List.getElem?_drop]) (by rw [hdl]; exact hL.1) (hL.2.2.2 w' hb hf.1 hf2.1 (hf2.2.2 m (Nat.le_refl _) (by omega) hL.2.1 (by omega)) hf.2.1 hf2.2.1)
      rwa [hdl] at this) _ _ _ _ _ hC (fun i h1 h2 h3 => by rw [getD_replicate_false] at h3; cases h3) H
  rw [htl, show m + 2 + (l.toArray.size - (m + 2)) = l.toArray.size by omega] at this
  exact this

/-! ### A move that may come at any time, a head, a tail -/
def sink1B (md : Region.Mode) (ops : Array Oper) (n : Nat) : Bool :=
  (List.range n).all fun i => i == 0 || (List.range (n + 1)).any fun j => decide (i < j) && Region.waitsFor md ops j i
theorem tw_one {q : Nat} (hs : sink1B md ops q = true) (hc : Region.chainB md ops q = true) (hn : q < ops.size) : TW md ops q (fun i => i == 0) := by
  intro listed inv hpre
  have h0 : listed.getD 0 false = true := hpre 0 rfl
  suffices H : ∀ (d i : Nat), q - i = d → i < q → listed.getD i true = false → ∀ t, q ≤ t → t ∉ Region.ready md ops listed from fun i hi hun t ht => H _ i rfl hi hun t ht
  intro d
  induction d using Nat.strongRecOn with
  | _ d ih =>
    intro i hd hi hun t ht hr
    obtain ⟨_, ot, hot, hall⟩ := mem_ready.1 hr
    have htlt : t < ops.size := (Array.getElem?_eq_some_iff.1 hot).1
    by_cases htn : t = q
    · subst htn
      have h1 := List.all_eq_true.1 hs i (List.mem_range.2 hi)
      simp only [Bool.or_eq_true, beq_iff_eq] at h1
      rcases h1 with rfl | h1
      · rw [getD_both hun] at h0; cases h0
      obtain ⟨j, hj, hj2⟩ := List.any_eq_true.1 h1
      simp only [Bool.and_eq_true, decide_eq_true_eq] at hj2
      obtain ⟨oj, hoj, e, he, hb, hon⟩ := Region.waitsFor_spec hj2.2
      have hjle : j ≤ t := by have := List.mem_range.1 hj; omega
      by_cases hjt : j = t
      · subst hjt
        have : oj = ot := Option.some.inj (hoj.symm.trans hot)
        subst this
        have h2 := hall e he hb
        rw [hon, getD_both hun] at h2
        cases h2
      · cases hl : listed.getD j false with
        | true =>
          have h2 := inv.closed j oj hoj hl e he hb
          rw [hon, getD_both hun] at h2
          cases h2
        | false =>
          have hjs : j < listed.size := by rw [inv.size]; omega
          exact ih (t - j) (by omega) j rfl (by omega) (getD_in hjs hl) t (Nat.le_refl _) hr
    · have h1 := List.all_eq_true.1 hc t (List.mem_range.2 htlt)
      simp only [Bool.or_eq_true, decide_eq_true_eq] at h1
      rcases h1 with h1 | h1
      · omega
      · obtain ⟨o', ho', e, he, hb, hon⟩ := Region.waitsFor_spec h1
        have : o' = ot := Option.some.inj (ho'.symm.trans hot)
        subst this
        have h2 := hall e he hb
        rw [hon, getD_both (inv.tail (t - 1) (by omega) (by omega))] at h2
        cases h2

def move1B (md : Region.Mode) (ops : Array Oper) (m : Nat) : Bool :=
  Region.noSelect ops && decide (m < ops.size) && decide (1 ≤ m) && sink1B md ops m && Region.chainB md ops m && (Region.ready md ops (Array.replicate ops.size false)).contains 0 && Region.free md ops (Array.replicate ops.size false) 0
    && lexHeadX md ops (fun listed => Region.seqB md ops (ops.size - m) m listed) (m - 1) 1 ((Array.replicate ops.size false).setIfInBounds 0 true)
/-- **A move that may come at any time, then operations 1 to m - 1 that read or call, then a tail.** -/
theorem region_move1 {id : Nat} {Q : Exit → Act → World → Prop} {a : Act} {w : World} {l : List Oper} (m : Nat) (o : Oper) (x : Operand) (h0 : l.toArray[0]? = some o) (hop : o.op = .move x) (hg : o.guard = none)
    (hQ : ∀ c a d v w, Q (.panic c) (a.put d v) w → Q (.panic c) a w) (hm : P.follows .mixedOrders = true) (hB : move1B .any l.toArray m = true)
    (h : wpQuietB P l.toArray (fun w' => ∃ p : Regrown, w' = grow (redrawn w p.d) p.os) (fun a' => ∀ w', Below w.heap.size w w' → wpList P l.toArray Q (l.drop m) a' w') ((l.take m).drop 1) (a.put o.dst (a.eval x))) :
    (Code.region id l.toArray true).wp P Q a w := by
  simp only [move1B, Bool.and_eq_true, decide_eq_true_eq] at hB
  obtain ⟨⟨⟨⟨⟨⟨⟨hsel, hn⟩, h1m⟩, hs⟩, hc⟩, hr0⟩, hf0⟩, hlex⟩ := hB
  have hn' : m < l.length := by simpa using hn
  have htl : ((l.take m).drop 1).length = m - 1 := by simp; omega
  have hdl : (l.drop m).length = l.toArray.size - m := by simp
  have inv0 : HeadInv .any l.toArray m (Array.replicate l.toArray.size false) :=
    ⟨by simp, fun j oj _ hl => (by rw [getD_replicate_false] at hl; cases hl), fun t _ ht => getD_in (by simpa using ht) (getD_replicate_false _ _)⟩
  have hr0' : 0 ∈ Region.ready .any l.toArray (Array.replicate l.toArray.size false) := by simpa using hr0
  have hF : Floats P .any l.toArray m m (fun _ => Obj.cells #[] 0) := ⟨fun i h1 h2 => by omega, fun i j h1 h2 h3 h4 h5 => by omega⟩
  have hdone : ∀ (listed : Array Bool) (a : Act) (G : Nat → Nat), (Region.seqB .any l.toArray (l.toArray.size - m) m listed = true ∧ ∀ w', Below w.heap.size w w' → wpList P l.toArray Q (l.drop m) a w') → ∀ j ∈ Region.ready .any l.toArray listed, m ≤ j := fun listed a G h => seqB_ready h.1
  have hset0 : ((Array.replicate l.toArray.size false).setIfInBounds 0 true).getD 0 false = true := by
    have : 0 < l.toArray.size := by omega
    simp
    omega
  have H := wpX_lex (P := P) (C := fun w' => ∃ p : Regrown, w' = grow (redrawn w p.d) p.os) (md := .any) (m := m) (q := m) (r := 0)
    (fin := fun listed => Region.seqB .any l.toArray (l.toArray.size - m) m listed) hsel (tw_one hs hc hn) hn (Nat.le_refl m) hdone
    (fun listed a G inv hpre hh hf hfin hLq => ⟨hfin, hLq⟩)
    ((l.take m).drop 1) 1 _ _ (fun _ => 0) (fun j hj => by
      have hj' : j < m - 1 := by rw [htl] at hj; exact hj
      have e1 : ((l.take m).drop 1)[j]? = l[1 + j]? := by
        rw [List.getElem?_drop, List.getElem?_take, if_pos (by omega)]
      rw [e1]; simp) (by rw [htl]; omega) (inv0.set hr0' (by omega))
    (fun i hi => by
      obtain rfl : i = 0 := by simpa using hi
      exact hset0) (fun j hj => by
      obtain rfl : j = 0 := by omega
      exact hset0) (fun j h1 h2 => by omega) (by rw [htl]; exact hlex) h
  have hC : ∃ p : Regrown, ({ w with drawn := w.drawn + 1 } : World) = grow (redrawn w p.d) p.os := ⟨⟨w.drawn + 1, #[]⟩, by rw [grow_empty]; rfl⟩
  refine wp_region_any hm ?_
  have hx := wpAny_of_X (Q' := Q) (g := l.toArray.size - m) (base := w.heap.size) hF (fun _ _ => below_class) (fun w' ⟨p, hp⟩ => by rw [hp]; exact (below_regrown w p.d p.os).size)
    (fun listed a' G w' hw' hfr hL => by
      have hb : Below w.heap.size w w' := by obtain ⟨p, hp⟩ := hw'; rw [hp]; exact below_regrown w p.d p.os
      have := wpAny_of_seq (md := .any) (Q' := Q) (l.drop m) m listed a' w' (fun j => by simp [List.getElem?_drop]) (by rw [hdl]; exact hL.1) (hL.2 w' hb)
      rwa [hdl] at this) _ _ _ _ _ hC (fun i h1 h2 h3 => by omega) H
  rw [htl, show m - 1 + 0 + (l.toArray.size - m) = l.toArray.size - 1 by omega] at hx
  have hy : Yields P l.toArray o (a.eval x) a := .inl ⟨by simp [Region.wanted, hg], fun w => by unfold execOp; rw [hop]; rfl⟩
  have := wpAny_first (md := .any) h0 (Region.noSelect_spec hsel) (fun c a w => hQ c a _ _ w) (l.toArray.size - 1) _ a _ (Region.free_spec h0 hf0) hr0' hy hx
  rwa [show l.toArray.size - 1 + 1 = l.toArray.size by omega] at this
end
end Go.Proofs.Ytimkknljoeiceaa
