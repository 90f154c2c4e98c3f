/-
  (tally).count: the map's sum, step by step.
-/
import Derived.Test.YtbmeemmihkedoaaKeyT
import Derived.Test.YtbmeemmihkedoaaEntry
namespace Go.Proofs.Ytbmeemmihkedoaa
open Go.RowKit
open Go.Maps (Keyed)
open Go.ChangeMaps Go.MapKept

theorem setBlockT_same {w : World} {b : Nat} {o : Obj} (h : w.heap[b]? = some o) : setBlock w b o = w := by
  obtain ⟨hl, he⟩ := Array.getElem?_eq_some_iff.1 h
  unfold setBlock
  have e : w.heap.set! b o = w.heap := by
    rw [Array.set!_eq_setIfInBounds, Array.setIfInBounds, dif_pos hl]
    apply Array.ext (by simp)
    intro i h1 h2
    rw [Array.getElem_set]
    by_cases q : b = i
    · subst q; rw [if_pos rfl]; exact he.symm
    · rw [if_neg q]
  cases w
  simp_all
theorem setBlockT_twice {w : World} {b : Nat} {o o' : Obj} : setBlock (setBlock w b o) b o' = setBlock w b o' := by
  unfold setBlock
  simp
/-- The operations of 't[key] += n' one by one; the look-up is the same ahead of the entry's making and behind it. -/
theorem addT_runs {w : World} {b n : Nat} {K : List (Int × Int)} {V : Int × Int → Int} {D : DataW Unit} {p q v : Int} (h : MapV w b K V n D) (hp : wf64 p) (hq : wf64 q) (hn : n < 1000) (hV : wf64 (V (p, q) + v)) :
    ∃ (v0 : Value) (st : Nat) (w1 w2 : World), (Instr.mapEntry 81 (.map (some b)) (.agg #[.int .i64 p, .int .i64 q])).run Try.prog w = .ok (.tuple #[v0, goInt st]) w1 ∧
      (Instr.lookup 81 (.map (some b)) (.agg #[.int .i64 p, .int .i64 q]) false).run Try.prog w = .ok (.int .i64 (V (p, q))) w ∧
      (Instr.lookup 81 (.map (some b)) (.agg #[.int .i64 p, .int .i64 q]) false).run Try.prog w1 = .ok (.int .i64 (V (p, q))) w1 ∧
      (Instr.entryStore 81 (.map (some b)) (goInt st) (.int .i64 (V (p, q) + v))).run Try.prog w1 = .ok () w2 ∧
      w.grownBy w1 (some b) ∧ w.grownBy w2 (some b) ∧ w2.ownsMap Try.prog 27 (plainElem Try.prog 3) b (n + 1) (D.put (kl p q) (.lit (.int .i64 (V (p, q) + v)))) := by
  have hM := h
  have hml : n < maxLen := by unfold maxLen; omega
  obtain ⟨c, hlk, hat, -⟩ := hM.own.lookup_int pt_keyed Try.underlying81 Try.underlying3 (zeroT w) (pt_key hp hq)
  have hce : c = V (p, q) := by
    have q1 := hM.at' p q hp hq
    rw [hat] at q1
    exact litT_inj q1
  rw [hce] at hlk
  obtain ⟨wz, hrz, hoz, hgz⟩ := hM.own.update pt_keyed Try.underlying81 hml (pt_key hp hq) (plainElem_int Try.underlying3 (a := 0) (q := .i64) (by decide))
  obtain ⟨w2, hr2, ho2, hg2⟩ := hM.own.update pt_keyed Try.underlying81 hml (pt_key hp hq) (plainElem_int Try.underlying3 (a := V (p, q) + v) (q := .i64) hV)
  obtain ⟨es, clock, hb, F, hs, hD⟩ := hM.own
  obtain ⟨v0, st, es1, clock1, hme, -, hst⟩ := WideElems.entry_then_store pt_law Try.underlying81 (fun u => zeroT u) hb F (pt_key hp hq)
  have h1b : (setBlock w b (.map es1 clock1)).heap[b]? = some (.map es1 clock1) := heap_setBlock_same hb _
  obtain ⟨es', clock', hes, hmu⟩ := hst (setBlock w b (.map es1 clock1)) (.int .i64 (V (p, q) + v)) h1b
  have hw2 : w2 = setBlock w b (.map es' clock') := by
    rw [hr2] at hmu
    exact (Result.ok.inj hmu).2
  rw [setBlockT_twice, ← hw2] at hes
  rcases pt_law.find w (pt_key hp hq) es.toList F.keys with ⟨h1, h2⟩ | ⟨j, e0, h1, h2, h3⟩
  · have hme2 : (Instr.mapEntry 81 (.map (some b)) (.agg #[.int .i64 p, .int .i64 q])).run Try.prog w = .ok (.tuple #[.int .i64 0, goInt clock]) (setBlock w b (.map (es.push ⟨(.agg #[.int .i64 p, .int .i64 q]), .int .i64 0, clock⟩) (clock + 1))) := by
      simp [Instr.mapEntry, run_underlying Try.underlying81, MapKept.run_getObj_map hb, pt_law.check w false (pt_key hp hq), h1, MapKept.run_setObj_map _ hb, Result.andThen, setBlock]
    have hmu2 : (Instr.mapUpdate 81 (.map (some b)) (.agg #[.int .i64 p, .int .i64 q]) (.int .i64 0)).run Try.prog w = .ok () (setBlock w b (.map (es.push ⟨(.agg #[.int .i64 p, .int .i64 q]), .int .i64 0, clock⟩) (clock + 1))) := by
      simp [Instr.mapUpdate, run_underlying Try.underlying81, MapKept.run_getObj_map hb, pt_law.check w false (pt_key hp hq), h1, MapKept.run_setObj_map _ hb, Result.andThen, setBlock]
    have hw1 : setBlock w b (.map es1 clock1) = wz := by
      rw [hme] at hme2
      rw [hrz] at hmu2
      exact (Result.ok.inj hme2).2.trans (Result.ok.inj hmu2).2.symm
    rw [hw1] at hme hes
    have hc0 : V (p, q) = 0 := by
      rcases Maps.fit_look false pt_keyed Try.underlying81 (zeroT w) hb F (pt_key hp hq) with ⟨hrun, -, -⟩ | ⟨e0, y, hm0, hk0, -⟩
      · rw [hlk] at hrun
        exact Value.int.inj (Result.ok.inj hrun).1 |>.2
      · exact absurd hk0 (h2 e0 hm0)
    obtain ⟨c1, hlk1, hat1, -⟩ := hoz.lookup_int pt_keyed Try.underlying81 Try.underlying3 (zeroT wz) (pt_key hp hq)
    have hc1 : c1 = V (p, q) := by
      rw [Maps.atKey_put_same hM.own.isMap (pt_keyed.key (pt_key hp hq))] at hat1
      rw [hc0]
      exact (litT_inj hat1).symm
    rw [hc1] at hlk1
    exact ⟨v0, st, wz, w2, hme, hlk, hlk1, hes, hgz, hg2, ho2⟩
  · have hj : es[j]? = some e0 := by simpa using h2
    have hsame : es.modify j (fun e => { e with key := (.agg #[.int .i64 p, .int .i64 q]) }) = es := by
      apply Array.ext'
      rw [Array.toList_modify, modify_eq_set _ _ _ _ h2]
      have : ({ e0 with key := (.agg #[.int .i64 p, .int .i64 q]) } : MapEntry) = e0 := by rw [← h3]
      rw [this]
      exact WideElems.set_self _ _ _ h2
    have hme2 : (Instr.mapEntry 81 (.map (some b)) (.agg #[.int .i64 p, .int .i64 q])).run Try.prog w = .ok (.tuple #[e0.val, goInt e0.born]) (setBlock w b (.map es clock)) := by
      simp [Instr.mapEntry, run_underlying Try.underlying81, MapKept.run_getObj_map hb, pt_law.check w false (pt_key hp hq), h1, hj, h3, pt_law.stays w (pt_key hp hq), hsame, MapKept.run_setObj_map _ hb, Result.andThen, setBlock]
    have hw1 : setBlock w b (.map es1 clock1) = w := by
      rw [hme, setBlockT_same hb] at hme2
      exact (Result.ok.inj hme2).2
    rw [hw1] at hme hes
    exact ⟨v0, st, w, w2, hme, hlk, hlk, hes, grownT_refl _ _, hg2, ho2⟩
/-- The same, with the two worlds in one letter. -/
theorem addT_sel {w : World} {b n : Nat} {K : List (Int × Int)} {V : Int × Int → Int} {D : DataW Unit} {p q v : Int} (h : MapV w b K V n D) (hp : wf64 p) (hq : wf64 q) (hn : n < 1000) (hV : wf64 (V (p, q) + v)) :
    ∃ (sel : Nat → World) (v0 : Value) (st : Nat) (w3 : World), sel 0 = { w with drawn := w.drawn + 1 } ∧
      (Instr.mapEntry 81 (.map (some b)) (.agg #[.int .i64 p, .int .i64 q])).run Try.prog (sel 0) = .ok (.tuple #[v0, goInt st]) (sel 1) ∧
      (∀ s, (Instr.lookup 81 (.map (some b)) (.agg #[.int .i64 p, .int .i64 q]) false).run Try.prog (sel s) = .ok (.int .i64 (V (p, q))) (sel s)) ∧
      (Instr.entryStore 81 (.map (some b)) (goInt st) (.int .i64 (V (p, q) + v))).run Try.prog (sel 1) = .ok () w3 ∧
      (∀ s, w.grownBy (sel s) (some b)) ∧ w.grownBy w3 (some b) ∧ w3.ownsMap Try.prog 27 (plainElem Try.prog 3) b (n + 1) (D.put (kl p q) (.lit (.int .i64 (V (p, q) + v)))) := by
  have hd : w.grownBy ({ w with drawn := w.drawn + 1 } : World) (some b) := ⟨rfl, rfl, rfl, Nat.le_refl _, fun _ _ _ => rfl⟩
  have h' : MapV ({ w with drawn := w.drawn + 1 } : World) b K V n D := h.grown (belowT_grown ((Below.refl _ w).drew)) (by simp)
  obtain ⟨v0, st, w1, w2, r1, r2, r3, r4, g1, g2, hC⟩ := addT_runs h' hp hq hn hV
  obtain ⟨sel, e0, e1⟩ : ∃ sel : Nat → World, sel 0 = { w with drawn := w.drawn + 1 } ∧ ∀ n, sel (n + 1) = w1 := ⟨fun s => Nat.casesOn s { w with drawn := w.drawn + 1 } fun _ => w1, rfl, fun _ => rfl⟩
  have e1' : sel 1 = w1 := e1 0
  refine ⟨sel, v0, st, w2, e0, by rw [e0, e1']; exact r1, fun s => ?_, by rw [e1']; exact r4, fun s => ?_, hd.andThen g2 (fun j hj => by cases hj; exact .inr rfl), hC⟩
  · cases s with
    | zero => rw [e0]; exact r2
    | succ s => rw [e1 s]; exact r3
  · cases s with
    | zero => rw [e0]; exact hd
    | succ s => rw [e1 s]; exact hd.andThen g1 (fun j hj => by cases hj; exact .inr rfl)
theorem cell_sel1 {w w' : World} {b g o : Nat} {v : Value} (h : w.cell? ⟨g, o, none⟩ = some v) (hg : w.grownBy w' (some b)) (hne : g ≠ b) : w'.cell? ⟨g, o, none⟩ = some v := by
  have hlt : g < w.heap.size := by
    rcases Nat.lt_or_ge g w.heap.size with q | q
    · exact q
    · simp [World.cell?, Array.getElem?_eq_none q] at h
  have e : w'.heap[g]? = w.heap[g]? := hg.block g hlt (fun e => hne (Option.some.inj e))
  simpa only [World.cell?, e] using h
set_option maxRecDepth 100000 in
set_option maxHeartbeats 4000000 in
/-- **t.count(key, n)**. -/
theorem tally_any (b n : Nat) (M : Ms) (p q v : Int) (w : World) (h : MapM w b M n) (hM : OrdM M) (hp : wf64 p) (hq : wf64 q) (hn : n < 1000) (hv : (valM M (p, q)).natAbs ≤ 1000000) (hv2 : v.natAbs ≤ 1000000) :
    Calls Try.prog 95 #[.map (some b), (.agg #[.int .i64 p, .int .i64 q]), .int .i64 v] w fun e w' => (∃ r, e = .returned r) ∧ MapM w' b (putM M (p, q) v) (n + 1) ∧ w.grownBy w' (some b) := by
  obtain ⟨D, hD⟩ := h
  have hbl := hD.own.lt
  have a0 := at_new w p q 27
  have hb0 := below1 w (.cells #[.int .i64 p, .int .i64 q] 27)
  have hD0 := hD.grown (belowT_grown hb0) (by simp)
  have hg0 : w.grownBy (w.alloc (.cells #[.int .i64 p, .int .i64 q] 27)) (some b) := ⟨hb0.os, hb0.tape, hb0.output, hb0.size, fun k hk _ => hb0.block k hk⟩
  obtain ⟨x, hx⟩ : ∃ x, x = valM M (p, q) := ⟨_, rfl⟩
  have hwf : wf64 (valM M (p, q) + v) := WalkArith.wf_i64 (by omega)
  obtain ⟨sel, v0, st, w3, es0, r1, r2, r3, gs, g3, ho⟩ := addT_sel hD0 hp hq hn hwf
  have hP : MapV w3 b ((p, q) :: M.map Prod.fst) (fun z => if z = (p, q) then valM M (p, q) + v else valM M z) (n + 1) _ := mapV_put hp hq hD0 ho
  have c0 : ∀ s, (sel s).cell? ⟨w.heap.size, 0, none⟩ = some (.int .i64 p) := fun s => cell_sel1 a0.c0 (gs s) (by omega)
  have c1 : ∀ s, (sel s).cell? ⟨w.heap.size, 1, none⟩ = some (.int .i64 q) := fun s => cell_sel1 a0.c1 (gs s) (by omega)
  have d0 : w3.cell? ⟨w.heap.size, 0, none⟩ = some (.int .i64 p) := cell_sel1 a0.c0 g3 (by omega)
  have d1 : w3.cell? ⟨w.heap.size, 1, none⟩ = some (.int .i64 q) := cell_sel1 a0.c1 g3 (by omega)
  have hgw : w.grownBy w3 (some b) := hg0.andThen g3 (fun j hj => by cases hj; exact .inr rfl)
  have h3 := hP.own.lookup_int pt_keyed Try.underlying81 Try.underlying3 (zeroT w3) (pt_key hp hq)
  obtain ⟨c, hlk, hat, -⟩ := h3
  have hce : c = valM M (p, q) + v := by
    have q1 := hP.at' p q hp hq
    rw [hat, if_pos rfl] at q1
    exact litT_inj q1
  rw [hce] at hlk
  have HE := Lib.hid (fun hv0 => mapM_put (w := w.alloc (.cells #[.int .i64 p, .int .i64 q] 27)) hM hp hq hD0 hv0 ho)
  have HX : Hid (wrap64 (x + v) = x + v ∧ IntKind.i64.wrap (x + v) = x + v) := ⟨IntWalk.wrap64_in _ (by omega), IntWalk.i64_in _ (by omega)⟩
  have HP := Lib.hid hP
  rw [← hx] at r2 r3 hlk HE
  obtain ⟨s, hs⟩ : ∃ s, s = x + v := ⟨_, rfl⟩
  have f1 : wrap64 (x + v) = s := by rw [HX.out.1, hs]
  have f2 : IntKind.i64.wrap (x + v) = s := by rw [HX.out.2, hs]
  rw [← hs] at r3 hlk HE
  have HS := Lib.hid (And.intro hx hs)
  have R1 := Lib.hid r1; have R3 := Lib.hid r3
  have HG := Lib.hid hgw
  clear hx hs r1 r3 HX hce hat hwf hP ho hD hD0 hg0 hb0 a0 g3 gs hv hv2 hgw
  go_enter Try.func95, Try.ntmps95
  go_wp2_with fail
  refine region_entry 5 sel 0 es0 _ _ _ (by rfl) (by rfl) (by rfl) (by rfl) (by rfl) (by rfl) (by kernel_rfl) (by kernel_rfl) ?_
  simp only [List.take_succ_cons, List.take_zero]
  repeat (first
    | go_big_quiet_step (fail)
    | quiet_step (fail))
  refine wpQuiet_nil ?_
  refine ⟨.tuple #[v0, goInt st], 1, goInt st, w3, entry_op rfl rfl rfl R1.out, extract_op rfl rfl rfl, store_op rfl rfl rfl rfl R3.out, ?_⟩
  clear r2 es0 c0 c1 R1 R3 f1 f2
  go_simp
  by_cases hz : s = 0
  · have HO := HP.out.own
    subst hz
    go_wp2_with (first
      | (at_delete; refine wpList_delete_own _ rfl _ _ 81 27 rfl 3 pt_keyed Try.underlying81 _ b (n + 1) _ rfl HO (.agg #[.int .i64 p, .int .i64 q]) (kl p q) rfl (pt_key hp hq) ?_; intro w4 hown4 hturn4)
      | go_in)
    go_end0
    exact ⟨⟨_, rfl⟩, mapM_del hM hp hq HP.out (by have := HS.out.2; have := HS.out.1; omega) hown4, HG.out.andThen hturn4.grown (fun j hj => by cases hj; exact .inr rfl)⟩
  · have hz' : (s == 0) = false := beq_eq_false_iff_ne.2 hz
    go_wp2_with fail
    go_end0
    exact ⟨⟨_, rfl⟩, HE.out (by have := HS.out.2; have := HS.out.1; omega), HG.out⟩
end Go.Proofs.Ytbmeemmihkedoaa
