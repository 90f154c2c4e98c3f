/-
  IsTriangulation of the program, its counting map, and the law.
-/
import Derived.Test.YtoemmaeglhdjnaaEntry
import Derived.Test.YtoemmaeglhdjnaaTriWalk
import Derived.Test.YtoemmaeglhdjnaaSum
import Derived.Test.YtoemmaeglhdjnaaPolyLaw
import Derived.Test.YtoemmaeglhdjnaaArgSS
/-
  A map that counts pairs: 'm[pair{p, q}]++'.
-/
namespace Go.Proofs.Ytoemmaeglhdjnaa
open Go.RowKit
open Go.Maps (Keyed)
open Go.ChangeMaps Go.MapKept

/-- Block b is a map that says of each pair how often it occurs in E. -/
def CntM (w : World) (b : Nat) (E : List (Int × Int)) (n : Nat) : Prop := ∃ (K : List (Int × Int)) (D : DataW Unit), MapC w b K (fun z => (E.count z : Int)) n D ∧ ∀ z, z ∈ K ↔ z ∈ E
theorem cntM_made (w : World) : CntM (w.alloc (.map #[] 0)) w.heap.size [] 0 :=
  ⟨[], .map [], ⟨World.ownsMap_made _ _ _ _, fun _ _ _ _ => ⟨fun h => absurd h Bool.false_ne_true, fun h => absurd h List.not_mem_nil⟩, fun _ _ _ _ => rfl, fun _ hz => absurd hz List.not_mem_nil, List.nodup_nil⟩, fun _ => Iff.rfl⟩
theorem MapC.grown {w w' : World} {b n : Nat} {K : List (Int × Int)} {f : Int × Int → Int} {D : DataW Unit} (h : MapC w b K f n D) (hg : w.grownBy w' none) : MapC w' b K f n D :=
  ⟨h.own.kept hg (by simp), h.has, h.at', h.wf, h.nodup⟩
theorem CntM.on {w w' : World} {b n : Nat} {E : List (Int × Int)} (h : CntM w b E n) (hb : Below w.heap.size w w') : CntM w' b E n := by
  obtain ⟨K, D, h1, h2⟩ := h
  exact ⟨K, D, h1.grown (below_grown hb), h2⟩
theorem CntM.mono {w : World} {b n n' : Nat} {E : List (Int × Int)} (h : CntM w b E n) (hn : n ≤ n') : CntM w b E n' := by
  obtain ⟨K, D, h1, h2⟩ := h
  exact ⟨K, D, ⟨h1.own.mono hn, h1.has, h1.at', h1.wf, h1.nodup⟩, h2⟩
theorem count_snoc (E : List (Int × Int)) (x z : Int × Int) : ((E ++ [x]).count z : Int) = (E.count z : Int) + bif z == x then 1 else 0 := by
  rw [List.count_append, List.count_singleton]
  by_cases h : z = x
  · subst h; simp
  · have h1 : (z == x) = false := beq_eq_false_iff_ne.2 h
    have h2 : (x == z) = false := beq_eq_false_iff_ne.2 (Ne.symm h)
    rw [h1, h2]; simp
theorem cntM_put {w w' : World} {b n : Nat} {E K : List (Int × Int)} {D : DataW Unit} {p q : Int} (hp : wf64 p) (hq : wf64 q)
    (h : MapC w b K (fun z => (E.count z : Int)) n D) (hm : ∀ z, z ∈ K ↔ z ∈ E)
    (ho : w'.ownsMap Try.prog 72 (plainElem Try.prog 3) b (n + 1) (D.put (kl p q) (.lit (.int .i64 ((E.count (p, q) : Int) + 1))))) : CntM w' b (E ++ [(p, q)]) (n + 1) := by
  have hk := pr_keyed.key (pr_key hp hq)
  have hD := h.own.isMap
  obtain ⟨K', hK', hn'⟩ : ∃ K' : List (Int × Int), (∀ z, z ∈ K' ↔ z ∈ K ∨ z = (p, q)) ∧ K'.Nodup := by
    by_cases hz : (p, q) ∈ K
    · exact ⟨K, fun z => ⟨.inl, fun h => h.elim id fun e => e ▸ hz⟩, h.nodup⟩
    · exact ⟨(p, q) :: K, fun z => by rw [List.mem_cons, or_comm], List.nodup_cons.2 ⟨hz, h.nodup⟩⟩
  have hmem : ∀ z, z ∈ K' ↔ z ∈ E ++ [(p, q)] := fun z => by rw [hK', hm, List.mem_append, List.mem_singleton]
  refine ⟨K', _, ⟨ho, ?_, ?_, ?_, hn'⟩, hmem⟩
  · intro a c ha hc
    rw [hK']
    by_cases e : (a, c) = (p, q)
    · simp only [Prod.mk.injEq] at e
      obtain ⟨rfl, rfl⟩ := e
      rw [Maps.has_put_same hD hk]
      exact ⟨fun _ => .inr rfl, fun _ => rfl⟩
    · rw [Maps.has_put_other (kl_ne ha hc hp hq e), h.has a c ha hc]
      exact ⟨.inl, fun x => x.elim id fun x => absurd x e⟩
  · intro a c ha hc
    rw [cntK_count hmem (fun z _ => rfl)]
    by_cases e : (a, c) = (p, q)
    · simp only [Prod.mk.injEq] at e
      obtain ⟨rfl, rfl⟩ := e
      rw [Maps.atKey_put_same hD hk, count_snoc, beq_self_eq_true]; rfl
    · rw [Maps.atKey_put_other (kl_ne ha hc hp hq e), h.at' a c ha hc, cntK_count hm (fun z _ => rfl), count_snoc, beq_eq_false_iff_ne.2 e]
      show _ = DataW.lit (Lit.int IntKind.i64 ((E.count (a, c) : Int) + 0))
      rw [Int.add_zero]
  · intro z hz
    rcases (hK' z).1 hz with hz | rfl
    · exact h.wf z hz
    · exact ⟨hp, hq⟩
theorem setBlock_same' {w : World} {b : Nat} {o : Obj} (h : w.heap[b]? = some o) : setBlock w b o = w := by
  obtain ⟨hl, he⟩ := Array.getElem?_eq_some_iff.1 h
  unfold setBlock
  have e : w.heap.set! b o = w.heap := by
    rw [Array.set!_eq_setIfInBounds, Array.setIfInBounds, dif_pos hl]
    apply Array.ext (by simp)
    intro i h1 h2
    rw [Array.getElem_set]
    by_cases q : b = i
    · subst q; rw [if_pos rfl]; exact he.symm
    · rw [if_neg q]
  cases w
  simp_all
theorem setBlock_twice {w : World} {b : Nat} {o o' : Obj} : setBlock (setBlock w b o) b o' = setBlock w b o' := by
  unfold setBlock
  simp
/-- The operations of 'm[pair{p, q}]++' one by one; the look-up is the same ahead of the entry's making and behind it. -/
theorem incr_runs {w : World} {b n : Nat} {E : List (Int × Int)} {p q : Int} (h : CntM w b E n) (hp : wf64 p) (hq : wf64 q) (hn : n < 1000) (hE : E.length ≤ 1000) :
    ∃ (v0 : Value) (st : Nat) (w1 w2 : World), (Instr.mapEntry 70 (.map (some b)) (.agg #[.int .i64 p, .int .i64 q])).run Try.prog w = .ok (.tuple #[v0, goInt st]) w1 ∧
      (Instr.lookup 70 (.map (some b)) (.agg #[.int .i64 p, .int .i64 q]) false).run Try.prog w = .ok (.int .i64 (E.count (p, q) : Int)) w ∧
      (Instr.lookup 70 (.map (some b)) (.agg #[.int .i64 p, .int .i64 q]) false).run Try.prog w1 = .ok (.int .i64 (E.count (p, q) : Int)) w1 ∧
      (Instr.entryStore 70 (.map (some b)) (goInt st) (.int .i64 ((E.count (p, q) : Int) + 1))).run Try.prog w1 = .ok () w2 ∧
      w.grownBy w1 (some b) ∧ w.grownBy w2 (some b) ∧ CntM w2 b (E ++ [(p, q)]) (n + 1) := by
  obtain ⟨K, D, hM, hm⟩ := h
  have hc := List.count_le_length (a := (p, q)) (l := E)
  have hwc : (Lit.int .i64 ((E.count (p, q) : Int) + 1)).wf = true := WalkArith.wf_i64 (by omega)
  have hml : n < maxLen := by unfold maxLen; omega
  obtain ⟨c, hlk, hat, -⟩ := hM.own.lookup_int pr_keyed Try.underlying70 Try.underlying3 (zeroI w) (pr_key hp hq)
  have hce : c = (E.count (p, q) : Int) := by
    have q1 := hM.at' p q hp hq
    rw [hat, cntK_count hm (fun z _ => rfl)] at q1
    exact litI_inj q1
  rw [hce] at hlk
  obtain ⟨wz, hrz, hoz, hgz⟩ := hM.own.update pr_keyed Try.underlying70 hml (pr_key hp hq) (plainElem_int Try.underlying3 (a := 0) (q := .i64) (by decide))
  obtain ⟨w2, hr2, ho2, hg2⟩ := hM.own.update pr_keyed Try.underlying70 hml (pr_key hp hq) (plainElem_int Try.underlying3 (a := (E.count (p, q) : Int) + 1) (q := .i64) hwc)
  have hC2 := cntM_put hp hq hM hm ho2
  obtain ⟨es, clock, hb, F, hs, hD⟩ := hM.own
  obtain ⟨v0, st, es1, clock1, hme, -, hst⟩ := WideElems.entry_then_store pr_law Try.underlying70 (fun u => zeroI u) hb F (pr_key hp hq)
  have h1b : (setBlock w b (.map es1 clock1)).heap[b]? = some (.map es1 clock1) := heap_setBlock_same hb _
  obtain ⟨es', clock', hes, hmu⟩ := hst (setBlock w b (.map es1 clock1)) (.int .i64 ((E.count (p, q) : Int) + 1)) h1b
  have hw2 : w2 = setBlock w b (.map es' clock') := by
    rw [hr2] at hmu
    exact (Result.ok.inj hmu).2
  rw [setBlock_twice, ← hw2] at hes
  rcases pr_law.find w (pr_key hp hq) es.toList F.keys with ⟨h1, h2⟩ | ⟨j, e0, h1, h2, h3⟩
  · have hme2 : (Instr.mapEntry 70 (.map (some b)) (.agg #[.int .i64 p, .int .i64 q])).run Try.prog w = .ok (.tuple #[.int .i64 0, goInt clock]) (setBlock w b (.map (es.push ⟨(.agg #[.int .i64 p, .int .i64 q]), .int .i64 0, clock⟩) (clock + 1))) := by
      simp [Instr.mapEntry, run_underlying Try.underlying70, MapKept.run_getObj_map hb, pr_law.check w false (pr_key hp hq), h1, MapKept.run_setObj_map _ hb, Result.andThen, setBlock]
    have hmu2 : (Instr.mapUpdate 70 (.map (some b)) (.agg #[.int .i64 p, .int .i64 q]) (.int .i64 0)).run Try.prog w = .ok () (setBlock w b (.map (es.push ⟨(.agg #[.int .i64 p, .int .i64 q]), .int .i64 0, clock⟩) (clock + 1))) := by
      simp [Instr.mapUpdate, run_underlying Try.underlying70, MapKept.run_getObj_map hb, pr_law.check w false (pr_key hp hq), h1, MapKept.run_setObj_map _ hb, Result.andThen, setBlock]
    have hw1 : setBlock w b (.map es1 clock1) = wz := by
      rw [hme] at hme2
      rw [hrz] at hmu2
      exact (Result.ok.inj hme2).2.trans (Result.ok.inj hmu2).2.symm
    rw [hw1] at hme hes
    have hc0 : (E.count (p, q) : Int) = 0 := by
      rcases Maps.fit_look false pr_keyed Try.underlying70 (zeroI w) hb F (pr_key hp hq) with ⟨hrun, -, -⟩ | ⟨e0, y, hm0, hk0, -⟩
      · rw [hlk] at hrun
        exact Value.int.inj (Result.ok.inj hrun).1 |>.2
      · exact absurd hk0 (h2 e0 hm0)
    obtain ⟨c1, hlk1, hat1, -⟩ := hoz.lookup_int pr_keyed Try.underlying70 Try.underlying3 (zeroI wz) (pr_key hp hq)
    have hc1 : c1 = (E.count (p, q) : Int) := by
      rw [Maps.atKey_put_same hM.own.isMap (pr_keyed.key (pr_key hp hq))] at hat1
      rw [hc0]
      exact (litI_inj hat1).symm
    rw [hc1] at hlk1
    exact ⟨v0, st, wz, w2, hme, hlk, hlk1, hes, hgz, hg2, hC2⟩
  · have hj : es[j]? = some e0 := by simpa using h2
    have hsame : es.modify j (fun e => { e with key := (.agg #[.int .i64 p, .int .i64 q]) }) = es := by
      apply Array.ext'
      rw [Array.toList_modify, modify_eq_set _ _ _ _ h2]
      have : ({ e0 with key := (.agg #[.int .i64 p, .int .i64 q]) } : MapEntry) = e0 := by rw [← h3]
      rw [this]
      exact WideElems.set_self _ _ _ h2
    have hme2 : (Instr.mapEntry 70 (.map (some b)) (.agg #[.int .i64 p, .int .i64 q])).run Try.prog w = .ok (.tuple #[e0.val, goInt e0.born]) (setBlock w b (.map es clock)) := by
      simp [Instr.mapEntry, run_underlying Try.underlying70, MapKept.run_getObj_map hb, pr_law.check w false (pr_key hp hq), h1, hj, h3, pr_law.stays w (pr_key hp hq), hsame, MapKept.run_setObj_map _ hb, Result.andThen, setBlock]
    have hw1 : setBlock w b (.map es1 clock1) = w := by
      rw [hme, setBlock_same' hb] at hme2
      exact (Result.ok.inj hme2).2
    rw [hw1] at hme hes
    exact ⟨v0, st, w, w2, hme, hlk, hlk, hes, grown_refl' _ _, hg2, hC2⟩
/-- The same, with the two worlds in one letter. -/
theorem incr_sel {w : World} {b n : Nat} {E : List (Int × Int)} {p q : Int} (h : CntM w b E n) (hp : wf64 p) (hq : wf64 q) (hn : n < 1000) (hE : E.length ≤ 1000) :
    ∃ (sel : Nat → World) (v0 : Value) (st : Nat) (w3 : World), sel 0 = { w with drawn := w.drawn + 1 } ∧
      (Instr.mapEntry 70 (.map (some b)) (.agg #[.int .i64 p, .int .i64 q])).run Try.prog (sel 0) = .ok (.tuple #[v0, goInt st]) (sel 1) ∧
      (∀ s, (Instr.lookup 70 (.map (some b)) (.agg #[.int .i64 p, .int .i64 q]) false).run Try.prog (sel s) = .ok (.int .i64 (E.count (p, q) : Int)) (sel s)) ∧
      (Instr.entryStore 70 (.map (some b)) (goInt st) (.int .i64 ((E.count (p, q) : Int) + 1))).run Try.prog (sel 1) = .ok () w3 ∧
      (∀ s, w.grownBy (sel s) (some b)) ∧ w.grownBy w3 (some b) ∧ CntM w3 b (E ++ [(p, q)]) (n + 1) := by
  have hd : w.grownBy ({ w with drawn := w.drawn + 1 } : World) (some b) := ⟨rfl, rfl, rfl, Nat.le_refl _, fun _ _ _ => rfl⟩
  have h' : CntM ({ w with drawn := w.drawn + 1 } : World) b E n := h.on ((Below.refl _ w).drew)
  obtain ⟨v0, st, w1, w2, r1, r2, r3, r4, g1, g2, hC⟩ := incr_runs h' hp hq hn hE
  obtain ⟨sel, e0, e1⟩ : ∃ sel : Nat → World, sel 0 = { w with drawn := w.drawn + 1 } ∧ ∀ n, sel (n + 1) = w1 := ⟨fun s => Nat.casesOn s { w with drawn := w.drawn + 1 } fun _ => w1, rfl, fun _ => rfl⟩
  have e1' : sel 1 = w1 := e1 0
  refine ⟨sel, v0, st, w2, e0, by rw [e0, e1']; exact r1, fun s => ?_, by rw [e1']; exact r4, fun s => ?_, hd.andThen g2 (fun j hj => by cases hj; exact .inr rfl), hC⟩
  · cases s with
    | zero => rw [e0]; exact r2
    | succ s => rw [e1 s]; exact r3
  · cases s with
    | zero => rw [e0]; exact hd
    | succ s => rw [e1 s]; exact hd.andThen g1 (fun j hj => by cases hj; exact .inr rfl)
end Go.Proofs.Ytoemmaeglhdjnaa

/-
  IsTriangulation of the program.
-/
namespace Go.Proofs.Ytoemmaeglhdjnaa
open Go.RowKit

theorem cells_sel {w w' : World} {b g k : Nat} {v : Value} (h : w.cell? ⟨g, k, none⟩ = some v) (hg : w.grownBy w' (some b)) (hne : g ≠ b) : w'.cell? ⟨g, k, none⟩ = some v := by
  have hl : g < w.heap.size := World.block_lt_of_cell? w _ h
  have e := hg.block g hl (by simpa using hne)
  unfold World.cell? at h ⊢
  rw [e]; exact h
open Classical in
theorem used_cnt {n b nb : Nat} {E : List (Int × Int)} {w : World} (h : CntM w b E nb) (h3 : 3 ≤ n) (h10 : n ≤ 10) (hE : ∀ z ∈ E, ∃ i k : Nat, i < k ∧ k < n ∧ z = ((i : Int), (k : Int))) :
    Calls Try.prog 62 #[.map (some b), .int .i64 (n : Int)] w fun e w' => e = .returned (.bool (decide (Uses n E))) ∧ w.grownBy w' (some b) := by
  obtain ⟨K, D, hM, hm⟩ := h
  refine (used_any b n nb K _ D w hM h3 h10).mono ?_
  rintro e w' ⟨r, rfl, hr, hg⟩
  refine ⟨?_, hg⟩
  have q := hr.trans (used_iff h3 hE hM.nodup hm (fun z _ => rfl))
  have e2 : r = decide (Uses n E) := by rw [Bool.eq_iff_iff, q, decide_eq_true_iff]; rfl
  rw [e2]
theorem isTri_sum {L : List (Int × Int)} {Ms : List (List Int)} (h : areaSum L Ms ≠ maxI (twiceI L) (-twiceI L)) : isTri L Ms = false := by
  rw [isTri, decide_eq_false h, Bool.and_false, Bool.and_false, Bool.and_false, Bool.and_false]
set_option maxRecDepth 100000 in
set_option maxHeartbeats 4000000 in
theorem impl_trian (A : Option Addr) (c : Nat) (v : Value) (Rs : List Rw) (B : Nat) (L : List (Int × Int)) (w : World) (hA : PtsA w A L) (hL : L.length ≤ 1048576) (hR : RowsR w B v Rs) :
    Calls Try.prog 25 #[.slice A L.length c, v] w fun e w' => e = .returned (.bool (isTri L (Rs.map Rw.M))) ∧ Below w.heap.size w w' := by
  have HP := Lib.hid (impl_poly A c L w hA hL)
  obtain ⟨A', c', rfl, CR⟩ := hR.form
  cases hp : polyB L
  · rw [hp] at HP
    have HV := Lib.hid (isTri_no (Ms := Rs.map Rw.M) hp)
    clear hA hR CR
    go_enter Try.func25, Try.ntmps25
    go_wp2_with fail
    refine HP.out.mono ?_
    rintro e w1 ⟨rfl, hb⟩
    go_wp2_with fail
    go_ret
    exact ⟨by rw [HV.out]; rfl, hb⟩
  rw [hp] at HP
  obtain ⟨h3, h10, hok⟩ := polyB_all hp
  obtain ⟨g, rfl, -⟩ := hA 0 (by omega)
  have s1 : wrap64 ((L.length : Int) - 2) = (L.length : Int) - 2 := IntWalk.wrap64_in _ (by omega)
  by_cases hlen : ¬ (Rs.length : Int) = (L.length : Int) - 2
  · have HV := Lib.hid (isTri_len (L := L) (Ms := Rs.map Rw.M) (by rw [List.length_map]; exact hlen))
    have d1 : ((Rs.length : Int) != (L.length : Int) - 2) = true := bne_iff_ne.2 hlen
    clear hA hR CR
    go_enter Try.func25, Try.ntmps25
    go_wp2_with fail
    refine HP.out.mono ?_
    rintro e w1 ⟨rfl, hb⟩
    go_wp2_with fail
    go_ret
    exact ⟨by rw [HV.out]; rfl, hb⟩
  have hlen := Classical.not_not.1 hlen
  have d1 : ((Rs.length : Int) != (L.length : Int) - 2) = false := by rw [hlen]; simp
  have hn : Rs.length ≤ 1048576 := by omega
  have HA := Lib.hid hA; have HR := Lib.hid hR; have HC := Lib.hid CR
  have HOK := Lib.hid hok
  clear hA hR CR hok
  have hmm := @run_makeMap Try.prog
  go_enter Try.func25, Try.ntmps25
  go_wp2_with fail
  refine HP.out.mono ?_
  rintro e w1 ⟨rfl, hb⟩
  go_wp2_with fail
  have hM0 := cntM_made w1
  have hb0 := below_on hb (below1 w1 (.map #[] 0))
  have hG := Lib.hid hb.size
  have HRL := Lib.hid (fun (i : Nat) (hi : i < Rs.length) => (Nat.lt_of_lt_of_le (HR.out.lt (List.getElem_mem hi)).2 hb.size))
  clear hmm hb d1
  generalize w1.alloc (.map #[] 0) = w2 at *
  generalize w1.heap.size = G at *
  go_loopw [5, 25] (fun sm i wr => ∃ (k : Nat) (s : Int), k ≤ Rs.length ∧ i = .int .i64 k ∧ sm = .int .i64 s ∧ Hid (s = areaSum L ((Rs.take k).map Rw.M)) ∧ Hid (∀ M ∈ (Rs.take k).map Rw.M, areaT L M ≠ 0) ∧ Hid (CntM wr G (sidesTs ((Rs.take k).map Rw.M)) (3 * k)) ∧ Hid (Below w.heap.size w wr)) (fun _ i _ => Rs.length - (intOf i).toNat)
  case atStart => exact ⟨0, _, Nat.zero_le _, rfl, rfl, rfl, fun M hM => absurd hM (by simp), hM0, hb0⟩
  case round =>
    obtain ⟨wo, rfl⟩ : ∃ wo : World, wo = wr := ⟨_, rfl⟩
    clear hM0 hb0
    obtain ⟨k, s, hk, rfl, rfl, HS, HZ, HW, HB⟩ := hrel
    by_cases hlt : k < Rs.length
    · obtain ⟨g', rfl, hc0⟩ := HC.out k hlt
      have hc1 := cell_on HB.out rfl hc0
      have HT : Hid (∀ W, Below w.heap.size w W → IntsA W (some ⟨(Rs[k]).g, 0, none⟩) (Rs[k]).M) := fun W hb => intsA_on (intsA_of (HR.out.row _ (List.getElem_mem hlt))) hb
      have HNE : Hid ((Rs[k]).g ≠ G) := Nat.ne_of_lt (HRL.out k hlt)
      have HMM : Hid ((Rs[k]).M ∈ Rs.map Rw.M) := List.mem_map_of_mem (List.getElem_mem hlt)
      have HTK : Hid ((Rs.take (k + 1)).map Rw.M = (Rs.take k).map Rw.M ++ [(Rs[k]).M]) := by
        show _ = _
        rw [List.take_succ_eq_append_getElem hlt, List.map_append]; rfl
      have f1 := (k_w' hk hn).1; have f1' := (k_w' hk hn).2
      unfold hdr at hc1
      clear hc0
      generalize (Rs[k]).M = M at *
      generalize (Rs[k]).g = r at *
      generalize (Rs[k]).cap = rc at *
      have HAR : Hid (∀ W, Below w.heap.size w W → Calls Try.prog 60 #[.slice (some ⟨g, 0, none⟩) L.length c, .slice (some ⟨r, 0, none⟩) M.length rc] W fun e w' => e = .returned (.int .i64 (areaT L M)) ∧ Below W.heap.size W w') := fun W hb =>
        area_any g c r rc L M W (ptsA_on HA.out hb) HOK.out (HT.out W hb)
      have HAB := Lib.hid (areaT_bd HOK.out M)
      obtain ⟨X, hX⟩ : ∃ X, X = areaT L M := ⟨_, rfl⟩
      have HX := Lib.hid hX
      rw [← hX] at HAR HAB
      have HF1 := Lib.hid (And.intro f1 f1')
      clear hX f1 f1'
      by_cases hx : X = 0
      · have d5 : (X == 0) = true := by rw [hx]; rfl
        have HV : Hid (isTri L (Rs.map Rw.M) = false) := isTri_area HMM.out (by rw [← HX.out]; exact hx)
        go_wp2_with fail
        refine (HAR.out _ HB.out).mono ?_
        rintro e w4 ⟨rfl, hb4⟩
        have b4 := below_on HB.out hb4
        go_wp2_with fail
        go_ret
        exact ⟨by rw [HV.out]; rfl, b4⟩
      have d5 : (X == 0) = false := beq_eq_false_iff_ne.2 hx
      obtain ⟨an, bn, dn, hMe, hab, hbd, hdn⟩ := triOk_nat (triOk_area (by rw [← HX.out]; exact hx))
      obtain ⟨a, ha⟩ : ∃ a : Int, a = (an : Int) := ⟨_, rfl⟩
      obtain ⟨b, hb'⟩ : ∃ b : Int, b = (bn : Int) := ⟨_, rfl⟩
      obtain ⟨d, hd⟩ : ∃ d : Int, d = (dn : Int) := ⟨_, rfl⟩
      rw [← ha, ← hb', ← hd] at hMe
      have wa : wf64 a := WalkArith.wf_i64 (by omega)
      have wb : wf64 b := WalkArith.wf_i64 (by omega)
      have wd : wf64 d := WalkArith.wf_i64 (by omega)
      have HWF := Lib.hid (And.intro wa (And.intro wb wd))
      clear ha hb' hd hab hbd hdn an bn dn wa wb wd
      subst hMe
      replace hc1 : wo.cell? ⟨g', k, none⟩ = some (.slice (some ⟨r, 0, none⟩) 3 rc) := hc1
      have HSW := Lib.hid (sum_w HOK.out (by rw [List.length_map, List.length_take]; omega) HS.out HAB.out)
      have HEL : Hid ((sidesTs ((Rs.take k).map Rw.M)).length ≤ 30) := by show _ ≤ _; rw [sides_len, List.length_map, List.length_take]; omega
      have HK30 : Hid (3 * k ≤ 30) := by show _ ≤ _; omega
      have HRT : Hid (∀ W, Below w.heap.size w W → W.cell? ⟨r, 0, none⟩ = some (.int .i64 a) ∧ W.cell? ⟨r, 1, none⟩ = some (.int .i64 b) ∧ W.cell? ⟨r, 2, none⟩ = some (.int .i64 d)) := fun W hb => by
        have q := HT.out W hb
        refine ⟨?_, ?_, ?_⟩
        · obtain ⟨T', e, q⟩ := q 0 (by simp); cases e; exact q
        · obtain ⟨T', e, q⟩ := q 1 (by simp); cases e; exact q
        · obtain ⟨T', e, q⟩ := q 2 (by simp); cases e; exact q
      have m1 := HSW.out.1; have m2 := HSW.out.2
      go_upto_region 8 with (fail)
      go_wp2_with fail
      refine (HAR.out _ HB.out).mono ?_
      rintro e w4 ⟨rfl, hb4⟩
      have B4 := Lib.hid (below_on HB.out hb4)
      have C4 := Lib.hid (HW.out.on hb4)
      clear hb4 hc1
      go_upto_region 12 with (fail)
      have HL4 : Hid ((sidesTs ((Rs.take k).map Rw.M)).length ≤ 33) := Nat.le_trans HEL.out (by omega)
      have HL5 : Hid ((sidesTs ((Rs.take k).map Rw.M) ++ [(a, b)]).length ≤ 33) := by
        show _ ≤ _
        have := HEL.out
        rw [List.length_append, List.length_singleton]; omega
      have HL6 : Hid (((sidesTs ((Rs.take k).map Rw.M) ++ [(a, b)]) ++ [(b, d)]).length ≤ 33) := by
        show _ ≤ _
        have := HEL.out
        rw [List.length_append, List.length_append, List.length_singleton, List.length_singleton]; omega
      obtain ⟨sel, v0, st, w5, es0, r1, r2, r3, gs, g5, c5⟩ := incr_sel C4.out HWF.out.1 HWF.out.2.1 (by have := HK30.out; omega) (Nat.le_trans HL4.out (by omega))
      obtain ⟨x, hx1⟩ : ∃ x : Int, x = ((sidesTs ((Rs.take k).map Rw.M)).count (a, b) : Int) := ⟨_, rfl⟩
      have hxb := List.count_le_length (a := (a, b)) (l := sidesTs ((Rs.take k).map Rw.M))
      have HXW : Hid (wrap64 (x + 1) = x + 1 ∧ IntKind.i64.wrap (x + 1) = x + 1) := by
        have q : (sidesTs ((Rs.take k).map Rw.M)).length ≤ 33 := HL4.out
        exact ⟨IntWalk.wrap64_in _ (by omega), IntWalk.i64_in _ (by omega)⟩
      rw [← hx1] at r2 r3
      have t := HRT.out w4 B4.out
      have t0 : ∀ s, (sel s).cell? ⟨r, 0, none⟩ = some (.int .i64 a) := fun s => cells_sel t.1 (gs s) HNE.out
      have t1 : ∀ s, (sel s).cell? ⟨r, 1, none⟩ = some (.int .i64 b) := fun s => cells_sel t.2.1 (gs s) HNE.out
      have B5 := Lib.hid (B4.out.grown g5 B4.out.size (fun j hj => by cases hj; exact hG.out))
      have C5 := Lib.hid c5
      have R1 := Lib.hid r1; have R3 := Lib.hid r3
      have u1 := HXW.out.1; have u2 := HXW.out.2
      clear t gs g5 c5 hx1 hxb r1 r3 C4 B4
      refine region_entry 10 sel 0 es0 _ _ _ (by rfl) (by rfl) (by rfl) (by rfl) (by rfl) (by rfl) (by kernel_rfl) (by kernel_rfl) ?_
      simp only [List.take_succ_cons, List.take_zero]
      repeat (first
        | go_big_quiet_step (fail)
        | quiet_step (fail))
      refine wpQuiet_nil ?_
      refine ⟨.tuple #[v0, goInt st], 1, goInt st, w5, entry_op rfl rfl rfl R1.out, extract_op rfl rfl rfl, store_op rfl rfl rfl rfl R3.out, ?_⟩
      clear r2 es0 t0 t1 u1 u2 R1 R3 HXW
      go_simp
      go_upto_region 13 with (fail)
      obtain ⟨sel, v0, st, w6, es0, r1, r2, r3, gs, g5, c5⟩ := incr_sel C5.out HWF.out.2.1 HWF.out.2.2 (by have := HK30.out; omega) (Nat.le_trans HL5.out (by omega))
      obtain ⟨x, hx1⟩ : ∃ x : Int, x = ((sidesTs ((Rs.take k).map Rw.M) ++ [(a, b)]).count (b, d) : Int) := ⟨_, rfl⟩
      have hxb := List.count_le_length (a := (b, d)) (l := sidesTs ((Rs.take k).map Rw.M) ++ [(a, b)])
      have HXW : Hid (wrap64 (x + 1) = x + 1 ∧ IntKind.i64.wrap (x + 1) = x + 1) := by
        have q : (sidesTs ((Rs.take k).map Rw.M) ++ [(a, b)]).length ≤ 33 := HL5.out
        exact ⟨IntWalk.wrap64_in _ (by omega), IntWalk.i64_in _ (by omega)⟩
      rw [← hx1] at r2 r3
      have t := HRT.out w5 B5.out
      have t1 : ∀ s, (sel s).cell? ⟨r, 1, none⟩ = some (.int .i64 b) := fun s => cells_sel t.2.1 (gs s) HNE.out
      have t2 : ∀ s, (sel s).cell? ⟨r, 2, none⟩ = some (.int .i64 d) := fun s => cells_sel t.2.2 (gs s) HNE.out
      have B6 := Lib.hid (B5.out.grown g5 B5.out.size (fun j hj => by cases hj; exact hG.out))
      have C6 := Lib.hid c5
      have R1 := Lib.hid r1; have R3 := Lib.hid r3
      have u1 := HXW.out.1; have u2 := HXW.out.2
      clear t gs g5 c5 hx1 hxb r1 r3 C5 B5
      refine region_entry 10 sel 0 es0 _ _ _ (by rfl) (by rfl) (by rfl) (by rfl) (by rfl) (by rfl) (by kernel_rfl) (by kernel_rfl) ?_
      simp only [List.take_succ_cons, List.take_zero]
      repeat (first
        | go_big_quiet_step (fail)
        | quiet_step (fail))
      refine wpQuiet_nil ?_
      refine ⟨.tuple #[v0, goInt st], 1, goInt st, w6, entry_op rfl rfl rfl R1.out, extract_op rfl rfl rfl, store_op rfl rfl rfl rfl R3.out, ?_⟩
      clear r2 es0 t1 t2 u1 u2 R1 R3 HXW
      go_simp
      go_upto_region 14 with (fail)
      obtain ⟨sel, v0, st, w7, es0, r1, r2, r3, gs, g5, c5⟩ := incr_sel C6.out HWF.out.1 HWF.out.2.2 (by have := HK30.out; omega) (Nat.le_trans HL6.out (by omega))
      obtain ⟨x, hx1⟩ : ∃ x : Int, x = (((sidesTs ((Rs.take k).map Rw.M) ++ [(a, b)]) ++ [(b, d)]).count (a, d) : Int) := ⟨_, rfl⟩
      have hxb := List.count_le_length (a := (a, d)) (l := (sidesTs ((Rs.take k).map Rw.M) ++ [(a, b)]) ++ [(b, d)])
      have HXW : Hid (wrap64 (x + 1) = x + 1 ∧ IntKind.i64.wrap (x + 1) = x + 1) := by
        have q : ((sidesTs ((Rs.take k).map Rw.M) ++ [(a, b)]) ++ [(b, d)]).length ≤ 33 := HL6.out
        exact ⟨IntWalk.wrap64_in _ (by omega), IntWalk.i64_in _ (by omega)⟩
      rw [← hx1] at r2 r3
      have t := HRT.out w6 B6.out
      have t0 : ∀ s, (sel s).cell? ⟨r, 0, none⟩ = some (.int .i64 a) := fun s => cells_sel t.1 (gs s) HNE.out
      have t2 : ∀ s, (sel s).cell? ⟨r, 2, none⟩ = some (.int .i64 d) := fun s => cells_sel t.2.2 (gs s) HNE.out
      have B7 := Lib.hid (B6.out.grown g5 B6.out.size (fun j hj => by cases hj; exact hG.out))
      have C7 := Lib.hid c5
      have R1 := Lib.hid r1; have R3 := Lib.hid r3
      have u1 := HXW.out.1; have u2 := HXW.out.2
      clear t gs g5 c5 hx1 hxb r1 r3 C6 B6
      refine region_entry 10 sel 0 es0 _ _ _ (by rfl) (by rfl) (by rfl) (by rfl) (by rfl) (by rfl) (by kernel_rfl) (by kernel_rfl) ?_
      simp only [List.take_succ_cons, List.take_zero]
      repeat (first
        | go_big_quiet_step (fail)
        | quiet_step (fail))
      refine wpQuiet_nil ?_
      refine ⟨.tuple #[v0, goInt st], 1, goInt st, w7, entry_op rfl rfl rfl R1.out, extract_op rfl rfl rfl, store_op rfl rfl rfl rfl R3.out, ?_⟩
      clear r2 es0 t0 t2 u1 u2 R1 R3 HXW
      go_simp
      have f1 := HF1.out.1; have f1' := HF1.out.2
      clear m1 m2
      go_wp2_with fail
      clear f1 f1'
      go_roundw
      case rel =>
        refine ⟨k + 1, s + X, by omega, by go_num, rfl, ?_, ?_, ?_, B7.out⟩
        · show _ = _
          rw [HTK.out, areaSum_snoc, ← HS.out, ← HX.out]
        · show ∀ M ∈ _, _
          rw [HTK.out]
          intro M hM
          rcases List.mem_append.1 hM with hM | hM
          · exact HZ.out M hM
          · rw [List.mem_singleton.1 hM, ← HX.out]; exact hx
        · show CntM _ _ _ _
          have q := C7.out
          rw [HTK.out, sidesTs_snoc]
          have e : sidesT [a, b, d] = [(a, b)] ++ ([(b, d)] ++ [(a, d)]) := rfl
          rw [e, ← List.append_assoc, ← List.append_assoc]
          exact q.mono (by omega)
      case measure => simp [intOf]; omega
    · obtain rfl : k = Rs.length := by omega
      have HALL : Hid (∀ M ∈ Rs.map Rw.M, areaT L M ≠ 0) := by have q := HZ.out; rwa [List.take_of_length_le (Nat.le_refl _)] at q
      have HSU : Hid (s = areaSum L (Rs.map Rw.M)) := by have q := HS.out; rwa [List.take_of_length_le (Nat.le_refl _)] at q
      have HW2 : Hid (CntM wo G (sidesTs (Rs.map Rw.M)) (3 * Rs.length)) := by have q := HW.out; rwa [List.take_of_length_le (Nat.le_refl _)] at q
      clear HZ HS HW HC
      have HT2 := impl_twice (some ⟨g, 0, none⟩) c L wo (ptsA_on HA.out HB.out) hL
      rw [hp] at HT2
      have HT2 := Lib.hid HT2
      have hbd := twiceI_bd' HOK.out h10
      have HV1 : Hid (s ≠ maxI (twiceI L) (-twiceI L) → isTri L (Rs.map Rw.M) = false) := fun q => isTri_sum (by rw [← HSU.out]; exact q)
      have HV2 : Hid (s = maxI (twiceI L) (-twiceI L) → ∀ W, CntM W G (sidesTs (Rs.map Rw.M)) (3 * Rs.length) → Calls Try.prog 62 #[.map (some G), .int .i64 (L.length : Int)] W fun e w' => e = .returned (.bool (isTri L (Rs.map Rw.M))) ∧ W.grownBy w' (some G)) := fun q W hW => by
        have hall : ((Rs.map Rw.M).all fun M => decide (areaT L M ≠ 0)) = true := List.all_eq_true.2 fun M hM => decide_eq_true (HALL.out M hM)
        have e : isTri L (Rs.map Rw.M) = @decide (Uses L.length (sidesTs (Rs.map Rw.M))) (Classical.propDecidable _) := by
          rw [isTri, hp, hall, List.length_map, decide_eq_true hlen, ← HSU.out, decide_eq_true q, Bool.and_true, Bool.true_and, Bool.true_and, Bool.true_and]
        rw [e]
        exact used_cnt hW h3 h10 (sides_form fun M hM => triOk_area (HALL.out M hM))
      have hmax : ∀ (w : World) (x y : Int) (ts : Array TypeId) (t : TypeId), (Builtin.max_ ts t #[.int .i64 x, .int .i64 y]).run Try.prog w = .ok (.int .i64 (maxI x y)) w := run_maxI
      generalize twiceI L = tw at *
      have n1 : wrap64 (-tw) = -tw := IntWalk.wrap64_in _ (by omega)
      have n2 : IntKind.i64.wrap (-tw) = -tw := IntWalk.i64_in _ (by omega)
      clear hbd
      go_wp2_with fail
      refine HT2.out.mono ?_
      rintro e w8 ⟨rfl, hb8⟩
      have B8 := Lib.hid (below_on HB.out hb8)
      have C8 := Lib.hid (HW2.out.on hb8)
      clear hb8 HT2
      go_upto_region 17 with (fail)
      by_cases hs : s = maxI tw (-tw)
      · have d2 : (s == maxI tw (-tw)) = true := beq_iff_eq.2 hs
        have HU := Lib.hid (HV2.out hs w8 C8.out)
        clear hs
        go_wp2_with fail
        refine HU.out.mono ?_
        rintro e w9 ⟨rfl, hg9⟩
        have B9 := B8.out.grown hg9 B8.out.size (fun j hj => by cases hj; exact hG.out)
        go_wp2_with fail
        go_ret
        exact ⟨rfl, B9⟩
      · have d2 : (s == maxI tw (-tw)) = false := beq_eq_false_iff_ne.2 hs
        have HV := Lib.hid (HV1.out hs)
        clear hs
        go_wp2_with fail
        go_ret
        exact ⟨by rw [HV.out]; rfl, B8.out⟩
end Go.Proofs.Ytoemmaeglhdjnaa

/-
  The law of IsTriangulation.
-/
namespace Go.Proofs.Ytoemmaeglhdjnaa
open Go.RowKit

/-- What a function from a list of points and a list of rows answers, wherever they lie. -/
def AnsSS (F : FuncId) (L : List (Int × Int)) (Ms : List (List Int)) (b : Bool) : Prop :=
  ∀ A c v Rs B w, PtsA w A L → RowsR w B v Rs → Rs.map Rw.M = Ms → Calls Try.prog F #[.slice A L.length c, v] w fun e w' => e = .returned (.bool b) ∧ Below w.heap.size w w'
set_option maxRecDepth 100000 in
set_option maxHeartbeats 2000000 in
theorem law_isTriangulation (A : Option Addr) (c : Nat) (L : List (Int × Int)) (A' : Option Addr) (c' : Nat) (Ms : List (List Int)) (b : Bool) (w : World) (hA : ArgA w A L) (hL : L.length ≤ maxLen) (hA' : ArgSS w A' Ms) (hL' : Ms.length ≤ maxLen)
    (SC : L.length ≤ 1048576 → AnsSS 23 L Ms b)
    (IC : L.length ≤ 1048576 → AnsSS 25 L Ms b) :
    Calls Try.prog 4 #[.slice A L.length c, .slice A' Ms.length c'] w fun e w' => e = .returned (.bool true) ∧ Below w.heap.size w w' := by
  by_cases hs : L.length ≤ 1048576
  case neg =>
    clear SC IC hA hA' hL'
    have HZ := Lib.hid (sz_great A L.length c w (by omega) hL)
    go_enter Try.func4, Try.ntmps4
    go_wp2_with fail
    refine HZ.out.mono ?_
    rintro e w0 ⟨rfl, rfl⟩
    go_wp2_with fail
    go_ret
    exact ⟨rfl, Below.refl _ _⟩
  have HS := Lib.hid (SC hs); have HI := Lib.hid (IC hs)
  clear SC IC
  have HA := Lib.hid hA; clear hA
  have HB := Lib.hid hA'; clear hA'
  have HM := Lib.hid hs
  have HZ := Lib.hid (sz_small A L.length c w hs)
  have HZ2 := Lib.hid (szSS_any A' c' Ms (1048576 - L.length) w HB.out (by omega) hL')
  clear hL hL' hs
  go_enter Try.func4, Try.ntmps4
  go_wp2_with fail
  refine HZ.out.mono ?_
  rintro e w0 ⟨rfl, rfl⟩
  have hpos : ¬ (1048576 : Int) - (L.length : Int) < 0 := by have := HM.out; omega
  go_wp2_with fail
  refine HZ2.out.mono ?_
  rintro e w0 ⟨⟨z, rfl, hz⟩, rfl⟩
  rcases hz with rfl | ⟨hz, hn, hr⟩
  · go_wp2_with fail
    go_ret
    exact ⟨rfl, Below.refl _ _⟩
  have hz' : ¬ z < 0 := by omega
  have HR := Lib.hid hr
  have HN := Lib.hid hn
  clear hr hn hz
  go_wp2_with fail
  refine (toS_any A c L _ HA.out HM.out).mono ?_
  rintro e w1 ⟨v1, rfl, own1, b1⟩
  obtain ⟨_, A1, c1, rfl, p1⟩ := own_pts own1
  clear own1
  go_wp2_with fail
  refine (toSS_any A' c' Ms _ (HB.out.step b1) HN.out HR.out).mono ?_
  rintro e w2 ⟨R2, rfl, own2, m2, hb2⟩
  have b2 := below_on b1 hb2
  replace p1 := ptsA_on p1 hb2
  clear b1 hb2
  have C2 := Lib.hid (HS.out A1 c1 _ R2 _ w2 p1 own2 m2)
  clear own2 m2 p1
  go_wp2_with fail
  refine C2.out.mono ?_
  rintro e w3 ⟨rfl, hb3⟩
  have b3 := below_on b2 hb3
  clear b2 hb3 C2
  go_wp2_with fail
  refine (toS_any A c L _ (HA.out.step b3) HM.out).mono ?_
  rintro e w4 ⟨v4, rfl, own4, hb4⟩
  have b4 := below_on b3 hb4
  clear b3 hb4
  obtain ⟨_, A4, c4, rfl, p4⟩ := own_pts own4
  clear own4
  go_wp2_with fail
  refine (toSS_any A' c' Ms _ (HB.out.step b4) HN.out HR.out).mono ?_
  rintro e w5 ⟨R5, rfl, own5, m5, hb5⟩
  have b5 := below_on b4 hb5
  replace p4 := ptsA_on p4 hb5
  clear b4 hb5
  have C5 := Lib.hid (HI.out A4 c4 _ R5 _ w5 p4 own5 m5)
  have M5 := Lib.hid m5
  have O5 := Lib.hid own5
  clear own5 m5
  go_wp2_with fail
  refine C5.out.mono ?_
  rintro e w6 ⟨rfl, hb6⟩
  have b6 := below_on b5 hb6
  have p6 := ptsA_on p4 hb6
  have O6 := Lib.hid (O5.out.below hb6)
  clear b5 hb6 C5 O5 p4
  go_wp2_with fail
  refine (toS_any A c L _ (HA.out.step b6) HM.out).mono ?_
  rintro e w7 ⟨v7, rfl, own7, hb7⟩
  have b7 := below_on b6 hb7
  have p7 := ptsA_on p6 hb7
  have O7 := Lib.hid (O6.out.below hb7)
  clear b6 hb7 p6 O6
  obtain ⟨_, A7, c7, rfl, q7⟩ := own_pts own7
  clear own7
  go_wp2_with fail
  refine (eq_pts A4 A7 c4 c7 L w7 p7 q7 HM.out).mono ?_
  rintro e w8 ⟨rfl, hb8⟩
  have b8 := below_on b7 hb8
  have O8 := Lib.hid (O7.out.below hb8)
  clear b7 hb8 p7 q7 O7
  go_wp2_with fail
  refine (toSS_any A' c' Ms _ (HB.out.step b8) HN.out HR.out).mono ?_
  rintro e w9 ⟨R9, rfl, own9, m9, hb9⟩
  have b9 := below_on b8 hb9
  have O9 := Lib.hid (O8.out.below hb9)
  have E9 : Hid (R5.map Rw.M = R9.map Rw.M) := M5.out.trans m9.symm
  have L5 : Hid (R5.length ≤ 1048576) := by
    have e := congrArg List.length M5.out
    have := HN.out
    rw [List.length_map] at e
    show _ ≤ _
    omega
  have D5 : Hid (∀ r ∈ R5, r.M.length ≤ 1048576) := fun r hr => HR.out _ (by rw [← M5.out]; exact List.mem_map_of_mem hr)
  have CE := Lib.hid (eq_rows _ _ _ _ R5 R9 w9 O9.out own9 E9.out L5.out D5.out)
  clear b8 hb9 O8 m9 own9
  go_wp2_with fail
  refine CE.out.mono ?_
  rintro e w10 ⟨rfl, hb10⟩
  have b10 := below_on b9 hb10
  clear b9 hb10 CE
  go_wp2_with fail
  go_ret
  exact ⟨rfl, b10⟩
end Go.Proofs.Ytoemmaeglhdjnaa

/-
  IsTriangulation: both sides, and the law.
-/
namespace Go.Proofs.Ytoemmaeglhdjnaa
open Go.RowKit

theorem ex_isTriangulation (A : Option Addr) (c : Nat) (L : List (Int × Int)) (A' : Option Addr) (c' : Nat) (Ms : List (List Int)) (w : World) (hA : ArgA w A L) (hL : L.length ≤ maxLen) (hA' : ArgSS w A' Ms) (hL' : Ms.length ≤ maxLen) :
    Calls Try.prog 4 #[.slice A L.length c, .slice A' Ms.length c'] w fun e w' => e = .returned (.bool true) ∧ Below w.heap.size w w' :=
  law_isTriangulation A c L A' c' Ms (isTri L Ms) w hA hL hA' hL'
    (fun hs A1 c1 v Rs B W hP hR hM => by rw [← hM]; exact spec_trian A1 c1 v Rs B L W hP hs hR)
    (fun hs A1 c1 v Rs B W hP hR hM => by rw [← hM]; exact impl_trian A1 c1 v Rs B L W hP hs hR)
end Go.Proofs.Ytoemmaeglhdjnaa
