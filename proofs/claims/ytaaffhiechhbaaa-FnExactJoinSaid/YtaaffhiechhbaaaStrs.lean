/-
  Walks for the laws' helpers on lists of strings: eqStringS, markText, markStringS, heldStringS.
-/
import Derived.Test.YtaaffhiechhbaaaProg
import Derived.WalkKit
import Derived.WalkSpells
import Derived.WalkLawsBesides
import Derived.Lib.Hide
import Derived.BigQuiet
import Derived.Deep.QuietTactic
import Derived.Deep.RegionHeld3
namespace Go.Proofs.Ytaaffhiechhbaaa
open Go.RowKit

/-- The cells of a slice of strings. -/
def Strs (w : World) (A : Option Addr) (L : List ByteArray) : Prop := ∀ k (h : k < L.length), ∃ g, A = some ⟨g, 0, none⟩ ∧ w.cell? ⟨g, k, none⟩ = some (.string L[k])

theorem own_strs {w : World} {B : Nat} {e : TypeId} {v : Value} {n : Nat} {L : List ByteArray} (h : w.ownsRow B e 1 v n (L.map Value.string)) :
    n = L.length ∧ ∃ A c, v = .slice A L.length c ∧ Strs w A L := by
  have hl : L.length = n := by have := h.1; simpa using this
  refine ⟨hl.symm, ?_⟩
  subst hl
  rcases h.2 with ⟨rfl, h0⟩ | ⟨g, cap, cur, rfl, hg, hh, _⟩
  · exact ⟨none, 0, by rw [h0], fun k hk => by omega⟩
  · exact ⟨some ⟨g, 0, none⟩, cap, rfl, fun k hk => ⟨g, rfl, by
      rw [h.cellAt k (by omega)]
      simp [hk]⟩⟩

set_option maxHeartbeats 400000 in
theorem eq_strs (A1 A2 : Option Addr) (c1 c2 : Nat) (L : List ByteArray) (w : World) (h1 : Strs w A1 L) (h2 : Strs w A2 L) (hL : L.length ≤ maxLen) :
    Calls Try.prog 15 #[.slice A1 L.length c1, .slice A2 L.length c2] w fun e w' => e = .returned (.bool true) ∧ ∃ n, w' = w.drewN n := by
  unfold maxLen at hL
  have H1 := Lib.hid h1; clear h1
  have H2 := Lib.hid h2; clear h2
  go_enter Try.func15, Try.ntmps15
  go_wp2_with fail
  go_loopw [5] (fun i w' => ∃ k : Nat, k ≤ L.length ∧ i = .int .i64 k ∧ ∃ n, w' = w.drewN n) (fun i _ => L.length - (intOf i).toNat)
  case atStart => exact ⟨0, Nat.zero_le _, rfl, 0, rfl⟩
  case round =>
    obtain ⟨k, hk, rfl, n, rfl⟩ := hrel
    by_cases hlt : k < L.length
    · obtain ⟨g1, rfl, hc1⟩ := H1.out k hlt
      obtain ⟨g2, rfl, hc2⟩ := H2.out k hlt
      go_wp2_with fail
      go_quiet (fail)
      go_wp2_with fail
      go_roundw
      case rel => exact ⟨k + 1, by omega, by go_num, _, rfl⟩
      case measure => simp [intOf]; omega
    · go_wp2_with fail
      go_ret
      exact ⟨rfl, _, rfl⟩

def digF : Nat → Nat → List UInt8
  | 0, _ => []
  | f + 1, n => if n = 0 then [] else digF f (n / 10) ++ [UInt8.ofNat (48 + n % 10)]
theorem digF_ext (f : Nat) : ∀ f' n, n ≤ f → n ≤ f' → digF f n = digF f' n := by
  induction f with
  | zero =>
    intro f' n h _
    obtain rfl : n = 0 := by omega
    cases f' <;> simp [digF]
  | succ f ih =>
    intro f' n h h'
    cases f' with
    | zero =>
      obtain rfl : n = 0 := by omega
      simp [digF]
    | succ f' =>
      simp only [digF]
      split
      · rfl
      · rw [ih f' (n / 10) (by omega) (by omega)]
/-- The decimal digits of n; none for 0. -/
def dig (n : Nat) : List UInt8 := digF n n
theorem dig_step {n : Nat} (h : 0 < n) : dig n = dig (n / 10) ++ [UInt8.ofNat (48 + n % 10)] := by
  obtain ⟨m, rfl⟩ : ∃ m, n = m + 1 := ⟨n - 1, by omega⟩
  show digF (m + 1) (m + 1) = digF _ _ ++ _
  rw [digF, if_neg (by omega), digF_ext m ((m + 1) / 10) _ (by omega) (Nat.le_refl _)]
theorem dig_len (f : Nat) : ∀ n, (digF f n).length ≤ f := by
  induction f with
  | zero => intro n; simp [digF]
  | succ f ih =>
    intro n
    simp only [digF]
    split
    · simp
    · have := ih (n / 10)
      simp; omega

theorem ret_txt {a b : ByteArray} (h : a = b) : Ending.returned (.string a) = .returned (.string b) := by rw [h]
theorem conv_byte {P : Program} (w : World) (tb ts te : TypeId) (hs : P.underlying tb = some (.slice te)) (he : P.underlying te = some (.int .u8)) (hd : P.underlying ts = some .string) (x : Int) (u : UInt8) (hu : (u.toNat : Int) = x) :
    (convert tb ts (.slice (some ⟨w.heap.size, 0, none⟩) 1 1)).run P (w.alloc (.cells #[.int .u8 x] te)) = .ok (.string ⟨#[u]⟩) (w.alloc (.cells #[.int .u8 x] te)) := by
  have := run_convert_bytes_back (P := P) (w.alloc (.cells #[.int .u8 x] te)) tb ts te ⟨w.heap.size, 0, none⟩ 1 [u] hs he hd (fun j hj => by
    obtain rfl : j = 0 := by simpa using hj
    subst hu
    simp [Addr.add, World.cell?_alloc_mark])
  simpa using this
theorem byte_of {k : Nat} : ((UInt8.ofNat (48 + k % 10)).toNat : Int) = 48 + (k : Int) % 10 := by
  have h : 48 + k % 10 < 256 := by omega
  have : (UInt8.ofNat (48 + k % 10)).toNat = 48 + k % 10 := by
    simp [UInt8.toNat_ofNat, Nat.mod_eq_of_lt h]
  omega
theorem run_cons {P : Program} (u : UInt8) (l : List UInt8) (hl : l.length ≤ 1073741824) (w : World) : (Op.stringOp .add ⟨#[u]⟩ ⟨l.toArray⟩).run P w = .ok (.string ⟨(u :: l).toArray⟩) w := by
  have e : (ByteArray.mk l.toArray).size = l.length := by show l.toArray.size = _; simp
  rw [run_string_add_sum w _ _ (by rw [e]; show 1 + _ ≤ _; omega)]
  have := ByteArray.mk_append_mk [u] l
  simpa using this

set_option maxHeartbeats 400000 in
/-- The mark of n: an m and the digits of n. -/
theorem markText_any (n : Nat) (w : World) (h0 : 0 < n) (hn : n ≤ 1073741824) :
    Calls Try.prog 31 #[.int .i64 n] w fun e w' => e = .returned (.string ⟨(109 :: dig n).toArray⟩) ∧ Below w.heap.size w w' := by
  have hnb : decide (n = 0) = false := by simp; omega
  go_enter Try.func31, Try.ntmps31
  go_wp2_with fail
  go_loopw [0, 3] (fun t o w' => ∃ (k : Nat) (l : List UInt8), t = .int .i64 k ∧ o = .string ⟨l.toArray⟩ ∧ k ≤ n ∧ l.length + k ≤ n ∧ Hid (dig k ++ l = dig n) ∧ Below w.heap.size w w') (fun t _ _ => (intOf t).toNat)
  case atStart => exact ⟨n, [], rfl, rfl, Nat.le_refl _, by simp, by show _ = _; simp, Below.refl _ _⟩
  case round =>
    rename_i wr
    obtain ⟨k, l, rfl, rfl, hk, hlk, HD, hb⟩ := hrel
    by_cases hlt : 0 < k
    · obtain ⟨u, HU⟩ : ∃ u : UInt8, Hid ((u.toNat : Int) = 48 + (k : Int) % 10 ∧ dig k = dig (k / 10) ++ [u]) := ⟨_, byte_of, dig_step hlt⟩
      have hcv := conv_byte (P := Try.prog) wr 41 9 5 Try.underlying41 Try.underlying5 Try.underlying9 _ _ HU.out.1
      have hadd := run_cons (P := Try.prog) u l (by omega) (wr.alloc (.cells #[.int .u8 (48 + (k : Int) % 10)] 5))
      have HE : Hid (dig (k / 10) ++ (u :: l) = dig n) := by
        show _ = _
        rw [← HD.out, HU.out.2]; simp
      have HB := Lib.hid (hb.alloc hb.size (.cells #[.int .u8 (48 + (k : Int) % 10)] 5))
      go_wp2_with fail
      go_roundw
      case rel => exact ⟨k / 10, _, by go_num, rfl, by omega, by simp; omega, HE, HB.out⟩
      case measure => simp [intOf]; omega
    · have hk0 : k = 0 := by omega
      have HE : Hid (l = dig n) := by
        show _ = _
        rw [← HD.out, hk0]; rfl
      have hadd := run_cons (P := Try.prog) 109 l (by omega) wr
      clear hk0
      go_wp2_with fail
      go_ret
      exact ⟨ret_txt (by rw [HE.out]), hb⟩

/-- The mark of k. -/
def mkT (k : Nat) : ByteArray := ⟨(109 :: dig k).toArray⟩
theorem markText_int (x : Int) (k : Nat) (hx : x = k) (h0 : 0 < x) (hn : x ≤ 1073741824) (w : World) :
    Calls Try.prog 31 #[.int .i64 x] w fun e w' => e = .returned (.string (mkT k)) ∧ Below w.heap.size w w' := by
  subst hx
  exact markText_any k w (by omega) (by omega)

theorem own_below {w w' : World} {B : Nat} {e : TypeId} {size : Nat} {v : Value} {n : Nat} {xs : List Value} (h : w.ownsRow B e size v n xs) (hb : Below w.heap.size w w') : w'.ownsRow B e size v n xs := by
  refine ⟨h.1, ?_⟩
  rcases h.2 with h2 | ⟨g, cap, cur, hv, hg, hh, r⟩
  · exact Or.inl h2
  · exact Or.inr ⟨g, cap, cur, hv, hg, by rw [hb.block g (Array.getElem?_eq_some_iff.1 hh).1]; exact hh, r⟩
theorem only_below {w w1 w2 : World} {row : Option Nat} (h : w.grownBy w1 row) (hb : Below w1.heap.size w1 w2) : w.grownBy w2 row :=
  ⟨hb.os.trans h.os, hb.tape.trans h.tape, hb.output.trans h.output, Nat.le_trans h.size hb.size, fun k hk hr => (hb.block k (by have := h.size; omega)).trans (h.block k hk hr)⟩
theorem only_set {w w1 : World} {g : Nat} (h : w.grownBy w1 (some g)) (j : Nat) (u : Value) : w.grownBy (w1.setCell ⟨g, j, none⟩ u) (some g) :=
  ⟨h.os, h.tape, h.output, by simpa [World.setCell] using h.size, fun k hk hr => (Below.heap_setCell w1 ⟨g, j, none⟩ u k (by
    intro e; exact hr (by rw [e]))).trans (h.block k hk hr)⟩

/-- What the marks of a list of n strings are, from the mark 1 on. -/
def marks (n : Nat) : List ByteArray := (List.range n).map (fun i => mkT (i + 1))
theorem marks_len (n : Nat) : (marks n).length = n := by simp [marks]
theorem marks_step {n k : Nat} {xs : List Value} (hl : xs.length = n) (hk : k < n) :
    ((marks k).map Value.string ++ xs.drop k).set k (.string (mkT (k + 1))) = (marks (k + 1)).map Value.string ++ xs.drop (k + 1) := by
  have h1 : ((marks k).map Value.string).length = k := by simp [marks_len]
  rw [List.set_append_right _ _ (by rw [h1]; exact Nat.le_refl _), h1, Nat.sub_self]
  have h2 : xs.drop k = xs[k]'(by omega) :: xs.drop (k + 1) := List.drop_eq_getElem_cons (by omega)
  rw [h2, List.set_cons_zero]
  simp [marks, List.range_succ]

set_option maxHeartbeats 800000 in
/-- Every string of an owned slice is overwritten by its mark. -/
theorem mark_strs (B : Nat) (v : Value) (n : Nat) (xs : List Value) (w : World) (hown : w.ownsRow B 9 1 v n xs) (hn : n ≤ 1073741823) :
    Calls Try.prog 16 #[v, .int .i64 1] w fun e w' => e = .returned (.int .i64 (1 + n)) ∧ w'.ownsRow B 9 1 v n ((marks n).map Value.string) ∧ w.grownBy w' v.ownBlock := by
  have hl : xs.length = n := by have := hown.1; simpa using this
  rcases hown.2 with ⟨rfl, rfl⟩ | ⟨g, cap, cur, rfl, _⟩
  · go_enter Try.func16, Try.ntmps16
    go_wp2_with fail
    refine wp_loop_rounds 1 ?_
    rw [rounds_succ]
    go_wp2_with fail
    go_ret
    exact ⟨rfl, World.ownsRow_nil _ _ _ _, World.grownBy.refl _ _⟩
  · go_enter Try.func16, Try.ntmps16
    go_wp2_with fail
    go_loopw [1, 5] (fun m i wr => ∃ k : Nat, k ≤ n ∧ i = .int .i64 k ∧ m = .int .i64 (1 + k) ∧ wr.ownsRow B 9 1 (.slice (some ⟨g, 0, none⟩) n cap) n ((marks k).map Value.string ++ xs.drop k) ∧ w.grownBy wr (some g)) (fun _ i _ => n - (intOf i).toNat)
    case atStart => exact ⟨0, Nat.zero_le _, rfl, rfl, by simpa [marks] using hown, World.grownBy.refl _ _⟩
    case round =>
      obtain ⟨k, hk, rfl, rfl, hown', hgr⟩ := hrel
      by_cases hlt : k < n
      · go_wp2_with fail
        refine (markText_int _ (k + 1) (by omega) (by omega) (by omega) _).mono ?_
        rintro e w1 ⟨rfl, hb1⟩
        have ho1 := own_below hown' hb1
        have hc1 : ∃ u, w1.cell? ⟨g, k, none⟩ = some u := by
          rw [ho1.cellAt k (by omega)]
          have : k < ((marks k).map Value.string ++ xs.drop k).length := by simp [marks_len]; omega
          exact ⟨_, List.getElem?_eq_getElem this⟩
        obtain ⟨u, hc1⟩ := hc1
        have hf1 := ho1.frozenAt k
        have hs1 := ho1.stored k (.string (mkT (k + 1)))
        rw [marks_step hl hlt] at hs1
        have R : Hid ((w1.setCell ⟨g, k, none⟩ (.string (mkT (k + 1)))).ownsRow B 9 1 (.slice (some ⟨g, 0, none⟩) n cap) n ((marks (k + 1)).map Value.string ++ xs.drop (k + 1)) ∧ w.grownBy (w1.setCell ⟨g, k, none⟩ (.string (mkT (k + 1)))) (some g)) :=
          ⟨hs1.1, only_set (only_below hgr hb1) k _⟩
        clear hs1 ho1 hown' hgr hb1 hown
        go_wp2_with fail
        go_roundw
        case rel => exact ⟨k + 1, by omega, by go_num, by go_num, R.out.1, R.out.2⟩
        case measure => simp [intOf]; omega
      · obtain rfl : k = n := by omega
        rw [List.drop_of_length_le (by omega), List.append_nil] at hown'
        have R := Lib.hid hown'
        clear hown' hown
        go_wp2_with fail
        go_ret
        exact ⟨rfl, R.out, hgr⟩

set_option maxHeartbeats 800000 in
/-- The marks are still there. -/
theorem held_strs (A : Option Addr) (c n : Nat) (w : World) (hA : Strs w A (marks n)) (hlt0 : ∀ g, A = some ⟨g, 0, none⟩ → g < w.heap.size) (hn : n ≤ 1073741823) :
    Calls Try.prog 17 #[.slice A n c, .int .i64 1] w fun e w' => e = .returned (.int .i64 (1 + n)) ∧ Below w.heap.size w w' := by
  have HA := Lib.hid hA; clear hA
  have HL := Lib.hid hlt0; clear hlt0
  go_enter Try.func17, Try.ntmps17
  go_wp2_with fail
  go_loopw [1, 5] (fun m i wr => ∃ k : Nat, k ≤ n ∧ i = .int .i64 k ∧ m = .int .i64 (1 + k) ∧ Below w.heap.size w wr) (fun _ i _ => n - (intOf i).toNat)
  case atStart => exact ⟨0, Nat.zero_le _, rfl, rfl, Below.refl _ _⟩
  case round =>
    obtain ⟨k, hk, rfl, rfl, hb⟩ := hrel
    by_cases hlt : k < n
    · obtain ⟨g, rfl, hc⟩ := HA.out k (by rw [marks_len]; exact hlt)
      have hg := HL.out g rfl
      have hm : (marks n)[k]'(by rw [marks_len]; exact hlt) = mkT (k + 1) := by simp [marks]
      rw [hm] at hc
      have hcr := (hb.cell (p := ⟨g, k, none⟩) hg).trans hc
      clear hm hc
      go_wp2_with fail
      go_region_held3 (fun w' => w'.cell? ⟨g, k, none⟩ = some (.string (mkT (k + 1)))) (first | assumption | (simp [go_sem]; assumption)) ((go_at_call 31; refine (markText_int _ (k + 1) (by omega) (by omega) (by omega) _).mono ?_; rintro e w1 ⟨rfl, hb1⟩; have hc1 := (hb1.cell (p := ⟨g, k, none⟩) (by have := hb.size; simp; omega)).trans hcr))
      have HB := Lib.hid (hb.drew.trans (hb1.mono hb.size))
      go_wp2_with fail
      go_roundw
      case rel => exact ⟨k + 1, by omega, by go_num, by go_num, HB.out⟩
      case measure => simp [intOf]; omega
    · go_wp2_with fail
      go_ret
      obtain rfl : k = n := by omega
      exact ⟨rfl, hb⟩

end Go.Proofs.Ytaaffhiechhbaaa
