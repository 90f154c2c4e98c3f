/-
  Walks and facts of this seat, part Da (merged by a script of this repo out of smaller texts).
-/
import Derived.Test.YthoniopkeiifnaaCa
import Derived.Test.YthoniopkeiifnaaProg
import Derived.WalkKit
import Derived.WalkSpells
import Derived.WalkLawsBesides
import Derived.Lib.Hide
import Derived.BigQuiet
import Derived.Deep.QuietTactic
import Derived.OwnWalk
import Derived.Deep.DeepCutAuto
/-! Cur -/
namespace Go.Proofs.Ythoniopkeiifnaa
open Go.RowKit

/-- What a mask leaves. -/
theorem and_mask (x : Int) (m : Nat) (hm : m ≤ 1073741823) : 0 ≤ bits BinOp.and IntKind.i64 x m ∧ bits BinOp.and IntKind.i64 x m ≤ m := by
  have h2 : (BitVec.ofInt 64 (m : Int)).toNat = m := by
    rw [BitVec.ofInt_natCast, BitVec.toNat_ofNat]; exact Nat.mod_eq_of_lt (by omega)
  have h3 : (BitVec.ofInt 64 x &&& BitVec.ofInt 64 (m : Int)).toNat ≤ m := by
    rw [BitVec.toNat_and, h2]; exact Nat.and_le_right
  have h4 : bits BinOp.and IntKind.i64 x m = IntKind.i64.wrap ((BitVec.ofInt 64 x &&& BitVec.ofInt 64 (m : Int)).toNat : Int) := rfl
  rw [h4, IntWalk.i64_in _ (by omega)]
  omega

theorem and255 (x : Int) : 0 ≤ bits BinOp.and IntKind.i64 x 255 ∧ bits BinOp.and IntKind.i64 x 255 ≤ 255 := and_mask x 255 (by omega)

theorem andM (x : Int) : 0 ≤ bits BinOp.and IntKind.i64 x 1073741823 ∧ bits BinOp.and IntKind.i64 x 1073741823 ≤ 1073741823 := and_mask x 1073741823 (Nat.le_refl _)

/-- The bytes of a slice that came in, below block B. -/
def CodeAt (w : World) (B : Nat) (A : Option Addr) (n : Nat) : Prop := ∀ k, k < n → ∃ (a : Addr) (x : UInt8), A = some a ∧ a.block < B ∧ w.cell? (a.add k) = some (.int .u8 x.toNat)
theorem CodeAt.below {w w' : World} {B : Nat} {A : Option Addr} {n : Nat} (h : CodeAt w B A n) (hb : Below B w w') : CodeAt w' B A n := fun k hk => by
  obtain ⟨a, x, e, hl, hc⟩ := h k hk
  have hbl : (a.add k).block = a.block := by unfold Addr.add; split <;> rfl
  exact ⟨a, x, e, hl, (hb.cell (p := a.add k) (by rw [hbl]; exact hl)).trans hc⟩
/-- Block g holds a reader of the bytes. -/
def CurAt (w : World) (A : Option Addr) (n c g : Nat) : Prop := ∃ (i : Nat) (h : Int), w.heap[g]? = some (.cells #[.slice A n c, .int .i64 i, .int .i64 h] 133 (0, 0)) ∧ i ≤ n

theorem og_dN {a w : World} {r : Option Nat} (h : a.grownBy w r) (n : Nat) : a.grownBy (w.drewN n) r := ⟨h.os, h.tape, h.output, h.size, h.block⟩
theorem og_set {a w : World} {g : Nat} (h : a.grownBy w (some g)) (j : Nat) (u : Value) : a.grownBy (w.setCell ⟨g, j, none⟩ u) (some g) :=
  ⟨h.os, h.tape, h.output, by simpa [World.setCell] using h.size, fun k hk hr => (Below.heap_setCell w ⟨g, j, none⟩ u k (by
    intro e; exact hr (by rw [e]))).trans (h.block k hk hr)⟩
theorem og_below {a w : World} {g B : Nat} (h : a.grownBy w (some g)) (hB : B ≤ g) (hg : g < a.heap.size) : Below B a w := ⟨h.os, h.tape, h.output, h.size, fun k hk => h.block k (by omega) (by simp; omega)⟩
theorem CurAt.lt {w : World} {A : Option Addr} {n c g : Nat} (h : CurAt w A n c g) : g < w.heap.size := by
  obtain ⟨i, x, hh, _⟩ := h
  exact (Array.getElem?_eq_some_iff.1 hh).1
theorem below_dN {B : Nat} {a w : World} (h : Below B a w) (n : Nat) : Below B a (w.drewN n) := ⟨h.os, h.tape, h.output, h.size, h.block⟩

set_option maxRecDepth 100000 in
set_option maxHeartbeats 1600000 in
theorem byte_any (A : Option Addr) (n c g B : Nat) (w : World) (hC : CodeAt w B A n) (hg : CurAt w A n c g) (hB : B ≤ g) (hn : n ≤ 1048576) :
    Calls Try.prog 129 #[.pointer (some ⟨g, 0, none⟩)] w fun e w' => (∃ x : Int, 0 ≤ x ∧ x ≤ 255 ∧ e = .returned (.int .i64 x)) ∧ CurAt w' A n c g ∧ w.grownBy w' (some g) := by
  have hgl := hg.lt
  obtain ⟨i, h, hh, hi⟩ := hg
  have c0 : w.cell? ⟨g, 0, none⟩ = some (.slice A n c) := cell_of_row w g 0 _ _ _ hh
  have c1 : w.cell? ⟨g, 1, none⟩ = some (.int .i64 i) := cell_of_row w g 1 _ _ _ hh
  have c2 : w.cell? ⟨g, 2, none⟩ = some (.int .i64 h) := cell_of_row w g 2 _ _ _ hh
  have f0 : w.frozen? ⟨g, 0, none⟩ = false := frozen_of_row w g 0 _ _ hh
  have f1 : w.frozen? ⟨g, 1, none⟩ = false := frozen_of_row w g 1 _ _ hh
  have f2 : w.frozen? ⟨g, 2, none⟩ = false := frozen_of_row w g 2 _ _ hh
  go_enter Try.func129, Try.ntmps129
  go_wp2_with fail
  obtain ⟨h', hh'⟩ : ∃ h', h' = wrap64 (wrap64 (h * 6364136223846793005) + 1442695040888963407) := ⟨_, rfl⟩
  rw [← hh']
  clear hh'
  have H1 : (w.setCell ⟨g, 2, none⟩ (.int .i64 h')).heap[g]? = some (.cells #[.slice A n c, .int .i64 i, .int .i64 h'] 133 (0, 0)) := heap_setCell_same w g 2 _ _ (.int .i64 h') hh
  have hb1 : w.grownBy (w.setCell ⟨g, 2, none⟩ (.int .i64 h')) (some g) := og_set (World.grownBy.refl w _) 2 _
  obtain ⟨w1, hw1⟩ : ∃ w1, w1 = w.setCell ⟨g, 2, none⟩ (.int .i64 h') := ⟨_, rfl⟩
  rw [← hw1] at H1 hb1 ⊢
  clear hw1 c0 c1 c2 f0 f1 f2 hh
  have HH := Lib.hid H1
  have c0 : w1.cell? ⟨g, 0, none⟩ = some (.slice A n c) := cell_of_row w1 g 0 _ _ _ H1
  have c1 : w1.cell? ⟨g, 1, none⟩ = some (.int .i64 i) := cell_of_row w1 g 1 _ _ _ H1
  have c2 : w1.cell? ⟨g, 2, none⟩ = some (.int .i64 h') := cell_of_row w1 g 2 _ _ _ H1
  have f1 : w1.frozen? ⟨g, 1, none⟩ = false := frozen_of_row w1 g 1 _ _ H1
  have HC := Lib.hid (hC.below (og_below hb1 hB hgl))
  clear H1 hC
  go_quiet (fail)
  obtain ⟨x, hx⟩ : ∃ x, x = bits BinOp.and IntKind.i64 (bits BinOp.xor IntKind.i64 (h' / 8589934592) (h' / 35184372088832)) 255 := ⟨_, rfl⟩
  rw [← hx]
  have hx1 : 0 ≤ x := by rw [hx]; exact (and_mask _ 255 (by omega)).1
  have hx2 : x ≤ 255 := by rw [hx]; exact (and_mask _ 255 (by omega)).2
  clear hx
  by_cases hlt : i < n
  · obtain ⟨ad, y, rfl, _, hc⟩ := HC.out i hlt
    go_wp2_with fail
    go_quiet (fail)
    go_wp2_with fail
    go_quiet (fail)
    go_wp2_with fail
    go_ret
    refine ⟨⟨_, (and255 _).1, (and255 _).2, rfl⟩, ⟨i + 1, h', (heap_setCell_same _ g 1 _ _ (.int .i64 ((i : Int) + 1)) HH.out).trans ?_, by omega⟩, ?_⟩
    · rw [show ((i + 1 : Nat) : Int) = (i : Int) + 1 from by omega]; rfl
    · exact og_set (og_dN hb1 _) 1 _
  · go_wp2_with fail
    go_quiet (fail)
    go_wp2_with fail
    go_ret
    exact ⟨⟨x, hx1, hx2, rfl⟩, ⟨i, h', HH.out, hi⟩, og_dN (og_dN hb1 _) _⟩
def NewCur (w : World) (A : Option Addr) (n c : Nat) (e : Ending) (w' : World) : Prop := ∃ g, e = .returned (.pointer (some ⟨g, 0, none⟩)) ∧ w.heap.size ≤ g ∧ CurAt w' A n c g ∧ Below w.heap.size w w'

set_option maxRecDepth 100000 in
set_option maxHeartbeats 800000 in
theorem new_any (A : Option Addr) (n c : Nat) (w : World) (hC : CodeAt w w.heap.size A n) (hn : n ≤ 1048576) :
    Calls Try.prog 130 #[.slice A n c] w (NewCur w A n c) := by
  have HC := Lib.hid hC; clear hC
  go_enter Try.func130, Try.ntmps130
  go_wp2_with fail
  go_loop [3, 4] (fun h i => ∃ (k : Nat) (x : Int), k ≤ n ∧ i = .int .i64 k ∧ h = .int .i64 x ∧ 0 ≤ x ∧ x ≤ 1073741823) (fun _ i => n - (intOf i).toNat)
  case atStart => exact ⟨0, 2173 + n, Nat.zero_le _, rfl, by go_num, by omega, by omega⟩
  case round =>
    obtain ⟨k, x, hk, rfl, rfl, hx1, hx2⟩ := hrel
    by_cases hlt : k < n
    · by_cases h4 : (k : Int) < 4000
      · obtain ⟨ad, y, rfl, _, hc⟩ := HC.out k hlt
        go_wp2_with fail
        go_round
        case rel => exact ⟨k + 1, _, by omega, by go_num, rfl, (andM _).1, (andM _).2⟩
        case measure => simp [intOf]; omega
      · go_wp2_with fail
        go_ret
        exact ⟨_, rfl, Nat.le_refl _, ⟨0, x, heap_alloc_new w _, Nat.zero_le _⟩, (Below.refl _ _).alloc (Nat.le_refl _) _⟩
    · go_wp2_with fail
      go_ret
      exact ⟨_, rfl, Nat.le_refl _, ⟨0, x, heap_alloc_new w _, Nat.zero_le _⟩, (Below.refl _ _).alloc (Nat.le_refl _) _⟩
set_option maxRecDepth 100000 in
set_option maxHeartbeats 800000 in
/-- A number below m, for m from 1 to 256. -/
theorem below_any (A : Option Addr) (n c g B : Nat) (m : Int) (w : World) (hC : CodeAt w B A n) (hg : CurAt w A n c g) (hB : B ≤ g) (hn : n ≤ 1048576) (hm1 : 1 ≤ m) (hm2 : m ≤ 256) :
    Calls Try.prog 85 #[.pointer (some ⟨g, 0, none⟩), .int .i64 m] w fun e w' => (∃ x : Int, 0 ≤ x ∧ x < m ∧ e = .returned (.int .i64 x)) ∧ CurAt w' A n c g ∧ w.grownBy w' (some g) := by
  have HB := Lib.hid (byte_any A n c g B w hC hg hB hn)
  clear hC hg
  go_enter Try.func85, Try.ntmps85
  go_wp2_with fail
  refine HB.out.mono ?_
  rintro e w1 ⟨⟨x, hx1, hx2, rfl⟩, hg1, hb1⟩
  have HG := Lib.hid hg1; clear hg1
  go_wp2_with fail
  go_ret
  exact ⟨⟨_, Int.emod_nonneg _ (by omega), Int.emod_lt_of_pos _ (by omega), rfl⟩, HG.out, hb1⟩
end Go.Proofs.Ythoniopkeiifnaa

/-! Ahead -/
namespace Go.Proofs.Ythoniopkeiifnaa
open Go.RowKit

theorem CodeAt.mono {w : World} {B B' : Nat} {A : Option Addr} {n : Nat} (h : CodeAt w B A n) (hB : B ≤ B') : CodeAt w B' A n := fun k hk => by
  obtain ⟨a, x, e, hl, hc⟩ := h k hk
  exact ⟨a, x, e, by omega, hc⟩
set_option maxRecDepth 100000 in
set_option maxHeartbeats 800000 in
/-- A reader that is some bytes ahead. -/
theorem ahead_any (A : Option Addr) (n c : Nat) (m : Int) (w : World) (hC : CodeAt w w.heap.size A n) (hn : n ≤ 1048576) (hm1 : 0 ≤ m) (hm2 : m ≤ 1000) :
    Calls Try.prog 86 #[.slice A n c, .int .i64 m] w (NewCur w A n c) := by
  have HN := Lib.hid (new_any A n c w hC hn)
  have HC := Lib.hid hC; clear hC
  go_enter Try.func86, Try.ntmps86
  go_wp2_with fail
  refine HN.out.mono ?_
  rintro e w1 ⟨g, rfl, hgw, hg, hb⟩
  go_wp2_with fail
  go_loopw [6] (fun i wr => ∃ k : Int, 0 ≤ k ∧ k ≤ m ∧ i = .int .i64 k ∧ CurAt wr A n c g ∧ Below w.heap.size w wr) (fun i _ => (m - intOf i).toNat)
  case atStart => exact ⟨0, Int.le_refl _, hm1, rfl, hg, hb⟩
  case round =>
    obtain ⟨wo, rfl⟩ : ∃ wo : World, wo = wr := ⟨_, rfl⟩
    clear hg hb
    obtain ⟨k, hk0, hk, rfl, hg, hb⟩ := hrel
    by_cases hlt : k < m
    · have HBy := Lib.hid (byte_any A n c g w.heap.size wo (HC.out.below hb) hg hgw hn)
      have hgl := hg.lt
      clear hg
      go_wp2_with fail
      refine HBy.out.mono ?_
      rintro e w2 ⟨⟨x, hx1, hx2, rfl⟩, hg2, hb2⟩
      have R := Lib.hid (And.intro hg2 (hb.trans (og_below hb2 hgw hgl)))
      clear hg2 hb2 hb
      go_wp2_with fail
      go_roundw
      case rel => exact ⟨k + 1, by omega, by omega, rfl, R.out.1, R.out.2⟩
      case measure => simp [intOf]; omega
    · go_wp2_with fail
      go_ret
      exact ⟨g, rfl, hgw, hg, hb⟩

end Go.Proofs.Ythoniopkeiifnaa

/-! DrawPoly -/
namespace Go.Proofs.Ythoniopkeiifnaa

def triL (a b c d e : Nat) : List (Int × Int) := [((1 + a : Nat), 1), ((5 + b : Nat), (1 + c : Nat)), ((3 + d : Nat), (5 + e : Nat))]
def rectL (w h : Nat) : List (Int × Int) := [(1, 1), ((1 + w : Nat), 1), ((1 + w : Nat), (1 + h : Nat)), (1, (1 + h : Nat))]
theorem tri_all : ((List.range 2).all fun a => (List.range 4).all fun b => (List.range 3).all fun c => (List.range 5).all fun d => (List.range 4).all fun e => polyB (triL a b c d e)) = true := by decide +kernel
theorem rect_all : ((List.range 8).all fun w => (List.range 8).all fun h => decide (w < 2) || decide (h < 2) || polyB (rectL w h)) = true := by decide +kernel
theorem tri_poly {a b c d e : Nat} (ha : a < 2) (hb : b < 4) (hc : c < 3) (hd : d < 5) (he : e < 4) : polyB (triL a b c d e) = true := by
  have h := tri_all
  simp only [List.all_eq_true, List.mem_range] at h
  exact h a ha b hb c hc d hd e he
theorem rect_poly {w h : Nat} (h1 : 2 ≤ w) (h2 : w < 8) (h3 : 2 ≤ h) (h4 : h < 8) : polyB (rectL w h) = true := by
  have k := rect_all
  simp only [List.all_eq_true, List.mem_range] at k
  have := k w h2 h h4
  rw [decide_eq_false (by omega), decide_eq_false (by omega)] at this
  exact this
end Go.Proofs.Ythoniopkeiifnaa

/-! LawMk -/
namespace Go.Proofs.Ythoniopkeiifnaa
open Go.RowKit

theorem own_apart' {w w1 : World} {B0 B1 : Nat} {e : TypeId} {v0 v1 : Value} {n0 n1 : Nat} {xs0 xs1 : List Value} (h0 : w.ownsRow B0 e 2 v0 n0 xs0) (hB : w.heap.size ≤ B1) (h1 : w1.ownsRow B1 e 2 v1 n1 xs1) : v1.ownBlock = none ∨ v1.ownBlock ≠ v0.ownBlock := by
  cases hv : v1.ownBlock with
  | none => exact .inl rfl
  | some k =>
    refine .inr fun he => ?_
    have a1 := (h1.lt k hv).1
    have a2 := (h0.lt k he.symm).2
    omega
theorem own_ptsc {w : World} {B : Nat} {e : TypeId} {v : Value} {n : Nat} {L : List (Int × Int)} (h : w.ownsRow B e 2 v n (flat L)) :
    n = L.length ∧ ∃ A c, v = .slice A L.length c ∧ PtsA w A L ∧ L.length ≤ c := by
  obtain ⟨h1, A, c, h2, h3⟩ := own_pts h
  refine ⟨h1, A, c, h2, h3, ?_⟩
  rcases h.2 with ⟨h4, h5⟩ | ⟨g, cap, cur, h4, _, _, h5, _⟩
  · omega
  · rw [h2] at h4
    simp only [Value.slice.injEq] at h4
    omega
end Go.Proofs.Ythoniopkeiifnaa

/-! DrawP -/
namespace Go.Proofs.Ythoniopkeiifnaa
open Go.RowKit

theorem CurAt.on {w w' : World} {A : Option Addr} {n c g : Nat} (h : CurAt w A n c g) (hb : Below w.heap.size w w') : CurAt w' A n c g := by
  have hl := h.lt
  obtain ⟨i, x, hh, hi⟩ := h
  exact ⟨i, x, (hb.block g hl).trans hh, hi⟩
/-- The reader in block g, in a world that grew from w. -/
def Cu (w : World) (A : Option Addr) (n c g : Nat) (W : World) : Prop := CurAt W A n c g ∧ w.grownBy W (some g)
theorem Cu.on {w W W' : World} {A : Option Addr} {n c g : Nat} (h : Cu w A n c g W) (hb : Below W.heap.size W W') : Cu w A n c g W' :=
  ⟨h.1.on hb, h.2.trans ⟨hb.os, hb.tape, hb.output, hb.size, fun k hk _ => hb.block k hk⟩⟩
theorem Cu.alloc {w W : World} {A : Option Addr} {n c g : Nat} (h : Cu w A n c g W) (o : Obj) : Cu w A n c g (W.alloc o) := h.on ((Below.refl _ W).alloc (Nat.le_refl _) o)
/-- The reader's points, owned. -/
def St (w : World) (A : Option Addr) (n c g : Nat) (v : Value) (M : List (Int × Int)) (W : World) : Prop := W.ownsRow w.heap.size 45 2 v M.length (flat M) ∧ Cu w A n c g W
theorem St.on {w W W' : World} {A : Option Addr} {n c g : Nat} {v : Value} {M : List (Int × Int)} (h : St w A n c g v M W) (hb : Below W.heap.size W W') : St w A n c g v M W' :=
  ⟨own_below h.1 hb, h.2.on hb⟩
theorem below_c (A : Option Addr) (n c g B : Nat) (m : Int) (w W : World) (hC : CodeAt w B A n) (hB : B ≤ g) (hg : g < w.heap.size) (hn : n ≤ 1048576) (hm1 : 1 ≤ m) (hm2 : m ≤ 256) (h : Cu w A n c g W) :
    Calls Try.prog 85 #[.pointer (some ⟨g, 0, none⟩), .int .i64 m] W fun e w' => (∃ x : Nat, (x : Int) < m ∧ e = .returned (.int .i64 x)) ∧ W.grownBy w' (some g) ∧ Cu w A n c g w' := by
  refine (below_any A n c g B m W (hC.below (og_below h.2 hB hg)) h.1 hB hn hm1 hm2).mono ?_
  rintro e w' ⟨⟨x, h1, h2, rfl⟩, h3, h4⟩
  refine ⟨⟨x.toNat, by omega, by rw [Int.toNat_of_nonneg h1]⟩, h4, h3, h.2.trans h4⟩
theorem St.grow {w W W' : World} {A : Option Addr} {n c g : Nat} {v : Value} {M : List (Int × Int)} (hg : g < w.heap.size) (h : St w A n c g v M W) (h1 : W.grownBy W' (some g)) (h2 : Cu w A n c g W') : St w A n c g v M W' :=
  ⟨h.1.kept h1 (by
    cases hv : v.ownBlock with
    | none => exact .inl rfl
    | some k => exact .inr fun e => by have := (h.1.lt k hv).1; simp only [Option.some.injEq] at e; omega), h2⟩
set_option maxRecDepth 100000 in
set_option maxHeartbeats 400000 in
theorem once_c (A : Option Addr) (n c g B : Nat) (m : Int) (w W : World) (hC : CodeAt w B A n) (hB : B ≤ g) (hg : g < w.heap.size) (hn : n ≤ 1048576) (hm1 : 1 ≤ m) (hm2 : m ≤ 256) (h : Cu w A n c g W) :
    Calls Try.prog 131 #[.pointer (some ⟨g, 0, none⟩), .int .i64 m] W fun e w' => (∃ b : Bool, e = .returned (.bool b)) ∧ W.grownBy w' (some g) ∧ Cu w A n c g w' := by
  have HB := Lib.hid (below_c A n c g B m w W hC hB hg hn hm1 hm2 h)
  clear hC h
  go_enter Try.func131, Try.ntmps131
  go_wp2_with fail
  refine HB.out.mono ?_
  rintro e w1 ⟨⟨x, hx, rfl⟩, R⟩
  have HR := Lib.hid R
  clear R
  go_wp2_with fail
  go_ret
  exact ⟨⟨_, rfl⟩, HR.out⟩

set_option maxRecDepth 100000 in
set_option maxHeartbeats 8000000 in
theorem drawP_any (A : Option Addr) (n c g B : Nat) (w : World) (hC : CodeAt w B A n) (hg : CurAt w A n c g) (hB : B ≤ g) (hn : n ≤ 1048576) (HT : ∀ M, polyB M = true → polyB (turnL M) = true) :
    Calls Try.prog 88 #[.pointer (some ⟨g, 0, none⟩)] w fun e w' => ∃ v M, e = .returned v ∧ polyB M = true ∧ St w A n c g v M w' := by
  obtain ⟨i0, hi0, hz0, hz1, hz2⟩ := info_parts infoPt
  have hgl := hg.lt
  have HBc := Lib.hid (fun m W h1 h2 h => below_c A n c g B m w W hC hB hgl hn h1 h2 h)
  have HOc := Lib.hid (fun m W h1 h2 h => once_c A n c g B m w W hC hB hgl hn h1 h2 h)
  have HTU := Lib.hid HT
  have HC0 : Hid (Cu w A n c g w) := ⟨hg, World.grownBy.refl w _⟩
  clear hC hg HT
  go_enter Try.func88, Try.ntmps88
  go_wp2_with fail
  refine (HBc.out 2 _ (by omega) (by omega) HC0.out).mono ?_
  rintro e w1 ⟨⟨xa, ha, rfl⟩, -, C1⟩
  have HC1 := Lib.hid C1
  clear C1 HC0
  go_wp2_with fail
  refine (HBc.out 4 _ (by omega) (by omega) HC1.out).mono ?_
  rintro e w2 ⟨⟨xb, hb, rfl⟩, -, C1⟩
  have HC2 := Lib.hid C1
  clear C1 HC1
  go_wp2_with fail
  refine (HBc.out 3 _ (by omega) (by omega) HC2.out).mono ?_
  rintro e w3 ⟨⟨xc, hc, rfl⟩, -, C1⟩
  have HC3 := Lib.hid C1
  clear C1 HC2
  go_wp2_with fail
  refine (HBc.out 5 _ (by omega) (by omega) HC3.out).mono ?_
  rintro e w4 ⟨⟨xd, hd, rfl⟩, -, C1⟩
  have HC4 := Lib.hid C1
  clear C1 HC3
  go_wp2_with fail
  refine (HBc.out 4 _ (by omega) (by omega) HC4.out).mono ?_
  rintro e w5 ⟨⟨xe, he, rfl⟩, -, C1⟩
  have HC5 := Lib.hid C1
  clear C1 HC4
  go_wp2_with fail
  have S5 : Hid (St w A n c g (.slice (some ⟨w5.heap.size, 0, none⟩) 3 3) (triL xa xb xc xd xe) (w5.alloc (.cells #[.int .i64 (1 + (xa : Int)), .int .i64 1, .int .i64 (5 + (xb : Int)), .int .i64 (1 + (xc : Int)), .int .i64 (3 + (xd : Int)), .int .i64 (5 + (xe : Int))] 45))) := by
    refine ⟨?_, HC5.out.alloc _⟩
    have h := World.ownsRow_lit (base := w.heap.size) (e := 45) (size := 2) w5 #[.int .i64 (1 + (xa : Int)), .int .i64 1, .int .i64 (5 + (xb : Int)), .int .i64 (1 + (xc : Int)), .int .i64 (3 + (xd : Int)), .int .i64 (5 + (xe : Int))] 3 HC5.out.2.size (by decide) rfl
    simpa [flat, triL] using h
  have PT : Hid (polyB (triL xa xb xc xd xe) = true) := tri_poly (by omega) (by omega) (by omega) (by omega) (by omega)
  generalize (w5.alloc (.cells #[.int .i64 (1 + (xa : Int)), .int .i64 1, .int .i64 (5 + (xb : Int)), .int .i64 (1 + (xc : Int)), .int .i64 (3 + (xd : Int)), .int .i64 (5 + (xe : Int))] 45)) = w6 at *
  refine (HOc.out 3 _ (by omega) (by omega) S5.out.2).mono ?_
  rintro e w7 ⟨⟨b1, rfl⟩, C6, C7⟩
  have S7 := Lib.hid (S5.out.grow hgl C6 C7)
  clear C6 C7 S5 HC5
  go_upto_if 30 with (fail)
  go_cut [3] (fun s wx => ∃ M, Hid (polyB M = true) ∧ Hid (St w A n c g s M wx))
  case first =>
    cases b1
    · go_wp2_with fail
      go_meet
      exact ⟨_, PT, S7⟩
    · go_wp2_with fail
      refine (HBc.out 6 _ (by omega) (by omega) S7.out.2).mono ?_
      rintro e w8 ⟨⟨xw, hw, rfl⟩, -, C1⟩
      have HC8 := Lib.hid C1
      clear C1 S7
      go_wp2_with fail
      refine (HBc.out 6 _ (by omega) (by omega) HC8.out).mono ?_
      rintro e w9 ⟨⟨xh, hh, rfl⟩, -, C1⟩
      have HC9 := Lib.hid C1
      clear C1 HC8
      go_wp2_with fail
      go_meet
      refine ⟨rectL (2 + xw) (2 + xh), rect_poly (by omega) (by omega) (by omega) (by omega), ?_, HC9.out.alloc _⟩
      have h := World.ownsRow_lit (base := w.heap.size) (e := 45) (size := 2) w9 #[.int .i64 1, .int .i64 1, .int .i64 (1 + (2 + (xw : Int))), .int .i64 1, .int .i64 (1 + (2 + (xw : Int))), .int .i64 (1 + (2 + (xh : Int))), .int .i64 1, .int .i64 (1 + (2 + (xh : Int)))] 4 HC9.out.2.size (by decide) rfl
      simpa [flat, rectL] using h
  case rest =>
    obtain ⟨M0, PM0, S0⟩ := hcut
    go_wp2_with fail
    refine (HBc.out 5 _ (by omega) (by omega) S0.out.2).mono ?_
    rintro e w10 ⟨⟨x5, h5, rfl⟩, C6, C7⟩
    have S1 := Lib.hid (S0.out.grow hgl C6 C7)
    clear C6 C7 S0
    go_wp2_with fail
    go_loopw [3, 6, 7, 8, 9] (fun s k _ _ _ wr => ∃ (j : Nat) (M : List (Int × Int)), k = .int .i64 j ∧ j < 1000 ∧ Hid (polyB M = true) ∧ Hid (St w A n c g s M wr)) (fun _ k _ _ _ _ => (intOf k).toNat)
    case atStart => exact ⟨x5, M0, rfl, by omega, PM0, S1⟩
    case round =>
      obtain ⟨wo, rfl⟩ : ∃ wo : World, wo = wr := ⟨_, rfl⟩
      clear S1 PM0
      obtain ⟨j, M, rfl, hj, PM, SM⟩ := hrel
      by_cases hlt : 0 < j
      · obtain ⟨hM3, hM10, -⟩ := polyB_all PM.out
        obtain ⟨g3, cp, rfl, hg3, hg3l⟩ := SM.out.1.form (by omega)
        have hcap := own_cap SM.out.1
        go_wp2_with fail
        refine (HBc.out M.length _ (by omega) (by omega) SM.out.2).mono ?_
        rintro e w11 ⟨⟨k, hk, rfl⟩, C6, C7⟩
        have SM1 := Lib.hid (SM.out.grow hgl C6 C7)
        clear C6 C7 SM
        go_wp2_with fail
        refine (HBc.out 10 _ (by omega) (by omega) SM1.out.2).mono ?_
        rintro e w12 ⟨⟨x, hx, rfl⟩, C6, C7⟩
        have SM2 := Lib.hid (SM1.out.grow hgl C6 C7)
        clear C6 C7 SM1
        go_wp2_with fail
        refine (HBc.out 10 _ (by omega) (by omega) SM2.out.2).mono ?_
        rintro e w13 ⟨⟨y, hy, rfl⟩, C6, C7⟩
        have SM3 := Lib.hid (SM2.out.grow hgl C6 C7)
        clear C6 C7 SM2
        obtain ⟨k1, hk0, hk1, HF⟩ : ∃ k1 : Nat, 0 < k1 ∧ k1 ≤ M.length ∧ Hid ((k : Int) + 1 = (k1 : Int)) :=
          ⟨k + 1, by omega, by omega, show _ = _ by omega⟩
        have HFL := Lib.hid (show (flat (M.take k1)).length = k1 * 2 from by rw [flat_len, List.length_take]; omega)
        have HD3 := Lib.hid (show 0 + k1 ≤ maxLen from by unfold maxLen; omega)
        have HD4 := Lib.hid (show (0 + k1) * 16 ≤ 140737488355328 from by omega)
        have hk2 : (k1 : Int) ≤ (cp : Int) := by omega
        have hk3 : (k1 : Int) ≤ (M.length : Int) := by omega
        have hk4 : (M.length : Int) ≤ (cp : Int) := by omega
        have SM4 := Lib.hid (SM3.out.on ((Below.refl _ w13).alloc (Nat.le_refl _) (.cells #[.int .i64 (x : Int), .int .i64 (y : Int)] 45)))
        have HX : Hid ((w13.alloc (.cells #[.int .i64 (x : Int), .int .i64 (y : Int)] 45)).cell? ⟨w13.heap.size, 0, none⟩ = some (.int .i64 (x : Int)) ∧ (w13.alloc (.cells #[.int .i64 (x : Int), .int .i64 (y : Int)] 45)).cell? ⟨w13.heap.size, 1, none⟩ = some (.int .i64 (y : Int))) :=
          ⟨cell_of_row _ _ 0 _ _ _ (heap_alloc_new w13 _), cell_of_row _ _ 1 _ _ _ (heap_alloc_new w13 _)⟩
        clear SM3
        go_upto_region 11 with (fail)
        generalize (w13.alloc (.cells #[.int .i64 (x : Int), .int .i64 (y : Int)] 45)) = W1 at *
        generalize w13.heap.size = gx at *
        have own0 := World.ownsRow_lit (base := W1.heap.size) (e := 45) (size := 2) W1 #[] 0 (Nat.le_refl _) (by unfold maxLen; omega) (by rfl)
        have hb0 := below1 W1 (.cells #[] 45)
        have HN := Lib.hid (ptsA_take (ptsA_on (ptsA_of SM4.out.1) hb0) k1)
        have hf2 := HF.out
        go_wp2_with (at_builtin; refine wpList_append_own _ rfl _ _ 34 rfl W1.heap.size 45 i0 (.agg #[.int .i64 0, .int .i64 0]) 2 16 Try.underlying34 hi0 hz0 hz1 hz2 rfl (by decide) _ _ _ rfl own0 ⟨g3, 0, none⟩ k1 cp (flat (M.take k1)) rfl HFL.out HN.out (flat_one _) HD3.out HD4.out (by simp) ?_)
        clear hf2
        intro v6 w6 own6 hgrow _
        have B6 : Hid (Below W1.heap.size W1 w6) := hb0.grown hgrow (by simp) (fun q hq => (own0.lt q hq).1)
        have own6' : w6.ownsRow W1.heap.size 45 2 v6 k1 (flat (M.take k1)) := by simpa using own6
        obtain ⟨g6, c6, rfl, hg6, hg6l⟩ := own6'.form (by omega)
        have cx := cell_on B6.out rfl HX.out.1
        have cy := cell_on B6.out rfl HX.out.2
        have hsz := B6.out.size
        clear own0 own6 hgrow hb0 HN
        go_wp2_with (at_builtin; refine wpList_append_lies _ rfl _ _ 34 rfl W1.heap.size 45 i0 (.agg #[.int .i64 0, .int .i64 0]) 2 16 Try.underlying34 hi0 hz0 hz1 hz2 rfl (by decide) _ _ _ rfl (own6'.alloc _) ⟨w6.heap.size, 0, none⟩ 1 1 [.int .i64 (x : Int), .int .i64 (y : Int)] rfl rfl ?d1 ?d2 (by omega) ?d3 ?d4 ?d5 (w6.heap.size + 1) (by simp) ?_)
        case d1 => exact World.news_of_block (cs := #[.int .i64 (x : Int), .int .i64 (y : Int)]) (t := 45) (fr := (0, 0)) (heap_alloc_new w6 _)
        case d2 => simp [Value.oneCell']
        case d3 => unfold maxLen; omega
        case d4 => omega
        case d5 => simp; omega
        intro g7 c7 w7 own7 hgrow _ _
        have B7 : Hid (Below W1.heap.size W1 w7) := (B6.out.alloc hsz _).grown hgrow (by simp; omega) (fun q hq => (own6'.lt q hq).1)
        clear own6' hgrow cx cy B6 hsz
        obtain ⟨Q1, HQ1⟩ : ∃ Q1, Hid (Q1 = M.take k1 ++ [((x : Int), (y : Int))]) := ⟨_, rfl⟩
        have HQL : Hid (Q1.length = k1 + 1) := by
          show _ = _
          rw [HQ1.out, List.length_append, List.length_take, Nat.min_eq_left hk1]; rfl
        have own7' : Hid (w7.ownsRow W1.heap.size 45 2 (.slice (some ⟨g7, 0, none⟩) (k1 + 1) c7) (k1 + 1) (flat Q1)) := by
          show World.ownsRow _ _ _ _ _ _ _
          rw [HQ1.out, flat_append]; exact own7
        have HD5 := Lib.hid (show k1 + 1 + (M.length - k1) ≤ maxLen from by unfold maxLen; omega)
        have HD6 := Lib.hid (show (k1 + 1 + (M.length - k1)) * 16 ≤ 140737488355328 from by omega)
        have HFM := Lib.hid (show (flat (M.drop k1)).length = (M.length - k1) * 2 from by rw [flat_len, List.length_drop])
        have PAM := Lib.hid (ptsA_on (ptsA_of SM4.out.1) B7.out)
        have hsz := B7.out.size
        clear own7
        have own8 := own7'.out
        obtain ⟨Q, HQ⟩ : ∃ Q, Hid (flat Q1 ++ flat (M.drop k1) = flat Q ∧ Q.length = k1 + 1 + (M.length - k1)) :=
          ⟨Q1 ++ M.drop k1, (flat_append _ _).symm, by rw [List.length_append, HQL.out, List.length_drop]⟩
        have HQ6 : Hid (Q.length ≤ 1048576) := by
          show Q.length ≤ 1048576
          rw [HQ.out.2]; omega
        have hwW := SM4.out.2.2.size
        by_cases hkc : k1 = cp
        · have e0 : M.drop k1 = [] := List.drop_eq_nil_of_le (by omega)
          have HE : Hid (flat Q1 ++ flat [] = flat Q ∧ Q.length = k1 + 1 + 0) := by
            have h := HQ.out
            rw [e0, show M.length - k1 = 0 from by omega] at h
            exact h
          have HN : Hid (∀ j u, (flat [])[j]? = some u → w7.cell? (Addr.add ⟨g3, 0, none⟩ j) = some u) := by
            intro j u hu
            simp [flat] at hu
          have HD7 := Lib.hid (show k1 + 1 + 0 ≤ maxLen from by unfold maxLen; omega)
          have HD8 := Lib.hid (show (k1 + 1 + 0) * 16 ≤ 140737488355328 from by omega)
          clear e0
          have hf2 := HF.out
          subst hkc
          go_wp2_with (at_builtin; refine wpList_append_own _ rfl _ _ 34 rfl W1.heap.size 45 i0 (.agg #[.int .i64 0, .int .i64 0]) 2 16 Try.underlying34 hi0 hz0 hz1 hz2 rfl (by decide) _ _ _ rfl own8 ⟨g3, 0, none⟩ 0 0 (flat []) rfl rfl HN.out (flat_one _) HD7.out HD8.out hsz ?_)
          intro v8 w8 own9 hgrow _
          have own10 : Hid (w8.ownsRow W1.heap.size 45 2 v8 Q.length (flat Q)) := by
            show World.ownsRow _ _ _ _ _ _ _
            rw [HE.out.2, ← HE.out.1]; exact own9
          have B8 : Hid (Below W1.heap.size W1 w8) := B7.out.grown hgrow hsz (fun q hq => (own8.lt q hq).1)
          obtain ⟨-, A8, c8, rfl, PA8, -⟩ := own_ptsc own10.out
          have SM8 := Lib.hid (SM4.out.on B8.out)
          have HP := Lib.hid (spec_poly A8 c8 Q w8 PA8 HQ6.out)
          clear own8 own9 hgrow HN hf2 PA8 hsz
          go_wp2_with fail
          refine HP.out.mono ?_
          rintro e w9 ⟨rfl, b9⟩
          have SM9 := Lib.hid (SM8.out.on b9)
          have own11 := Lib.hid (own_below own10.out b9)
          clear b9
          cases hq : polyB Q
          · go_wp2_with fail
            go_roundw
            case rel => exact ⟨j - 1, M, by first | rfl | go_num, by omega, PM, SM9⟩
            case measure => simp [intOf]; omega
          · have PQ : Hid (polyB Q = true) := hq
            have SQ : Hid (St w A n c g (.slice A8 Q.length c8) Q w9) := ⟨own_base own11.out hwW, SM9.out.2⟩
            go_wp2_with fail
            go_roundw
            case rel => exact ⟨j - 1, Q, by first | rfl | go_num, by omega, PQ, SQ⟩
            case measure => simp [intOf]; omega
        · have hkc' : ¬ cp = k1 := fun e => hkc e.symm
          have HN := Lib.hid (ptsA_news PAM.out k1)
          have hf2 := HF.out
          go_wp2_with (at_builtin; refine wpList_append_own _ rfl _ _ 34 rfl W1.heap.size 45 i0 (.agg #[.int .i64 0, .int .i64 0]) 2 16 Try.underlying34 hi0 hz0 hz1 hz2 rfl (by decide) _ _ _ rfl own8 ⟨g3, k1 * 2, none⟩ (M.length - k1) (cp - k1) (flat (M.drop k1)) rfl HFM.out HN.out (flat_one _) HD5.out HD6.out hsz ?_)
          intro v8 w8 own9 hgrow _
          have own10 : Hid (w8.ownsRow W1.heap.size 45 2 v8 Q.length (flat Q)) := by
            show World.ownsRow _ _ _ _ _ _ _
            rw [HQ.out.2, ← HQ.out.1]; exact own9
          have B8 : Hid (Below W1.heap.size W1 w8) := B7.out.grown hgrow hsz (fun q hq => (own8.lt q hq).1)
          obtain ⟨-, A8, c8, rfl, PA8, -⟩ := own_ptsc own10.out
          have SM8 := Lib.hid (SM4.out.on B8.out)
          have HP := Lib.hid (spec_poly A8 c8 Q w8 PA8 HQ6.out)
          clear own8 own9 hgrow HN hf2 PA8 hsz
          go_wp2_with fail
          refine HP.out.mono ?_
          rintro e w9 ⟨rfl, b9⟩
          have SM9 := Lib.hid (SM8.out.on b9)
          have own11 := Lib.hid (own_below own10.out b9)
          clear b9
          cases hq : polyB Q
          · go_wp2_with fail
            go_roundw
            case rel => exact ⟨j - 1, M, by first | rfl | go_num, by omega, PM, SM9⟩
            case measure => simp [intOf]; omega
          · have PQ : Hid (polyB Q = true) := hq
            have SQ : Hid (St w A n c g (.slice A8 Q.length c8) Q w9) := ⟨own_base own11.out hwW, SM9.out.2⟩
            go_wp2_with fail
            go_roundw
            case rel => exact ⟨j - 1, Q, by first | rfl | go_num, by omega, PQ, SQ⟩
            case measure => simp [intOf]; omega
      · obtain ⟨hM3, hM10, -⟩ := polyB_all PM.out
        obtain ⟨-, A3, c3, rfl, PA3, -⟩ := own_ptsc SM.out.1
        clear PA3
        go_wp2_with fail
        refine (HOc.out 3 _ (by omega) (by omega) SM.out.2).mono ?_
        rintro e w11 ⟨⟨b2, rfl⟩, C6, C7⟩
        have S := Lib.hid (SM.out.grow hgl C6 C7)
        clear C6 C7
        cases b2
        · go_wp2_with fail
          go_ret
          exact ⟨_, _, rfl, PM.out, S.out⟩
        · have HTN := Lib.hid (turn_any A3 c3 M w11 (ptsA_of S.out.1) (by omega) (by omega))
          go_wp2_with fail
          refine HTN.out.mono ?_
          rintro e w12 ⟨v, rfl, own, b⟩
          have HL := Lib.hid (And.intro own b)
          clear own b
          go_wp2_with fail
          go_ret
          exact ⟨_, turnL M, rfl, HTU.out M PM.out, own_base HL.out.1 S.out.2.2.size, S.out.2.on HL.out.2⟩

set_option maxRecDepth 100000 in
set_option maxHeartbeats 800000 in
/-- MakePolygon hands back a polygon. -/
theorem makeP_any (A : Option Addr) (n c : Nat) (w : World) (hC : CodeAt w w.heap.size A n) (hn : n ≤ 1048576) (HT : ∀ M, polyB M = true → polyB (turnL M) = true) :
    Calls Try.prog 41 #[.slice A n c, .int .i64 0] w fun e w' => ∃ v M, e = .returned v ∧ polyB M = true ∧ w'.ownsRow w.heap.size 45 2 v M.length (flat M) ∧ Below w.heap.size w w' := by
  have HN := Lib.hid (ahead_any A n c 0 w hC hn (by omega) (by omega))
  have HC := Lib.hid hC
  have HTT := Lib.hid HT
  clear hC HT
  go_enter Try.func41, Try.ntmps41
  go_wp2_with fail
  refine HN.out.mono ?_
  rintro e w1 ⟨g, rfl, hgw, hg, hb⟩
  have hgl := hg.lt
  have HD := Lib.hid (drawP_any A n c g w.heap.size w1 (HC.out.below hb) hg hgw hn HTT.out)
  have HBB := Lib.hid hb
  clear hg hb
  go_wp2_with fail
  refine HD.out.mono ?_
  rintro e w2 ⟨v, M, rfl, hp, hS⟩
  have R := Lib.hid (And.intro hp hS)
  clear hp hS
  go_wp2_with fail
  go_ret
  exact ⟨_, M, rfl, R.out.1, own_base R.out.2.1 HBB.out.size, HBB.out.trans (og_below R.out.2.2.2 hgw hgl)⟩
end Go.Proofs.Ythoniopkeiifnaa

/-! DrwS12 -/
namespace Go.Proofs.Ythoniopkeiifnaa
open Go.RowKit

set_option maxRecDepth 100000 in
set_option maxHeartbeats 1000000 in
theorem pick_c (A : Option Addr) (n c g B b : Nat) (M : List Int) (cp : Nat) (w W : World) (hC : CodeAt w B A n) (hB : B ≤ g) (hg : g < w.heap.size) (hn : n ≤ 1048576) (h : Cu w A n c g W) (hm1 : 1 ≤ M.length) (hm2 : M.length ≤ 256)
    (hM : ∀ k (h : k < M.length), W.cell? ⟨b, k, none⟩ = some (.int .i64 M[k])) (hbg : b ≠ g) (hbl : b < W.heap.size) :
    Calls Try.prog 168 #[.pointer (some ⟨g, 0, none⟩), .slice (some ⟨b, 0, none⟩) M.length cp] W fun e w' => (∃ x : Int, e = .returned (.int .i64 x)) ∧ W.grownBy w' (some g) ∧ Cu w A n c g w' := by
  have HB := Lib.hid (below_c A n c g B M.length w W hC hB hg hn (by omega) (by omega) h)
  have HM := Lib.hid hM
  clear hC hM h
  go_enter Try.func168, Try.ntmps168
  go_wp2_with fail
  refine HB.out.mono ?_
  rintro e w1 ⟨⟨x, hx, rfl⟩, hg1, hc1⟩
  have hk : x < M.length := by omega
  have hxi : (x : Int) < (M.length : Int) := by omega
  have hc : w1.cell? ⟨b, x, none⟩ = some (.int .i64 M[x]) := (World.cell?_of_block (a := ⟨b, x, none⟩) (hg1.block b hbl (by simpa using hbg))).trans (HM.out x hk)
  have R := Lib.hid (And.intro hg1 hc1)
  clear hg1 hc1
  generalize M[x] = z at *
  go_wp2_with fail
  go_ret
  exact ⟨⟨_, rfl⟩, R.out⟩
set_option maxRecDepth 100000 in
set_option maxHeartbeats 2000000 in
theorem near_c (A : Option Addr) (n c g B : Nat) (w W : World) (hC : CodeAt w B A n) (hB : B ≤ g) (hg : g < w.heap.size) (hn : n ≤ 1048576) (h : Cu w A n c g W) :
    Calls Try.prog 132 #[.pointer (some ⟨g, 0, none⟩), .int .i64 1, .int .i64 4] W fun e w' => (∃ x : Int, e = .returned (.int .i64 x)) ∧ W.grownBy w' (some g) ∧ Cu w A n c g w' := by
  have HB := Lib.hid (fun m W h1 h2 h => below_c A n c g B m w W hC hB hg hn h1 h2 h)
  have HP := Lib.hid (fun b M cp W h h1 h2 hM hbg hbl => pick_c A n c g B b M cp w W hC hB hg hn h h1 h2 hM hbg hbl)
  have HC0 := Lib.hid h
  clear hC h
  go_enter Try.func132, Try.ntmps132
  go_wp2_with fail
  refine (HB.out 12 _ (by omega) (by omega) HC0.out).mono ?_
  rintro e w1 ⟨⟨x, hx, rfl⟩, hg1, hc1⟩
  have R1 := Lib.hid (And.intro hg1 hc1)
  clear hg1 hc1
  by_cases h0 : x = 0
  · subst h0
    go_wp2_with fail
    go_ret
    exact ⟨⟨_, rfl⟩, R1.out⟩
  by_cases h1 : x = 1
  · subst h1
    go_wp2_with fail
    go_ret
    exact ⟨⟨_, rfl⟩, R1.out⟩
  by_cases h2 : x = 2
  · subst h2
    go_wp2_with fail
    go_ret
    exact ⟨⟨_, rfl⟩, R1.out⟩
  by_cases h3 : x = 3
  · subst h3
    go_wp2_with fail
    go_ret
    exact ⟨⟨_, rfl⟩, R1.out⟩
  by_cases h4 : x = 4
  · subst h4
    have hgW : g < w1.heap.size := Nat.lt_of_lt_of_le hg R1.out.2.2.size
    have hbn := below1 w1 (.cells #[.int .i64 9223372036854775807, .int .i64 (-9223372036854775808), .int .i64 (-1), .int .i64 0, .int .i64 1000000000] 3)
    have hgn : w1.grownBy (w1.alloc (.cells #[.int .i64 9223372036854775807, .int .i64 (-9223372036854775808), .int .i64 (-1), .int .i64 0, .int .i64 1000000000] 3)) (some g) := World.grownBy_alloc w1 _ _
    have HPP := Lib.hid (HP.out w1.heap.size [9223372036854775807, -9223372036854775808, -1, 0, 1000000000] 5 _ (R1.out.2.on hbn) (by simp) (by simp) (fun k hk => by
      have := cell_of_row _ w1.heap.size k _ _ _ (heap_alloc_new w1 (.cells #[.int .i64 9223372036854775807, .int .i64 (-9223372036854775808), .int .i64 (-1), .int .i64 0, .int .i64 1000000000] 3))
      rw [this]
      match k, hk with
      | 0, _ => rfl
      | 1, _ => rfl
      | 2, _ => rfl
      | 3, _ => rfl
      | 4, _ => rfl
      | k + 5, h => simp at h; omega) (by omega) (by simp))
    have RG : Hid (∀ w', (w1.alloc (.cells #[.int .i64 9223372036854775807, .int .i64 (-9223372036854775808), .int .i64 (-1), .int .i64 0, .int .i64 1000000000] 3)).grownBy w' (some g) → w1.grownBy w' (some g)) := fun w' hw => hgn.trans hw
    have RW := Lib.hid R1.out.1
    clear hbn hgn
    go_wp2_with fail
    refine HPP.out.mono ?_
    rintro e w3 ⟨⟨y, rfl⟩, hg3, hc3⟩
    have R3 := Lib.hid (And.intro (RW.out.trans (RG.out _ hg3)) hc3)
    clear hg3 hc3
    go_wp2_with fail
    go_ret
    exact ⟨⟨_, rfl⟩, R3.out⟩
  have e0 : ((x : Int) == 0) = false := by rw [beq_eq_false_iff_ne]; omega
  have e1 : ((x : Int) == 1) = false := by rw [beq_eq_false_iff_ne]; omega
  have e2 : ((x : Int) == 2) = false := by rw [beq_eq_false_iff_ne]; omega
  have e3 : ((x : Int) == 3) = false := by rw [beq_eq_false_iff_ne]; omega
  have e4 : ((x : Int) == 4) = false := by rw [beq_eq_false_iff_ne]; omega
  clear h0 h1 h2 h3 h4
  go_wp2_with fail
  refine (HB.out 4 _ (by omega) (by omega) R1.out.2).mono ?_
  rintro e w2 ⟨⟨y, hy, rfl⟩, hg2, hc2⟩
  have R2 := Lib.hid (And.intro (R1.out.1.trans hg2) hc2)
  clear hg2 hc2
  go_wp2_with fail
  go_ret
  exact ⟨⟨_, rfl⟩, R2.out⟩
theorem Cu.step12 {w W W' : World} {A : Option Addr} {n c g : Nat} {r : Option Nat} (h : Cu w A n c g W) (hg : g < w.heap.size) (hgr : W.grownBy W' r) (hr : ∀ k, r = some k → w.heap.size ≤ k) : Cu w A n c g W' := by
  have hne : some g ≠ r := fun e => by have := hr g e.symm; omega
  have hs := h.2.size
  obtain ⟨i, x, hh, hi⟩ := h.1
  refine ⟨⟨i, x, (hgr.block g (by omega) hne).trans hh, hi⟩, ⟨hgr.os.trans h.2.os, hgr.tape.trans h.2.tape, hgr.output.trans h.2.output, Nat.le_trans hs hgr.size, fun k hk hk2 => (hgr.block k (by omega) (fun e => by have := hr k e.symm; omega)).trans (h.2.block k hk hk2)⟩⟩
theorem own_step12 {w W W' : World} {B g : Nat} {e : TypeId} {s : Nat} {v : Value} {n : Nat} {xs : List Value} (own : W.ownsRow B e s v n xs) (hB : w.heap.size ≤ B) (hg : g < w.heap.size) (h : W.grownBy W' (some g)) : W'.ownsRow B e s v n xs :=
  own.kept h (by
    cases hv : v.ownBlock with
    | none => exact .inl rfl
    | some k => exact .inr fun e => by have := (own.lt k hv).1; simp only [Option.some.injEq] at e; omega)
theorem own_some12' {w : World} {B n : Nat} {e : TypeId} {v : Value} {xs : List Value} (h : w.ownsRow B e 1 v n xs) (h0 : 0 < n) : ∃ g cap, v = .slice (some ⟨g, 0, none⟩) n cap ∧ n ≤ cap ∧ cap ≤ maxLen := by
  rcases h.2 with ⟨_, h1⟩ | ⟨g, cap, cur, hv, _, _, h2, h3, _⟩
  · omega
  · exact ⟨g, cap, hv, h2, h3⟩
def lenV12 (v : Value) : Nat := match v with
  | .slice _ n _ => n
  | _ => 0
/-- What is drawn: two sides and a list. -/
def SidQ (w : World) (A : Option Addr) (n c g : Nat) (e : Ending) (w' : World) : Prop := ∃ (a b : Int) (L : List Int) (v : Value), e = .returned (.tuple #[.int .i64 a, .int .i64 b, v]) ∧ L.length ≤ 40 ∧ w'.ownsRow w.heap.size 3 1 v L.length (ints L) ∧ Cu w A n c g w'
theorem ints_lit12 (w : World) (B : Nat) (L : List Int) (hB : B ≤ w.heap.size) (hL : L.length ≤ 1000) : (w.alloc (.cells (ints L).toArray 3)).ownsRow B 3 1 (.slice (some ⟨w.heap.size, 0, none⟩) L.length L.length) L.length (ints L) := by
  have := World.ownsRow_lit (base := B) (e := 3) (size := 1) w (ints L).toArray L.length hB (by unfold maxLen; omega) (by rw [List.size_toArray, ints_len]; omega)
  exact this
set_option maxRecDepth 100000 in
set_option maxHeartbeats 16000000 in
theorem sidesD_any (A : Option Addr) (n c g B : Nat) (w : World) (hC : CodeAt w B A n) (hg : CurAt w A n c g) (hB : B ≤ g) (hn : n ≤ 1048576) :
    Calls Try.prog 87 #[.pointer (some ⟨g, 0, none⟩)] w (SidQ w A n c g) := by
  obtain ⟨i0, hi0, hz0, hz1, hz2⟩ := info_parts infoI
  have hgl := hg.lt
  have HBc := Lib.hid (fun m W h1 h2 h => below_c A n c g B m w W hC hB hgl hn h1 h2 h)
  have HOc := Lib.hid (fun m W h1 h2 h => once_c A n c g B m w W hC hB hgl hn h1 h2 h)
  have HNc := Lib.hid (fun W h => near_c A n c g B w W hC hB hgl hn h)
  have HC0 : Hid (Cu w A n c g w) := ⟨hg, World.grownBy.refl w _⟩
  have HU : Hid (∀ (a b : Int) (L : List Int) (v : Value) (w' : World), L.length ≤ 40 → w'.ownsRow w.heap.size 3 1 v L.length (ints L) → Cu w A n c g w' → SidQ w A n c g (.returned (.tuple #[.int .i64 a, .int .i64 b, v])) w') := fun a b L v w' h1 h2 h3 => ⟨a, b, L, v, rfl, h1, h2, h3⟩
  have hmin : ∀ (w : World) (x y : Int) (ts : Array TypeId) (t : TypeId), (Builtin.min_ ts t #[.int .i64 x, .int .i64 y]).run Try.prog w = .ok (.int .i64 (minI x y)) w := run_minI
  clear hC hg
  go_enter Try.func87, Try.ntmps87
  go_wp2_with fail
  refine (HBc.out 6 _ (by omega) (by omega) HC0.out).mono ?_
  rintro e w1 ⟨⟨x, hx, rfl⟩, -, C1⟩
  have hs1 := C1.2.size
  have HC1 := Lib.hid C1
  clear C1 HC0
  by_cases h0 : x = 0
  · subst h0
    have R := Lib.hid (HU.out 33 32 [18, 15, 7, 8, 14, 4, 10, 1, 9] _ _ (by simp) (ints_lit12 w1 w.heap.size [18, 15, 7, 8, 14, 4, 10, 1, 9] hs1 (by simp)) (HC1.out.on (below1 w1 _)))
    simp only [ints, List.map_cons, List.map_nil, List.length_cons, List.length_nil, Nat.zero_add, Nat.reduceAdd] at R
    clear HU
    go_wp2_with fail
    go_ret3
    exact R.out
  by_cases h1 : x = 1
  · subst h1
    have R := Lib.hid (HU.out 32 33 [14, 18, 10, 4, 7, 15, 9, 1, 8] _ _ (by simp) (ints_lit12 w1 w.heap.size [14, 18, 10, 4, 7, 15, 9, 1, 8] hs1 (by simp)) (HC1.out.on (below1 w1 _)))
    simp only [ints, List.map_cons, List.map_nil, List.length_cons, List.length_nil, Nat.zero_add, Nat.reduceAdd] at R
    clear HU
    go_wp2_with fail
    go_ret3
    exact R.out
  have e0 : ((x : Int) == 0) = false := by rw [beq_eq_false_iff_ne]; omega
  have e1 : ((x : Int) == 1) = false := by rw [beq_eq_false_iff_ne]; omega
  clear h0 h1 hx
  go_wp2_with fail
  refine (HBc.out 9 _ (by omega) (by omega) HC1.out).mono ?_
  rintro e w2 ⟨⟨a', ha', rfl⟩, -, C1⟩
  have HC2 := Lib.hid C1
  clear C1 HC1 hs1
  go_wp2_with fail
  refine (HBc.out 9 _ (by omega) (by omega) HC2.out).mono ?_
  rintro e w3 ⟨⟨b', hb', rfl⟩, -, C1⟩
  have hs3 := C1.2.size
  have HC3 := Lib.hid C1
  clear C1 HC2
  obtain ⟨a, hae⟩ : ∃ a, a = 1 + a' := ⟨_, rfl⟩
  obtain ⟨b, hbe⟩ : ∃ b, b = 1 + b' := ⟨_, rfl⟩
  have ea : 1 + (a' : Int) = (a : Int) := by omega
  have eb : 1 + (b' : Int) = (b : Int) := by omega
  have ha : 1 ≤ a ∧ a ≤ 9 := by omega
  have hb : 1 ≤ b ∧ b ≤ 9 := by omega
  clear hae hbe ha' hb'
  have hmk : ∀ w, (Instr.makeSlice 22 (.int .i64 (a : Int)) (.int .i64 (a : Int))).run Try.prog w = .ok (.slice (some ⟨w.heap.size, 0, none⟩) a a) (w.alloc (.cells (madeCells #[.int .i64 0] a) 3)) := fun w => by
    have h := run_make (P := Try.prog) w 22 3 i0 _ Try.underlying22 hi0 hz0 .i64 .i64 (a : Int) (a : Int) (by omega) (Int.le_refl _) (by rw [hz2]; omega) (by omega)
    rw [hz1] at h
    simpa [Value.cells, Nat.mul_one] using h
  have own0 := (World.ownsRow_lit (base := w3.heap.size) (e := 3) (size := 1) w3 (madeCells #[.int .i64 0] a) a (Nat.le_refl _) (by unfold maxLen; omega) ((size_madeCells _ _).trans (Nat.mul_one _).symm)).alloc (.cells #[] 3)
  rw [zeros_ints] at own0
  have ownL0 := World.ownsRow_lit (base := w3.heap.size + 1) (e := 3) (size := 1) (w3.alloc (.cells (madeCells #[.int .i64 0] a) 3)) #[] 0 (by simp) (by unfold maxLen; omega) (by rfl)
  rw [size_alloc] at ownL0
  have HC4 := Lib.hid (HC3.out.on (below2 w3 (.cells (madeCells #[.int .i64 0] a) 3) (.cells #[] 3)))
  clear HC3
  go_wp2_with fail
  obtain ⟨g1, hg1⟩ : ∃ g1, g1 = w3.heap.size := ⟨_, rfl⟩
  rw [← hg1] at own0 ownL0 hs3 ⊢
  generalize (w3.alloc (.cells (madeCells #[.int .i64 0] a) 3)).alloc (.cells #[] 3) = w4 at *
  clear hg1 hmk ea eb e0 e1
  go_loopw [8, 9, 10, 11, 12, 13] (fun v _ _ _ _ _ wr => ∃ (H L : List Int), Hid (SkyOk a (b : Int) H) ∧ L.length ≤ 40 ∧ wr.ownsRow g1 3 1 (.slice (some ⟨g1, 0, none⟩) a a) a (ints H) ∧ wr.ownsRow (g1 + 1) 3 1 v L.length (ints L) ∧ Cu w A n c g wr) (fun v _ _ _ _ _ _ => 40 - lenV12 v)
  case atStart => exact ⟨_, [], SkyOk.start (by omega), by simp, own0, ownL0, HC4.out⟩
  case round =>
    obtain ⟨wo, rfl⟩ : ∃ wo : World, wo = wr := ⟨_, rfl⟩
    clear own0 ownL0 HC4
    obtain ⟨H, L, HSK, hL, own, ownL, HC⟩ := hrel
    obtain ⟨_, AL, cL, rfl, -⟩ := own_ints ownL
    have HHL : Hid (H.length = a) := HSK.out.1
    by_cases hl40 : L.length < 40
    case neg =>
      have hl41 : ¬ (L.length : Int) < 40 := by omega
      clear own
      have hgb : w.heap.size ≤ g1 + 1 := by omega
      by_cases hle : L.length = 0
      · try (exfalso; omega)
        all_goals (
          have hl0 : ¬ (0 : Int) < (L.length : Int) := by omega
          have R := Lib.hid (fun (a9 : Int) => HU.out a9 b L (.slice AL L.length cL) wo hL (own_base ownL hgb) HC)
          clear ownL HC HU hle
          go_wp2_with fail
          go_ret3
          exact R.out _)
      · have hl0 : (0 : Int) < (L.length : Int) := by omega
        have HCC := Lib.hid HC
        clear HC hle
        go_wp2_with fail
        refine (HOc.out 5 _ (by omega) (by omega) HCC.out).mono ?_
        rintro e w5 ⟨⟨b1, rfl⟩, hg5, hc5⟩
        have ownL5 := own_step12 ownL hgb hgl hg5
        have HC5 := Lib.hid hc5
        clear ownL hg5 hc5 HCC
        cases b1
        · have R := Lib.hid (fun (a9 : Int) => HU.out a9 b L (.slice AL L.length cL) w5 hL (own_base ownL5 hgb) HC5.out)
          clear ownL5 HU
          go_wp2_with fail
          go_ret3
          exact R.out _
        · go_wp2_with fail
          refine (HBc.out L.length _ (by omega) (by omega) HC5.out).mono ?_
          rintro e w6 ⟨⟨t6, ht6, rfl⟩, hg6, hc6⟩
          have ownL6 := own_step12 ownL5 hgb hgl hg6
          have HC6 := Lib.hid hc6
          clear ownL5 hg6 hc6 HC5
          go_wp2_with fail
          refine (HNc.out _ HC6.out).mono ?_
          rintro e w7 ⟨⟨z7, rfl⟩, hg7, hc7⟩
          have ownL7 := own_step12 ownL6 hgb hgl hg7
          obtain ⟨gL, cpL, hvL, -, -⟩ := own_some12' ownL7 (by omega)
          simp only [Value.slice.injEq, true_and] at hvL
          obtain ⟨rfl, rfl⟩ := hvL
          have hst := (ownL7.stored t6 (.int .i64 z7)).1
          have hse : (ints L).set t6 (.int .i64 z7) = ints (L.set t6 z7) := by simp [ints, List.map_set]
          rw [hse] at hst
          have hfz := ownL7.frozenAt t6
          have hgL := (ownL7.lt gL rfl).1
          have hlx := ownL7.1
          obtain ⟨u7, hu7⟩ : ∃ u, w7.cell? ⟨gL, t6, none⟩ = some u := ⟨_, (ownL7.cellAt t6 (by omega)).trans (List.getElem?_eq_getElem (by omega))⟩
          have hc8 : Cu w A n c g (w7.setCell ⟨gL, t6, none⟩ (.int .i64 z7)) := hc7.step12 hgl (setCell_only w7 gL t6 (.int .i64 z7)) (fun k hk => by cases hk; omega)
          have R := Lib.hid (fun (a9 : Int) => HU.out a9 b (L.set t6 z7) (.slice (some ⟨gL, 0, none⟩) L.length cL) _ (by rw [List.length_set]; exact hL) (by rw [List.length_set]; exact own_base hst hgb) hc8)
          clear ownL6 ownL7 hst hse hc8 hg7 hc7 HU HC6 hlx
          go_wp2_with fail
          go_ret3
          exact R.out _
    have hl41 : (L.length : Int) < 40 := by omega
    have HPH : Hid (∀ W', Below wo.heap.size wo W' → ∀ q, q < a → W'.cell? ⟨g1, q, none⟩ = some (.int .i64 (hI H q))) := fun W' hW q hq => hI_ints (intsA_on (intsA_of own) hW) (by rw [HHL.out]; exact hq)
    go_wp2_with fail
    go_loopw [9, 10, 36] (fun m _ i wr => ∃ (q t : Nat), q ≤ a ∧ i = .int .i64 q ∧ m = .int .i64 t ∧ t < a ∧ Below wo.heap.size wo wr) (fun _ _ i _ => a - (intOf i).toNat)
    case atStart => exact ⟨0, 0, Nat.zero_le _, rfl, rfl, by omega, Below.refl _ _⟩
    case round =>
      obtain ⟨wp, rfl⟩ : ∃ wp : World, wp = wr := ⟨_, rfl⟩
      obtain ⟨q, t, hq, rfl, rfl, hta, hbp⟩ := hrel
      have hct := HPH.out wp hbp t hta
      have hta2 : (t : Int) < (a : Int) := by omega
      by_cases hql : q < a
      · have hcq := HPH.out wp hbp q hql
        have hq2 : (q : Int) < (a : Int) := by omega
        have k1 := cell_regrown hct; have k2 := cell_regrown hcq
        by_cases hlo : hI H q < hI H t
        · generalize hI H q = z1 at *
          generalize hI H t = z2 at *
          go_wp2_with fail
          refine wp_region_quiet_below (by kernel_rfl) (by kernel_rfl) ?_
          repeat (first
            | go_big_quiet_step (fail)
            | quiet_step (fail))
          refine wpQuiet_nil ?_
          rintro _ ⟨⟨dq, osq⟩, rfl⟩
          have hg := below_on hbp (below_regrown wp dq osq)
          simp only at *
          generalize Go.Sort.grow (redrawn wp dq) osq = w9 at *
          clear k1 k2 hct hcq hbp
          go_wp2_with fail
          go_roundw
          case rel => exact ⟨q + 1, q, by omega, by go_num, by go_num, by omega, hg⟩
          case measure => simp [intOf]; omega
        · generalize hI H q = z1 at *
          generalize hI H t = z2 at *
          go_wp2_with fail
          refine wp_region_quiet_below (by kernel_rfl) (by kernel_rfl) ?_
          repeat (first
            | go_big_quiet_step (fail)
            | quiet_step (fail))
          refine wpQuiet_nil ?_
          rintro _ ⟨⟨dq, osq⟩, rfl⟩
          have hg := below_on hbp (below_regrown wp dq osq)
          simp only at *
          generalize Go.Sort.grow (redrawn wp dq) osq = w9 at *
          clear k1 k2 hct hcq hbp
          go_wp2_with fail
          go_roundw
          case rel => exact ⟨q + 1, t, by omega, by go_num, by go_num, by omega, hg⟩
          case measure => simp [intOf]; omega
      · obtain rfl : q = a := by omega
        obtain ⟨m, rfl⟩ : ∃ m, m = t := ⟨_, rfl⟩
        have hyb := HSK.out.at hta
        obtain ⟨y, hy⟩ : ∃ y, y = hI H m := ⟨_, rfl⟩
        rw [← hy] at hct hyb
        have HY := Lib.hid hy
        clear hy
        by_cases hyh : (b : Int) ≤ y
        · replace ownL := own_below ownL hbp
          replace HC := HC.on hbp
          clear own hbp HPH
          have hgb : w.heap.size ≤ g1 + 1 := by omega
          by_cases hle : L.length = 0
          · try (exfalso; omega)
            all_goals (
              have hl0 : ¬ (0 : Int) < (L.length : Int) := by omega
              have R := Lib.hid (fun (a9 : Int) => HU.out a9 b L (.slice AL L.length cL) wp hL (own_base ownL hgb) HC)
              clear ownL HC HU hle
              go_wp2_with fail
              go_ret3
              exact R.out _)
          · have hl0 : (0 : Int) < (L.length : Int) := by omega
            have HCC := Lib.hid HC
            clear HC hle
            go_wp2_with fail
            refine (HOc.out 5 _ (by omega) (by omega) HCC.out).mono ?_
            rintro e w5 ⟨⟨b1, rfl⟩, hg5, hc5⟩
            have ownL5 := own_step12 ownL hgb hgl hg5
            have HC5 := Lib.hid hc5
            clear ownL hg5 hc5 HCC
            cases b1
            · have R := Lib.hid (fun (a9 : Int) => HU.out a9 b L (.slice AL L.length cL) w5 hL (own_base ownL5 hgb) HC5.out)
              clear ownL5 HU
              go_wp2_with fail
              go_ret3
              exact R.out _
            · go_wp2_with fail
              refine (HBc.out L.length _ (by omega) (by omega) HC5.out).mono ?_
              rintro e w6 ⟨⟨t6, ht6, rfl⟩, hg6, hc6⟩
              have ownL6 := own_step12 ownL5 hgb hgl hg6
              have HC6 := Lib.hid hc6
              clear ownL5 hg6 hc6 HC5
              go_wp2_with fail
              refine (HNc.out _ HC6.out).mono ?_
              rintro e w7 ⟨⟨z7, rfl⟩, hg7, hc7⟩
              have ownL7 := own_step12 ownL6 hgb hgl hg7
              obtain ⟨gL, cpL, hvL, -, -⟩ := own_some12' ownL7 (by omega)
              simp only [Value.slice.injEq, true_and] at hvL
              obtain ⟨rfl, rfl⟩ := hvL
              have hst := (ownL7.stored t6 (.int .i64 z7)).1
              have hse : (ints L).set t6 (.int .i64 z7) = ints (L.set t6 z7) := by simp [ints, List.map_set]
              rw [hse] at hst
              have hfz := ownL7.frozenAt t6
              have hgL := (ownL7.lt gL rfl).1
              have hlx := ownL7.1
              obtain ⟨u7, hu7⟩ : ∃ u, w7.cell? ⟨gL, t6, none⟩ = some u := ⟨_, (ownL7.cellAt t6 (by omega)).trans (List.getElem?_eq_getElem (by omega))⟩
              have hc8 : Cu w A n c g (w7.setCell ⟨gL, t6, none⟩ (.int .i64 z7)) := hc7.step12 hgl (setCell_only w7 gL t6 (.int .i64 z7)) (fun k hk => by cases hk; omega)
              have R := Lib.hid (fun (a9 : Int) => HU.out a9 b (L.set t6 z7) (.slice (some ⟨gL, 0, none⟩) L.length cL) _ (by rw [List.length_set]; exact hL) (by rw [List.length_set]; exact own_base hst hgb) hc8)
              clear ownL6 ownL7 hst hse hc8 hg7 hc7 HU HC6 hlx
              go_wp2_with fail
              go_ret3
              exact R.out _
        · go_wp2_with fail
          go_loopw [11] (fun i wr => ∃ r : Nat, m + r ≤ q ∧ i = .int .i64 r ∧ Hid (∀ j, j < r → hI H (m + j) = y) ∧ Below wo.heap.size wo wr) (fun i _ => q - (intOf i).toNat)
          case atStart => exact ⟨0, by omega, rfl, fun j hj => absurd hj (Nat.not_lt_zero j), hbp⟩
          case round =>
            obtain ⟨wm, rfl⟩ : ∃ wm : World, wm = wr := ⟨_, rfl⟩
            clear hbp hct
            obtain ⟨r, hrq, rfl, HE, hbp⟩ := hrel
            have hct := HPH.out wm hbp m hta
            rw [← HY.out] at hct
            have k1 := cell_regrown hct
            by_cases hra : m + r < q
            · have hcr := HPH.out wm hbp (m + r) hra
              obtain ⟨p, hp⟩ : ∃ p, p = m + r := ⟨_, rfl⟩
              have hpe : (m : Int) + (r : Int) = (p : Int) := by omega
              have hpq : (p : Int) < (q : Int) := by omega
              have gp : IntKind.i64.wrap (p : Int) = p := IntWalk.i64_in _ (by omega)
              rw [← hp] at hcr
              obtain ⟨z, hz⟩ : ∃ z, z = hI H p := ⟨_, rfl⟩
              rw [← hz] at hcr
              have k2 := cell_regrown hcr
              by_cases hzy : z = y
              · have HE2 : Hid (∀ j, j < r + 1 → hI H (m + j) = y) := fun j hj => by
                  rcases Nat.lt_or_ge j r with h1 | h1
                  · exact HE.out j h1
                  · obtain rfl : j = r := by omega
                    rw [← hp, ← hz]; exact hzy
                clear hz hp HE
                subst hzy
                go_wp2_with fail
                refine wp_region_quiet_below (by kernel_rfl) (by kernel_rfl) ?_
                repeat (first
                  | go_big_quiet_step (fail)
                  | quiet_step (fail))
                refine wpQuiet_nil ?_
                rintro _ ⟨⟨dq, osq⟩, rfl⟩
                have hg := below_on hbp (below_regrown wm dq osq)
                simp only at *
                generalize Go.Sort.grow (redrawn wm dq) osq = w9 at *
                clear k1 k2 hct hcr hbp hpe gp
                go_wp2_with fail
                go_roundw
                case rel => exact ⟨r + 1, by omega, by go_num, HE2, hg⟩
                case measure => simp [intOf]; omega
              · have hne : (z == y) = false := by rw [beq_eq_false_iff_ne]; exact hzy
                have hr1 : 1 ≤ r := by
                  rcases Nat.eq_zero_or_pos r with h0 | h0
                  · exfalso
                    subst h0
                    rw [Nat.add_zero] at hp
                    rw [hp, ← HY.out] at hz
                    exact hzy hz
                  · exact h0
                have HM9 : Hid (m + r ≤ q) := by show _ ≤ _; omega
                clear hz hp hzy
                go_wp2_with fail
                refine wp_region_quiet_below (by kernel_rfl) (by kernel_rfl) ?_
                repeat (first
                  | go_big_quiet_step (fail)
                  | quiet_step (fail))
                refine wpQuiet_nil ?_
                rintro _ ⟨⟨dq, osq⟩, rfl⟩
                have hg := below_on hbp (below_regrown wm dq osq)
                simp only at *
                generalize Go.Sort.grow (redrawn wm dq) osq = w9 at *
                clear k1 k2 hct hcr hbp hpe gp hne
                have hct9 := HPH.out w9 hg m hta
                rw [← HY.out] at hct9
                have HC9 := Lib.hid (HC.on hg)
                have own9 := own_below own hg
                have ownL9 := own_below ownL hg
                obtain ⟨e9, he9⟩ : ∃ e9 : Int, e9 = minI (r : Int) ((b : Int) - y) := ⟨_, rfl⟩
                have he1 : 1 ≤ e9 ∧ e9 ≤ r ∧ e9 ≤ (b : Int) - y := by
                  rw [he9]; unfold minI; split <;> omega
                have hem : minI (r : Int) ((b : Int) - y) = e9 := he9.symm
                clear he9 own ownL HC hg
                go_wp2_with fail
                refine (HBc.out e9 _ (by omega) (by omega) HC9.out).mono ?_
                rintro e w10 ⟨⟨s', hs', rfl⟩, hg10, hc10⟩
                have own10 := own_step12 own9 hs3 hgl hg10
                have ownL10 := own_step12 ownL9 (show w.heap.size ≤ g1 + 1 by omega) hgl hg10
                obtain ⟨s, hse⟩ : ∃ s, s = 1 + s' := ⟨_, rfl⟩
                have es : 1 + (s' : Int) = (s : Int) := by omega
                have hs : 1 ≤ s ∧ s ≤ r ∧ (s : Int) ≤ (b : Int) - y := by omega
                have HMS : Hid (m + s ≤ q) := by show _ ≤ _; have := HM9.out; omega
                have HE3 : Hid (∀ j, j < s → hI H (m + j) = y) := fun j hj => HE.out j (by omega)
                have HSK2 : Hid (SkyOk q (b : Int) (setN H m (y + s) s)) := ⟨by rw [setN_len]; exact HHL.out, fun x hx => by
                  rcases setN_mem hx with rfl | h1
                  · omega
                  · exact HSK.out.2 x h1⟩
                have HC10 := Lib.hid hc10
                have hM0 : ints H = ints (setN H m (y + s) 0) := rfl
                rw [hM0] at own10
                clear own9 ownL9 hg10 hc10 hM0 HC9 hse hs' he1 HE HM9 hct9 HPH
                go_wp2_with fail
                go_loopw [13] (fun i wr => ∃ j p : Nat, j ≤ s ∧ i = .int .i64 p ∧ Hid (p = m + j) ∧ p ≤ q ∧ wr.ownsRow g1 3 1 (.slice (some ⟨g1, 0, none⟩) q q) q (ints (setN H m (y + s) j)) ∧ wr.ownsRow (g1 + 1) 3 1 (.slice AL L.length cL) L.length (ints L) ∧ Cu w A n c g wr) (fun i _ => m + s - (intOf i).toNat)
                case atStart => exact ⟨0, m, Nat.zero_le _, rfl, rfl, by omega, own10, ownL10, HC10.out⟩
                case round =>
                  obtain ⟨wz, rfl⟩ : ∃ wz : World, wz = wr := ⟨_, rfl⟩
                  clear own10 ownL10 HC10
                  obtain ⟨j, p, hj, rfl, hp, hpq, own6, ownL6, hc6⟩ := hrel
                  by_cases hjl : j < s
                  · have hp2 : (p : Int) < (m : Int) + (s : Int) := by have := hp.out; omega
                    have hp3 : p < q := by have := hp.out; have := HMS.out; omega
                    have hp4 : (p : Int) < (q : Int) := by omega
                    have hce : (ints (setN H m (y + s) j))[p]? = some (.int .i64 y) := by
                      have e1 : (setN H m (y + s) j)[p]? = some y := by
                        rw [setN_at, if_neg (by have := hp.out; omega), List.getElem?_eq_getElem (by rw [HHL.out]; exact hp3)]
                        have := HE3.out j hjl
                        rw [← hp.out, hI_at (by rw [HHL.out]; exact hp3)] at this
                        rw [this]
                      simp only [ints, List.getElem?_map, e1, Option.map_some]
                    have hcq := (own6.cellAt p (by omega)).trans hce
                    have hst := (own6.stored p (.int .i64 (y + s))).1
                    have hse : (ints (setN H m (y + s) j)).set p (.int .i64 (y + s)) = ints (setN H m (y + s) (j + 1)) := by rw [hp.out]; exact ints_setN _ _ _ _
                    rw [hse] at hst
                    have hfz := own6.frozenAt p
                    have hst2 := row_other ownL6 (show g1 < g1 + 1 by omega) p (.int .i64 (y + s))
                    have hc7 : Cu w A n c g (wz.setCell ⟨g1, p, none⟩ (.int .i64 (y + s))) := hc6.step12 hgl (setCell_only wz g1 p (.int .i64 (y + s))) (fun k hk => by cases hk; exact hs3)
                    have R := Lib.hid (And.intro hst (And.intro hst2 hc7))
                    have HQ2 : Hid (p + 1 = m + (j + 1)) := by show _ = _; have := hp.out; omega
                    clear hst hst2 hc7 own6 ownL6 hc6 hse hce hp
                    go_wp2_with fail
                    go_roundw
                    case rel => exact ⟨j + 1, p + 1, by omega, by go_num, HQ2, by omega, R.out.1, R.out.2.1, R.out.2.2⟩
                    case measure => simp [intOf]; omega
                  · obtain rfl : j = s := by omega
                    have hp2 : ¬ (p : Int) < (m : Int) + (j : Int) := by have := hp.out; omega
                    have hg1l : g1 < wz.heap.size := (own6.lt g1 rfl).2
                    clear hp
                    go_wp2_with (at_builtin; refine wpList_append_own _ rfl _ _ 22 rfl (g1 + 1) 3 i0 (.int .i64 0) 1 8 Try.underlying22 hi0 hz0 hz1 hz2 rfl (by decide) _ _ _ rfl (ownL6.alloc _) ⟨wz.heap.size, 0, none⟩ 1 1 [.int .i64 j] rfl rfl (World.news_of_block (cs := #[.int .i64 j]) (t := 3) (fr := (0, 0)) (heap_alloc_new wz _)) ?d2 ?d3 ?d4 ?d5 ?_)
                    case d2 => simp [Value.oneCell']
                    case d3 => unfold maxLen; omega
                    case d4 => omega
                    case d5 => first | omega | (simp; omega)
                    intro v' w11 ownL7 hgrow _
                    have hap : (Value.slice (some ⟨g1, 0, none⟩) q q).ownBlock = none ∨ (Value.slice (some ⟨g1, 0, none⟩) q q).ownBlock ≠ (Value.slice AL L.length cL).ownBlock := .inr fun e => by
                      have := (ownL6.lt g1 e.symm).1; omega
                    have own7 := (own6.alloc (.cells #[.int .i64 j] 3)).kept hgrow hap
                    have hc8 : Cu w A n c g w11 := (hc6.alloc (.cells #[.int .i64 j] 3)).step12 hgl hgrow (fun k hk => by have := (ownL6.lt k hk).1; omega)
                    rw [← ints_snoc] at ownL7
                    have ele : (L ++ [(j : Int)]).length = L.length + 1 := by simp
                    rw [← ele] at ownL7
                    clear ele
                    obtain ⟨_, AL', cL', hvv, -⟩ := own_ints ownL7
                    have R := Lib.hid (And.intro own7 (And.intro ownL7 hc8))
                    clear own6 ownL6 hgrow hap hc6 own7 ownL7 hc8
                    subst hvv
                    go_wp2_with fail
                    go_roundw
                    case rel => exact ⟨_, L ++ [(j : Int)], HSK2, by simp; omega, R.out.1, R.out.2.1, R.out.2.2⟩
                    case measure => simp [lenV12]; omega
            · have hr1 : 1 ≤ r := by omega
              have hpq : decide ((m : Int) + (r : Int) < (q : Int)) = false := decide_eq_false (by omega)
              have HM9 : Hid (m + r ≤ q) := by show _ ≤ _; omega
              go_wp2_with fail
              refine wp_region_quiet_below (by kernel_rfl) (by kernel_rfl) ?_
              repeat (first
                | go_big_quiet_step (fail)
                | quiet_step (fail))
              refine wpQuiet_nil ?_
              rintro _ ⟨⟨dq, osq⟩, rfl⟩
              have hg := below_on hbp (below_regrown wm dq osq)
              simp only at *
              generalize Go.Sort.grow (redrawn wm dq) osq = w9 at *
              clear k1 hct hbp hpq
              have hct9 := HPH.out w9 hg m hta
              rw [← HY.out] at hct9
              have HC9 := Lib.hid (HC.on hg)
              have own9 := own_below own hg
              have ownL9 := own_below ownL hg
              obtain ⟨e9, he9⟩ : ∃ e9 : Int, e9 = minI (r : Int) ((b : Int) - y) := ⟨_, rfl⟩
              have he1 : 1 ≤ e9 ∧ e9 ≤ r ∧ e9 ≤ (b : Int) - y := by
                rw [he9]; unfold minI; split <;> omega
              have hem : minI (r : Int) ((b : Int) - y) = e9 := he9.symm
              clear he9 own ownL HC hg
              go_wp2_with fail
              refine (HBc.out e9 _ (by omega) (by omega) HC9.out).mono ?_
              rintro e w10 ⟨⟨s', hs', rfl⟩, hg10, hc10⟩
              have own10 := own_step12 own9 hs3 hgl hg10
              have ownL10 := own_step12 ownL9 (show w.heap.size ≤ g1 + 1 by omega) hgl hg10
              obtain ⟨s, hse⟩ : ∃ s, s = 1 + s' := ⟨_, rfl⟩
              have es : 1 + (s' : Int) = (s : Int) := by omega
              have hs : 1 ≤ s ∧ s ≤ r ∧ (s : Int) ≤ (b : Int) - y := by omega
              have HMS : Hid (m + s ≤ q) := by show _ ≤ _; have := HM9.out; omega
              have HE3 : Hid (∀ j, j < s → hI H (m + j) = y) := fun j hj => HE.out j (by omega)
              have HSK2 : Hid (SkyOk q (b : Int) (setN H m (y + s) s)) := ⟨by rw [setN_len]; exact HHL.out, fun x hx => by
                rcases setN_mem hx with rfl | h1
                · omega
                · exact HSK.out.2 x h1⟩
              have HC10 := Lib.hid hc10
              have hM0 : ints H = ints (setN H m (y + s) 0) := rfl
              rw [hM0] at own10
              clear own9 ownL9 hg10 hc10 hM0 HC9 hse hs' he1 HE HM9 hct9 HPH
              go_wp2_with fail
              go_loopw [13] (fun i wr => ∃ j p : Nat, j ≤ s ∧ i = .int .i64 p ∧ Hid (p = m + j) ∧ p ≤ q ∧ wr.ownsRow g1 3 1 (.slice (some ⟨g1, 0, none⟩) q q) q (ints (setN H m (y + s) j)) ∧ wr.ownsRow (g1 + 1) 3 1 (.slice AL L.length cL) L.length (ints L) ∧ Cu w A n c g wr) (fun i _ => m + s - (intOf i).toNat)
              case atStart => exact ⟨0, m, Nat.zero_le _, rfl, rfl, by omega, own10, ownL10, HC10.out⟩
              case round =>
                obtain ⟨wz, rfl⟩ : ∃ wz : World, wz = wr := ⟨_, rfl⟩
                clear own10 ownL10 HC10
                obtain ⟨j, p, hj, rfl, hp, hpq, own6, ownL6, hc6⟩ := hrel
                by_cases hjl : j < s
                · have hp2 : (p : Int) < (m : Int) + (s : Int) := by have := hp.out; omega
                  have hp3 : p < q := by have := hp.out; have := HMS.out; omega
                  have hp4 : (p : Int) < (q : Int) := by omega
                  have hce : (ints (setN H m (y + s) j))[p]? = some (.int .i64 y) := by
                    have e1 : (setN H m (y + s) j)[p]? = some y := by
                      rw [setN_at, if_neg (by have := hp.out; omega), List.getElem?_eq_getElem (by rw [HHL.out]; exact hp3)]
                      have := HE3.out j hjl
                      rw [← hp.out, hI_at (by rw [HHL.out]; exact hp3)] at this
                      rw [this]
                    simp only [ints, List.getElem?_map, e1, Option.map_some]
                  have hcq := (own6.cellAt p (by omega)).trans hce
                  have hst := (own6.stored p (.int .i64 (y + s))).1
                  have hse : (ints (setN H m (y + s) j)).set p (.int .i64 (y + s)) = ints (setN H m (y + s) (j + 1)) := by rw [hp.out]; exact ints_setN _ _ _ _
                  rw [hse] at hst
                  have hfz := own6.frozenAt p
                  have hst2 := row_other ownL6 (show g1 < g1 + 1 by omega) p (.int .i64 (y + s))
                  have hc7 : Cu w A n c g (wz.setCell ⟨g1, p, none⟩ (.int .i64 (y + s))) := hc6.step12 hgl (setCell_only wz g1 p (.int .i64 (y + s))) (fun k hk => by cases hk; exact hs3)
                  have R := Lib.hid (And.intro hst (And.intro hst2 hc7))
                  have HQ2 : Hid (p + 1 = m + (j + 1)) := by show _ = _; have := hp.out; omega
                  clear hst hst2 hc7 own6 ownL6 hc6 hse hce hp
                  go_wp2_with fail
                  go_roundw
                  case rel => exact ⟨j + 1, p + 1, by omega, by go_num, HQ2, by omega, R.out.1, R.out.2.1, R.out.2.2⟩
                  case measure => simp [intOf]; omega
                · obtain rfl : j = s := by omega
                  have hp2 : ¬ (p : Int) < (m : Int) + (j : Int) := by have := hp.out; omega
                  have hg1l : g1 < wz.heap.size := (own6.lt g1 rfl).2
                  clear hp
                  go_wp2_with (at_builtin; refine wpList_append_own _ rfl _ _ 22 rfl (g1 + 1) 3 i0 (.int .i64 0) 1 8 Try.underlying22 hi0 hz0 hz1 hz2 rfl (by decide) _ _ _ rfl (ownL6.alloc _) ⟨wz.heap.size, 0, none⟩ 1 1 [.int .i64 j] rfl rfl (World.news_of_block (cs := #[.int .i64 j]) (t := 3) (fr := (0, 0)) (heap_alloc_new wz _)) ?d2 ?d3 ?d4 ?d5 ?_)
                  case d2 => simp [Value.oneCell']
                  case d3 => unfold maxLen; omega
                  case d4 => omega
                  case d5 => first | omega | (simp; omega)
                  intro v' w11 ownL7 hgrow _
                  have hap : (Value.slice (some ⟨g1, 0, none⟩) q q).ownBlock = none ∨ (Value.slice (some ⟨g1, 0, none⟩) q q).ownBlock ≠ (Value.slice AL L.length cL).ownBlock := .inr fun e => by
                    have := (ownL6.lt g1 e.symm).1; omega
                  have own7 := (own6.alloc (.cells #[.int .i64 j] 3)).kept hgrow hap
                  have hc8 : Cu w A n c g w11 := (hc6.alloc (.cells #[.int .i64 j] 3)).step12 hgl hgrow (fun k hk => by have := (ownL6.lt k hk).1; omega)
                  rw [← ints_snoc] at ownL7
                  have ele : (L ++ [(j : Int)]).length = L.length + 1 := by simp
                  rw [← ele] at ownL7
                  clear ele
                  obtain ⟨_, AL', cL', hvv, -⟩ := own_ints ownL7
                  have R := Lib.hid (And.intro own7 (And.intro ownL7 hc8))
                  clear own6 ownL6 hgrow hap hc6 own7 ownL7 hc8
                  subst hvv
                  go_wp2_with fail
                  go_roundw
                  case rel => exact ⟨_, L ++ [(j : Int)], HSK2, by simp; omega, R.out.1, R.out.2.1, R.out.2.2⟩
                  case measure => simp [lenV12]; omega
end Go.Proofs.Ythoniopkeiifnaa

/-! MakeS -/
namespace Go.Proofs.Ythoniopkeiifnaa
open Go.RowKit

set_option maxRecDepth 100000 in
set_option maxHeartbeats 2000000 in
/-- A number from 0 to h. -/
theorem makeS_any (A : Option Addr) (n c : Nat) (m : Int) (h : Nat) (w : World) (hC : CodeAt w w.heap.size A n) (hn : n ≤ 1048576) (hm1 : 0 ≤ m) (hm2 : m ≤ 1000) (hh : h ≤ 50) :
    Calls Try.prog 37 #[.slice A n c, .int .i64 m, .int .i64 0, .int .i64 h] w fun e w' => (∃ x : Nat, x ≤ h ∧ e = .returned (.int .i64 x)) ∧ Below w.heap.size w w' := by
  have HN := Lib.hid (ahead_any A n c m w hC hn hm1 hm2)
  have HC := Lib.hid hC
  clear hC
  go_enter Try.func37, Try.ntmps37
  go_wp2_with fail
  go_loop [9, 10] (fun s k => ∃ q : Nat, q ≤ h ∧ s = .int .i64 (q + 1) ∧ k = .int .i64 q) (fun _ k => h - (intOf k).toNat)
  case atStart => exact ⟨0, by omega, by first | rfl | go_num, by first | rfl | go_num⟩
  case round =>
    obtain ⟨q, hq, rfl, rfl⟩ := hrel
    by_cases hlt : q < h
    · go_wp2_with fail
      go_round
      case rel => exact ⟨q + 1, by omega, by first | rfl | go_num, by first | rfl | go_num⟩
      case measure => simp [intOf]; omega
    · go_wp2_with fail
      refine HN.out.mono ?_
      rintro e w1 ⟨g, rfl, hgw, hg, hb⟩
      have hgl := hg.lt
      have HB := Lib.hid (below_any A n c g w.heap.size ((q : Int) + 1) w1 (HC.out.below hb) hg hgw hn (by omega) (by omega))
      have HBB := Lib.hid hb
      clear hg hb
      go_wp2_with fail
      refine HB.out.mono ?_
      rintro e w2 ⟨⟨x, hx1, hx2, rfl⟩, hg2, hb2⟩
      have R := Lib.hid (HBB.out.trans (og_below hb2 hgw hgl))
      obtain ⟨y, rfl⟩ : ∃ y : Nat, x = y := ⟨x.toNat, by omega⟩
      clear hg2 hb2
      go_wp2_with fail
      go_loop [11, 12] (fun o k => ∃ a b : Nat, a + b ≤ h ∧ o = .int .i64 a ∧ k = .int .i64 b) (fun _ k => (intOf k).toNat)
      case atStart => exact ⟨0, y, by omega, by first | rfl | go_num, by first | rfl | go_num⟩
      case round =>
        obtain ⟨a, b, hab, rfl, rfl⟩ := hrel
        by_cases hlb : 0 < b
        · go_wp2_with fail
          go_round
          case rel => exact ⟨a + 1, b - 1, by omega, by first | rfl | go_num, by first | rfl | go_num⟩
          case measure => simp [intOf]; omega
        · go_wp2_with fail
          go_ret
          exact ⟨⟨a, by omega, rfl⟩, R.out⟩

set_option maxRecDepth 100000 in
set_option maxHeartbeats 2000000 in
/-- Two slices with the same points. -/
theorem points_same (A1 A2 : Option Addr) (c1 c2 : Nat) (L : List (Int × Int)) (w : World) (h1 : PtsA w A1 L) (h2 : PtsA w A2 L) (h0 : 0 < L.length) (hL : L.length ≤ 1048576) :
    Calls Try.prog 44 #[.slice A1 L.length c1, .slice A2 L.length c2] w fun e w' => e = .returned (.bool true) ∧ Below w.heap.size w w' := by
  obtain ⟨g1, rfl, -⟩ := h1 0 h0
  obtain ⟨g2, rfl, -⟩ := h2 0 h0
  have H1 := Lib.hid h1
  have H2 := Lib.hid h2
  have GP := guard_pt
  have NP := fun w x y x' y' => neq_pt w x y x' y'
  clear h1 h2
  go_enter Try.func44, Try.ntmps44
  go_wp2_with fail
  go_loopw [5, 6, 14] (fun _ _ i wr => ∃ k : Nat, k ≤ L.length ∧ i = .int .i64 k ∧ Below w.heap.size w wr) (fun _ _ i _ => L.length - (intOf i).toNat)
  case atStart => exact ⟨0, Nat.zero_le _, rfl, Below.refl _ _⟩
  case round =>
    obtain ⟨wo, rfl⟩ : ∃ wo : World, wo = wr := ⟨_, rfl⟩
    obtain ⟨k, hk, rfl, hb⟩ := hrel
    by_cases hlt : k < L.length
    · obtain ⟨d1, d2⟩ := gt_cells (ptsA_on H1.out hb) hlt
      obtain ⟨d3, d4⟩ := gt_cells (ptsA_on (ptsA_on H2.out hb) ((Below.refl wo.heap.size wo).alloc (Nat.le_refl _) (.cells #[.int .i64 (gt L k).1, .int .i64 (gt L k).2] 45))) hlt
      have t1 := at_new wo (gt L k).1 (gt L k).2 45
      have d5 := t1.c0
      have d6 := t1.c1
      have HBB := Lib.hid (hb.alloc hb.size (.cells #[.int .i64 (gt L k).1, .int .i64 (gt L k).2] 45))
      clear hb t1
      generalize (gt L k).1 = x at *
      generalize (gt L k).2 = y at *
      go_wp2_with fail
      go_quiet (fail)
      go_wp2_with fail
      go_roundw
      case rel => exact ⟨k + 1, by omega, by go_num, below_dN HBB.out _⟩
      case measure => simp [intOf]; omega
    · go_wp2_with fail
      go_ret
      exact ⟨rfl, hb⟩
end Go.Proofs.Ythoniopkeiifnaa

/-! CorQ12 -/
namespace Go.Proofs.Ythoniopkeiifnaa

/-- Square number i of the corners C and the sides S lies below the skyline. -/
def Under (H : List Int) (c : Int × Int) (s : Nat) : Prop := 0 ≤ c.1 ∧ 0 ≤ c.2 ∧ c.1 + s ≤ H.length ∧ ∀ j : Nat, c.1 ≤ j → (j : Int) < c.1 + s → c.2 + s ≤ hI H j
def ApartC (c d : Int × Int) (s t : Nat) : Prop := ¬ (max c.1 d.1 < min (c.1 + s) (d.1 + t) ∧ max c.2 d.2 < min (c.2 + s) (d.2 + t))
/-- What is laid so far: all under the skyline, apart, and of its area. -/
structure LaidC (h : Int) (S : List Nat) (H : List Int) (C : List (Int × Int)) : Prop where
  len : C.length = S.length
  pos : ∀ x ∈ H, 0 ≤ x ∧ x ≤ h
  under : ∀ (i : Nat) (c : Int × Int) (s : Nat), C[i]? = some c → S[i]? = some s → Under H c s ∧ c.2 + s ≤ h
  apart : ∀ (i k : Nat) (c d : Int × Int) (s t : Nat), k < i → C[i]? = some c → C[k]? = some d → S[i]? = some s → S[k]? = some t → ApartC c d s t
  area : H.sum = (sqS S : Nat)
theorem set_sum : ∀ (H : List Int) (k : Nat) (v : Int), k < H.length → (H.set k v).sum = H.sum - hI H k + v
  | [], k, v, h => absurd h (by simp)
  | x :: H, 0, v, _ => by simp [hI]; omega
  | x :: H, k + 1, v, h => by
    have := set_sum H k v (by simpa using h)
    simp only [List.set_cons_succ, List.sum_cons, this]
    simp [hI]
    omega
theorem setN_sum {H : List Int} {a s : Nat} {y v : Int} (hl : a + s ≤ H.length) (hy : ∀ j, j < s → hI H (a + j) = y) : ∀ j, j ≤ s → (setN H a v j).sum = H.sum + j * (v - y)
  | 0, _ => by simp [setN]
  | j + 1, h => by
    rw [setN, set_sum _ _ _ (by rw [setN_len]; omega), setN_sum hl hy j (by omega), setN_hI _ _ _ _ _ (by omega), if_neg (by omega), hy j (by omega)]
    rw [Int.natCast_add, Int.add_mul]
    omega
theorem LaidC.next {h : Int} {S : List Nat} {H : List Int} {C : List (Int × Int)} {s : Nat} (k : LaidC h S H C) (hs : 1 ≤ s) (c : FitC h H (lowC H) s) :
    LaidC h (S ++ [s]) (setN H (lowC H) (hI H (lowC H) + s) s) (C ++ [(((lowC H : Nat) : Int), hI H (lowC H))]) := by
  obtain ⟨f1, f2, f3⟩ := c
  generalize lowC H = a at *
  have ha : a < H.length := by omega
  have hy0 : 0 ≤ hI H a := by rw [hI_at ha]; exact (k.pos _ (List.getElem_mem _)).1
  have up : ∀ j, j < H.length → hI H j ≤ hI (setN H a (hI H a + s) s) j := fun j hj => by
    rw [setN_hI _ _ _ _ _ hj]
    split
    · next q =>
      have := f3 (j - a) (by omega)
      rw [show a + (j - a) = j by omega] at this
      omega
    · exact Int.le_refl _
  have keep : ∀ (c : Int × Int) (t : Nat), Under H c t → Under (setN H a (hI H a + s) s) c t := fun c t u => ⟨u.1, u.2.1, by rw [setN_len]; exact u.2.2.1, fun j h1 h2 => by
    have hj : j < H.length := by have := u.2.2.1; omega
    exact Int.le_trans (u.2.2.2 j h1 h2) (up j hj)⟩
  refine ⟨by simp [k.len], fun x hx => ?_, fun i c t hc ht => ?_, fun i j c d t t' hji hc hd ht ht' => ?_, ?_⟩
  · rcases setN_mem hx with rfl | h1
    · omega
    · exact k.pos x h1
  · rcases Nat.lt_or_ge i C.length with h1 | h1
    · rw [List.getElem?_append_left h1] at hc
      rw [List.getElem?_append_left (by rw [← k.len]; exact h1)] at ht
      obtain ⟨u1, u2⟩ := k.under i c t hc ht
      exact ⟨keep c t u1, u2⟩
    · rw [List.getElem?_append_right h1] at hc
      rw [List.getElem?_append_right (by rw [← k.len]; exact h1), ← k.len] at ht
      rcases Nat.eq_zero_or_pos (i - C.length) with h2 | h2
      · rw [h2] at hc ht
        simp only [List.getElem?_cons_zero, Option.some.injEq] at hc ht
        subst hc; subst ht
        refine ⟨⟨by simp only; omega, hy0, by rw [setN_len]; simp only; omega, fun j j1 j2 => ?_⟩, f1⟩
        simp only at j1 j2 ⊢
        rw [setN_hI _ _ _ _ _ (by omega), if_pos (by omega)]
        exact Int.le_refl _
      · rw [List.getElem?_eq_none (by simp; omega)] at hc
        cases hc
  · rcases Nat.lt_or_ge i C.length with h1 | h1
    · rw [List.getElem?_append_left h1] at hc
      rw [List.getElem?_append_left (by omega)] at hd
      rw [List.getElem?_append_left (by rw [← k.len]; exact h1)] at ht
      rw [List.getElem?_append_left (by rw [← k.len]; omega)] at ht'
      exact k.apart i j c d t t' hji hc hd ht ht'
    · rw [List.getElem?_append_right h1] at hc
      rw [List.getElem?_append_right (by rw [← k.len]; exact h1), ← k.len] at ht
      rcases Nat.eq_zero_or_pos (i - C.length) with h2 | h2
      · rw [h2] at hc ht
        simp only [List.getElem?_cons_zero, Option.some.injEq] at hc ht
        subst hc; subst ht
        have h3 : j < C.length := by omega
        rw [List.getElem?_append_left h3] at hd
        rw [List.getElem?_append_left (by rw [← k.len]; exact h3)] at ht'
        obtain ⟨⟨u0, u1, u2, u3⟩, -⟩ := k.under j d t' hd ht'
        rintro ⟨g1, g2⟩
        simp only at g1 g2
        obtain ⟨x, hx⟩ : ∃ x : Nat, (x : Int) = max (a : Int) d.1 := ⟨(max (a : Int) d.1).toNat, by omega⟩
        have h5 := u3 x (by omega) (by omega)
        have h6 := f3 (x - a) (by omega)
        rw [show a + (x - a) = x by omega] at h6
        omega
      · rw [List.getElem?_eq_none (by simp; omega)] at hc
        cases hc
  · rw [setN_sum f2 f3 s (Nat.le_refl _), k.area, sqS_append]
    have e : hI H a + (s : Int) - hI H a = s := by omega
    rw [e]
    simp [sqS, sumN]
theorem LaidC.start (w : Nat) {h : Int} (hh : 0 ≤ h) : LaidC h [] (List.replicate w 0) [] := by
  refine ⟨rfl, fun x hx => by rw [List.eq_of_mem_replicate hx]; omega, fun i c s hc => by simp at hc, fun i k c d s t _ hc => by simp at hc, ?_⟩
  simp [sqS, sumN]
theorem laid_go {h : Int} : ∀ (T S : List Nat) (H H' : List Int) (C C' : List (Int × Int)), LaidC h S H C → (∀ s ∈ T, 1 ≤ s) → goC h T H C = some (H', C') → LaidC h (S ++ T) H' C' ∧ H'.length = H.length
  | [], S, H, H', C, C', k, _, e => by
    simp only [goC, Option.some.injEq, Prod.mk.injEq] at e
    obtain ⟨rfl, rfl⟩ := e
    rw [List.append_nil]; exact ⟨k, rfl⟩
  | s :: T, S, H, H', C, C', k, h1, e => by
    by_cases c : FitC h H (lowC H) s
    · rw [goC_yes c] at e
      have := laid_go T (S ++ [s]) _ H' _ C' (k.next (h1 s (by simp)) c) (fun t ht => h1 t (by simp [ht])) e
      rw [List.append_assoc] at this
      rw [setN_len] at this
      exact this
    · rw [goC_no c] at e; cases e
theorem sum_all {H : List Int} {h : Int} (k : ∀ x ∈ H, x = h) : H.sum = H.length * h := by
  induction H with
  | nil => simp
  | cons x H ih =>
    rw [List.sum_cons, ih (fun y hy => k y (by simp [hy])), k x (by simp), List.length_cons]
    have : ((H.length + 1 : Nat) : Int) * h = (H.length : Int) * h + h := by rw [Int.natCast_add, Int.add_mul]; omega
    omega
/-- What the law asks of squares that fill a rectangle. -/
theorem cor_facts {w : Nat} {h : Int} {S : List Nat} {C : List (Int × Int)} (hh : 0 ≤ h) (h1 : ∀ s ∈ S, 1 ≤ s) (e : corN w h S = (C, true)) :
    C.length = S.length ∧ ((sqS S : Nat) : Int) = w * h ∧ (∀ (i : Nat) (c : Int × Int) (s : Nat), C[i]? = some c → S[i]? = some s → 0 ≤ c.1 ∧ 0 ≤ c.2 ∧ c.1 + s ≤ w ∧ c.2 + s ≤ h) ∧
    ∀ (i k : Nat) (c d : Int × Int) (s t : Nat), k < i → C[i]? = some c → C[k]? = some d → S[i]? = some s → S[k]? = some t → ApartC c d s t := by
  unfold corN at e
  split at e
  · next H C' hg =>
    split at e
    · next ha =>
      simp only [Prod.mk.injEq, and_true] at e
      subst e
      obtain ⟨k, hl⟩ := laid_go S [] _ H _ C' (LaidC.start w hh) h1 hg
      rw [List.nil_append] at k
      rw [List.length_replicate] at hl
      refine ⟨k.len, ?_, fun i c s hc hs => ?_, k.apart⟩
      · rw [← k.area, sum_all ha, hl]
      · obtain ⟨⟨u0, u1, u2, -⟩, u4⟩ := k.under i c s hc hs
        rw [hl] at u2
        exact ⟨u0, u1, u2, u4⟩
    · simp at e
  · simp at e
end Go.Proofs.Ythoniopkeiifnaa

/-! GrL12 -/
namespace Go.Proofs.Ythoniopkeiifnaa
open Go.RowKit

set_option maxRecDepth 100000 in
set_option maxHeartbeats 2000000 in
/-- A number from 1 to h. -/
theorem makeS1_any (A : Option Addr) (n c : Nat) (m : Int) (h : Nat) (w : World) (hC : CodeAt w w.heap.size A n) (hn : n ≤ 1048576) (hm1 : 0 ≤ m) (hm2 : m ≤ 1000) (h1 : 1 ≤ h) (hh : h ≤ 50) :
    Calls Try.prog 37 #[.slice A n c, .int .i64 m, .int .i64 1, .int .i64 h] w fun e w' => (∃ x : Nat, 1 ≤ x ∧ x ≤ h ∧ e = .returned (.int .i64 x)) ∧ Below w.heap.size w w' := by
  have HN := Lib.hid (ahead_any A n c m w hC hn hm1 hm2)
  have HC := Lib.hid hC
  clear hC
  go_enter Try.func37, Try.ntmps37
  go_wp2_with fail
  go_loop [9, 10] (fun s k => ∃ q : Nat, 1 ≤ q ∧ q ≤ h ∧ s = .int .i64 q ∧ k = .int .i64 q) (fun _ k => h - (intOf k).toNat)
  case atStart => exact ⟨1, by omega, by omega, by first | rfl | go_num, by first | rfl | go_num⟩
  case round =>
    obtain ⟨q, hq1, hq, rfl, rfl⟩ := hrel
    by_cases hlt : q < h
    · go_wp2_with fail
      go_round
      case rel => exact ⟨q + 1, by omega, by omega, by first | rfl | go_num, by first | rfl | go_num⟩
      case measure => simp [intOf]; omega
    · go_wp2_with fail
      refine HN.out.mono ?_
      rintro e w1 ⟨g, rfl, hgw, hg, hb⟩
      have hgl := hg.lt
      have HB := Lib.hid (below_any A n c g w.heap.size (q : Int) w1 (HC.out.below hb) hg hgw hn (by omega) (by omega))
      have HBB := Lib.hid hb
      clear hg hb
      go_wp2_with fail
      refine HB.out.mono ?_
      rintro e w2 ⟨⟨x, hx1, hx2, rfl⟩, hg2, hb2⟩
      have R := Lib.hid (HBB.out.trans (og_below hb2 hgw hgl))
      obtain ⟨y, rfl⟩ : ∃ y : Nat, x = y := ⟨x.toNat, by omega⟩
      clear hg2 hb2
      go_wp2_with fail
      go_loop [11, 12] (fun o k => ∃ a b : Nat, 1 ≤ a ∧ a + b ≤ h ∧ o = .int .i64 a ∧ k = .int .i64 b) (fun _ k => (intOf k).toNat)
      case atStart => exact ⟨1, y, by omega, by omega, by first | rfl | go_num, by first | rfl | go_num⟩
      case round =>
        obtain ⟨a, b, ha1, hab, rfl, rfl⟩ := hrel
        by_cases hlb : 0 < b
        · go_wp2_with fail
          go_round
          case rel => exact ⟨a + 1, b - 1, by omega, by omega, by first | rfl | go_num, by first | rfl | go_num⟩
          case measure => simp [intOf]; omega
        · go_wp2_with fail
          go_ret
          exact ⟨⟨a, by omega, by omega, rfl⟩, R.out⟩
def sumT12 (X : List Int) : Nat → Int
  | 0 => 0
  | k + 1 => sumT12 X k + X.getD k 0
theorem sumT_nat (N : List Nat) : ∀ k, k ≤ N.length → sumT12 (nat12 N) k = ((sumN (N.take k) : Nat) : Int)
  | 0, _ => by simp [sumT12, sumN]
  | k + 1, h => by
    rw [sumT12, sumT_nat N k (by omega), List.take_succ_eq_append_getElem (by omega), sumN_append]
    simp [nat12, sumN, show k < N.length by omega]
set_option maxRecDepth 100000 in
theorem sum_any (A : Option Addr) (c : Nat) (N : List Nat) (S : Nat) (w : World) (hP : IntsA w A (nat12 N)) (hL : N.length ≤ 1000) (hS : sumN N = S) (hS2 : S ≤ 1000000) (h1 : 1 ≤ N.length) :
    Calls Try.prog 38 #[.slice A N.length c] w fun e w' => e = .returned (.int .i64 (S : Int)) ∧ w' = w := by
  obtain ⟨g, rfl, -⟩ := hP 0 (by rw [nat12_len]; exact h1)
  have HP := Lib.hid hP
  have HS : Hid (sumN N = S) := hS
  have HB : Hid (∀ k, k ≤ N.length → sumN (N.take k) ≤ S) := fun k hk => by
    have := sumN_append (N.take k) (N.drop k)
    rw [List.take_append_drop] at this
    rw [← hS]; omega
  have HNX : Hid (∀ k (hk : k < N.length), sumN (N.take (k + 1)) = sumN (N.take k) + N[k]) := fun k hk => by
    rw [List.take_succ_eq_append_getElem hk, sumN_append]; simp [sumN]
  clear hP hS
  go_enter Try.func38, Try.ntmps38
  go_wp2_with fail
  go_loopw [3, 5, 8] (fun s _ i wr => ∃ k t : Nat, k ≤ N.length ∧ i = .int .i64 k ∧ s = .int .i64 t ∧ t ≤ S ∧ Hid (t = sumN (N.take k)) ∧ wr = w) (fun _ _ i _ => N.length - (intOf i).toNat)
  case atStart => exact ⟨0, 0, Nat.zero_le _, rfl, rfl, Nat.zero_le _, rfl, rfl⟩
  case round =>
    obtain ⟨k, t, hk, rfl, rfl, htS, HT, rfl⟩ := hrel
    by_cases hlt : k < N.length
    · obtain ⟨g2, hg2, hc⟩ := HP.out k (by rw [nat12_len]; exact hlt)
      simp only [Option.some.injEq, Addr.mk.injEq, and_true] at hg2
      subst hg2
      rw [nat12_get hlt] at hc
      have HT2 : Hid (t + N[k] = sumN (N.take (k + 1))) := by show _ = _; rw [HNX.out k hlt, HT.out]
      have hb2 := HB.out (k + 1) hlt
      rw [← HT2.out] at hb2
      generalize N[k] = x at *
      go_wp2_with fail
      go_roundw
      case rel => exact ⟨k + 1, t + x, by omega, by go_num, by go_num, hb2, HT2, by first | trivial | rfl⟩
      case measure => simp [intOf]; omega
    · obtain rfl : k = N.length := by omega
      have R : Hid (t = S) := by
        show _ = _
        rw [HT.out, List.take_of_length_le (Nat.le_refl _)]; exact HS.out
      go_wp2_with fail
      go_ret
      exact ⟨ret_int (by rw [R.out]), rfl⟩
set_option maxRecDepth 100000 in
theorem same_ints (A1 A2 : Option Addr) (c1 c2 : Nat) (M : List Int) (w : World) (h1 : IntsA w A1 M) (h2 : IntsA w A2 M) (h0 : 1 ≤ M.length) (hL : M.length ≤ 1048576) :
    Calls Try.prog 39 #[.slice A1 M.length c1, .slice A2 M.length c2] w fun e w' => e = .returned (.bool true) ∧ w' = w := by
  obtain ⟨g1, rfl, -⟩ := h1 0 h0
  obtain ⟨g2, rfl, -⟩ := h2 0 h0
  have H1 := Lib.hid (fun k (hk : k < M.length) => hI_ints h1 hk)
  have H2 := Lib.hid (fun k (hk : k < M.length) => hI_ints h2 hk)
  clear h1 h2
  go_enter Try.func39, Try.ntmps39
  go_wp2_with fail
  go_loopw [5, 6, 14] (fun _ _ i wr => ∃ k : Nat, k ≤ M.length ∧ i = .int .i64 k ∧ wr = w) (fun _ _ i _ => M.length - (intOf i).toNat)
  case atStart => exact ⟨0, Nat.zero_le _, rfl, rfl⟩
  case round =>
    obtain ⟨k, hk, rfl, rfl⟩ := hrel
    by_cases hlt : k < M.length
    · have d1 := H1.out k hlt
      have d2 := H2.out k hlt
      generalize hI M k = x at *
      go_wp2_with fail
      go_roundw
      case rel => exact ⟨k + 1, by omega, by go_num, by first | trivial | rfl⟩
      case measure => simp [intOf]; omega
    · obtain rfl : k = M.length := by omega
      go_wp2_with fail
      go_ret
      exact ⟨rfl, rfl⟩
/-- A rectangle and the sides of squares that fill it. -/
def MakQ (w : World) (e : Ending) (w' : World) : Prop := ∃ (a b : Int) (L : List Int) (v : Value), e = .returned (.tuple #[.int .i64 a, .int .i64 b, v]) ∧ (corV a b L).2 = true ∧ w'.ownsRow w.heap.size 3 1 v L.length (ints L) ∧ Below w.heap.size w w'
theorem cor_21 : (corV 2 1 [1, 1]).2 = true := by decide +kernel
set_option maxRecDepth 100000 in
set_option maxHeartbeats 2000000 in
theorem makeSd_any (A : Option Addr) (n c : Nat) (m : Int) (w : World) (hC : CodeAt w w.heap.size A n) (hn : n ≤ 1048576) (hm1 : 0 ≤ m) (hm2 : m ≤ 1000) :
    Calls Try.prog 40 #[.slice A n c, .int .i64 m] w (MakQ w) := by
  have HN := Lib.hid (ahead_any A n c m w hC hn hm1 hm2)
  have HC := Lib.hid hC
  clear hC
  go_enter Try.func40, Try.ntmps40
  go_wp2_with fail
  refine HN.out.mono ?_
  rintro e w1 ⟨g, rfl, hgw, hg, hb⟩
  have hgl := hg.lt
  have HSD := Lib.hid (sidesD_any A n c g w.heap.size w1 (HC.out.below hb) hg hgw hn)
  unfold SidQ at HSD
  have HB := Lib.hid hb
  clear hg hb
  go_wp2_with fail
  refine HSD.out.mono ?_
  rintro e w2 ⟨a, b, L, v, rfl, hL, own, hcu⟩
  have hb2 : Below w.heap.size w w2 := HB.out.grown hcu.2 HB.out.size (fun k hk => by cases hk; exact hgw)
  have hs1 := HB.out.size
  obtain ⟨_, A2, c2, rfl, p2⟩ := own_ints own
  have HSQ := Lib.hid (spec_sqd a b A2 c2 L w2 p2 (by omega))
  have HO := Lib.hid own
  have HB2 := Lib.hid hb2
  clear hcu own p2 hb2 HSD
  go_wp2_with fail
  refine HSQ.out.mono ?_
  rintro e w3 ⟨v3, rfl, hv3, hb3⟩
  have hb4 := below_on HB2.out hb3
  have own4 := own_base (own_below HO.out hb3) hs1
  cases v3
  · have hs4 := hb4.size
    have R : Hid (MakQ w (.returned (.tuple #[.int .i64 2, .int .i64 1, .slice (some ⟨w3.heap.size, 0, none⟩) 2 2])) (w3.alloc (.cells #[.int .i64 1, .int .i64 1] 3))) :=
      ⟨2, 1, [1, 1], _, rfl, cor_21, ints_lit12 w3 w.heap.size [1, 1] hs4 (by simp), hb4.alloc hs4 _⟩
    clear hv3 hb3 hb4 own4
    go_wp2_with fail
    go_ret3
    exact R.out
  · have R : Hid (MakQ w (.returned (.tuple #[.int .i64 a, .int .i64 b, .slice A2 L.length c2])) w3) := ⟨a, b, L, _, rfl, hv3.1 rfl, own4, hb4⟩
    clear hv3 hb3 hb4 own4
    go_wp2_with fail
    go_ret3
    exact R.out
end Go.Proofs.Ythoniopkeiifnaa

/-! GrM12 -/
namespace Go.Proofs.Ythoniopkeiifnaa
open Go.RowKit

theorem ssqT_nat (N : List Nat) : ∀ k, k ≤ N.length → ssqT (nat12 N) k = ((sqS (N.take k) : Nat) : Int)
  | 0, _ => by simp [ssqT, sqS, sumN]
  | k + 1, h => by
    rw [ssqT, ssqT_nat N k (by omega), List.take_succ_eq_append_getElem (by omega), sqS_append]
    simp [nat12, sqS, sumN, show k < N.length by omega]
theorem ssqV_nat {N : List Nat} (hl : N.length ≤ 1000) (h : ∀ x ∈ N, x ≤ 1000) : ssqV (nat12 N) = ((sqS N : Nat) : Int) := by
  have ha : areB (nat12 N) 0 1000 = true := areB_iff.2 fun x hx => by
    unfold nat12 at hx
    obtain ⟨k, hk, rfl⟩ := List.mem_map.1 hx
    have := h k hk
    omega
  unfold ssqV
  rw [decide_eq_true (by rw [nat12_len]; exact hl), ha, nat12_len, ssqT_nat N _ (Nat.le_refl _), List.take_of_length_le (Nat.le_refl _)]
  rfl
theorem sqL_le {E : List (Nat × Nat)} {b : Nat} (h : ∀ p ∈ E, p.1 ≤ b) : ∀ x ∈ sqL E, x ≤ b := by
  induction E with
  | nil => intro x hx; simp [sqL] at hx
  | cons p E ih =>
    intro x hx
    rw [sqL] at hx
    rcases List.mem_append.1 hx with h1 | h1
    · rw [List.eq_of_mem_replicate h1]; exact h p (by simp)
    · exact ih (fun q hq => h q (by simp [hq])) x h1
theorem getLastD_at {L : List Nat} (h : 0 < L.length) : L.getLastD 0 = L[L.length - 1] := by
  rw [List.getLastD_eq_getLast?, List.getLast?_eq_getElem?, List.getElem?_eq_getElem (by omega)]; rfl
/-- What the law asks of the greedy squares. -/
structure GrF (a b : Nat) (N Q : List Nat) (z : Nat) : Prop where
  gs : gsV a b = nat12 N
  qu : quV a b = nat12 Q
  qs : quV b a = nat12 Q
  n1 : 1 ≤ N.length
  n9 : N.length ≤ 1000
  q1 : 1 ≤ Q.length
  q9 : Q.length ≤ 1000
  sm : sumN Q = N.length
  ss : ssqV (nat12 N) = (a : Int) * (b : Int)
  hd : ∃ h : 0 < N.length, N[0] = min a b
  ls : ∃ h : N.length - 1 < N.length, N[N.length - 1] = z
  z1 : 1 ≤ z ∧ z ≤ 1000
  za : a % z = 0
  zb : b % z = 0
  rf : rfV (nat12 Q) z = (((max a b : Nat) : Int), ((min a b : Nat) : Int), true)
  f : fewV a b = fw a b
  fs : fewV b a = fw a b
  fo : fewV a a = 1
  f1 : 1 ≤ fw a b
  fn : fw a b ≤ N.length
  fi : (fw a b == 1) = decide (a = b)
theorem gr_facts {a b : Nat} (ha : 1 ≤ a ∧ a ≤ 24) (hb : 1 ≤ b ∧ b ≤ 24) : ∃ N Q z, GrF a b N Q z := by
  have ia : ∀ h : Int, 24 ≤ h → inB (a : Int) 1 h = true := fun h hh => inB_spec.2 ⟨by omega, by omega⟩
  have ib : ∀ h : Int, 24 ≤ h → inB (b : Int) 1 h = true := fun h hh => inB_spec.2 ⟨by omega, by omega⟩
  have hm : 0 < min a b ∧ min a b ≤ max a b ∧ max a b ≤ 24 := by omega
  obtain ⟨L, hL⟩ := sq_ne hm.1 hm.2.1
  have hN : sqF a b = min a b :: L := hL
  have hQ : quF a b = (max a b / min a b) :: (eu (min a b) (max a b % min a b)).map (·.2) := by unfold quF; rw [eu_pos hm.1]; rfl
  have hl := sq_last (min a b) (max a b) hm.1 hm.2.1
  have hle : ∀ x ∈ sqF a b, x ≤ 1000 := fun x hx => by
    have := sqL_le (b := min a b) (fun p hp => (eu_le (min a b) (max a b) hm.2.1 p hp).2.1) x hx
    omega
  have hn1 : 1 ≤ (sqF a b).length := by rw [hN]; simp
  have hn9 := sqF_len (w := a) (h := b) (by omega) (by omega)
  have hq1 : 1 ≤ (quF a b).length := by rw [hQ]; simp
  have hqs : quF b a = quF a b := by unfold quF; rw [Nat.max_comm, Nat.min_comm]
  have hla := getLastD_at (L := sqF a b) hn1
  obtain ⟨z, hz⟩ : ∃ z, z = (sqF a b).getLastD 0 := ⟨_, rfl⟩
  have hzl : (sqL (eu (max a b) (min a b))).getLastD 0 = z := hz.symm
  rw [hzl] at hl
  have hzab : z ∣ a ∧ z ∣ b := by
    rcases Nat.le_total a b with h | h
    · rw [show max a b = b by omega, show min a b = a by omega] at hl
      exact ⟨hl.2.2, hl.2.1⟩
    · rw [show max a b = a by omega, show min a b = b by omega] at hl
      exact ⟨hl.2.1, hl.2.2⟩
  have hzle : z ≤ 1000 := by have := Nat.le_of_dvd (by omega) hzab.1; omega
  refine ⟨sqF a b, quF a b, z, ⟨?_, ?_, ?_, hn1, hn9, hq1, quF_len (by omega) (by omega), ?_, ?_, ⟨hn1, ?_⟩, ⟨by omega, by rw [hz, hla]⟩, ⟨hl.1, hzle⟩, Nat.mod_eq_zero_of_dvd hzab.1, Nat.mod_eq_zero_of_dvd hzab.2, ?_, ?_, ?_, ?_, fw_one ha.1 hb.1, fw_greedy _ a b (Nat.le_refl _) ha.1 hb.1, ?_⟩⟩
  · unfold gsV; rw [ia 1000 (by omega), ib 1000 (by omega)]; rfl
  · unfold quV; rw [ia 1000 (by omega), ib 1000 (by omega)]; rfl
  · unfold quV; rw [ia 1000 (by omega), ib 1000 (by omega), ← hqs]; rfl
  · exact (sq_len_sum _).symm
  · rw [ssqV_nat hn9 hle]
    have : sqS (sqF a b) = max a b * min a b := sq_area _ _
    rw [this, Int.natCast_mul]
    rcases Nat.le_total a b with h | h
    · rw [show max a b = b by omega, show min a b = a by omega, Int.mul_comm]
    · rw [show max a b = a by omega, show min a b = b by omega]
  · simp only [hN, List.getElem_cons_zero]
  · have hrf := rf_eu (min a b) (max a b) hm.1 hm.2.1 (by omega)
    rw [hzl] at hrf
    have e1 : (nat12 (quF a b)).reverse = ((eu (max a b) (min a b)).map fun p => ((p.2 : Nat) : Int)).reverse := by unfold nat12 quF; rw [List.map_map]; rfl
    have hz1 : (1 : Int) ≤ (z : Int) := by have := hl.1; omega
    refine rfV_some ⟨hz1, fun e => ?_, ?_⟩ (by rw [e1]; exact hrf)
    · have e9 := congrArg List.length e
      rw [nat12_len, List.length_nil] at e9
      omega
    · rintro ⟨h1, h2⟩
      rw [nat12_len] at h1
      rcases Nat.lt_or_ge (min a b) (max a b) with h3 | h3
      · have h4 := qu_last (min a b) (max a b) hm.1 h3
        have e2 : (nat12 (quF a b)).getLastD 0 = (((quF a b).getLastD 0 : Nat) : Int) := by
          rw [List.getLastD_eq_getLast?, List.getLastD_eq_getLast?, nat12, List.getLast?_map]
          cases (quF a b).getLast? <;> rfl
        rw [e2] at h2
        have h5 : 2 ≤ (quF a b).getLastD 0 := h4
        omega
      · have e3 : max a b % min a b = 0 := by rw [show max a b = min a b by omega]; exact Nat.mod_self _
        rw [hQ, e3, eu_zero] at h1
        simp at h1
  · unfold fewV; rw [ia 30 (by omega), ib 30 (by omega)]; rfl
  · unfold fewV; rw [ia 30 (by omega), ib 30 (by omega)]; exact fw_comm hb.1 ha.1
  · unfold fewV; rw [ia 30 (by omega)]; exact fw_same ha.1
  · have := fw_iff ha.1 hb.1
    by_cases h : a = b
    · rw [decide_eq_true h, beq_iff_eq]; exact this.2 h
    · rw [decide_eq_false h, beq_eq_false_iff_ne]; exact fun e => h (this.1 e)
theorem per_33 : PerP 33 32 [18, 15, 7, 8, 14, 4, 10, 1, 9] := ⟨by decide +kernel, by decide⟩
theorem per_11 : ¬ PerP 2 1 [1, 1] := fun h => by have := h.2; simp at this
/-- What the law asks of the squares that fill a rectangle. -/
structure CoF (u v : Int) (L : List Int) (a : Nat) (S : List Nat) (C : List (Int × Int)) : Prop where
  ua : u = a
  a1 : 1 ≤ a ∧ a ≤ 40
  v1 : 1 ≤ v ∧ v ≤ 40
  LS : L = nat12 S
  l9 : S.length ≤ 40
  l1 : 1 ≤ S.length
  s : ∀ x ∈ S, 1 ≤ x ∧ x ≤ 40
  cl : C.length = S.length
  ss : ssqV L = u * v
  at' : ∀ i (h : i < S.length) (h2 : i < C.length), 0 ≤ (C[i]).1 ∧ 0 ≤ (C[i]).2 ∧ (C[i]).1 + (S[i] : Int) ≤ u ∧ (C[i]).2 + (S[i] : Int) ≤ v
  ap : ∀ i k (hk : k < i) (h : i < S.length) (h2 : i < C.length), ApartC C[i] (C[k]'(by omega)) S[i] (S[k]'(by omega))
theorem co_facts {u v : Int} {L : List Int} (h : (corV u v L).2 = true) : ∃ a S, CoF u v L a S (corV u v L).1 := by
  have hn := corV_ne h
  have hV : corV u v L = bif corOk u v L then corN u.toNat v (L.map Int.toNat) else ([], false) := rfl
  cases hok : corOk u v L
  · rw [hV, hok] at h; cases h
  have hok2 := hok
  unfold corOk at hok2
  simp only [Bool.and_eq_true, decide_eq_true_eq] at hok2
  obtain ⟨k1, k2, k3, k4⟩ := hok2
  have hw := inB_spec.1 k1
  have hh := inB_spec.1 k2
  obtain ⟨hXS, hSb⟩ := areB_nat (by omega) k4
  rw [hok] at hV
  simp only [cond_true] at hV
  have hlS : (L.map Int.toNat).length = L.length := List.length_map ..
  have hS1 : ∀ x ∈ L.map Int.toNat, 1 ≤ x ∧ x ≤ 40 := fun x hx => by have := hSb x hx; omega
  have he : corN u.toNat v (L.map Int.toNat) = ((corV u v L).1, true) := by rw [← hV]; exact Prod.ext rfl h
  obtain ⟨f1, f2, f3, f4⟩ := cor_facts (by omega) (fun s hs => (hS1 s hs).1) he
  generalize (corV u v L).1 = C at *
  refine ⟨u.toNat, L.map Int.toNat, ⟨by omega, by omega, hh, hXS, by omega, by omega, hS1, f1, ?_, fun i hi hi2 => ?_, fun i k hk hi hi2 => ?_⟩⟩
  · rw [hXS]
    rw [ssqV_nat (by omega) (fun x hx => by have := hS1 x hx; omega), f2]
    congr 1
    omega
  · have := f3 i _ _ (List.getElem?_eq_getElem hi2) (List.getElem?_eq_getElem hi)
    rw [show ((u.toNat : Nat) : Int) = u by omega] at this
    exact this
  · exact f4 i k _ _ _ _ hk (List.getElem?_eq_getElem hi2) (List.getElem?_eq_getElem (by omega)) (List.getElem?_eq_getElem hi) (List.getElem?_eq_getElem (by omega))
end Go.Proofs.Ythoniopkeiifnaa

/-! GrW12 -/
namespace Go.Proofs.Ythoniopkeiifnaa
open Go.RowKit

theorem tmod_z {a z : Nat} (h : a % z = 0) : Int.tmod (a : Int) (z : Int) = 0 := by rw [tmod_nat12, h]; rfl
theorem maxI_eq12 (x y : Int) : maxI x y = max x y := by unfold maxI; split <;> omega
theorem minI_eq12 (x y : Int) : minI x y = min x y := by unfold minI; split <;> omega
/-- What the law asks of the squares' corners. -/
structure CoH (u v : Int) (L : List Int) (C : List (Int × Int)) : Prop where
  len : C.length = L.length
  ss : ssqV L = u * v
  at' : ∀ i, i < L.length → 0 ≤ (gt C i).1 ∧ 0 ≤ (gt C i).2 ∧ (gt C i).1 + hI L i ≤ u ∧ (gt C i).2 + hI L i ≤ v ∧ 1 ≤ hI L i ∧ hI L i ≤ 40
  ap : ∀ i k, k < i → i < L.length → ¬ (maxI (gt C i).1 (gt C k).1 < minI ((gt C i).1 + hI L i) ((gt C k).1 + hI L k) ∧ maxI (gt C i).2 (gt C k).2 < minI ((gt C i).2 + hI L i) ((gt C k).2 + hI L k))
theorem co_hid {u v : Int} {L : List Int} (h : (corV u v L).2 = true) : (1 ≤ u ∧ u ≤ 40) ∧ (1 ≤ v ∧ v ≤ 40) ∧ 1 ≤ L.length ∧ L.length ≤ 40 ∧ CoH u v L (corV u v L).1 := by
  obtain ⟨a, S, F⟩ := co_facts h
  have hLS := F.LS
  have hl : L.length = S.length := by rw [hLS, nat12_len]
  have hhI : ∀ i (h : i < S.length), hI L i = ((S[i] : Nat) : Int) := fun i h => by rw [hI_at (by omega)]; simp only [hLS]; exact nat12_get h
  have hua := F.ua
  have ha1 := F.a1
  have hl1 := F.l1
  have hl9 := F.l9
  refine ⟨by omega, F.v1, by omega, by omega, ⟨by rw [F.cl, hl], F.ss, fun i hi => ?_, fun i k hk hi => ?_⟩⟩
  · have h2 := F.at' i (by omega) (by rw [F.cl]; omega)
    have h3 := F.s _ (List.getElem_mem (show i < S.length by omega))
    rw [gt_at (by rw [F.cl]; omega), hhI i (by omega)]
    omega
  · have h2 := F.ap i k hk (by omega) (by rw [F.cl]; omega)
    rw [gt_at (by rw [F.cl]; omega), gt_at (by rw [F.cl]; omega), hhI i (by omega), hhI k (by omega)]
    simp only [maxI_eq12, minI_eq12]
    exact h2
theorem ints_at12 (W : World) (X : List Int) (hX : X.length ≤ 1000) (_ : 1 ≤ X.length) : IntsA (W.alloc (.cells (ints X).toArray 3)) (some ⟨W.heap.size, 0, none⟩) X := by
  obtain ⟨_, A, c, hv, p⟩ := own_ints (ints_lit12 W W.heap.size X (Nat.le_refl _) hX)
  cases hv
  exact p
theorem per_33_any (W : World) : Calls Try.prog 36 #[.int .i64 33, .int .i64 32, .slice (some ⟨W.heap.size, 0, none⟩) 9 9] (W.alloc (.cells #[.int .i64 18, .int .i64 15, .int .i64 7, .int .i64 8, .int .i64 14, .int .i64 4, .int .i64 10, .int .i64 1, .int .i64 9] 3)) fun e w' => e = .returned (.bool true) ∧ Below W.heap.size W w' := by
  refine (impl_per 33 32 _ _ _ _ (ints_at12 W [18, 15, 7, 8, 14, 4, 10, 1, 9] (by simp) (by simp)) (by simp)).mono ?_
  rintro e w' ⟨v, rfl, hv, hb⟩
  rw [hv.2 per_33]
  exact ⟨rfl, ((Below.refl W.heap.size W).alloc (Nat.le_refl _) _).trans (hb.mono (by simp))⟩
theorem per_11_any (W : World) : Calls Try.prog 36 #[.int .i64 2, .int .i64 1, .slice (some ⟨W.heap.size, 0, none⟩) 2 2] (W.alloc (.cells #[.int .i64 1, .int .i64 1] 3)) fun e w' => e = .returned (.bool false) ∧ Below W.heap.size W w' := by
  refine (impl_per 2 1 _ _ _ _ (ints_at12 W [1, 1] (by simp) (by simp)) (by simp)).mono ?_
  rintro e w' ⟨v, rfl, hv, hb⟩
  cases v
  · exact ⟨rfl, ((Below.refl W.heap.size W).alloc (Nat.le_refl _) _).trans (hb.mono (by simp))⟩
  · exact absurd (hv.1 rfl) per_11
set_option maxRecDepth 100000 in
set_option maxHeartbeats 16000000 in
theorem law_greedy (A : Option Addr) (n c : Nat) (w : World) (hC : CodeAt w w.heap.size A n) :
    Calls Try.prog 11 #[.slice A n c] w fun e w' => e = .returned (.bool true) ∧ Below w.heap.size w w' := by
  by_cases h1 : n ≤ 1048576
  case neg =>
    clear hC
    go_enter Try.func11, Try.ntmps11
    go_wp2_with fail
    go_ret
    exact ⟨rfl, Below.refl _ _⟩
  have HMS := Lib.hid (fun (m : Int) (W : World) (hm1 : 0 ≤ m) (hm2 : m ≤ 1000) (hb : Below w.heap.size w W) => makeS1_any A n c m 24 W ((hC.below hb).mono hb.size) h1 hm1 hm2 (by omega) (by omega))
  have HMD := Lib.hid (fun (W : World) (hb : Below w.heap.size w W) => makeSd_any A n c 20 W ((hC.below hb).mono hb.size) h1 (by omega) (by omega))
  have hmin : ∀ (w : World) (x y : Int) (ts : Array TypeId) (t : TypeId), (Builtin.min_ ts t #[.int .i64 x, .int .i64 y]).run Try.prog w = .ok (.int .i64 (minI x y)) w := run_minI
  have hmax : ∀ (w : World) (x y : Int) (ts : Array TypeId) (t : TypeId), (Builtin.max_ ts t #[.int .i64 x, .int .i64 y]).run Try.prog w = .ok (.int .i64 (maxI x y)) w := run_maxI
  clear hC
  go_enter Try.func11, Try.ntmps11
  go_wp2_with fail
  refine (HMS.out 0 _ (by omega) (by omega) (Below.refl _ _)).mono ?_
  rintro e w1 ⟨⟨a, ha1, ha2, rfl⟩, hb⟩
  have HB1 := Lib.hid hb
  clear hb
  go_wp2_with fail
  refine (HMS.out 1 _ (by omega) (by omega) HB1.out).mono ?_
  rintro e w2 ⟨⟨b, hb1, hb2, rfl⟩, hb⟩
  have HB2 := Lib.hid (below_on HB1.out hb)
  clear hb HB1 HMS
  obtain ⟨N, Q, z, GF⟩ := gr_facts ⟨ha1, ha2⟩ ⟨hb1, hb2⟩
  have n1 := GF.n1; have n9 := GF.n9; have q1 := GF.q1; have q9 := GF.q9
  have z1 := GF.z1
  obtain ⟨hN0, hd⟩ := GF.hd
  obtain ⟨hNl, ls⟩ := GF.ls
  have HG1 := Lib.hid (impl_gs a b)
  have HQ1 := Lib.hid (impl_qu a b)
  have HQ2 := Lib.hid (impl_qu b a)
  rw [GF.gs] at HG1
  rw [GF.qu] at HQ1
  rw [GF.qs] at HQ2
  unfold ListsI at HG1 HQ1 HQ2
  have HSM := Lib.hid (fun A c w hP => sum_any A c Q N.length w hP q9 GF.sm (by omega) q1)
  have HSS := Lib.hid (fun A c w hP => impl_ssq A c (nat12 N) w hP (by rw [nat12_len]; omega))
  rw [GF.ss, nat12_len] at HSS
  have HRF := Lib.hid (fun A c w hP => impl_rf A c (nat12 Q) z w hP (by rw [nat12_len]; omega))
  have HF1 := Lib.hid (impl_few a b)
  have HF2 := Lib.hid (impl_few b a)
  have HF3 := Lib.hid (impl_few a a)
  rw [GF.f] at HF1
  rw [GF.fs] at HF2
  rw [GF.fo] at HF3
  unfold RfE at HRF
  rw [GF.rf, nat12_len] at HRF
  simp only at HRF
  have tz1 := tmod_z GF.za
  have tz2 := tmod_z GF.zb
  have f1 := GF.f1; have fn := GF.fn
  have fi : (fw a b == 1) = decide ((a : Int) = (b : Int)) := by
    rw [GF.fi]
    exact decide_eq_decide.2 (by omega)
  have hmi := minI_nat12 a b
  have hma := maxI_nat12 a b
  have HSAM := Lib.hid (fun A1 A2 c1 c2 w h1 h2 => same_ints A1 A2 c1 c2 (nat12 Q) w h1 h2 (by rw [nat12_len]; exact q1) (by rw [nat12_len]; omega))
  rw [nat12_len] at HSAM
  clear GF
  generalize hmm : ((min a b : Nat) : Int) = mi at *
  have HMM := Lib.hid hmm
  clear hmm
  generalize ((max a b : Nat) : Int) = ma at *
  generalize fw a b = F at *
  have hx : 1 ≤ (a : Int) ∧ (a : Int) ≤ 24 := by omega
  have hy : 1 ≤ (b : Int) ∧ (b : Int) ≤ 24 := by omega
  have hz : 1 ≤ (z : Int) ∧ (z : Int) ≤ 1000 := by omega
  have hxy : 1 ≤ (a : Int) * (b : Int) ∧ (a : Int) * (b : Int) ≤ 576 := by
    have h1 := Nat.mul_le_mul ha2 hb2
    have h2 := Nat.mul_le_mul ha1 hb1
    rw [← Int.natCast_mul]
    omega
  generalize hzz : (z : Int) = zz at *
  have HZZ := Lib.hid hzz
  clear hzz z1
  generalize (a : Int) = x at *
  generalize (b : Int) = y at *
  have g5 : wrap64 (x * y) = x * y := IntWalk.wrap64_in _ (by omega)
  have g6 : IntKind.i64.wrap (x * y) = x * y := IntWalk.i64_in _ (by omega)
  clear hxy
  go_wp2_with fail
  refine (HG1.out _).mono ?_
  rintro e w3 ⟨v3, rfl, own, hb⟩
  obtain ⟨_, A3, c3, rfl, p3⟩ := own_ints own
  rw [nat12_len]
  have HP3 := Lib.hid p3
  have HB3 := Lib.hid (below_on HB2.out hb)
  clear own p3 hb HB2
  go_wp2_with fail
  refine (HQ1.out _).mono ?_
  rintro e w4 ⟨v4, rfl, own, hb⟩
  obtain ⟨_, A4, c4, rfl, p4⟩ := own_ints own
  rw [nat12_len]
  have HP4 := Lib.hid p4
  replace HP3 := Lib.hid (intsA_on HP3.out hb)
  have HB4 := Lib.hid (below_on HB3.out hb)
  clear own p4 hb HB3
  have n0 : ((N.length : Int) == 0) = false := by rw [beq_eq_false_iff_ne]; omega
  go_wp2_with fail
  refine (HSM.out _ _ _ HP4.out).mono ?_
  rintro e w5 ⟨rfl, rfl⟩
  go_wp2_with fail
  refine (HSS.out _ _ _ HP3.out).mono ?_
  rintro e w6 ⟨rfl, hb⟩
  replace HP3 := Lib.hid (intsA_on HP3.out hb)
  replace HP4 := Lib.hid (intsA_on HP4.out hb)
  have HB6 := Lib.hid (below_on HB4.out hb)
  clear hb HB4
  obtain ⟨g3, rfl, k0⟩ := HP3.out 0 (by rw [nat12_len]; exact hN0)
  rw [nat12_get hN0, hd, HMM.out] at k0
  obtain ⟨g3', hg3, k9⟩ := HP3.out (N.length - 1) (by rw [nat12_len]; exact hNl)
  simp only [Option.some.injEq, Addr.mk.injEq, and_true] at hg3
  subst hg3
  rw [nat12_get hNl, ls, HZZ.out] at k9
  obtain ⟨nl, hnl⟩ : ∃ nl, N.length = nl + 1 := ⟨N.length - 1, by omega⟩
  rw [show N.length - 1 = nl by omega] at k9
  have hsub : (N.length : Int) - 1 = (nl : Int) := by omega
  have hnl2 : (nl : Int) < (N.length : Int) := by omega
  have hnl0 : (0 : Int) < (N.length : Int) := by omega
  have HNL := Lib.hid hnl
  have HLS : Hid (∀ j (h : j < N.length), N.length = j + 1 → N[j] = z) := fun j h e => by
    rw [← ls]
    congr 1
    omega
  clear hnl hd ls hN0 hNl
  go_wp2_with fail
  refine (HQ2.out _).mono ?_
  rintro e w7 ⟨v7, rfl, own, hb⟩
  obtain ⟨_, A7, c7, rfl, p7⟩ := own_ints own
  rw [nat12_len]
  have HP7 := Lib.hid p7
  replace HP3 := Lib.hid (intsA_on HP3.out hb)
  replace HP4 := Lib.hid (intsA_on HP4.out hb)
  have HB7 := Lib.hid (below_on HB6.out hb)
  clear own p7 hb HB6 k0 k9
  go_wp2_with fail
  refine (HSAM.out _ _ _ _ _ HP4.out HP7.out).mono ?_
  rintro e w8 ⟨rfl, rfl⟩
  obtain ⟨g3', hg3, k9⟩ := HP3.out nl (by rw [nat12_len]; have := HNL.out; omega)
  simp only [Option.some.injEq, Addr.mk.injEq, and_true] at hg3
  subst hg3
  have ls9 : N[nl]'(by have := HNL.out; omega) = z := HLS.out _ _ HNL.out
  rw [nat12_get (by have := HNL.out; omega), ls9, HZZ.out] at k9
  clear ls9 HLS
  go_wp2_with fail
  refine (HRF.out _ _ _ HP4.out).mono ?_
  rintro e w9 ⟨rfl, hb⟩
  have HB9 := Lib.hid (below_on HB7.out hb)
  clear hb k9 HP3 HP4 HP7 HB7 HRF
  go_wp2_with fail
  refine (HF1.out _).mono ?_
  rintro e w10 ⟨rfl, hb⟩
  have HB10 := Lib.hid (below_on HB9.out hb)
  clear hb HB9
  go_wp2_with fail
  refine (HF2.out _).mono ?_
  rintro e w11 ⟨rfl, hb⟩
  have HB11 := Lib.hid (below_on HB10.out hb)
  clear hb HB10
  go_wp2_with fail
  refine (HF3.out _).mono ?_
  rintro e w12 ⟨rfl, hb⟩
  have HB12 := Lib.hid (below_on HB11.out hb)
  clear hb HB11
  clear HG1 HQ1 HQ2 HSM HSS HF1 HF2 HF3 HSAM tz1 tz2 hmi hma
  go_wp2_with fail
  clear f1 fn fi n0 n1 n9 q1 q9 g5 g6 hsub hnl2 hnl0 HNL HMM HZZ
  refine (HMD.out _ HB12.out).mono ?_
  rintro e w13 ⟨u, v, L, vs, rfl, hok, own, hb⟩
  have HB13 := Lib.hid (below_on HB12.out hb)
  obtain ⟨hu, hv, hl1, hl9, hch⟩ := co_hid hok
  have HCH := Lib.hid hch
  obtain ⟨_, A13, c13, rfl, p13⟩ := own_ints own
  obtain ⟨g13, rfl, -⟩ := p13 0 hl1
  have HP13 := Lib.hid p13
  have HCO := Lib.hid (fun W hP => impl_cor u v (some ⟨g13, 0, none⟩) c13 L W hP (by omega))
  have HSQ := Lib.hid (fun W hP => impl_sqd u v (some ⟨g13, 0, none⟩) c13 L W hP (by omega))
  have HSA := Lib.hid (fun W hP => impl_ssq (some ⟨g13, 0, none⟩) c13 L W hP (by omega))
  rw [hch.ss] at HSA
  have HOK := Lib.hid hok
  unfold ListsB at HCO
  rw [hok] at HCO
  have hCl := hch.len
  clear own p13 hb hok HB12 HMD hch
  generalize (corV u v L).1 = C at HCO HCH hCl
  go_wp2_with fail
  refine (HCO.out _ HP13.out).mono ?_
  rintro e w14 ⟨v14, rfl, own, hb⟩
  obtain ⟨_, A14, c14, rfl, p14, hc14⟩ := own_ptsc own
  obtain ⟨g14, rfl, -⟩ := p14 0 (by omega)
  have HC14 := Lib.hid p14
  have HP14 := Lib.hid (intsA_on HP13.out hb)
  have HB14 := Lib.hid (below_on HB13.out hb)
  rw [hCl] at hc14 ⊢
  clear own p14 hb HP13 HB13
  go_wp2_with fail
  refine (HSQ.out _ HP14.out).mono ?_
  rintro e w15 ⟨vb, rfl, hvb, hb⟩
  obtain rfl : vb = true := hvb.2 HOK.out
  have HC15 := Lib.hid (ptsA_on HC14.out hb)
  have HP15 := Lib.hid (intsA_on HP14.out hb)
  have HB15 := Lib.hid (below_on HB14.out hb)
  clear hvb hb HC14 HP14 HB14
  have g5 : wrap64 (u * v) = u * v ∧ IntKind.i64.wrap (u * v) = u * v := by
    have h1 : u * v ≤ 1600 := by
      have := Int.mul_le_mul hu.2 hv.2 (by omega) (by omega)
      omega
    have h2 : 0 ≤ u * v := Int.mul_nonneg (by omega) (by omega)
    exact ⟨IntWalk.wrap64_in _ (by omega), IntWalk.i64_in _ (by omega)⟩
  go_wp2_with fail
  refine (HSA.out _ HP15.out).mono ?_
  rintro e w16 ⟨rfl, hb⟩
  have HC16 := Lib.hid (ptsA_on HC15.out hb)
  have HP16 := Lib.hid (intsA_on HP15.out hb)
  have HB16 := Lib.hid (below_on HB15.out hb)
  clear hb HC15 HP15 HB15 HSQ HSA HCO HOK
  obtain ⟨g5, g6⟩ := g5
  go_wp2_with fail
  clear g5 g6 hCl
  go_loopw [16, 17, 18, 19, 198] (fun _ _ _ _ i wr => ∃ k : Nat, k ≤ L.length ∧ i = .int .i64 k ∧ Hid (Below w16.heap.size w16 wr)) (fun _ _ _ _ i _ => L.length - (intOf i).toNat)
  case atStart => exact ⟨0, Nat.zero_le _, rfl, Below.refl _ _⟩
  case round =>
    obtain ⟨wo, rfl⟩ : ∃ wo : World, wo = wr := ⟨_, rfl⟩
    obtain ⟨k, hk, rfl, HBo⟩ := hrel
    by_cases hlt : k < L.length
    · obtain ⟨c1, c2⟩ := gt_cells (ptsA_on HC16.out HBo.out) (show k < C.length by have := HCH.out.len; omega)
      have c3 := hI_ints (intsA_on HP16.out HBo.out) hlt
      obtain ⟨u1, u2, u3, u4, u5, u6⟩ := HCH.out.at' k hlt
      have HAP := Lib.hid (fun r (hr : r < k) => HCH.out.ap k r hr hlt)
      have HAT := Lib.hid (fun r (hr : r < k) => HCH.out.at' r (by omega))
      generalize (gt C k).1 = x at *
      generalize (gt C k).2 = y at *
      generalize htt : hI L k = t at *
      have HTT := Lib.hid htt
      clear htt
      have hkl : (k : Int) < (L.length : Int) := by omega
      have hal := (Below.refl wo.heap.size wo).alloc (Nat.le_refl _) (.cells #[.int .i64 x, .int .i64 y] 45)
      have d3 := cell_on hal rfl c3
      have m1 := at_new wo x y 45
      have HM := Lib.hid m1
      have v1 := m1.c0; have v2 := m1.c1
      have b7 := Lib.hid (below_on HBo.out hal)
      have k1 := cell_regrown d3; have k2 := cell_regrown v1; have k3 := cell_regrown v2
      have z1 : decide (x < 0) = false := decide_eq_false (by omega)
      have z2 : decide (y < 0) = false := decide_eq_false (by omega)
      have z3 : decide (u < x + t) = false := decide_eq_false (by omega)
      have z4 : decide (v < y + t) = false := decide_eq_false (by omega)
      clear hal m1 HBo
      go_wp2_with fail
      refine wp_region_quiet_below (by kernel_rfl) (by kernel_rfl) ?_
      repeat (first
        | go_big_quiet_step (fail)
        | quiet_step (fail))
      refine wpQuiet_nil ?_
      rintro _ ⟨⟨dq, osq⟩, rfl⟩
      have hg := below_regrown (wo.alloc (.cells #[.int .i64 x, .int .i64 y] 45)) dq osq
      have b8 := Lib.hid (below_on b7.out hg)
      have hm9 := HM.out.step hg
      have HM9 := Lib.hid hm9
      clear HM b7 hg hm9
      simp only at *
      generalize Go.Sort.grow (redrawn (wo.alloc (.cells #[.int .i64 x, .int .i64 y] 45)) dq) osq = w17 at *
      clear k1 k2 k3 z1 z2 z3 z4 c1 c2 c3 d3 v1 v2
      have hkc : (k : Int) ≤ (c14 : Int) := by omega
      go_wp2_with fail
      go_loopw [18, 19, 237] (fun _ _ i wr => ∃ r : Nat, r ≤ k ∧ i = .int .i64 r ∧ Hid (Below w17.heap.size w17 wr)) (fun _ _ i _ => k - (intOf i).toNat)
      case atStart => exact ⟨0, Nat.zero_le _, rfl, Below.refl _ _⟩
      case round =>
        obtain ⟨wi, rfl⟩ : ∃ wi : World, wi = wr := ⟨_, rfl⟩
        obtain ⟨r, hr, rfl, HBi⟩ := hrel
        have hb9 := below_on b8.out HBi.out
        by_cases hlr : r < k
        · obtain ⟨c1, c2⟩ := gt_cells (ptsA_on HC16.out hb9) (show r < C.length by have := HCH.out.len; omega)
          have c3 := hI_ints (intsA_on HP16.out hb9) hlt
          have c4 := hI_ints (intsA_on HP16.out hb9) (show r < L.length by omega)
          obtain ⟨u1', u2', u3', u4', u5', u6'⟩ := HAT.out r hlr
          have HA := Lib.hid (HAP.out r hlr)
          rw [HTT.out] at c3
          have n1 := HM9.out.step HBi.out
          generalize (gt C r).1 = x' at *
          generalize (gt C r).2 = y' at *
          generalize hI L r = t' at *
          have hrl : (r : Int) < (L.length : Int) := by omega
          have hrk : (r : Int) < (k : Int) := by omega
          have hal := (Below.refl wi.heap.size wi).alloc (Nat.le_refl _) (.cells #[.int .i64 x', .int .i64 y'] 45)
          have d3 := cell_on hal rfl c3
          have d4 := cell_on hal rfl c4
          have n2 := n1.step hal
          have n3 := at_new wi x' y' 45
          have v1 := n2.c0; have v2 := n2.c1; have v3 := n3.c0; have v4 := n3.c1
          have k1 := cell_regrown d3; have k2 := cell_regrown d4; have k3 := cell_regrown v1; have k4 := cell_regrown v2; have k5 := cell_regrown v3; have k6 := cell_regrown v4
          have b9 := Lib.hid (below_on HBi.out hal)
          have q1 : IntKind.i64.wrap (x + t) = x + t := IntWalk.i64_in _ (by omega)
          have q2 : IntKind.i64.wrap (y + t) = y + t := IntWalk.i64_in _ (by omega)
          have q3 : IntKind.i64.wrap (x' + t') = x' + t' := IntWalk.i64_in _ (by omega)
          have q4 : IntKind.i64.wrap (y' + t') = y' + t' := IntWalk.i64_in _ (by omega)
          clear hal n1 n2 n3 HBi hb9
          by_cases ht1 : maxI x x' < minI (x + t) (x' + t')
          · have hd1 : decide (maxI x x' < minI (x + t) (x' + t')) = true := decide_eq_true ht1
            have hd2 : decide (maxI y y' < minI (y + t) (y' + t')) = false := decide_eq_false fun h => HA.out ⟨ht1, h⟩
            clear HA
            go_wp2_with fail
            refine wp_region_quiet_below (by kernel_rfl) (by kernel_rfl) ?_
            repeat (first
              | go_big_quiet_step (fail)
              | quiet_step (fail))
            refine wpQuiet_nil ?_
            rintro _ ⟨⟨dq, osq⟩, rfl⟩
            have hg := below_regrown (wi.alloc (.cells #[.int .i64 x', .int .i64 y'] 45)) dq osq
            have b10 := Lib.hid (below_on b9.out hg)
            clear hg b9
            simp only at *
            generalize Go.Sort.grow (redrawn (wi.alloc (.cells #[.int .i64 x', .int .i64 y'] 45)) dq) osq = w18 at *
            clear k1 k2 k3 k4 k5 k6 v1 v2 v3 v4 d3 d4 c1 c2 c3 c4 q1 q2 q3 q4 hd1 hd2
            go_wp2_with fail
            go_roundw
            case rel => exact ⟨r + 1, by omega, by go_num, b10⟩
            case measure => simp [intOf]; omega
          · have hd1 : decide (maxI x x' < minI (x + t) (x' + t')) = false := decide_eq_false ht1
            clear HA
            go_wp2_with fail
            refine wp_region_quiet_below (by kernel_rfl) (by kernel_rfl) ?_
            repeat (first
              | go_big_quiet_step (fail)
              | quiet_step (fail))
            refine wpQuiet_nil ?_
            rintro _ ⟨⟨dq, osq⟩, rfl⟩
            have hg := below_regrown (wi.alloc (.cells #[.int .i64 x', .int .i64 y'] 45)) dq osq
            have b10 := Lib.hid (below_on b9.out hg)
            clear hg b9
            simp only at *
            generalize Go.Sort.grow (redrawn (wi.alloc (.cells #[.int .i64 x', .int .i64 y'] 45)) dq) osq = w18 at *
            clear k1 k2 k3 k4 k5 k6 v1 v2 v3 v4 d3 d4 c1 c2 c3 c4 q1 q2 q3 q4 hd1
            go_wp2_with fail
            go_roundw
            case rel => exact ⟨r + 1, by omega, by go_num, b10⟩
            case measure => simp [intOf]; omega
        · have bj := Lib.hid (below_on b8.out HBi.out)
          clear HBi b8 HAP HAT HM9
          go_wp2_with fail
          go_roundw
          case rel => exact ⟨k + 1, hlt, by go_num, bj⟩
          case measure => simp [intOf]; omega
    · have hb9 := Lib.hid (below_on HB16.out HBo.out)
      clear HBo HC16 HP16 HB16 HCH
      go_wp2_with fail
      refine (per_33_any _).mono ?_
      rintro e w20 ⟨rfl, hb⟩
      have b20 := Lib.hid (below_on hb9.out hb)
      clear hb hb9
      go_wp2_with fail
      refine (per_11_any _).mono ?_
      rintro e w21 ⟨rfl, hb⟩
      have b21 := Lib.hid (below_on b20.out hb)
      clear hb b20
      go_wp2_with fail
      go_ret
      exact ⟨rfl, b21.out⟩
end Go.Proofs.Ythoniopkeiifnaa
