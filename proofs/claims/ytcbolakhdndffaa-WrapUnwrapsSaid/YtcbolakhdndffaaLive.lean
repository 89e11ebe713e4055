/- Contracts: a reader that Open made. It proves no statement. -/
import Derived.Test.YtcbolakhdndffaaBlk
import Derived.Test.YtcbolakhdndffaaGet1
import Derived.Test.YtcbolakhdndffaaConv
import Derived.Laws.IdiomStrings
import Derived.Laws.BytesArg
namespace Go.Proofs.Ytcbolakhdndffaa
open Go.RowKit
set_option linter.unusedVariables false
set_option linter.unusedSimpArgs false

/-- The row at A lies from block lo on, and no cell of it is frozen. -/
def Mine (w : World) (lo : Nat) (A : Option Addr) (n : Nat) : Prop := 0 < n → ∃ b o, A = some ⟨b, o, none⟩ ∧ lo ≤ b ∧ ∀ i, i < n → w.frozen? ⟨b, o + i, none⟩ = false

/-- A reader with the bytes l left, at A, and the error e. -/
structure Live (w : World) (lo B g : Nat) (A : Option Addr) (n c : Nat) (l : List UInt8) (e : Int) : Prop where
  blk : Blk w g 62 #[.slice A n c, .int .i64 e, .bool true]
  low : lo ≤ g
  high : g < B
  reads : Reads w B A n l
  mine : Mine w lo A n
  fit : n ≤ c
  cap : c ≤ 9223372036854775807
  nil : A = none → n = 0 ∧ c = 0

set_option maxHeartbeats 400000 in
theorem clone_any (A : Option Addr) (n c : Nat) (l : List UInt8) (w : World) (B : Nat) (h : Reads w B A n l) (hB : B ≤ w.heap.size) (hn : n ≤ 70368744177664) (hA : A = none → n = 0 ∧ c = 0) :
    Calls Try.prog 39 #[.slice A n c] w fun e w' => (∃ v, e = .returned v ∧ w'.ownsRow w.heap.size 5 1 v n (bytesV l)) ∧ Still w w' := by
  rcases A with _ | ad
  · obtain ⟨rfl, rfl⟩ := hA rfl
    have hl : l = [] := List.eq_nil_of_length_eq_zero h.1
    subst hl
    have hk : ∀ w : World, (binOp .eql 22 (.slice none 0 0) (.slice none 0 0)).run Try.prog w = .ok (.bool true) w := fun w => Lib.run_eql_slice_nil w _ _ none 0 0 0 0 Try.underlying22
    go_enter Try.func39, Try.ntmps39
    go_wp2
    go_ret
    exact ⟨⟨_, rfl, World.ownsRow_nil _ _ _ _⟩, Below.refl _ _⟩
  · have r1 : Reads (w.alloc (.cells #[] 5)) B (some ad) n l := h.keep fun p hp => World.cell?_alloc_lt w _ p (by omega)
    have o1 : (w.alloc (.cells #[] 5)).ownsRow w.heap.size 5 1 (.slice (some ⟨w.heap.size, 0, none⟩) 0 0) 0 (bytesV []) := World.ownsRow_made w #[] 0 (Nat.le_refl _) (by unfold maxLen; omega) rfl
    have s1 : Still w (w.alloc (.cells #[] 5)) := (Below.refl _ _).alloc (Nat.le_refl _) _
    have hk : ∀ w : World, (binOp .eql 22 (.slice (some ad) n c) (.slice none 0 0)).run Try.prog w = .ok (.bool false) w := fun w => Lib.run_eql_slice_nil w _ _ (some ad) n c 0 0 Try.underlying22
    go_enter Try.func39, Try.ntmps39
    go_wp2_with (at_builtin; go_must (refine wpList_adds _ rfl _ _ rfl w.heap.size _ 0 [] rfl o1 _ n c B l rfl r1 (fun e => by cases e) ?c1 ?c2 ?_))
    case c1 => omega
    case c2 => simp
    intro v' w' hown hg _
    have hst : Still w w' := s1.grown hg (by simp) (fun k hk => by simp [Value.ownBlock] at hk; omega)
    have hown' : w'.ownsRow w.heap.size 5 1 v' n (bytesV l) := by simpa using hown
    clear hg hown
    go_wp2_with fail
    go_ret
    exact ⟨⟨_, rfl, hown'⟩, hst⟩

set_option maxHeartbeats 400000 in
theorem open_any (A : Option Addr) (n c : Nat) (l : List UInt8) (w : World) (B : Nat) (h : Reads w B A n l) (hB : B ≤ w.heap.size) (hn : n ≤ 70368744177664) (hA : A = none → n = 0 ∧ c = 0) :
    Calls Try.prog 26 #[.slice A n c] w fun e w' => (∃ g A' c', e = .returned (.pointer (some ⟨g, 0, none⟩)) ∧ Live w' w.heap.size w'.heap.size g A' n c' l 0) ∧ Still w w' := by
  go_enter Try.func26, Try.ntmps26
  go_wp2_with fail
  refine (clone_any A n c l w B h hB hn hA).mono ?_
  rintro e w1 ⟨⟨v, rfl, hown⟩, s1⟩
  obtain ⟨A1, c1, rfl, f1, f2, f3⟩ := own_form hown
  have s2 : Still w (w1.alloc (.cells #[.slice A1 n c1, .int .i64 0, .bool true] 62)) := s1.alloc s1.size _
  have q1 := Reads.of_own hown
  have lv : Live (w1.alloc (.cells #[.slice A1 n c1, .int .i64 0, .bool true] 62)) w.heap.size (w1.heap.size + 1) w1.heap.size A1 n c1 l 0 := by
    refine ⟨Blk.new _ _ _, s1.size, by omega, (q1.keep fun p hp => World.cell?_alloc_lt w1 _ p hp).more (by omega), fun hn => ?_, f1, f2, f3⟩
    rcases hown.2 with ⟨_, h0⟩ | ⟨g, cap, cur, hv, hb, hg, _⟩
    · omega
    · have e : A1 = some ⟨g, 0, none⟩ := by injection hv
      refine ⟨g, 0, e, hb, fun i hi => ?_⟩
      have hlt : g < w1.heap.size := (Array.getElem?_eq_some_iff.1 hg).1
      have e2 := Below.heap_alloc w1 (.cells #[.slice A1 n c1, .int .i64 0, .bool true] 62) g hlt
      exact (World.frozen?_of_block (w := w1) e2).trans (frozen_of_row w1 g _ cur _ hg)
  clear q1 hown s1
  go_wp2_with fail
  go_ret
  exact ⟨⟨_, _, _, rfl, by simpa using lv⟩, s2⟩

theorem err_live {w : World} {lo B g : Nat} {A : Option Addr} {n c : Nat} {l : List UInt8} {x : Int} (h : Live w lo B g A n c l x) :
    Calls Try.prog 28 #[.pointer (some ⟨g, 0, none⟩)] w fun e w' => e = .returned (.int .i64 x) ∧ w = w' := by
  have c1 : w.cell? ⟨g, 1, none⟩ = some (.int .i64 x) := h.blk.cell 1
  have c2 : w.cell? ⟨g, 2, none⟩ = some (.bool true) := h.blk.cell 2
  go_enter Try.func28, Try.ntmps28
  go_wp2
  go_ret
  exact ⟨rfl, rfl⟩
/-- A byte's cell lies in no reader's block. -/
theorem byte_far {w : World} {g : Nat} {A : Option Addr} {n c : Nat} {x : Int} {m : Bool} (hb : Blk w g 62 #[.slice A n c, .int .i64 x, .bool m]) {b o : Nat} {y : Int}
    (hc : w.cell? ⟨b, o, none⟩ = some (.int .u8 y)) : b ≠ g := by
  rintro rfl
  rw [hb.cell] at hc
  match o, hc with
  | 0, hc => simp at hc
  | 1, hc => simp at hc
  | 2, hc => simp at hc
  | o + 3, hc => simp at hc
/-- A store into the reader's own block leaves the bytes. -/
theorem Reads.setR {w : World} {B g n c k : Nat} {A A0 : Option Addr} {n0 : Nat} {l : List UInt8} {x : Int} {m : Bool} (h : Reads w B A n l) (hb : Blk w g 62 #[.slice A0 n0 c, .int .i64 x, .bool m]) (u : Value) :
    Reads (w.setCell ⟨g, k, none⟩ u) B A n l := by
  refine ⟨h.1, fun hn => ?_⟩
  obtain ⟨b, o, e, hlt, hc⟩ := h.2 hn
  refine ⟨b, o, e, hlt, fun i hi => ?_⟩
  have hne := byte_far hb (hc i hi)
  exact (World.cell?_of_block (w := w) (Below.heap_setCell w ⟨g, k, none⟩ u b hne)).trans (hc i hi)
theorem Mine.setR {w : World} {lo B g n c k : Nat} {A A0 : Option Addr} {n0 : Nat} {l : List UInt8} {x : Int} {m : Bool} (hm : Mine w lo A n) (h : Reads w B A n l) (hb : Blk w g 62 #[.slice A0 n0 c, .int .i64 x, .bool m]) (u : Value) :
    Mine (w.setCell ⟨g, k, none⟩ u) lo A n := by
  intro hn
  obtain ⟨b, o, e, hlt, hc⟩ := h.2 hn
  obtain ⟨b', o', e', hlo, hf⟩ := hm hn
  rw [e] at e'
  simp only [Option.some.injEq, Addr.mk.injEq, and_true] at e'
  obtain ⟨rfl, rfl⟩ := e'
  refine ⟨b, o, e, hlo, fun i hi => ?_⟩
  have hne := byte_far hb (hc i hi)
  exact (World.frozen?_of_block (w := w) (Below.heap_setCell w ⟨g, k, none⟩ u b hne)).trans (hf i hi)

theorem fail_none {w : World} {lo B g : Nat} {A : Option Addr} {n c : Nat} {l : List UInt8} {x : Int} (h : Live w lo B g A n c l x) (hx : x ≠ 0) (y : Int) :
    Calls Try.prog 41 #[.pointer (some ⟨g, 0, none⟩), .int .i64 y] w fun e w' => e = .returned (.tuple #[]) ∧ w = w' := by
  have hb : (x == 0) = false := by simpa using hx
  go_enter Try.func41, Try.ntmps41
  go_wp2_with fail
  refine (err_live h).mono ?_
  rintro e w1 ⟨rfl, rfl⟩
  go_wp2_with fail
  go_end0
  exact ⟨rfl, rfl⟩
theorem fail_sets {w : World} {lo B g : Nat} {A : Option Addr} {n c : Nat} {l : List UInt8} (h : Live w lo B g A n c l 0) (y : Int) :
    Calls Try.prog 41 #[.pointer (some ⟨g, 0, none⟩), .int .i64 y] w fun e w' => e = .returned (.tuple #[]) ∧ Live w' lo B g A n c l y ∧ w.grownBy w' (some g) := by
  have c1 : w.cell? ⟨g, 1, none⟩ = some (.int .i64 0) := h.blk.cell 1
  have f1 := h.blk.frozen 1
  have lv : Live (w.setCell ⟨g, 1, none⟩ (.int .i64 y)) lo B g A n c l y := ⟨h.blk.setc 1 _, h.low, h.high, h.reads.setR h.blk _, h.mine.setR h.reads h.blk _, h.fit, h.cap, h.nil⟩
  have gr : w.grownBy (w.setCell ⟨g, 1, none⟩ (.int .i64 y)) (some g) := ⟨rfl, rfl, rfl, by simp [World.setCell], fun k _ hk => Below.heap_setCell _ _ _ _ (fun e => hk (by rw [e]))⟩
  go_enter Try.func41, Try.ntmps41
  go_wp2_with fail
  refine (err_live h).mono ?_
  rintro e w1 ⟨rfl, rfl⟩
  go_wp2_with fail
  go_end0
  exact ⟨rfl, lv, gr⟩

theorem take_none {w : World} {lo B g : Nat} {A : Option Addr} {n c : Nat} {l : List UInt8} {x : Int} (h : Live w lo B g A n c l x) (hx : x ≠ 0) (y : Int) :
    Calls Try.prog 43 #[.pointer (some ⟨g, 0, none⟩), .int .i64 y] w fun e w' => e = .returned (.slice none 0 0) ∧ w = w' := by
  have hb : (x != 0) = true := by simpa using hx
  go_enter Try.func43, Try.ntmps43
  go_wp2_with fail
  refine (err_live h).mono ?_
  rintro e w1 ⟨rfl, rfl⟩
  go_wp2_with fail
  go_ret
  exact ⟨rfl, rfl⟩
theorem take_neg {w : World} {lo B g : Nat} {A : Option Addr} {n c : Nat} {l : List UInt8} (h : Live w lo B g A n c l 0) (y : Int) (hy : y < 0) :
    Calls Try.prog 43 #[.pointer (some ⟨g, 0, none⟩), .int .i64 y] w fun e w' => e = .returned (.slice none 0 0) ∧ Live w' lo B g A n c l 2 ∧ w.grownBy w' (some g) := by
  go_enter Try.func43, Try.ntmps43
  go_wp2_with fail
  refine (err_live h).mono ?_
  rintro e w1 ⟨rfl, rfl⟩
  go_wp2_with fail
  refine (fail_sets h 2).mono ?_
  rintro e w1 ⟨rfl, lv, gr⟩
  go_wp2_with fail
  go_ret
  exact ⟨rfl, lv, gr⟩
theorem take_short {w : World} {lo B g : Nat} {A : Option Addr} {n c : Nat} {l : List UInt8} (h : Live w lo B g A n c l 0) (y : Int) (hy0 : 0 ≤ y) (hy : (n : Int) < y) :
    Calls Try.prog 43 #[.pointer (some ⟨g, 0, none⟩), .int .i64 y] w fun e w' => e = .returned (.slice none 0 0) ∧ Live w' lo B g A n c l 3 ∧ w.grownBy w' (some g) := by
  have c0 : w.cell? ⟨g, 0, none⟩ = some (.slice A n c) := h.blk.cell 0
  go_enter Try.func43, Try.ntmps43
  go_wp2_with fail
  refine (err_live h).mono ?_
  rintro e w1 ⟨rfl, rfl⟩
  go_wp2_with fail
  refine (fail_sets h 3).mono ?_
  rintro e w1 ⟨rfl, lv, gr⟩
  clear c0
  go_wp2_with fail
  go_ret
  exact ⟨rfl, lv, gr⟩
theorem Mine.dropk {w : World} {lo n k : Nat} {A : Option Addr} (h : Mine w lo A n) (hk : k ≤ n) : Mine w lo (A.map (·.add k)) (n - k) := by
  intro hn
  obtain ⟨b, o, rfl, hb, hc⟩ := h (by omega)
  refine ⟨b, o + k, by simp [Addr.add_lit], hb, fun i hi => ?_⟩
  have := hc (k + i) (by omega)
  rw [Nat.add_assoc, this]
theorem Mine.takek {w : World} {lo n k : Nat} {A : Option Addr} (h : Mine w lo A n) (hk : k ≤ n) : Mine w lo A k := by
  intro hn
  obtain ⟨b, o, e, hb, hc⟩ := h (by omega)
  exact ⟨b, o, e, hb, fun i hi => hc i (by omega)⟩

theorem take_ok {w : World} {lo B g : Nat} {A : Option Addr} {n c k : Nat} {l : List UInt8} (h : Live w lo B g A n c l 0) (hk : k ≤ n) :
    Calls Try.prog 43 #[.pointer (some ⟨g, 0, none⟩), .int .i64 k] w fun e w' => e = .returned (.slice A k k) ∧
      (∃ A' c', Live w' lo B g A' (n - k) c' (l.drop k) 0 ∧ (0 < n - k → A' = A.map (·.add k))) ∧ Reads w' B A k (l.take k) ∧ Mine w' lo A k ∧ (A = none → k = 0) ∧ w.grownBy w' (some g) := by
  have c0 : w.cell? ⟨g, 0, none⟩ = some (.slice A n c) := h.blk.cell 0
  have f0 := h.blk.frozen 0
  have hf := h.fit
  have hc := h.cap
  have gr : ∀ u, w.grownBy (w.setCell ⟨g, 0, none⟩ u) (some g) := fun u => ⟨rfl, rfl, rfl, by simp [World.setCell], fun k _ hk => Below.heap_setCell _ _ _ _ (fun e => hk (by rw [e]))⟩
  have rd : ∀ u, Reads (w.setCell ⟨g, 0, none⟩ u) B A k (l.take k) := fun u => (h.reads.takek hk).setR h.blk u
  have mi : ∀ u, Mine (w.setCell ⟨g, 0, none⟩ u) lo A k := fun u => (h.mine.takek hk).setR (h.reads.takek hk) h.blk u
  have nn : A = none → k = 0 := fun e => by have := (h.nil e).1; omega
  by_cases hck : c = k
  · have hnk : n = k := by omega
    subst hnk
    subst hck
    have lv : Live (w.setCell ⟨g, 0, none⟩ (.slice A (c - c) 0)) lo B g A (c - c) 0 (l.drop c) 0 := by
      have hd : l.drop c = [] := by rw [List.drop_of_length_le]; have := h.reads.1; omega
      rw [hd, Nat.sub_self]
      exact ⟨h.blk.setc 0 _, h.low, h.high, ⟨rfl, fun hn => by omega⟩, fun hn => by omega, Nat.le_refl _, by omega, fun _ => ⟨rfl, rfl⟩⟩
    have G := Lib.hid gr
    have R := Lib.hid rd
    have M := Lib.hid mi
    clear gr rd mi hk hf
    go_enter Try.func43, Try.ntmps43
    go_wp2_with fail
    refine (err_live h).mono ?_
    rintro e w1 ⟨rfl, rfl⟩
    go_wp2_with fail
    go_ret
    refine ⟨rfl, ⟨A, 0, ?_, fun hn => by omega⟩, R.out _, M.out _, nn, G.out _⟩
    simpa using lv
  · have lv : Live (w.setCell ⟨g, 0, none⟩ (.slice (A.map (·.add k)) (n - k) (c - k))) lo B g (A.map (·.add k)) (n - k) (c - k) (l.drop k) 0 :=
      ⟨h.blk.setc 0 _, h.low, h.high, (h.reads.dropk hk).setR h.blk _, (h.mine.dropk hk).setR (h.reads.dropk hk) h.blk _, by omega, by omega, fun e => by
        have e2 : A = none := by simpa using e
        have := h.nil e2
        omega⟩
    have G := Lib.hid gr
    have R := Lib.hid rd
    have M := Lib.hid mi
    clear gr rd mi
    go_enter Try.func43, Try.ntmps43
    go_wp2_with fail
    refine (err_live h).mono ?_
    rintro e w1 ⟨rfl, rfl⟩
    go_wp2_with fail
    go_ret
    exact ⟨rfl, ⟨_, _, lv, fun _ => rfl⟩, R.out _, M.out _, nn, G.out _⟩
end Go.Proofs.Ytcbolakhdndffaa
