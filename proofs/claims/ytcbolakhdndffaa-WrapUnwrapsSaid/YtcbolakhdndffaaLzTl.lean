/- Contracts: the program's teller of a block, its parts. It proves no statement. -/
import Derived.Test.YtcbolakhdndffaaLzLoMath
import Derived.Test.YtcbolakhdndffaaLzRow
import Derived.Test.YtcbolakhdndffaaRead
import Derived.Test.YtcbolakhdndffaaLeftLive
import Derived.Test.YtcbolakhdndffaaLiveBelow
import Derived.Test.YtcbolakhdndffaaFar
import Derived.Deep.QuietTactic
import Derived.Deep.RegionHeld3
import Derived.BigQuiet
namespace Go.Proofs.Ytcbolakhdndffaa
open Go.RowKit
set_option linter.unusedVariables false
set_option linter.unusedSimpArgs false

/-- The teller at block h: it reads by the reader at block g, below it, what is left is l; it has told t, in a row above it. -/
structure Tl (w : World) (lo h g most : Nat) (t l : List UInt8) (x : Int) : Prop where
  low : lo ≤ h
  ex : ∃ A c, Blk w h 74 #[.pointer (some ⟨g, 0, none⟩), .slice A t.length c, .int .i64 most] ∧ w.ownsRow (h + 1) 5 1 (.slice A t.length c) t.length (bytesV t)
  rd : LiveAny w lo h g l x
  fit : t.length ≤ most ∧ most ≤ 65536
section
variable {w w' : World} {lo h g most : Nat} {t l l' : List UInt8} {x x' : Int}
theorem Tl.lt (T : Tl w lo h g most t l x) : h < w.heap.size ∧ g < h ∧ lo ≤ g := by
  obtain ⟨A, c, hb, _⟩ := T.ex
  obtain ⟨A', n, c', lv⟩ := T.rd
  exact ⟨hb.lt, lv.high, lv.low⟩
theorem Tl.next (T : Tl w lo h g most t l x) (gr : w.grownBy w' (some g)) (lv : LiveAny w' lo h g l' x') : Tl w' lo h g most t l' x' ∧ Below lo w w' := by
  obtain ⟨A, c, hb, ho⟩ := T.ex
  have hl := T.lt
  refine ⟨⟨T.low, ⟨A, c, (gr.block h hb.lt (fun e => by have := Option.some.inj e; omega)).trans hb, ho.kept gr (.inr fun e => by have := (ho.lt g e).1; omega)⟩, lv, T.fit⟩, gr.os, gr.tape, gr.output, gr.size, fun k hk => gr.block k (by omega) (fun e => by have := Option.some.inj e; omega)⟩
theorem Tl.drew (T : Tl w lo h g most t l x) (n : Nat) : Tl (w.drewN n) lo h g most t l x := by
  obtain ⟨A, c, hb, ho⟩ := T.ex
  obtain ⟨A', n', c', lv⟩ := T.rd
  have s := still_drewN (Still.refl w) n
  exact ⟨T.low, ⟨A, c, hb.still s, own_still ho s⟩, ⟨A', n', c', lv.blk.still s, lv.low, lv.high, lv.reads.keep fun _ _ => rfl, lv.mine, lv.fit, lv.cap, lv.nil⟩, T.fit⟩
theorem Tl.c0 (T : Tl w lo h g most t l x) : w.cell? ⟨h, 0, none⟩ = some (.pointer (some ⟨g, 0, none⟩)) := by obtain ⟨A, c, hb, _⟩ := T.ex; exact hb.cell 0
theorem Tl.c1 (T : Tl w lo h g most t l x) : ∃ A c, w.cell? ⟨h, 1, none⟩ = some (.slice A t.length c) := by obtain ⟨A, c, hb, _⟩ := T.ex; exact ⟨A, c, hb.cell 1⟩
theorem Tl.c2 (T : Tl w lo h g most t l x) : w.cell? ⟨h, 2, none⟩ = some (.int .i64 most) := by obtain ⟨A, c, hb, _⟩ := T.ex; exact hb.cell 2
end

/-- The row of what is told has grown, and is kept. -/
theorem Tl.grow {w w5 : World} {lo h g most : Nat} {t l t' : List UInt8} {x : Int} {A : Option Addr} {c : Nat} {v5 : Value} (T : Tl w lo h g most t l x) (hb : Blk w h 74 #[.pointer (some ⟨g, 0, none⟩), .slice A t.length c, .int .i64 most])
    (G : Grew w w5 (h + 1) (.slice A t.length c) v5 t') (hf : t'.length ≤ most) (hlo : ∀ k, (Value.slice A t.length c).ownBlock = some k → h + 1 ≤ k) :
    (∃ A5 c5, v5 = .slice A5 t'.length c5) ∧ Tl (w5.setCell ⟨h, 1, none⟩ v5) lo h g most t' l x ∧ w5.frozen? ⟨h, 1, none⟩ = false ∧ w5.cell? ⟨h, 1, none⟩ = some (.slice A t.length c) ∧ Below lo w (w5.setCell ⟨h, 1, none⟩ v5) := by
  obtain ⟨A5, c5, rfl, f1, f2, f3⟩ := own_form G.own
  have hb5 : Blk w5 h 74 #[.pointer (some ⟨g, 0, none⟩), .slice A t.length c, .int .i64 most] := (G.gr.block h hb.lt (fun e => by have := hlo h e.symm; omega)).trans hb
  have s5 : Below h w (w5.setCell ⟨h, 1, none⟩ (.slice A5 t'.length c5)) := (G.low (lo := h) (fun k e => by have := hlo k e; omega) (by have := hb.lt; omega)).setCell (Nat.le_refl h) _
  obtain ⟨A', n', c', lv⟩ := T.rd
  refine ⟨⟨A5, c5, rfl⟩, ⟨T.low, ⟨A5, c5, hb5.setc 1 _, G.own.kept (grownBy_set w5 h 1 _) (.inr fun e => by have := (G.own.lt h e).1; omega)⟩, ⟨A', n', c', lv.below s5⟩, hf, T.fit.2⟩, hb5.frozen 1, hb5.cell 1, s5.mono T.low⟩

/-- One byte of the reader. -/
theorem tl_num {w : World} {lo h g most : Nat} {t l : List UInt8} (T : Tl w lo h g most t l 0) (k : Nat) (h1 : 1 ≤ k) (h8 : k ≤ 8) (y : Nat) (hy : y = if l.length < k then 0 else leNum (l.take k)) :
    Calls Try.prog 27 #[.pointer (some ⟨g, 0, none⟩), .int .i64 k] w fun e w' => e = .returned (.int .u64 y) ∧ Below lo w w' ∧ (l.length < k → Tl w' lo h g most t l 3) ∧ (k ≤ l.length → Tl w' lo h g most t (l.drop k) 0) := by
  refine (num_any T.rd k).mono ?_
  rintro e w' ⟨he, lv, gr⟩
  by_cases hs : l.length < k
  · rw [rstep_short l k true (by simp; omega) (by omega)] at he lv
    rw [if_pos hs] at hy
    subst hy
    exact ⟨he, (T.next gr lv).2, fun _ => (T.next gr lv).1, fun h => by omega⟩
  · rw [rstep_ok l k true (by simp; omega) (by omega)] at he lv
    rw [if_neg hs] at hy
    subst hy
    exact ⟨he, (T.next gr lv).2, fun h => by omega, fun _ => (T.next gr lv).1⟩

set_option maxRecDepth 100000 in
set_option maxHeartbeats 1600000 in
theorem number_any {w : World} {lo h g most : Nat} {t l : List UInt8} (T : Tl w lo h g most t l 0) (n : Nat) (hn : n ≤ 65536) (hl : l.length ≤ 1048576) :
    Calls Try.prog 55 #[.pointer (some ⟨h, 0, none⟩), .int .i64 n] w fun e w' => ∃ (y : Nat) (l' : List UInt8) (x' : Int), e = .returned (.int .i64 y) ∧ Tl w' lo h g most t l' x' ∧ Below lo w w' ∧ ((x' = 0 ∧ numR n l = some (y, l')) ∨ (x' = 3 ∧ numR n l = none)) ∧ y ≤ n + 255 * l.length := by
  by_cases hs : n < 15
  · have e : numR n l = some (n, l) := by unfold numR; rw [if_pos hs]
    have HT := Lib.hid T
    have HE := Lib.hid e
    clear T e
    go_enter Try.func55, Try.ntmps55
    go_wp2_with fail
    go_ret
    exact ⟨n, l, 0, rfl, HT.out, Below.refl _ _, .inl ⟨rfl, HE.out⟩, by omega⟩
  · have e : numR n l = extR n l := by unfold numR; rw [if_neg hs]
    have HE := Lib.hid e
    have HT := Lib.hid T
    have HL := Lib.hid hl
    have hd : ¬ ((n : Int) < 15) := by omega
    clear e T hl
    go_enter Try.func55, Try.ntmps55
    go_wp2_with fail
    go_loopw [1] (fun iv wr => ∃ (n1 : Nat) (l1 : List UInt8), iv = .int .i64 n1 ∧ n1 ≤ 1000000000 ∧ Hid (extR n l = extR n1 l1 ∧ Tl wr lo h g most t l1 0 ∧ Below lo w wr ∧ n1 + 255 * l1.length = n + 255 * l.length)) (fun iv _ => n + 255 * l.length - (intOf iv).toNat)
    case atStart => exact ⟨n, l, rfl, by omega, rfl, HT.out, Below.refl _ _, rfl⟩
    case round =>
      obtain ⟨n1, l1, rfl, hn1, hh⟩ := hrel
      obtain ⟨he, T1, s1, hlen⟩ := hh.out
      have c0 := T1.c0
      rcases l1 with _ | ⟨k, l2⟩
      · have NM := Lib.hid (tl_num T1 1 (by omega) (by omega) 0 (by simp))
        rw [show ((1 : Nat) : Int) = 1 from rfl, show ((0 : Nat) : Int) = 0 from rfl] at NM
        have H1 := Lib.hid (And.intro he (And.intro s1 hlen))
        clear he T1 s1 hlen hh
        go_wp2_with fail
        refine NM.out.mono ?_
        rintro e w2 ⟨rfl, s2, t2, _⟩
        have T2 := Lib.hid (t2 (by simp))
        have S2 := Lib.hid s2
        clear t2 s2 NM
        go_wp2_with fail
        go_ret
        refine ⟨n1, [], 3, rfl, T2.out, Below.trans H1.out.2.1 S2.out, .inr ⟨rfl, by rw [HE.out, H1.out.1]; rfl⟩, by have := H1.out.2.2; simp at this; omega⟩
      · have NM := Lib.hid (tl_num T1 1 (by omega) (by omega) k.toNat (by simp [leNum]))
        rw [show ((1 : Nat) : Int) = 1 from rfl] at NM
        have H1 := Lib.hid (And.intro he (And.intro s1 hlen))
        have hk := k.toNat_lt
        obtain ⟨y, hy⟩ : ∃ y, y = k.toNat := ⟨_, rfl⟩
        rw [← hy] at NM hk
        have HY := Lib.hid hy
        clear he T1 s1 hlen hh hy
        have i1 : IntKind.i64.wrap ((n1 : Int) + (y : Int)) = ((n1 + y : Nat) : Int) := by rw [IntKind.wrap_i64]; omega
        by_cases hf : y = 255
        · subst hf
          go_wp2_with fail
          refine NM.out.mono ?_
          rintro e w2 ⟨rfl, s2, _, t2⟩
          have T2 := Lib.hid (t2 (by simp))
          have S2 := Lib.hid s2
          clear t2 s2 NM
          go_wp2_with fail
          go_roundw
          case rel => exact ⟨n1 + 255, l2, by go_num, by have := H1.out.2.2; have := HL.out; simp at *; omega, by rw [H1.out.1, extR, if_pos HY.out.symm], T2.out, Below.trans H1.out.2.1 S2.out, by have := H1.out.2.2; simp at this; omega⟩
          case measure => have := H1.out.2.2; simp [intOf] at *; omega
        · have hb : ((y : Int) != 255) = true := by simp; omega
          go_wp2_with fail
          refine NM.out.mono ?_
          rintro e w2 ⟨rfl, s2, _, t2⟩
          have T2 := Lib.hid (t2 (by simp))
          have S2 := Lib.hid s2
          clear t2 s2 NM
          go_wp2_with fail
          go_ret
          refine ⟨n1 + y, l2, 0, rfl, T2.out, Below.trans H1.out.2.1 S2.out, .inl ⟨rfl, by rw [HE.out, H1.out.1, extR, if_neg (by rw [← HY.out]; exact hf), ← HY.out]⟩, by have := H1.out.2.2; simp at this; omega⟩
end Go.Proofs.Ytcbolakhdndffaa
