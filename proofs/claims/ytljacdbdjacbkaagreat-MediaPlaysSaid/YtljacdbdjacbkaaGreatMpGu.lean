/- Contracts and facts, several texts in one. It proves no statement. -/
import Derived.Test.YtljacdbdjacbkaaGreatMpGa
import Derived.Test.YtljacdbdjacbkaaGreatMpGt
import Derived.Test.YtljacdbdjacbkaaGreatMpGk

/- A row of bytes of the call's own, each of which may be spoilt. It proves no statement. -/

namespace Go.Proofs.YtljacdbdjacbkaaGreat
open Go.RowKit
set_option linter.unusedVariables false
set_option linter.unusedSimpArgs false

/-- Bytes, n of them at least, from a block's beginning on. -/
def Byt (w : World) (g n : Nat) : Prop := ∃ cur, Blk w g 5 cur ∧ ∀ i, i < n → ∃ y : Int, 0 ≤ y ∧ y < 256 ∧ cur[i]? = some (.int .u8 y)
theorem Byt.at_ {w : World} {g n i : Nat} (h : Byt w g n) (hi : i < n) : ∃ y : Int, 0 ≤ y ∧ y < 256 ∧ w.cell? ⟨g, i, none⟩ = some (.int .u8 y) ∧ w.frozen? ⟨g, i, none⟩ = false := by
  obtain ⟨cur, hb, hc⟩ := h
  obtain ⟨y, h0, h1, h2⟩ := hc i hi
  exact ⟨y, h0, h1, (hb.cell i).trans h2, hb.frozen i⟩
theorem Byt.set {w : World} {g n i : Nat} {z : Int} (h : Byt w g n) (hi : i < n) (h0 : 0 ≤ z) (h1 : z < 256) : Byt (w.setCell ⟨g, i, none⟩ (.int .u8 z)) g n := by
  obtain ⟨cur, hb, hc⟩ := h
  refine ⟨_, hb.setc i _, fun j hj => ?_⟩
  obtain ⟨y, q0, q1, q2⟩ := hc j hj
  by_cases hij : i = j
  · subst hij
    have : i < cur.size := (Array.getElem?_eq_some_iff.1 q2).1
    exact ⟨z, h0, h1, by simp [this]⟩
  · exact ⟨y, q0, q1, by rw [Array.getElem?_setIfInBounds_ne hij]; exact q2⟩
theorem Byt.keep {w w' : World} {g n : Nat} (h : Byt w g n) (hb : w'.heap[g]? = w.heap[g]?) : Byt w' g n := by
  obtain ⟨cur, h1, h2⟩ := h
  exact ⟨cur, hb.trans h1, h2⟩
theorem Byt.lt {w : World} {g n : Nat} (h : Byt w g n) : g < w.heap.size := by
  obtain ⟨cur, h1, h2⟩ := h
  exact h1.lt
/-- A row of the call's own is such, where it has bytes. -/
theorem byt_own {w : World} {base n : Nat} {v : Value} {l : List UInt8} (h : w.ownsRow base 5 1 v n (bytesV l)) (hn : 0 < n) : ∃ g c, v = .slice (some ⟨g, 0, none⟩) n c ∧ base ≤ g ∧ Byt w g n := by
  rcases h.2 with ⟨_, h0⟩ | ⟨g, cap, cur, hv, hlo, hgb, _⟩
  · omega
  · subst hv
    refine ⟨g, cap, rfl, hlo, cur, hgb, fun i hi => ?_⟩
    have hl : (bytesV l).length = 1 * n := by have := h.1; omega
    have hc := h.cellAt i (by omega)
    have hb : Blk w g 5 cur := hgb
    rw [hb.cell i] at hc
    have hl2 : l.length = n := by simpa [bytesV] using hl
    have hx : (bytesV l)[i]? = some (Value.int .u8 (((l[i]'(by omega)).toNat : Nat) : Int)) := by simp [bytesV, List.getElem?_eq_getElem (show i < l.length by omega)]
    have hlt := (l[i]'(by omega)).toNat_lt
    exact ⟨_, by omega, by omega, hc.trans hx⟩
theorem grown_setc0 {w w' : World} {g i : Nat} {u : Value} (gr : w.grownBy w' (some g)) : w.grownBy (w'.setCell ⟨g, i, none⟩ u) (some g) :=
  ⟨gr.os, gr.tape, gr.output, by simpa [World.setCell] using gr.size, fun k hk hne => (Below.heap_setCell _ _ _ k (fun e => hne (by simp only at e; rw [e]))).trans (gr.block k hk hne)⟩
/-- One more, in a byte. -/
theorem u8_more (y : Int) (h0 : 0 ≤ y) (h1 : y < 256) : 0 ≤ IntKind.u8.wrap (y + 1) ∧ IntKind.u8.wrap (y + 1) < 256 := by
  unfold IntKind.wrap
  simp [IntKind.bits, IntKind.signed]
  omega
end Go.Proofs.YtljacdbdjacbkaaGreat

/- A file's byte spoilt, in memory. It proves no statement. -/



namespace Go.Proofs.YtljacdbdjacbkaaGreat
open Go.RowKit Go.Maps Go.WideMaps Go.Sort
set_option linter.unusedVariables false
set_option linter.unusedSimpArgs false

theorem bytesV_modify (l : List UInt8) (i : Nat) (h : i < l.length) (y : UInt8) : (bytesV l).set i (.int .u8 ((l.getD i 0 ^^^ y).toNat : Int)) = bytesV (l.modify i (fun b => b ^^^ y)) := by
  have e : l.getD i 0 = l[i] := by simp [List.getD, h]
  rw [e]
  unfold bytesV
  apply List.ext_getElem?
  intro j
  rw [List.getElem?_set, List.getElem?_map, List.getElem?_map, List.getElem?_modify]
  by_cases ej : i = j
  · subst ej
    simp [h]
  · simp [ej]
theorem row_flip {w : World} {base n i : Nat} {v : Value} {l : List UInt8} (h : w.ownsRow base 5 1 v n (bytesV l)) (hi : i < n) (hl : l.length = n) (y : UInt8) : ∃ q c, v = .slice (some ⟨q, 0, none⟩) n c ∧ n ≤ c ∧ c ≤ 9223372036854775807 ∧ w.cell? ⟨q, i, none⟩ = some (.int .u8 ((l.getD i 0).toNat : Int)) ∧ w.frozen? ⟨q, i, none⟩ = false ∧ (w.setCell ⟨q, i, none⟩ (.int .u8 ((l.getD i 0 ^^^ y).toNat : Int))).ownsRow base 5 1 v n (bytesV (l.modify i (fun b => b ^^^ y))) := by
  obtain ⟨q, c, rfl, _, _⟩ := byt_own h (by omega)
  obtain ⟨A, c2, e, h1, h2, _⟩ := own_form h
  injection e with _ _ e3
  subst e3
  refine ⟨q, c, rfl, h1, h2, ?_, h.frozenAt i, ?_⟩
  · rw [h.cellAt i (by omega), bytesV_get _ _ (by omega)]
  · have := (h.stored i (.int .u8 ((l.getD i 0 ^^^ y).toNat : Int))).1
    rw [bytesV_modify _ _ (by omega)] at this
    exact this
theorem FileI.still {w w' : World} {base gf : Nat} {own : Own} {F : Fi} (h : FileI w base own gf F) (s : Still w w') : FileI w' base own gf F := h.keep (Chg.of_still s (fun _ => False)) (fun _ _ h => h.elim)
/-- The byte that is there now. -/
theorem FileI.flipNow {w : World} {base gf : Nat} {own : Own} {F : Fi} (h : FileI w base own gf F) {at_ : Nat} (hat : at_ < F.now.length) (y : UInt8) : ∃ q c fv wv, FileB w gf (.slice (some ⟨q, 0, none⟩) F.now.length c) fv wv ∧ F.now.length ≤ c ∧ c ≤ 9223372036854775807 ∧ w.cell? ⟨q, at_, none⟩ = some (.int .u8 ((F.now.getD at_ 0).toNat : Int)) ∧ w.frozen? ⟨q, at_, none⟩ = false ∧ FileI (w.setCell ⟨q, at_, none⟩ (.int .u8 ((F.now.getD at_ 0 ^^^ y).toNat : Int))) base own gf ⟨F.now.modify at_ (fun b => b ^^^ y), F.fast, F.wait⟩ ∧ own q = some (gf, 1) := by
  obtain ⟨nv, fv, wv, cs, h1, h2, h3, h4, h5, h6, h7, h8, h9⟩ := h
  obtain ⟨q, c, rfl, c1, c2, c3, c4, c5⟩ := row_flip h2 hat rfl y
  have hq : own q = some (gf, 1) := h7 q rfl
  have ch := chg_set w q at_ (.int .u8 ((F.now.getD at_ 0 ^^^ y).toNat : Int))
  have ne : ∀ b k, own b = some (gf, k) → k ≠ 1 → ¬ b = q := fun b k hb hk e => by rw [e, hq] at hb; simp at hb; exact hk hb.symm
  refine ⟨q, c, fv, wv, h1, c1, c2, c3, c4, ⟨_, fv, wv, cs, ch.blk h1 (ne gf 0 h6 (by decide)), by rw [List.length_modify]; exact c5, ch.own h3 (fun b hb => ne b 2 (h8 b hb) (by decide)), ch.own h4 (fun b hb => ne b 3 (h9 b hb) (by decide)), h5.keep ch (fun j b hb => ne b _ hb (by omega)), h6, h7, h8, h9⟩, hq⟩
/-- The byte that is fast. -/
theorem FileI.flipFast {w : World} {base gf : Nat} {own : Own} {F : Fi} (h : FileI w base own gf F) {at_ : Nat} (hat : at_ < F.fast.length) (y : UInt8) : ∃ q c nv wv, FileB w gf nv (.slice (some ⟨q, 0, none⟩) F.fast.length c) wv ∧ F.fast.length ≤ c ∧ c ≤ 9223372036854775807 ∧ w.cell? ⟨q, at_, none⟩ = some (.int .u8 ((F.fast.getD at_ 0).toNat : Int)) ∧ w.frozen? ⟨q, at_, none⟩ = false ∧ FileI (w.setCell ⟨q, at_, none⟩ (.int .u8 ((F.fast.getD at_ 0 ^^^ y).toNat : Int))) base own gf ⟨F.now, F.fast.modify at_ (fun b => b ^^^ y), F.wait⟩ ∧ own q = some (gf, 2) := by
  obtain ⟨nv, fv, wv, cs, h1, h2, h3, h4, h5, h6, h7, h8, h9⟩ := h
  obtain ⟨q, c, rfl, c1, c2, c3, c4, c5⟩ := row_flip h3 hat rfl y
  have hq : own q = some (gf, 2) := h8 q rfl
  have ch := chg_set w q at_ (.int .u8 ((F.fast.getD at_ 0 ^^^ y).toNat : Int))
  have ne : ∀ b k, own b = some (gf, k) → k ≠ 2 → ¬ b = q := fun b k hb hk e => by rw [e, hq] at hb; simp at hb; exact hk hb.symm
  refine ⟨q, c, nv, wv, h1, c1, c2, c3, c4, ⟨nv, _, wv, cs, ch.blk h1 (ne gf 0 h6 (by decide)), ch.own h2 (fun b hb => ne b 1 (h7 b hb) (by decide)), by rw [List.length_modify]; exact c5, ch.own h4 (fun b hb => ne b 3 (h9 b hb) (by decide)), h5.keep ch (fun j b hb => ne b _ hb (by omega)), h6, h7, h8, h9⟩, hq⟩
/-- One change that waits, and its byte. -/
theorem FileI.atWait {w : World} {base gf : Nat} {own : Own} {F : Fi} (h : FileI w base own gf F) {i : Nat} {x : Ch} (hx : F.wait[i]? = some x) : ∃ nv fv bw cw Ac cc, FileB w gf nv fv (.slice (some ⟨bw, 0, none⟩) F.wait.length cw) ∧ F.wait.length ≤ cw ∧ cw ≤ 9223372036854775807 ∧ x.more.length ≤ cc ∧ cc ≤ 9223372036854775807 ∧ w.rangeAt bw (i * 2) [.int .i64 (x.fin : Int), .slice Ac x.more.length cc] ∧
    ∀ W, Still w W → ∀ (at_ : Nat) (y : UInt8), x.fin ≤ at_ → at_ - x.fin < x.more.length → ∃ q, Ac = some ⟨q, 0, none⟩ ∧ W.cell? ⟨q, at_ - x.fin, none⟩ = some (.int .u8 ((x.more.getD (at_ - x.fin) 0).toNat : Int)) ∧ W.frozen? ⟨q, at_ - x.fin, none⟩ = false ∧ FileI (W.setCell ⟨q, at_ - x.fin, none⟩ (.int .u8 ((x.more.getD (at_ - x.fin) 0 ^^^ y).toNat : Int))) base own gf ⟨F.now, F.fast, F.wait.modify i (fun c => c.rot at_ (fun b => b ^^^ y))⟩ ∧ own q = some (gf, 4 + i) := by
  obtain ⟨nv, fv, wv, cs, h1, h2, h3, h4, h5, h6, h7, h8, h9⟩ := h
  have hil : i < F.wait.length := (List.getElem?_eq_some_iff.1 hx).1
  obtain ⟨cv, e0, e1, e2, e3⟩ := h5.2 i x hx
  obtain ⟨Ac, cc, rfl, q1, q2, q3⟩ := own_form e2
  obtain ⟨bw, cw, rfl, hcw, hcm⟩ : ∃ bw cw, wv = .slice (some ⟨bw, 0, none⟩) F.wait.length cw ∧ F.wait.length ≤ cw ∧ cw ≤ 9223372036854775807 := by
    rcases h4.2 with ⟨_, h0⟩ | ⟨g, c, cur, hv, _, _, hh, hm, _⟩
    · omega
    · exact ⟨g, c, hv, hh, by unfold maxLen at hm; omega⟩
  refine ⟨nv, fv, bw, cw, Ac, cc, h1, hcw, hcm, q1, q2, ?_, ?_⟩
  · have hl2 : cs.length = 2 * F.wait.length := h5.1
    have h5c : ∀ q u', cs[q]? = some u' → w.cell? ⟨bw, q, none⟩ = some u' := fun q u' hq => by
      have hq2 : q < cs.length := (List.getElem?_eq_some_iff.1 hq).1
      have h6 := h4.cellAt q (by omega)
      rw [hq] at h6
      exact h6
    intro j u hu
    match j, hu with
    | 0, hu =>
      have hu' : u = .int .i64 (x.fin : Int) := by simpa using hu.symm
      subst hu'
      rw [Nat.mul_comm]
      exact h5c _ _ e0
    | 1, hu =>
      have hu' : u = .slice Ac x.more.length cc := by simpa using hu.symm
      subst hu'
      rw [Nat.mul_comm]
      exact h5c _ _ e1
  · intro W st at_ y hle hin
    have c0 := Chg.of_still st (fun _ => False)
    have no : ∀ b : Nat, ¬ (fun _ : Nat => False) b := fun _ h => h
    have e2W := c0.own e2 (fun b _ => no b)
    obtain ⟨q, c, hv, _, _, k3, k4, k5⟩ := row_flip e2W hin rfl y
    injection hv with hA _ hc
    subst hA hc
    have hq : own q = some (gf, 4 + i) := e3 q rfl
    have ch := chg_set W q (at_ - x.fin) (.int .u8 ((x.more.getD (at_ - x.fin) 0 ^^^ y).toNat : Int))
    have ne : ∀ b k, own b = some (gf, k) → k ≠ 4 + i → ¬ b = q := fun b k hb hk e => by rw [e, hq] at hb; simp at hb; exact hk hb.symm
    refine ⟨q, rfl, k3, k4, ⟨nv, fv, _, cs, ch.blk (c0.blk h1 (no gf)) (ne gf 0 h6 (by omega)), ch.own (c0.own h2 (fun b _ => no b)) (fun b hb => ne b 1 (h7 b hb) (by omega)), ch.own (c0.own h3 (fun b _ => no b)) (fun b hb => ne b 2 (h8 b hb) (by omega)), ?_, ?_, h6, h7, h8, h9⟩, hq⟩
    · show World.ownsRow _ base _ 2 _ (F.wait.modify i _).length cs
      rw [List.length_modify]
      exact ch.own (c0.own h4 (fun b _ => no b)) (fun b hb => ne b 3 (h9 b hb) (by omega))
    · refine ⟨by show cs.length = 2 * (F.wait.modify i _).length; rw [List.length_modify]; exact h5.1, fun j d hd => ?_⟩
      have hd1 : (F.wait.modify i (fun c => c.rot at_ (fun b => b ^^^ y)))[j]? = some d := hd
      have hjl : j < F.wait.length := by
        have := (List.getElem?_eq_some_iff.1 hd1).1
        rwa [List.length_modify] at this
      have hd0 := List.getElem?_eq_getElem hjl
      rw [List.getElem?_modify, hd0] at hd1
      by_cases e : i = j
      · subst e
        have ex : F.wait[i] = x := by rw [hd0] at hx; injection hx
        have e4 : d = x.rot at_ (fun b => b ^^^ y) := by rw [ex] at hd1; simpa using hd1.symm
        subst e4
        refine ⟨_, e0, e1, ?_, e3⟩
        show World.ownsRow _ base _ 1 _ (x.more.modify _ _).length (bytesV (x.more.modify _ _))
        rw [List.length_modify]
        exact k5
      · have e4 : d = F.wait[j] := by simpa [e] using hd1.symm
        subst e4
        obtain ⟨cv', z0, z1, z2, z3⟩ := h5.2 j _ hd0
        exact ⟨cv', z0, z1, ch.own (c0.own z2 (fun b _ => no b)) (fun b hb => ne b (4 + j) (z3 b hb) (by omega)), z3⟩
theorem xor_byteM (y : UInt8) (m : Nat) (hm : m < 256) : bits .xor .u8 ((y.toNat : Nat) : Int) ((m : Nat) : Int) = (((y ^^^ UInt8.ofNat m).toNat : Nat) : Int) := by
  rw [u8_xor_nat _ _ y.toNat_lt hm, UInt8.toNat_xor, UInt8.toNat_ofNat', show m % 2 ^ 8 = m by omega]
set_option maxRecDepth 100000 in
set_option maxHeartbeats 6400000 in
theorem frot_I {w : World} {base gf : Nat} {own : Own} {F : Fi} (h : FileI w base own gf F) (hok : F.ok) (at_ : Nat) (hat : at_ < F.now.length) (m : Nat) (hm : m < 256) (hk6 : F.wait.length ≤ 1000000) :
    Calls Tryz.prog 63 #[.pointer (some ⟨gf, 0, none⟩), .int .i64 at_, .int .u8 m] w fun e w' => e = .returned (.tuple #[]) ∧ ∃ o, Rots F at_ o ∧ FileI w' base own gf (F.rotAt at_ (fun b => b ^^^ UInt8.ofNat m) o) ∧ Chg w w' (fun b => ∃ k, own b = some (gf, k)) := by
  obtain ⟨y, hy⟩ : ∃ y, y = UInt8.ofNat m := ⟨_, rfl⟩
  have XB := Lib.hid (fun (z : UInt8) => xor_byteM z m hm)
  rw [← hy] at XB ⊢
  obtain ⟨q, c, fv, wv, h1, hnc, hcm, k0, kf, F1, hq⟩ := h.flipNow hat y
  obtain ⟨f1, hf1⟩ : ∃ f1, f1 = fun b : UInt8 => b ^^^ y := ⟨_, rfl⟩
  obtain ⟨n, hn⟩ : ∃ n, n = F.now.length := ⟨_, rfl⟩
  rw [← hn] at h1 hnc
  have hatn : at_ < n := by omega
  have c0 : w.cell? ⟨gf, 0, none⟩ = some (.slice (some ⟨q, 0, none⟩) n c) := h1.cell 0
  have hx := XB.out (F.now.getD at_ 0)
  have hcg := chg_set w q at_ (.int .u8 ((F.now.getD at_ 0 ^^^ y).toNat : Int))
  obtain ⟨z0, hz0⟩ : ∃ z0, z0 = F.now.getD at_ 0 := ⟨_, rfl⟩
  obtain ⟨v0, hv0⟩ : ∃ v0, v0 = z0 ^^^ y := ⟨_, rfl⟩
  rw [← hz0] at hx k0 F1 hcg
  rw [← hv0] at hx F1 hcg
  obtain ⟨w1, hw1⟩ : ∃ w1, w1 = w.setCell ⟨q, at_, none⟩ (.int .u8 (v0.toNat : Int)) := ⟨_, rfl⟩
  rw [← hw1] at F1 hcg
  have HW1 := Lib.hid hw1
  have FI1 := Lib.hid F1
  have CG := Lib.hid (hcg.mono (T := fun b => ∃ k, own b = some (gf, k)) (fun b _ hb => ⟨1, by rw [hb]; exact hq⟩))
  have OK := Lib.hid (And.intro hok (And.intro hat hk6))
  obtain ⟨N, hN⟩ : ∃ N, N = F.wait.length := ⟨_, rfl⟩
  have HN := Lib.hid hN
  have hN6 : N ≤ 1000000 := by omega
  clear h hok hat hk6 h1 F1 hcg hq hw1 hn hz0 hv0 hy hm hN
  obtain ⟨FN, hFN⟩ : ∃ FN : Fi, FN = ⟨F.now.modify at_ (fun b => b ^^^ y), F.fast, F.wait⟩ := ⟨_, rfl⟩
  rw [← hFN] at FI1
  have HFN := Lib.hid hFN
  have HNN := Lib.hid (show FN.wait = F.wait ∧ FN.fast = F.fast by rw [hFN]; exact ⟨rfl, rfl⟩)
  obtain ⟨nv1, fv1, wv1, cs1, r1, r2, r3, r4, _⟩ := FI1.out
  obtain ⟨Aw, cw, rfl⟩ := own_formV r4
  rw [HNN.out.1, ← HN.out] at r1
  have c2 : w1.cell? ⟨gf, 2, none⟩ = some (.slice Aw N cw) := r1.cell 2
  clear r1 r2 r3 r4 hFN
  go_enter Tryz.func63, Tryz.ntmps63
  go_upto_region 1 with fail
  rw [← HW1.out]
  go_wp2_with fail
  clear c0 k0 kf hx
  go_loopw [6] (fun iv wr => ∃ k : Nat, k ≤ N ∧ iv = .int .i64 ((k : Int) - 1) ∧ Hid (FileI wr base own gf FN ∧ Chg w wr (fun b => ∃ k, own b = some (gf, k)) ∧ ∀ (j : Nat) (c : Ch), k ≤ j → F.wait[j]? = some c → at_ < c.fin)) (fun iv _ => (intOf iv + 1).toNat)
  case atStart => exact ⟨N, Nat.le_refl _, rfl, FI1.out, CG.out, fun j c hj hc => by have := (List.getElem?_eq_some_iff.1 hc).1; have := HN.out; omega⟩
  case round =>
    obtain ⟨k, hk, rfl, hh⟩ := hrel
    by_cases hlt : 0 < k
    · obtain ⟨i, rfl⟩ : ∃ i, k = i + 1 := ⟨k - 1, by omega⟩
      obtain ⟨x, hxj⟩ : ∃ x, F.wait[i]? = some x := ⟨_, List.getElem?_eq_getElem (by have := HN.out; omega)⟩
      obtain ⟨nv, fv2, bw, cw2, Ac, cc, a1, a2, a3, a4, a5, a6, a7⟩ := hh.out.1.atWait (i := i) (x := x) (by rw [HNN.out.1]; exact hxj)
      rw [HNN.out.1, ← HN.out] at a1 a2
      obtain ⟨en, hen⟩ : ∃ en, en = x.fin := ⟨_, rfl⟩
      obtain ⟨mc, hmc⟩ : ∃ mc, mc = x.more.length := ⟨_, rfl⟩
      rw [← hen, ← hmc] at a6
      rw [show (((i + 1 : Nat) : Int) - 1) = (i : Int) by omega]
      have k2 : wr.cell? ⟨gf, 2, none⟩ = some (.slice (some ⟨bw, 0, none⟩) N cw2) := a1.cell 2
      have RNG := Lib.hid a6
      have A7 := Lib.hid a7
      have HI := Lib.hid (And.intro hxj (And.intro hen hmc))
      have HH := Lib.hid hh.out
      have BZ := Lib.hid (Blk.new wr 99 #[.int .i64 0, .slice none 0 0])
      obtain ⟨gx, hgx⟩ : ∃ gx, gx = wr.heap.size := ⟨_, rfl⟩
      have hiN : i < N := by omega
      clear hh a1 a6 a7 hxj hen hmc hlt c2
      go_upto_region 5 with (first
        | (guard_target =~ wpList _ _ _ (Oper.mk _ (Op.load 99 _) _ _ _ _ :: _) _ _; go_must (refine load_midM (by kernel_rfl) 99 (.tmp 33) rfl bw (i * 2) (by kernel_rfl) [.int .i64 (en : Int), .slice Ac mc cc] _ RNG.out Tryz.underlying99 rfl sizeCh ?_))
        | (guard_target =~ wpList _ _ _ (Oper.mk _ (Op.alloc _) _ _ _ _ :: _) _ _; go_must (refine wpList_alloc_arr rfl 99 rfl (some 7) rfl _ 2 Tryz.infoChange ?_))
        | (guard_target =~ wpList _ _ _ (Oper.mk _ (Op.store _ _ _) _ _ _ _ :: _) _ _; go_must (refine wpList_storeCh rfl (.tmp 7) (.tmp 34) rfl wr.heap.size (by kernel_rfl) #[.int .i64 (en : Int), .slice Ac mc cc] _ (by kernel_rfl) rfl rfl (by kernel_rfl) BZ.out ?_)))
      rw [World.setRow_alloc_new, ← hgx]
      obtain ⟨w2, hw2⟩ : ∃ w2, w2 = wr.alloc (.cells #[.int .i64 (en : Int), .slice Ac mc cc] 99) := ⟨_, rfl⟩
      rw [← hw2]
      have S2 := Lib.hid (show Still wr w2 by rw [hw2]; exact (Still.refl _).alloc (Nat.le_refl _) _)
      have B2 := Lib.hid (show Blk w2 gx 99 #[.int .i64 (en : Int), .slice Ac mc cc] by rw [hw2, hgx]; exact Blk.new _ _ _)
      clear hw2 BZ hgx k2
      have d0 : w2.cell? ⟨gx, 0, none⟩ = some (.int .i64 (en : Int)) := B2.out.cell 0
      have d1 : w2.cell? ⟨gx, 1, none⟩ = some (.slice Ac mc cc) := B2.out.cell 1
      by_cases hle : en ≤ at_
      · have RT := Lib.hid (show Rots F at_ (some i) from ⟨⟨x, HI.out.1, by rw [← HI.out.2.1]; exact hle⟩, fun j c hj hc => HH.out.2.2 j c (by omega) hc⟩)
        obtain ⟨x2, e2, _, hin⟩ := Fi.rot_in OK.out.1 OK.out.2.1 RT.out
        have ex : x2 = x := by rw [HI.out.1] at e2; injection e2 with e2; exact e2.symm
        subst ex
        obtain ⟨q2, hA, g1, g2, g3, g4⟩ := A7.out w2 S2.out at_ y (by rw [← HI.out.2.1]; exact hle) hin
        subst hA
        rw [← HI.out.2.1] at g1 g2 g3 hin
        rw [← HI.out.2.2] at hin
        have hx := XB.out (x2.more.getD (at_ - en) 0)
        obtain ⟨z3, hz3⟩ : ∃ z3, z3 = x2.more.getD (at_ - en) 0 := ⟨_, rfl⟩
        rw [← hz3] at hx g1 g3
        obtain ⟨v3, hv3⟩ : ∃ v3, v3 = z3 ^^^ y := ⟨_, rfl⟩
        rw [← hv3] at hx g3
        have G3 := Lib.hid (And.intro g3 g4)
        clear g3 g4 hz3 hv3 A7
        have hdm : at_ - en < mc := hin
        have CE := Lib.hid (show Chg w (w2.setCell ⟨q2, at_ - en, none⟩ (.int .u8 (v3.toNat : Int))) (fun b => ∃ k, own b = some (gf, k)) from (HH.out.2.1.trans (Chg.of_still S2.out (fun _ => False)) (fun _ _ h => h.elim)).trans (chg_set w2 q2 (at_ - en) (.int .u8 (v3.toNat : Int))) (fun b _ hb => ⟨4 + i, by rw [hb]; exact G3.out.2⟩))
        have RE := Lib.hid (show FileI (w2.setCell ⟨q2, at_ - en, none⟩ (.int .u8 (v3.toNat : Int))) base own gf (F.rotAt at_ (fun b => b ^^^ y) (some i)) from by
          have h3 := G3.out.1
          rw [HFN.out] at h3
          exact h3)
        go_wp2_with fail
        (try simp only [Exit.inBlock, Exit.then])
        refine bodyPost_ret (results_none rfl _ _ _) rfl ?_
        exact ⟨rfl, some i, RT.out, RE.out, CE.out⟩
      · have REL := Lib.hid (show FileI w2 base own gf FN ∧ Chg w w2 (fun b => ∃ k, own b = some (gf, k)) ∧ ∀ (j : Nat) (c : Ch), i ≤ j → F.wait[j]? = some c → at_ < c.fin from by
          refine ⟨HH.out.1.still S2.out, HH.out.2.1.trans (Chg.of_still S2.out (fun _ => False)) (fun _ _ h => h.elim), fun j c hj hc => ?_⟩
          by_cases e : j = i
          · rw [e, HI.out.1] at hc
            injection hc with hc
            subst hc
            rw [← HI.out.2.1]
            omega
          · exact HH.out.2.2 j c (by omega) hc)
        clear A7 RNG a2 a3 a4 a5
        go_wp2_with fail
        go_roundw
        case rel => exact ⟨i, by omega, by go_num, REL.out⟩
        case measure => simp [intOf]
    · obtain rfl : k = 0 := by omega
      have RT := Lib.hid (show Rots F at_ none from fun j c hc => hh.out.2.2 j c (Nat.zero_le _) hc)
      have hfa := Fi.rot_fast OK.out.1 OK.out.2.1 RT.out
      obtain ⟨q2, c3, nv2, wv2, b1, b2, b3, g1, g2, g3, g4⟩ := hh.out.1.flipFast (at_ := at_) (by rw [HNN.out.2]; exact hfa) y
      rw [HNN.out.2] at b1 b2 g1 g3
      have hx := XB.out (F.fast.getD at_ 0)
      obtain ⟨z3, hz3⟩ : ∃ z3, z3 = F.fast.getD at_ 0 := ⟨_, rfl⟩
      rw [← hz3] at hx g1 g3
      obtain ⟨v3, hv3⟩ : ∃ v3, v3 = z3 ^^^ y := ⟨_, rfl⟩
      rw [← hv3] at hx g3
      obtain ⟨nf, hnf⟩ : ∃ nf, nf = F.fast.length := ⟨_, rfl⟩
      rw [← hnf] at hfa b1 b2
      have b0 : wr.cell? ⟨gf, 1, none⟩ = some (.slice (some ⟨q2, 0, none⟩) nf c3) := b1.cell 1
      have CE := Lib.hid (show Chg w (wr.setCell ⟨q2, at_, none⟩ (.int .u8 (v3.toNat : Int))) (fun b => ∃ k, own b = some (gf, k)) from hh.out.2.1.trans (chg_set wr q2 at_ (.int .u8 (v3.toNat : Int))) (fun b _ hb => ⟨2, by rw [hb]; exact g4⟩))
      have RE := Lib.hid (show FileI (wr.setCell ⟨q2, at_, none⟩ (.int .u8 (v3.toNat : Int))) base own gf (F.rotAt at_ (fun b => b ^^^ y) none) from by
        have h3 := g3
        rw [HFN.out] at h3
        exact h3)
      rw [show (((0 : Nat) : Int) - 1) = -1 by omega]
      clear hh b1 g3 g4 hz3 hv3 hnf hlt c2 hk
      go_wp2_with fail
      go_end0
      exact ⟨rfl, none, RT.out, RE.out, CE.out⟩
end Go.Proofs.YtljacdbdjacbkaaGreat
