/- Contracts: the writer that lays bytes. It proves no statement. -/
import Derived.Test.YtomhpnomcciniaaDoorPackNumTag
import Derived.Test.YtomhpnomcciniaaDoorAdds
import Derived.Test.YtomhpnomcciniaaDoorFar
import Derived.Test.YtomhpnomcciniaaDoorRead
namespace Go.Proofs.YtomhpnomcciniaaDoor
open Go.RowKit
set_option linter.unusedVariables false
set_option linter.unusedSimpArgs false

/-- The writer at block g, its row in block R: what was laid, and whether it was too much. -/
def Wr (w : World) (lo g : Nat) (R : Option Nat) (s : List UInt8 × Bool) : Prop :=
  lo ≤ g ∧ s.1.length ≤ 65536 ∧ ∃ A c, R = (Value.slice A s.1.length c).ownBlock ∧ Blk w g 54 #[.slice A s.1.length c, .bool s.2] ∧ w.ownsRow lo 5 1 (.slice A s.1.length c) s.1.length (bytesV s.1) ∧ R ≠ some g
/-- All blocks but the writer's are as they were. -/
structure Kept (g : Nat) (R : Option Nat) (w w' : World) : Prop where
  os : w'.os = w.os
  tape : w'.tape = w.tape
  output : w'.output = w.output
  size : w.heap.size ≤ w'.heap.size
  block : ∀ k, k < w.heap.size → k ≠ g → R ≠ some k → w'.heap[k]? = w.heap[k]?
/-- From w to w' only the writer wrote; its row lies in block R2 then. -/
def Via (g : Nat) (R R2 : Option Nat) (w w' : World) : Prop := Kept g R w w' ∧ ∀ k, k < w.heap.size → R2 = some k → R = some k
/-- The writer has written. -/
def Wrote (w w' : World) (lo g : Nat) (R : Option Nat) (s' : List UInt8 × Bool) : Prop := ∃ R', Wr w' lo g R' s' ∧ Via g R R' w w'
/-- What one laying does. -/
def lay1 (s : List UInt8 × Bool) (l : List UInt8) : List UInt8 × Bool := if 65536 < s.1.length + l.length then (s.1, true) else (s.1 ++ l, s.2)

section
variable {w w' w'' : World} {lo g : Nat} {R : Option Nat} {s s' : List UInt8 × Bool}
theorem Wr.below (h : Wr w lo g R s) (b : Still w w') : Wr w' lo g R s := by
  obtain ⟨h1, h2, A, c, hR, hb, ho, hn⟩ := h
  exact ⟨h1, h2, A, c, hR, hb.still b, own_still ho b, hn⟩
theorem Wr.lt (h : Wr w lo g R s) : lo ≤ w.heap.size ∧ g < w.heap.size ∧ lo ≤ g := by
  obtain ⟨h1, h2, A, c, hR, hb, ho, hn⟩ := h
  have := hb.lt
  exact ⟨by omega, this, h1⟩
theorem Wr.row (h : Wr w lo g R s) (k : Nat) (hk : R = some k) : lo ≤ k ∧ k < w.heap.size := by
  obtain ⟨h1, h2, A, c, hR, hb, ho, hn⟩ := h
  exact ho.lt k (hR ▸ hk)
theorem Kept.low (h : Kept g R w w') (hw : Wr w lo g R s) : Below lo w w' :=
  ⟨h.os, h.tape, h.output, h.size, fun k hk => h.block k (by have := hw.lt; omega) (by have := hw.lt; omega) (fun e => by have := hw.row k e; omega)⟩
theorem Via.refl (g : Nat) (R : Option Nat) (w : World) : Via g R R w w := ⟨⟨rfl, rfl, rfl, Nat.le_refl _, fun _ _ _ _ => rfl⟩, fun _ _ e => e⟩
theorem Via.trans {R1 R2 : Option Nat} (h : Via g R R1 w w') (n : Via g R1 R2 w' w'') : Via g R R2 w w'' := by
  obtain ⟨k, hr⟩ := h
  obtain ⟨k2, hr2⟩ := n
  exact ⟨⟨k2.os.trans k.os, k2.tape.trans k.tape, k2.output.trans k.output, Nat.le_trans k.size k2.size, fun i hi h1 h2 => (k2.block i (Nat.lt_of_lt_of_le hi k.size) h1 (fun e => h2 (hr i hi e))).trans (k.block i hi h1 h2)⟩, fun i hi e => hr i hi (hr2 i (Nat.lt_of_lt_of_le hi k.size) e)⟩
/-- Other blocks were made. -/
theorem Via.of_still (b : Still w w') : Via g R R w w' := ⟨⟨b.os, b.tape, b.output, b.size, fun i hi _ _ => b.block i hi⟩, fun _ _ e => e⟩
theorem Via.low {R2 : Option Nat} (h : Via g R R2 w w') (hw : Wr w lo g R s) : Below lo w w' := h.1.low hw
theorem Via.size {R2 : Option Nat} (h : Via g R R2 w w') : w.heap.size ≤ w'.heap.size := h.1.size
/-- A block of somebody else's stays. -/
theorem Via.blk {R2 : Option Nat} (h : Via g R R2 w w') {k : Nat} {t : TypeId} {cs : Array Value} (hb : Blk w k t cs) (h1 : k ≠ g) (h2 : R ≠ some k) : Blk w' k t cs :=
  (h.1.block k hb.lt h1 h2).trans hb
end

set_option maxRecDepth 100000 in
set_option maxHeartbeats 800000 in
theorem lay_any {w : World} {lo g : Nat} {R : Option Nat} {s : List UInt8 × Bool} (h : Wr w lo g R s) (A0 : Option Addr) (n c0 : Nat) (l : List UInt8) (B : Nat) (hr : Reads w B A0 n l) (hn : n ≤ 70368744177664) (hA : A0 = none → c0 = 0) :
    Calls Tryd.prog 40 #[.pointer (some ⟨g, 0, none⟩), .slice A0 n c0] w fun e w' => e = .returned (.tuple #[]) ∧ Wrote w w' lo g R (lay1 s l) := by
  obtain ⟨h1, h2, A, c, hRR, hb, ho, hne⟩ := h
  obtain ⟨o, big⟩ := s
  simp only at *
  obtain ⟨L, hL⟩ : ∃ L, L = o.length := ⟨_, rfl⟩
  rw [← hL] at h2 hb ho hRR
  rw [hRR] at hne
  have HRR := Lib.hid hRR
  clear hRR
  have hlen := hr.1
  have hlow := hb.lt
  have hc := ho
  have c0' : w.cell? ⟨g, 0, none⟩ = some (.slice A L c) := hb.cell 0
  have c1' : w.cell? ⟨g, 1, none⟩ = some (.bool big) := hb.cell 1
  have f0 : w.frozen? ⟨g, 0, none⟩ = false := hb.frozen 0
  have f1 : w.frozen? ⟨g, 1, none⟩ = false := hb.frozen 1
  have e1 : IntKind.i64.wrap (65536 - (L : Int)) = 65536 - (L : Int) := by rw [IntKind.wrap_i64]; omega
  have HLEN := Lib.hid hlen
  have HL := Lib.hid hL
  have HB := Lib.hid hb
  have HO := Lib.hid ho
  have HNE := Lib.hid hne
  have HR := Lib.hid hr
  have HAN := Lib.hid hA
  clear hL hb ho hne hr hlen hc hA
  by_cases hlong : 65536 < L + n
  · have d1 : (65536 : Int) - (L : Int) < (n : Int) := by omega
    have e : lay1 (o, big) l = (o, true) := by unfold lay1; rw [if_pos (by simp only; rw [← HL.out, HLEN.out]; exact hlong)]
    have HE := Lib.hid e
    clear e hlong
    go_enter Tryd.func40, Tryd.ntmps40
    go_wp2_with fail
    (try simp only [Exit.inBlock, Exit.then])
    refine bodyPost_ret (results_none rfl _ _ _) rfl ?_
    rw [HE.out]
    have gs := grownBy_set w g 1 (.bool true)
    refine ⟨rfl, R, ⟨h1, by rw [← HL.out]; exact h2, A, c, ?_, ?_, ?_, ?_⟩, ⟨gs.os, gs.tape, gs.output, gs.size, fun k hk hkg _ => gs.block k hk (fun e => hkg (Option.some.inj e))⟩, fun k _ e => e⟩
    · rw [← HL.out]; exact HRR.out
    · rw [← HL.out]; exact HB.out.setc 1 _
    · rw [← HL.out]; exact HO.out.kept gs (.inr HNE.out)
    · rw [HRR.out]; exact HNE.out
  · have d1 : ¬ (65536 : Int) - (L : Int) < (n : Int) := by omega
    have e : lay1 (o, big) l = (o ++ l, big) := by unfold lay1; rw [if_neg (by simp only; rw [← HL.out, HLEN.out]; exact hlong)]
    have HE := Lib.hid e
    have HLG := Lib.hid hlong
    clear e hlong
    go_enter Tryd.func40, Tryd.ntmps40
    go_wp2_with (at_builtin; go_must (refine wpList_adds_at _ rfl _ _ rfl lo _ L o rfl HO.out A0 n c0 B l rfl HR.out HAN.out ?c1 ?c2 ?_))
    case c1 => have := HLG.out; omega
    case c2 => omega
    intro v' w1 own1 gr1 loc1
    obtain ⟨A1, k1, rfl, q1, q2, q3⟩ := own_form own1
    have hne1 : (Value.slice A1 (L + n) k1).ownBlock ≠ some g := by
      rcases loc1 with h | h
      · rw [h]; exact HNE.out
      · rw [h]; intro e; cases e; omega
    have hb1 : Blk w1 g 54 #[.slice A L c, .bool big] := (gr1.block g hlow (fun e => HNE.out e.symm)).trans HB.out
    have f01 : w1.frozen? ⟨g, 0, none⟩ = false := hb1.frozen 0
    have c01 : w1.cell? ⟨g, 0, none⟩ = some (.slice A L c) := hb1.cell 0
    have kp : ∀ u, Kept g R w (w1.setCell ⟨g, 0, none⟩ u) := fun u => by
      have gs := grownBy_set w1 g 0 u
      refine ⟨gs.os.trans gr1.os, gs.tape.trans gr1.tape, gs.output.trans gr1.output, Nat.le_trans gr1.size gs.size, fun k hk hkg hkR => (gs.block k (Nat.lt_of_lt_of_le hk gr1.size) (fun e => hkg (Option.some.inj e))).trans (gr1.block k hk (fun e => hkR ?_))⟩
      rw [HRR.out]
      exact e.symm
    have hrk : ∀ k, k < w.heap.size → (Value.slice A1 (L + n) k1).ownBlock = some k → R = some k := fun k hk e => by
      rcases loc1 with h | h
      · rw [HRR.out, ← h]; exact e
      · rw [h] at e; cases e; omega
    have KP := Lib.hid kp
    have HRK := Lib.hid hrk
    clear kp hrk
    have OW1 := Lib.hid own1
    have HNE1 := Lib.hid hne1
    have HB1 := Lib.hid hb1
    clear own1 hne1 hb1 gr1 loc1 q1 q2 q3
    go_wp2_with fail
    (try simp only [Exit.inBlock, Exit.then])
    first | go_end0 | refine bodyPost_ret (results_none rfl _ _ _) rfl ?_
    rw [HE.out]
    have hll : (o ++ l).length = L + n := by rw [List.length_append, HLEN.out, ← HL.out]
    refine ⟨rfl, (Value.slice A1 (L + n) k1).ownBlock, ⟨h1, by simp only; rw [hll]; have := HLG.out; omega, A1, k1, ?_, ?_, ?_, HNE1.out⟩, KP.out _, HRK.out⟩
    · simp only; rw [hll]
    · simp only; rw [hll]; exact HB1.out.setc 0 _
    · simp only; rw [hll]; exact OW1.out.kept (grownBy_set w1 g 0 _) (.inr HNE1.out)
end Go.Proofs.YtomhpnomcciniaaDoor
