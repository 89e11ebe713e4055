/- Slots in memory, a table in memory. It proves no statement. -/
import Derived.Test.YtlebancjgjcfjaaTbMath
import Derived.Test.YtlebancjgjcfjaaChg
import Derived.Deep.MidRow
import Derived.Deep.WholeRow
import Derived.Deep.DeepCutAuto
import Derived.Great.BuildSlice
import Derived.Great.Walk
import Derived.Stop.BytesEq
namespace Go.Proofs.Ytlebancjgjcfjaa
open Go.RowKit
set_option linter.unusedVariables false
set_option linter.unusedSimpArgs false

theorem under32 : Try.prog.underlying 43 = some (.array 32 5) := by kernel_rfl
theorem size32 : (Try.prog.info? 43).map (·.size) = some 32 := by kernel_rfl
theorem wpList_box_val {P : Program} {ops : Array Oper} {rest : List Oper} {o : Oper} {a : Act} {w : World} {Q : Exit → Act → World → Prop} (hg : o.guard = none) (t : TypeId) (x : Operand) (ho : o.op = .box t x) (dst : Option Tmp) (hdst : o.dst = dst) (cs : Array Value)
    (hx : a.eval x = .agg cs) (h : wpList P ops Q rest (a.put dst (.pointer (some ⟨w.heap.size, 0, none⟩))) (w.alloc (.cells cs t))) : wpList P ops Q (o :: rest) a w := by
  refine Go.Great.wpList_runTo hg dst hdst _ _ ?_ h
  unfold execOp
  simp [ho, hx, Instr.box, Value.cells, newVar, newRow, Sem.run_bind]
theorem Try.infoByte0 : (Try.prog.info? 5).map (fun i => (i.zero, i.size, i.bytes)) = some (some (.int .u8 0), 1, 1) := by kernel_rfl
theorem sizeByteRun (w : World) : (sizeOf 5).run Try.prog w = .ok 1 w := by
  obtain ⟨i0, hi, _, hz, _⟩ := info_parts Try.infoByte0
  simp [sizeOf, typeInfo, hi, hz]
theorem eql_ids (w : World) (xs ys : List UInt8) (hx : xs.length = 32) (hy : ys.length = 32) :
    (binOp .eql 43 (.agg (bytesV xs).toArray) (.agg (bytesV ys).toArray)).run Try.prog w = .ok (.bool (decide (xs = ys))) w := by
  refine (run_eql_bytes w 43 5 32 under32 (by kernel_rfl) sizeByteRun xs ys hx hy).trans ?_
  congr 2
  rw [Bool.eq_iff_iff]
  simp
/-- A slot's cells: its state, its key, its value. -/
def slL (m : Nat) (s : Sl) : List Value := .int .i64 (s.st : Nat) :: (bytesV s.key ++ (s.val m).map (Value.int .i64))
def SlOK (m : Nat) (s : Sl) : Prop := s.key.length = 32 ∧ (s.val m).length = m
theorem SlOK.empty (m : Nat) : SlOK m .empty := ⟨by simp [Sl.key], by simp [Sl.val]⟩
theorem SlOK.dead (m : Nat) : SlOK m .dead := ⟨by simp [Sl.key], by simp [Sl.val]⟩
theorem Inv.slOK {m : Nat} {S : List Sl} (h : Inv m S) {p : Nat} {s : Sl} (hp : S[p]? = some s) : SlOK m s := by
  cases s with
  | empty => exact .empty m
  | dead => exact .dead m
  | full k v => obtain ⟨a, b, _⟩ := h.probe p k v hp; exact ⟨a, b⟩
theorem ints_one (l : List Int) : ∀ u ∈ l.map (Value.int .i64), u.oneCell' = true := by
  intro u hu
  obtain ⟨_, _, rfl⟩ := List.mem_map.1 hu
  rfl
theorem slL_len {m : Nat} {s : Sl} (h : SlOK m s) : (slL m s).length = 33 + m := by simp [slL, bytesV_length, h.1, h.2]; omega
theorem slL_one (m : Nat) (s : Sl) : ∀ u ∈ slL m s, u.oneCell' = true := by
  intro u hu
  unfold slL at hu
  rcases List.mem_cons.1 hu with rfl | hu
  · rfl
  · rcases List.mem_append.1 hu with hu | hu
    · exact bytesV_one _ u hu
    · exact ints_one _ u hu
theorem slL_0 (m : Nat) (s : Sl) : (slL m s)[0]? = some (.int .i64 (s.st : Nat)) := rfl
theorem slL_key {m : Nat} {s : Sl} {j : Nat} {u : Value} (h : (bytesV s.key)[j]? = some u) : (slL m s)[1 + j]? = some u := by
  unfold slL
  have hj := (List.getElem?_eq_some_iff.1 h).1
  rw [Nat.add_comm, List.getElem?_cons_succ, List.getElem?_append_left hj, h]
theorem slL_val {m : Nat} {s : Sl} (hs : SlOK m s) {j : Nat} {u : Value} (h : ((s.val m).map (Value.int .i64))[j]? = some u) : (slL m s)[33 + j]? = some u := by
  unfold slL
  rw [show 33 + j = (32 + j) + 1 by omega, List.getElem?_cons_succ, List.getElem?_append_right (by rw [bytesV_length, hs.1]; omega), bytesV_length, hs.1, show 32 + j - 32 = j by omega, h]
theorem grown_setC {g : Nat} : ∀ (vs : List Value) (o : Nat) (w : World), w.grownBy (w.setCells g o vs) (some g)
  | [], _, w => World.grownBy.refl w _
  | v :: r, o, w => by
    have h := grown_setC (g := g) r (o + 1) (w.setCell ⟨g, o, none⟩ v)
    have h0 := grownBy_set w g o v
    exact ⟨h.os.trans h0.os, h.tape.trans h0.tape, h.output.trans h0.output, Nat.le_trans h0.size h.size, fun k hk hne => (h.block k (Nat.lt_of_lt_of_le hk h0.size) hne).trans (h0.block k hk hne)⟩
/-- Slots in block b. -/
structure SlB (w : World) (b m : Nat) (S : List Sl) : Prop where
  at_ : ∀ (i : Nat) (s : Sl), S[i]? = some s → w.rangeAt b (i * (33 + m)) (slL m s)
  fr : ∀ q, w.frozen? ⟨b, q, none⟩ = false
  lt : b < w.heap.size
section
variable {w w' : World} {b m : Nat} {S : List Sl}
theorem SlB.st (h : SlB w b m S) {i : Nat} {s : Sl} (hi : S[i]? = some s) : w.cell? ⟨b, i * (33 + m), none⟩ = some (.int .i64 (s.st : Nat)) := by
  have := h.at_ i s hi 0 _ (slL_0 m s)
  simpa using this
theorem SlB.key (h : SlB w b m S) {i : Nat} {s : Sl} (hi : S[i]? = some s) : w.rangeAt b (i * (33 + m) + 1) (bytesV s.key) := fun j u hj => by
  rw [Nat.add_assoc]
  exact h.at_ i s hi (1 + j) u (slL_key hj)
theorem SlB.val (h : SlB w b m S) {i : Nat} {s : Sl} (hi : S[i]? = some s) (hs : SlOK m s) : w.rangeAt b (i * (33 + m) + 33) ((s.val m).map (Value.int .i64)) := fun j u hj => by
  rw [Nat.add_assoc]
  exact h.at_ i s hi (33 + j) u (slL_val hs hj)
theorem SlB.keep (h : SlB w b m S) (hk : w'.heap[b]? = w.heap[b]?) : SlB w' b m S := by
  refine ⟨fun i s hi j v hv => (World.cell?_of_block (w := w) hk).trans (h.at_ i s hi j v hv), fun q => ?_, ?_⟩
  · have := h.fr q
    unfold World.frozen? at this ⊢
    simp only [hk]
    exact this
  · have h1 := h.lt
    have : w'.heap[b]?.isSome := by rw [hk]; simp [h1]
    simpa using this
theorem SlB.still (h : SlB w b m S) (s : Still w w') : SlB w' b m S := h.keep (s.block b h.lt)
theorem SlB.chg {R : Nat → Prop} (h : SlB w b m S) (c : Chg w w' R) (hb : ¬ R b) : SlB w' b m S := h.keep (c.block b h.lt hb)
theorem SlB.there (h : SlB w b m S) {i : Nat} {s : Sl} (hi : S[i]? = some s) (hs : SlOK m s) : w.there b (i * (33 + m)) (33 + m) := fun j hj =>
  ⟨(h.at_ i s hi).isSome j (by rw [slL_len hs]; exact hj), h.fr _⟩
/-- A slot is written whole. -/
theorem SlB.set (h : SlB w b m S) (hO : ∀ (i : Nat) s, S[i]? = some s → SlOK m s) {i : Nat} {s x : Sl} (hi : S[i]? = some s) (hx : SlOK m x) : SlB (w.setCells b (i * (33 + m)) (slL m x)) b m (S.set i x) := by
  refine ⟨fun q y hq => ?_, fun q => by rw [World.frozen?_setCells]; exact h.fr q, ?_⟩
  · by_cases e : i = q
    · subst e
      rw [List.getElem?_set_self (List.getElem?_eq_some_iff.1 hi).1] at hq
      cases hq
      exact World.rangeAt_setCells_same _ _ _ _ (by rw [slL_len hx]; exact h.there hi (hO i s hi))
    · rw [List.getElem?_set_ne e] at hq
      refine World.rangeAt_setCells_apart (h.at_ q y hq) _ _ _ (.inr ?_)
      rw [slL_len hx, slL_len (hO q y hq)]
      rcases Nat.lt_or_gt_of_ne e with h1 | h1
      · right
        have : (i + 1) * (33 + m) ≤ q * (33 + m) := Nat.mul_le_mul_right _ h1
        rw [Nat.add_mul, Nat.one_mul] at this; omega
      · left
        have : (q + 1) * (33 + m) ≤ i * (33 + m) := Nat.mul_le_mul_right _ h1
        rw [Nat.add_mul, Nat.one_mul] at this; omega
  · have h1 := h.lt
    have h2 := (grown_setC (g := b) (slL m x) (i * (33 + m)) w).size
    omega
/-- A slot's value alone is written. -/
theorem SlB.setVal (h : SlB w b m S) (hO : ∀ (i : Nat) s, S[i]? = some s → SlOK m s) {i : Nat} {k : List UInt8} {v v' : List Int} (hi : S[i]? = some (Sl.full k v)) (hv : v'.length = m) : SlB (w.setCells b (i * (33 + m) + 33) (v'.map (Value.int .i64))) b m (S.set i (.full k v')) := by
  have hok := hO i _ hi
  have hvl : v.length = m := hok.2
  refine ⟨fun q y hq => ?_, fun q => by rw [World.frozen?_setCells]; exact h.fr q, ?_⟩
  · by_cases e : i = q
    · subst e
      rw [List.getElem?_set_self (List.getElem?_eq_some_iff.1 hi).1] at hq
      cases hq
      intro j u hj
      have hj2 : j < 33 + m := by
        have := (List.getElem?_eq_some_iff.1 hj).1
        rwa [slL_len (m := m) (s := .full k v') ⟨hok.1, hv⟩] at this
      by_cases h33 : j < 33
      · rw [World.cell?_setCells_out b _ _ w ⟨b, i * (33 + m) + j, none⟩ (fun _ _ => by left; show i * (33 + m) + j < i * (33 + m) + 33; omega)]
        refine h.at_ i _ hi j u ?_
        rw [← hj]
        unfold slL
        rcases j with _ | j
        · rfl
        · rw [List.getElem?_cons_succ, List.getElem?_cons_succ, List.getElem?_append_left (by rw [bytesV_length, hok.1]; omega), List.getElem?_append_left (by rw [bytesV_length]; have := hok.1; simp only [Sl.key] at this ⊢; omega)]
          rfl
      · have h4 : ∃ q, j = 33 + q := ⟨j - 33, by omega⟩
        obtain ⟨q, rfl⟩ := h4
        have hq : ((Sl.full k v').val m).map (Value.int .i64) = v'.map (Value.int .i64) := rfl
        have h5 : (v'.map (Value.int .i64))[q]? = some u := by
          rw [← hj]
          unfold slL
          rw [show 33 + q = (32 + q) + 1 by omega, List.getElem?_cons_succ, List.getElem?_append_right (by rw [bytesV_length]; have := hok.1; simp only [Sl.key] at this ⊢; omega), bytesV_length, show (Sl.full k v').key.length = 32 from hok.1, show 32 + q - 32 = q by omega]
          rfl
        rw [← Nat.add_assoc]
        refine World.rangeAt_setCells_same _ _ _ _ (fun j hj => ?_) q u h5
        rw [Nat.add_assoc]
        exact h.there hi hok (33 + j) (by rw [List.length_map, hv] at hj; omega)
    · rw [List.getElem?_set_ne e] at hq
      refine World.rangeAt_setCells_apart (h.at_ q y hq) _ _ _ (.inr ?_)
      rw [List.length_map, hv, slL_len (hO q y hq)]
      rcases Nat.lt_or_gt_of_ne e with h1 | h1
      · right
        have : (i + 1) * (33 + m) ≤ q * (33 + m) := Nat.mul_le_mul_right _ h1
        rw [Nat.add_mul, Nat.one_mul] at this; omega
      · left
        have : (q + 1) * (33 + m) ≤ i * (33 + m) := Nat.mul_le_mul_right _ h1
        rw [Nat.add_mul, Nat.one_mul] at this; omega
  · have h1 := h.lt
    have h2 := (grown_setC (g := b) (v'.map (Value.int .i64)) (i * (33 + m) + 33) w).size
    omega
end
/-- A table at g, its slots in block b. -/
structure TB (T : TypeId) (m : Nat) (w : World) (g b c : Nat) (S : List Sl) : Prop where
  box : Blk w g T #[.slice (some ⟨b, 0, none⟩) S.length c, .int .i64 (keysN S : Nat), .int .i64 (deadN S : Nat)]
  row : SlB w b m S
  inv : Inv m S
  ne : b ≠ g
  cap : S.length ≤ c ∧ c ≤ 9223372036854775807
section
variable {T : TypeId} {m : Nat} {w w' : World} {g b c : Nat} {S : List Sl}
theorem TB.still (h : TB T m w g b c S) (s : Still w w') : TB T m w' g b c S := ⟨h.box.still s, h.row.still s, h.inv, h.ne, h.cap⟩
theorem TB.chg {R : Nat → Prop} (h : TB T m w g b c S) (k : Chg w w' R) (hg : ¬ R g) (hb : ¬ R b) : TB T m w' g b c S := ⟨k.blk h.box hg, h.row.chg k hb, h.inv, h.ne, h.cap⟩
theorem TB.c0 (h : TB T m w g b c S) : w.cell? ⟨g, 0, none⟩ = some (.slice (some ⟨b, 0, none⟩) S.length c) := h.box.cell 0
theorem TB.c1 (h : TB T m w g b c S) : w.cell? ⟨g, 1, none⟩ = some (.int .i64 (keysN S : Nat)) := h.box.cell 1
theorem TB.c2 (h : TB T m w g b c S) : w.cell? ⟨g, 2, none⟩ = some (.int .i64 (deadN S : Nat)) := h.box.cell 2
theorem TB.len8 (h : TB T m w g b c S) : 8 ≤ S.length := h.inv.len8
end
/-- A key in a box. -/
theorem box_key (w : World) (k : List UInt8) : (w.alloc (.cells (bytesV k).toArray 43)).rangeAt w.heap.size 0 (bytesV k) := fun j u hj => by
  rw [(Blk.new w _ _).cell, Nat.zero_add, List.getElem?_toArray, hj]
end Go.Proofs.Ytlebancjgjcfjaa
