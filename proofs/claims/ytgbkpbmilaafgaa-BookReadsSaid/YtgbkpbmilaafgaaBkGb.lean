/- Contracts and facts, several texts in one. It proves no statement. -/
import Derived.Test.YtgbkpbmilaafgaaBkGa
import Derived.Laws.IdiomStrings
import Derived.Laws.BytesArg
import Derived.Outline
import Derived.Deep.DeepMust
import Derived.Deep.QuietTactic
import Derived.BigQuiet
import Derived.RegionTactic
import Derived.ChangeAlike
import Derived.BigRegion
import Derived.Deep.MidRow
import Derived.Deep.WholeRow
import Derived.Deep.DeepCutAuto
import Derived.Great.BuildSlice
import Derived.Great.Walk
import Derived.Stop.BytesEq
import Derived.ChangeSlices
import Derived.ChangeSame
import Derived.ChangeArms

/- A block that is known whole. It proves no statement. -/



namespace Go.Proofs.Ytgbkpbmilaafgaa
open Go.RowKit
set_option linter.unusedVariables false
set_option linter.unusedSimpArgs false

/-- A block that is known whole, not frozen. -/
def Blk (w : World) (g : Nat) (t : TypeId) (cs : Array Value) : Prop := w.heap[g]? = some (.cells cs t (0, 0))
section
variable {w w' : World} {g : Nat} {t : TypeId} {cs : Array Value}
theorem Blk.lt (h : Blk w g t cs) : g < w.heap.size := (Array.getElem?_eq_some_iff.1 h).1
theorem Blk.cell (h : Blk w g t cs) (i : Nat) : w.cell? ⟨g, i, none⟩ = cs[i]? := cell_of_row w g i cs t (0, 0) h
theorem Blk.frozen (h : Blk w g t cs) (i : Nat) : w.frozen? ⟨g, i, none⟩ = false := frozen_of_row w g i cs t h
theorem Blk.still (h : Blk w g t cs) (hs : Still w w') : Blk w' g t cs := (hs.block g h.lt).trans h
theorem Blk.setc (h : Blk w g t cs) (i : Nat) (u : Value) : Blk (w.setCell ⟨g, i, none⟩ u) g t (cs.setIfInBounds i u) := heap_setCell_same w g i cs t u h
theorem Blk.far (h : Blk w g t cs) {p : Addr} (hp : g ≠ p.block) (u : Value) : Blk (w.setCell p u) g t cs := (Below.heap_setCell w p u g hp).trans h
theorem Blk.new (w : World) (t : TypeId) (cs : Array Value) : Blk (w.alloc (.cells cs t)) w.heap.size t cs := heap_alloc_new w _
theorem Blk.alloc (h : Blk w g t cs) (o : Obj) : Blk (w.alloc o) g t cs := (Below.heap_alloc w o g h.lt).trans h
end

end Go.Proofs.Ytgbkpbmilaafgaa

/- Rows of bytes, and parts of them. It proves no statement. -/








namespace Go.Proofs.Ytgbkpbmilaafgaa
open Go.RowKit
set_option linter.unusedVariables false
set_option linter.unusedSimpArgs false

theorem still_drewN {a w : World} (h : Still a w) (n : Nat) : Still a (w.drewN n) := ⟨h.os, h.tape, h.output, h.size, h.block⟩

/-- Integers that came in. -/
theorem ints_of_row {w : World} {a : Option Addr} {len cap : Nat} {zs : List Int} (h : RowIn .i64 w a len cap zs) :
    len ≤ 9223372036854775807 ∧ (∀ i, i < len → ∃ b o y, a = some ⟨b, o, none⟩ ∧ b < w.heap.size ∧ w.cell? ⟨b, o + i, none⟩ = some (.int .i64 y)) := by
  rcases h with ⟨rfl, rfl, rfl, rfl⟩ | ⟨x, rfl, hl, hm, hz, hc, hw⟩
  · exact ⟨by omega, fun i hi => by omega⟩
  · unfold maxLen at hm
    refine ⟨by omega, fun i hi => ?_⟩
    obtain ⟨b, o, sp⟩ := x
    have h00 := hc 0 (by omega)
    have hsp : sp = none := by simpa [Addr.add] using World.cell?_spot h00
    subst hsp
    have h0 := hc i (by omega)
    rw [Addr.add_lit] at h0
    exact ⟨b, o, zs.getD i 0, rfl, by simpa using World.block_lt_of_cell? w _ h0, h0⟩

theorem Reads.dropk {w : World} {B n k : Nat} {A : Option Addr} {l : List UInt8} (h : Reads w B A n l) (hk : k ≤ n) : Reads w B (A.map (·.add k)) (n - k) (l.drop k) := by
  refine ⟨by rw [List.length_drop, h.1], fun hn => ?_⟩
  obtain ⟨b, o, rfl, hb, hc⟩ := h.2 (by omega)
  refine ⟨b, o + k, by simp [Addr.add_lit], hb, fun i hi => ?_⟩
  have := hc (k + i) (by omega)
  rw [Nat.add_assoc, this]
  simp [List.getD]
theorem Reads.takek {w : World} {B n k : Nat} {A : Option Addr} {l : List UInt8} (h : Reads w B A n l) (hk : k ≤ n) : Reads w B A k (l.take k) := by
  have := h.take k
  rwa [show min n k = k by omega] at this
end Go.Proofs.Ytgbkpbmilaafgaa

/- Rows outside a block that is written. It proves no statement. -/

namespace Go.Proofs.Ytgbkpbmilaafgaa
open Go.RowKit
set_option linter.unusedVariables false

theorem grownBy_drew {w w' : World} {r : Option Nat} (h : w.grownBy w' r) : w.grownBy w'.drew r := ⟨h.os, h.tape, h.output, h.size, h.block⟩
theorem grownBy_drewN {w w' : World} {r : Option Nat} (h : w.grownBy w' r) (n : Nat) : w.grownBy (w'.drewN n) r := ⟨h.os, h.tape, h.output, h.size, h.block⟩
theorem grownBy_set (w : World) (g o : Nat) (u : Value) : w.grownBy (w.setCell ⟨g, o, none⟩ u) (some g) := ⟨rfl, rfl, rfl, by simp [World.setCell], fun k _ hk => Below.heap_setCell _ _ _ _ (fun e => hk (by rw [e]))⟩
/-- A row that reads and lies outside block g. -/
def Far (g : Nat) (A : Option Addr) (n : Nat) : Prop := ∀ ad, A = some ad → 0 < n → ad.block ≠ g
theorem Reads.grown {w w' : World} {B g n : Nat} {A : Option Addr} {l : List UInt8} (h : Reads w B A n l) (hf : Far g A n) (hg : w.grownBy w' (some g)) : Reads w' B A n l := by
  refine ⟨h.1, fun hn => ?_⟩
  obtain ⟨b, o, e, hb, hc⟩ := h.2 hn
  refine ⟨b, o, e, hb, fun i hi => ?_⟩
  have hne := hf _ e hn
  rw [hg.cell_far ⟨b, o + i, none⟩ (World.block_lt_of_cell? w _ (hc i hi)) (fun e2 => hne (Option.some.inj e2))]
  exact hc i hi
theorem still_grown {w w1 w2 : World} {g : Nat} (s : Still w w1) (gr : w1.grownBy w2 (some g)) (hg : w.heap.size ≤ g) : Still w w2 := s.grown gr s.size (fun k hk => by cases hk; exact hg)
theorem far_low {w : World} {B g n : Nat} {A : Option Addr} {l : List UInt8} (h : Reads w B A n l) (hB : B ≤ g) : Far g A n := by
  intro ad e hn
  obtain ⟨b, o, e2, hb, _⟩ := h.2 hn
  rw [e2] at e
  cases e
  show b ≠ g
  omega
theorem far_own {w : World} {base g n c : Nat} {A : Option Addr} {xs : List Value} (h : w.ownsRow base 5 1 (.slice A n c) n xs) (hg : g < base) : Far g A n := by
  intro ad e hn
  subst e
  rcases h.2 with ⟨_, h0⟩ | ⟨b, cap, cur, hv, hb, _⟩
  · omega
  · injection hv with hv1
    cases hv1
    show b ≠ g
    omega
end Go.Proofs.Ytgbkpbmilaafgaa

/- Worlds in which only some blocks have turned. It proves no statement. -/


namespace Go.Proofs.Ytgbkpbmilaafgaa
open Go.RowKit
set_option linter.unusedVariables false
set_option linter.unusedSimpArgs false

/-- From w to w' only blocks of S, and new ones, have turned. -/
structure Chg (w w' : World) (S : Nat → Prop) : Prop where
  os : w'.os = w.os
  tape : w'.tape = w.tape
  output : w'.output = w.output
  size : w.heap.size ≤ w'.heap.size
  block : ∀ k, k < w.heap.size → ¬ S k → w'.heap[k]? = w.heap[k]?
theorem Chg.refl (w : World) (S : Nat → Prop) : Chg w w S := ⟨rfl, rfl, rfl, Nat.le_refl _, fun _ _ _ => rfl⟩
theorem Chg.trans {a b c : World} {S T : Nat → Prop} (h : Chg a b S) (k : Chg b c T) (hT : ∀ x, x < a.heap.size → T x → S x) : Chg a c S :=
  ⟨k.os.trans h.os, k.tape.trans h.tape, k.output.trans h.output, Nat.le_trans h.size k.size, fun x hx hS => (k.block x (Nat.lt_of_lt_of_le hx h.size) (fun ht => hS (hT x hx ht))).trans (h.block x hx hS)⟩
theorem Chg.mono {a b : World} {S T : Nat → Prop} (h : Chg a b S) (hT : ∀ x, x < a.heap.size → S x → T x) : Chg a b T := ⟨h.os, h.tape, h.output, h.size, fun x hx hS => h.block x hx (fun hs => hS (hT x hx hs))⟩
theorem Chg.of_grown {a b : World} {r : Option Nat} (h : a.grownBy b r) {S : Nat → Prop} (hr : ∀ k, r = some k → k < a.heap.size → S k) : Chg a b S := ⟨h.os, h.tape, h.output, h.size, fun k hk hS => h.block k hk (fun e => hS (hr k e.symm hk))⟩
theorem Chg.of_still {a b : World} (h : Still a b) (S : Nat → Prop) : Chg a b S := ⟨h.os, h.tape, h.output, h.size, fun k hk _ => h.block k hk⟩
theorem Chg.of_below {a b : World} {lo : Nat} (h : Below lo a b) {S : Nat → Prop} (hS : ∀ k, lo ≤ k → k < a.heap.size → S k) : Chg a b S := ⟨h.os, h.tape, h.output, h.size, fun k hk hn => h.block k (by
  rcases Nat.lt_or_ge k lo with h1 | h1
  · exact h1
  · exact absurd (hS k h1 hk) hn)⟩
theorem Chg.below {a b : World} {S : Nat → Prop} (h : Chg a b S) {lo : Nat} (hlo : lo ≤ a.heap.size) (hS : ∀ k, S k → lo ≤ k) : Below lo a b := ⟨h.os, h.tape, h.output, h.size, fun k hk => h.block k (by omega) (fun hs => by have := hS k hs; omega)⟩
theorem Chg.still {a b w0 : World} {S : Nat → Prop} (h : Chg a b S) (s : Still w0 a) (hS : ∀ k, S k → w0.heap.size ≤ k) : Still w0 b := Below.trans s (h.below s.size hS)
theorem Chg.drew (w : World) (S : Nat → Prop) : Chg w w.drew S := ⟨rfl, rfl, rfl, Nat.le_refl _, fun _ _ _ => rfl⟩
/-- What stays. -/
theorem Chg.blk {a b : World} {S : Nat → Prop} (h : Chg a b S) {g : Nat} {t : TypeId} {cs : Array Value} (hb : Blk a g t cs) (hS : ¬ S g) : Blk b g t cs := (h.block g hb.lt hS).trans hb
theorem Chg.own {a b : World} {S : Nat → Prop} (h : Chg a b S) {base z n : Nat} {e : TypeId} {v : Value} {xs : List Value} (ho : a.ownsRow base e z v n xs) (hS : ∀ k, v.ownBlock = some k → ¬ S k) : b.ownsRow base e z v n xs := by
  refine ⟨ho.1, ?_⟩
  rcases ho.2 with h0 | ⟨g, c, cur, h1, h2, h3, h4⟩
  · exact .inl h0
  · subst h1
    exact .inr ⟨g, c, cur, rfl, h2, (h.block g (Array.getElem?_eq_some_iff.1 h3).1 (hS g rfl)).trans h3, h4⟩
theorem Chg.reads {a b : World} {S : Nat → Prop} (h : Chg a b S) {B n : Nat} {A : Option Addr} {l : List UInt8} (hr : Reads a B A n l) (hB : B ≤ a.heap.size) (hS : ∀ ad, A = some ad → ¬ S ad.block) : Reads b B A n l := by
  refine ⟨hr.1, fun hn => ?_⟩
  obtain ⟨bb, o, e, hlt, hc⟩ := hr.2 hn
  refine ⟨bb, o, e, hlt, fun i hi => ?_⟩
  exact (World.cell?_of_block (w := a) (h.block bb (by omega) (hS _ e))).trans (hc i hi)
end Go.Proofs.Ytgbkpbmilaafgaa

/- Slots in memory, a table in memory. It proves no statement. -/








namespace Go.Proofs.Ytgbkpbmilaafgaa
open Go.RowKit
set_option linter.unusedVariables false
set_option linter.unusedSimpArgs false

theorem under32 : Try.prog.underlying 62 = some (.array 32 5) := by kernel_rfl
theorem size32 : (Try.prog.info? 62).map (·.size) = some 32 := by kernel_rfl
theorem wpList_box_val {P : Program} {ops : Array Oper} {rest : List Oper} {o : Oper} {a : Act} {w : World} {Q : Exit → Act → World → Prop} (hg : o.guard = none) (t : TypeId) (x : Operand) (ho : o.op = .box t x) (dst : Option Tmp) (hdst : o.dst = dst) (cs : Array Value)
    (hx : a.eval x = .agg cs) (h : wpList P ops Q rest (a.put dst (.pointer (some ⟨w.heap.size, 0, none⟩))) (w.alloc (.cells cs t))) : wpList P ops Q (o :: rest) a w := by
  refine Go.Great.wpList_runTo hg dst hdst _ _ ?_ h
  unfold execOp
  simp [ho, hx, Instr.box, Value.cells, newVar, newRow, Sem.run_bind]
theorem Try.infoByte0 : (Try.prog.info? 5).map (fun i => (i.zero, i.size, i.bytes)) = some (some (.int .u8 0), 1, 1) := by kernel_rfl
theorem sizeByteRun (w : World) : (sizeOf 5).run Try.prog w = .ok 1 w := by
  obtain ⟨i0, hi, _, hz, _⟩ := info_parts Try.infoByte0
  simp [sizeOf, typeInfo, hi, hz]
theorem eql_ids (w : World) (xs ys : List UInt8) (hx : xs.length = 32) (hy : ys.length = 32) :
    (binOp .eql 62 (.agg (bytesV xs).toArray) (.agg (bytesV ys).toArray)).run Try.prog w = .ok (.bool (decide (xs = ys))) w := by
  refine (run_eql_bytes w 62 5 32 under32 (by kernel_rfl) sizeByteRun xs ys hx hy).trans ?_
  congr 2
  rw [Bool.eq_iff_iff]
  simp
/-- A slot's cells: its state, its key, its value. -/
def slL (m : Nat) (s : Sl) : List Value := .int .i64 (s.st : Nat) :: (bytesV s.key ++ (s.val m).map (Value.int .i64))
def SlOK (m : Nat) (s : Sl) : Prop := s.key.length = 32 ∧ (s.val m).length = m
theorem SlOK.empty (m : Nat) : SlOK m .empty := ⟨by simp [Sl.key], by simp [Sl.val]⟩
theorem SlOK.dead (m : Nat) : SlOK m .dead := ⟨by simp [Sl.key], by simp [Sl.val]⟩
theorem Inv.slOK {m : Nat} {S : List Sl} (h : Inv m S) {p : Nat} {s : Sl} (hp : S[p]? = some s) : SlOK m s := by
  cases s with
  | empty => exact .empty m
  | dead => exact .dead m
  | full k v => obtain ⟨a, b, _⟩ := h.probe p k v hp; exact ⟨a, b⟩
theorem ints_one (l : List Int) : ∀ u ∈ l.map (Value.int .i64), u.oneCell' = true := by
  intro u hu
  obtain ⟨_, _, rfl⟩ := List.mem_map.1 hu
  rfl
theorem slL_len {m : Nat} {s : Sl} (h : SlOK m s) : (slL m s).length = 33 + m := by simp [slL, bytesV_length, h.1, h.2]; omega
theorem slL_one (m : Nat) (s : Sl) : ∀ u ∈ slL m s, u.oneCell' = true := by
  intro u hu
  unfold slL at hu
  rcases List.mem_cons.1 hu with rfl | hu
  · rfl
  · rcases List.mem_append.1 hu with hu | hu
    · exact bytesV_one _ u hu
    · exact ints_one _ u hu
theorem slL_0 (m : Nat) (s : Sl) : (slL m s)[0]? = some (.int .i64 (s.st : Nat)) := rfl
theorem slL_key {m : Nat} {s : Sl} {j : Nat} {u : Value} (h : (bytesV s.key)[j]? = some u) : (slL m s)[1 + j]? = some u := by
  unfold slL
  have hj := (List.getElem?_eq_some_iff.1 h).1
  rw [Nat.add_comm, List.getElem?_cons_succ, List.getElem?_append_left hj, h]
theorem slL_val {m : Nat} {s : Sl} (hs : SlOK m s) {j : Nat} {u : Value} (h : ((s.val m).map (Value.int .i64))[j]? = some u) : (slL m s)[33 + j]? = some u := by
  unfold slL
  rw [show 33 + j = (32 + j) + 1 by omega, List.getElem?_cons_succ, List.getElem?_append_right (by rw [bytesV_length, hs.1]; omega), bytesV_length, hs.1, show 32 + j - 32 = j by omega, h]
theorem grown_setC {g : Nat} : ∀ (vs : List Value) (o : Nat) (w : World), w.grownBy (w.setCells g o vs) (some g)
  | [], _, w => World.grownBy.refl w _
  | v :: r, o, w => by
    have h := grown_setC (g := g) r (o + 1) (w.setCell ⟨g, o, none⟩ v)
    have h0 := grownBy_set w g o v
    exact ⟨h.os.trans h0.os, h.tape.trans h0.tape, h.output.trans h0.output, Nat.le_trans h0.size h.size, fun k hk hne => (h.block k (Nat.lt_of_lt_of_le hk h0.size) hne).trans (h0.block k hk hne)⟩
/-- Slots in block b. -/
structure SlB (w : World) (b m : Nat) (S : List Sl) : Prop where
  at_ : ∀ (i : Nat) (s : Sl), S[i]? = some s → w.rangeAt b (i * (33 + m)) (slL m s)
  fr : ∀ q, w.frozen? ⟨b, q, none⟩ = false
  lt : b < w.heap.size
section
variable {w w' : World} {b m : Nat} {S : List Sl}
theorem SlB.st (h : SlB w b m S) {i : Nat} {s : Sl} (hi : S[i]? = some s) : w.cell? ⟨b, i * (33 + m), none⟩ = some (.int .i64 (s.st : Nat)) := by
  have := h.at_ i s hi 0 _ (slL_0 m s)
  simpa using this
theorem SlB.key (h : SlB w b m S) {i : Nat} {s : Sl} (hi : S[i]? = some s) : w.rangeAt b (i * (33 + m) + 1) (bytesV s.key) := fun j u hj => by
  rw [Nat.add_assoc]
  exact h.at_ i s hi (1 + j) u (slL_key hj)
theorem SlB.val (h : SlB w b m S) {i : Nat} {s : Sl} (hi : S[i]? = some s) (hs : SlOK m s) : w.rangeAt b (i * (33 + m) + 33) ((s.val m).map (Value.int .i64)) := fun j u hj => by
  rw [Nat.add_assoc]
  exact h.at_ i s hi (33 + j) u (slL_val hs hj)
theorem SlB.keep (h : SlB w b m S) (hk : w'.heap[b]? = w.heap[b]?) : SlB w' b m S := by
  refine ⟨fun i s hi j v hv => (World.cell?_of_block (w := w) hk).trans (h.at_ i s hi j v hv), fun q => ?_, ?_⟩
  · have := h.fr q
    unfold World.frozen? at this ⊢
    simp only [hk]
    exact this
  · have h1 := h.lt
    have : w'.heap[b]?.isSome := by rw [hk]; simp [h1]
    simpa using this
theorem SlB.still (h : SlB w b m S) (s : Still w w') : SlB w' b m S := h.keep (s.block b h.lt)
theorem SlB.chg {R : Nat → Prop} (h : SlB w b m S) (c : Chg w w' R) (hb : ¬ R b) : SlB w' b m S := h.keep (c.block b h.lt hb)
theorem SlB.there (h : SlB w b m S) {i : Nat} {s : Sl} (hi : S[i]? = some s) (hs : SlOK m s) : w.there b (i * (33 + m)) (33 + m) := fun j hj =>
  ⟨(h.at_ i s hi).isSome j (by rw [slL_len hs]; exact hj), h.fr _⟩
/-- A slot is written whole. -/
theorem SlB.set (h : SlB w b m S) (hO : ∀ (i : Nat) s, S[i]? = some s → SlOK m s) {i : Nat} {s x : Sl} (hi : S[i]? = some s) (hx : SlOK m x) : SlB (w.setCells b (i * (33 + m)) (slL m x)) b m (S.set i x) := by
  refine ⟨fun q y hq => ?_, fun q => by rw [World.frozen?_setCells]; exact h.fr q, ?_⟩
  · by_cases e : i = q
    · subst e
      rw [List.getElem?_set_self (List.getElem?_eq_some_iff.1 hi).1] at hq
      cases hq
      exact World.rangeAt_setCells_same _ _ _ _ (by rw [slL_len hx]; exact h.there hi (hO i s hi))
    · rw [List.getElem?_set_ne e] at hq
      refine World.rangeAt_setCells_apart (h.at_ q y hq) _ _ _ (.inr ?_)
      rw [slL_len hx, slL_len (hO q y hq)]
      rcases Nat.lt_or_gt_of_ne e with h1 | h1
      · right
        have : (i + 1) * (33 + m) ≤ q * (33 + m) := Nat.mul_le_mul_right _ h1
        rw [Nat.add_mul, Nat.one_mul] at this; omega
      · left
        have : (q + 1) * (33 + m) ≤ i * (33 + m) := Nat.mul_le_mul_right _ h1
        rw [Nat.add_mul, Nat.one_mul] at this; omega
  · have h1 := h.lt
    have h2 := (grown_setC (g := b) (slL m x) (i * (33 + m)) w).size
    omega
/-- A slot's value alone is written. -/
theorem SlB.setVal (h : SlB w b m S) (hO : ∀ (i : Nat) s, S[i]? = some s → SlOK m s) {i : Nat} {k : List UInt8} {v v' : List Int} (hi : S[i]? = some (Sl.full k v)) (hv : v'.length = m) : SlB (w.setCells b (i * (33 + m) + 33) (v'.map (Value.int .i64))) b m (S.set i (.full k v')) := by
  have hok := hO i _ hi
  have hvl : v.length = m := hok.2
  refine ⟨fun q y hq => ?_, fun q => by rw [World.frozen?_setCells]; exact h.fr q, ?_⟩
  · by_cases e : i = q
    · subst e
      rw [List.getElem?_set_self (List.getElem?_eq_some_iff.1 hi).1] at hq
      cases hq
      intro j u hj
      have hj2 : j < 33 + m := by
        have := (List.getElem?_eq_some_iff.1 hj).1
        rwa [slL_len (m := m) (s := .full k v') ⟨hok.1, hv⟩] at this
      by_cases h33 : j < 33
      · rw [World.cell?_setCells_out b _ _ w ⟨b, i * (33 + m) + j, none⟩ (fun _ _ => by left; show i * (33 + m) + j < i * (33 + m) + 33; omega)]
        refine h.at_ i _ hi j u ?_
        rw [← hj]
        unfold slL
        rcases j with _ | j
        · rfl
        · rw [List.getElem?_cons_succ, List.getElem?_cons_succ, List.getElem?_append_left (by rw [bytesV_length, hok.1]; omega), List.getElem?_append_left (by rw [bytesV_length]; have := hok.1; simp only [Sl.key] at this ⊢; omega)]
          rfl
      · have h4 : ∃ q, j = 33 + q := ⟨j - 33, by omega⟩
        obtain ⟨q, rfl⟩ := h4
        have hq : ((Sl.full k v').val m).map (Value.int .i64) = v'.map (Value.int .i64) := rfl
        have h5 : (v'.map (Value.int .i64))[q]? = some u := by
          rw [← hj]
          unfold slL
          rw [show 33 + q = (32 + q) + 1 by omega, List.getElem?_cons_succ, List.getElem?_append_right (by rw [bytesV_length]; have := hok.1; simp only [Sl.key] at this ⊢; omega), bytesV_length, show (Sl.full k v').key.length = 32 from hok.1, show 32 + q - 32 = q by omega]
          rfl
        rw [← Nat.add_assoc]
        refine World.rangeAt_setCells_same _ _ _ _ (fun j hj => ?_) q u h5
        rw [Nat.add_assoc]
        exact h.there hi hok (33 + j) (by rw [List.length_map, hv] at hj; omega)
    · rw [List.getElem?_set_ne e] at hq
      refine World.rangeAt_setCells_apart (h.at_ q y hq) _ _ _ (.inr ?_)
      rw [List.length_map, hv, slL_len (hO q y hq)]
      rcases Nat.lt_or_gt_of_ne e with h1 | h1
      · right
        have : (i + 1) * (33 + m) ≤ q * (33 + m) := Nat.mul_le_mul_right _ h1
        rw [Nat.add_mul, Nat.one_mul] at this; omega
      · left
        have : (q + 1) * (33 + m) ≤ i * (33 + m) := Nat.mul_le_mul_right _ h1
        rw [Nat.add_mul, Nat.one_mul] at this; omega
  · have h1 := h.lt
    have h2 := (grown_setC (g := b) (v'.map (Value.int .i64)) (i * (33 + m) + 33) w).size
    omega
end
/-- A table at g, its slots in block b. -/
structure TB (T : TypeId) (m : Nat) (w : World) (g b c : Nat) (S : List Sl) : Prop where
  box : Blk w g T #[.slice (some ⟨b, 0, none⟩) S.length c, .int .i64 (keysN S : Nat), .int .i64 (deadN S : Nat)]
  row : SlB w b m S
  inv : Inv m S
  ne : b ≠ g
  cap : S.length ≤ c ∧ c ≤ 9223372036854775807
section
variable {T : TypeId} {m : Nat} {w w' : World} {g b c : Nat} {S : List Sl}
theorem TB.still (h : TB T m w g b c S) (s : Still w w') : TB T m w' g b c S := ⟨h.box.still s, h.row.still s, h.inv, h.ne, h.cap⟩
theorem TB.chg {R : Nat → Prop} (h : TB T m w g b c S) (k : Chg w w' R) (hg : ¬ R g) (hb : ¬ R b) : TB T m w' g b c S := ⟨k.blk h.box hg, h.row.chg k hb, h.inv, h.ne, h.cap⟩
theorem TB.c0 (h : TB T m w g b c S) : w.cell? ⟨g, 0, none⟩ = some (.slice (some ⟨b, 0, none⟩) S.length c) := h.box.cell 0
theorem TB.c1 (h : TB T m w g b c S) : w.cell? ⟨g, 1, none⟩ = some (.int .i64 (keysN S : Nat)) := h.box.cell 1
theorem TB.c2 (h : TB T m w g b c S) : w.cell? ⟨g, 2, none⟩ = some (.int .i64 (deadN S : Nat)) := h.box.cell 2
theorem TB.len8 (h : TB T m w g b c S) : 8 ≤ S.length := h.inv.len8
end
/-- A key in a box. -/
theorem box_key (w : World) (k : List UInt8) : (w.alloc (.cells (bytesV k).toArray 62)).rangeAt w.heap.size 0 (bytesV k) := fun j u hj => by
  rw [(Blk.new w _ _).cell, Nat.zero_add, List.getElem?_toArray, hj]
end Go.Proofs.Ytgbkpbmilaafgaa

/- A key that came in: 32 bytes. It proves no statement. -/




namespace Go.Proofs.Ytgbkpbmilaafgaa
open Go.RowKit
set_option linter.unusedVariables false
set_option linter.unusedSimpArgs false

theorem Try.cells_id : Try.prog.cellsOf 62 = 32 := by kernel_rfl
theorem Try.cells_int0 : Try.prog.cellsOf 3 = 1 := by kernel_rfl
theorem Try.cells_byte0 : Try.prog.cellsOf 5 = 1 := by kernel_rfl
theorem trod_id {H : Type} {enc : TypeId × Value → H} {w : World} {base : Nat} {spare : Nat → Bool} {held : Bool} {fuel : Nat} {cs : List Value} {y : DataW H × List MemPlace} (hcl : cs.length = 32)
    (hf : DataW.trod enc Try.prog w base spare held fuel 62 cs = some y) : ∃ l : List UInt8, cs = bytesV l ∧ l.length = 32 := by
  obtain ⟨xs, m, _, _, hl, hxl, hat⟩ := DataW.trod_array under32 hf
  have hone : ∀ i (h : i < cs.length), ∃ b : UInt8, cs[i] = .int .u8 (b.toNat : Int) := fun i h => by
    have h1 := hat i (by omega)
    rw [Try.cells_byte0] at h1
    have hd : ((cs.drop (i * 1)).take 1) = [cs[i]] := by
      rw [Nat.mul_one, List.drop_eq_getElem_cons h]; rfl
    rw [hd, List.getElem?_eq_getElem (by omega)] at h1
    obtain ⟨a, ha, _, hw⟩ := DataW.trod_int Try.underlying5 h1
    have hb := bounds_u8 hw
    simp only [List.cons.injEq, and_true] at ha
    exact ⟨UInt8.ofNat a.toNat, by rw [ha, UInt8.toNat_ofNat']; congr 1; omega⟩
  refine ⟨cs.map fun v => match v with | .int _ a => UInt8.ofNat a.toNat | _ => 0, ?_, by simp [hcl]⟩
  unfold bytesV
  rw [List.map_map]
  apply List.ext_getElem (by simp)
  intro i h1 h2
  obtain ⟨b, hb⟩ := hone i h1
  rw [List.getElem_map]
  simp [hb]

set_option maxRecDepth 100000 in
theorem open_id {H : Type} {enc : TypeId × Value → H} {w w' : World} {base b0 : Nat} {spare : Nat → Bool} {held : Bool} {r : Reach} {v : Value} {d : DataW H} {p : List MemPlace}
    (hv : Value.okWide Try.prog w' r b0 62 v) (h : DataW.Trod enc Try.prog w base spare held 62 v d p) : ∃ l : List UInt8, v = .agg (bytesV l).toArray ∧ l.length = 32 := by
  simp only [Value.okWide, under32] at hv
  obtain ⟨cs, rfl, hs, _⟩ := hv
  obtain ⟨fuel, hf⟩ := h
  obtain ⟨xs, m, _, _, hl, hxl, hat⟩ := DataW.trod_array under32 hf
  obtain ⟨cs⟩ := cs
  have hcl : cs.length = 32 := by rw [Try.cells_id] at hl; simpa [Value.cells] using hl
  obtain ⟨l, e, h32⟩ := trod_id (cs := cs) hcl hf
  exact ⟨l, by rw [e], h32⟩
end Go.Proofs.Ytgbkpbmilaafgaa

/- A row that came in, of elements of so many cells each. It proves no statement. -/


namespace Go.Proofs.Ytgbkpbmilaafgaa
open Go.RowKit
set_option linter.unusedVariables false
set_option linter.unusedSimpArgs false

theorem list_of_each {α : Type} {n : Nat} {P : Nat → α → Prop} (h : ∀ i, i < n → ∃ x, P i x) : ∃ L : List α, L.length = n ∧ ∀ i x, L[i]? = some x → P i x := by
  induction n with
  | zero => exact ⟨[], rfl, fun i x hx => by simp at hx⟩
  | succ n ih =>
    obtain ⟨L, hL, hP⟩ := ih (fun i hi => h i (by omega))
    obtain ⟨x, hx⟩ := h n (by omega)
    refine ⟨L ++ [x], by simp [hL], fun i y hy => ?_⟩
    by_cases hi : i < n
    · rw [List.getElem?_append_left (by omega)] at hy
      exact hP i y hy
    · rw [List.getElem?_append_right (by omega)] at hy
      have hi' : i - L.length = 0 := by
        rcases Nat.eq_zero_or_pos (i - L.length) with h0 | h0
        · exact h0
        · rw [List.getElem?_eq_none (by simp; omega)] at hy; cases hy
      rw [hi'] at hy
      simp only [List.getElem?_cons_zero, Option.some.injEq] at hy
      subst hy
      obtain rfl : i = n := by omega
      exact hx
/-- A row that came in: elements of m cells. -/
structure FxRow (w : World) (A : Option Addr) (n c m : Nat) (E : List (List Value)) : Prop where
  at_ : ∀ (i : Nat) (x : List Value), E[i]? = some x → ∃ b o, A = some ⟨b, o, none⟩ ∧ b < w.heap.size ∧ w.rangeAt b (o + i * m) x
  len : E.length = n
  fit : n ≤ c
  cap : c ≤ 9223372036854775807
theorem open_row {H : Type} {enc : TypeId × Value → H} {w : World} {held : Bool} {fuel : Nat} {cs : List Value} {y : DataW H × List MemPlace} {T t : TypeId} (m : Nat) (Q : List Value → Prop) (hT : Try.prog.underlying T = some (.slice t)) (hm0 : 0 < m)
    (hcells : Try.prog.cellsOf t = m) (hQ : ∀ {fuel : Nat} {l : List Value} {y : DataW H × List MemPlace}, l.length = m → DataW.trod enc Try.prog w 0 (fun _ => true) held fuel t l = some y → Q l)
    (hf : DataW.trod enc Try.prog w 0 (fun _ => true) held fuel T cs = some y) :
    ∃ A n c E, cs = [.slice A n c] ∧ FxRow w A n c m E ∧ ∀ x ∈ E, Q x ∧ x.length = m := by
  rcases DataW.trod_slice hT hf with ⟨e, _⟩ | ⟨a, len, cap, elems, rest, fm, _, e, _, _, hl, hm, hel, hi, _, _⟩
  · exact ⟨none, 0, 0, [], e, { at_ := fun i x hx => by simp at hx, len := rfl, fit := Nat.le_refl _, cap := by omega }, fun x hx => by cases hx⟩
  · have each : ∀ i, i < len → ∃ x : List Value, (∃ b o, (some a : Option Addr) = some ⟨b, o, none⟩ ∧ b < w.heap.size ∧ w.rangeAt b (o + i * m) x) ∧ Q x ∧ x.length = m := fun i hlt => by
      have h1 := hi i hlt
      rw [List.getElem?_eq_getElem (by omega), hcells, Option.bind_eq_some_iff] at h1
      obtain ⟨l, hl1, hl2⟩ := h1
      have hc := World.cells?_some hl1
      have hll : l.length = m := by first | exact hc.1 | exact hc.2.1
      have hcell : ∀ j u, l[j]? = some u → w.cell? ((a.add (i * m)).add j) = some u := fun j u hj => by
        have hlt2 : j < m := by
          have h := (List.getElem?_eq_some_iff.1 hj).1
          omega
        first
          | exact (hc.2.2 j hlt2).trans hj
          | exact (hc.2 j hlt2).trans hj
          | exact (hc j hlt2).trans hj
      obtain ⟨b, o, sp⟩ := a
      have hsp : sp = none := by
        have h00 := hi 0 (by omega)
        rw [List.getElem?_eq_getElem (by omega), hcells, Option.bind_eq_some_iff] at h00
        obtain ⟨l0, q1, _⟩ := h00
        obtain ⟨q0, q2, q3⟩ := World.cells?_some q1
        have q4 := q3 0 (by omega)
        rw [List.getElem?_eq_getElem (by omega)] at q4
        simpa [Addr.add] using World.cell?_spot q4
      subst hsp
      have hat : ∀ j u, l[j]? = some u → w.cell? ⟨b, o + i * m + j, none⟩ = some u := fun j u hj => by
        have h := hcell j u hj
        rwa [Addr.add_lit, Addr.add_lit] at h
      exact ⟨l, ⟨b, o, rfl, by simpa using World.block_lt_of_cell? w _ (hat 0 _ (List.getElem?_eq_getElem (by omega))), hat⟩, hQ hll hl2, hll⟩
    obtain ⟨L, hL, hP⟩ := list_of_each each
    refine ⟨some a, len, cap, L, e, { at_ := fun i x hx => (hP i x hx).1, len := hL, fit := hl, cap := by unfold maxLen at hm; omega }, fun x hx => ?_⟩
    obtain ⟨i, hi2⟩ := List.mem_iff_getElem?.1 hx
    exact (hP i x hi2).2
theorem list_of_all {α β : Type} (f : α → β) (P : α → Prop) : ∀ E : List β, (∀ x ∈ E, ∃ a, x = f a ∧ P a) → ∃ L : List α, E = L.map f ∧ ∀ a ∈ L, P a
  | [], _ => ⟨[], rfl, fun a h => by cases h⟩
  | x :: r, h => by
    obtain ⟨a, rfl, ha⟩ := h x (by simp)
    obtain ⟨L, hL, hP⟩ := list_of_all f P r (fun y hy => h y (by simp [hy]))
    refine ⟨a :: L, by rw [List.map_cons, hL], fun b hb => ?_⟩
    rcases List.mem_cons.1 hb with rfl | hb
    · exact ha
    · exact hP b hb
end Go.Proofs.Ytgbkpbmilaafgaa

/- Contracts: rows of bytes copied, cut. It proves no statement. -/

namespace Go.Proofs.Ytgbkpbmilaafgaa
open Go.RowKit
set_option linter.unusedVariables false
set_option linter.unusedSimpArgs false

/-- At most k bytes of a slice, k at least one. -/
theorem cut_any (A : Option Addr) (n c k : Nat) (l : List UInt8) (w : World) (B : Nat) (h : Reads w B A n l) (hc : n ≤ c) (hm : c ≤ 9223372036854775807) (hk : 1 ≤ k) :
    Calls Try.prog 17 #[.slice A n c, .int .i64 k] w fun e w' => e = .returned (.slice A (min n k) c) ∧ w = w' := by
  by_cases hlt : k < n
  · obtain ⟨b, o, rfl, hb, hcc⟩ := h.at_ (by omega)
    have hmin : min n k = k := by omega
    rw [hmin]
    go_enter Try.func17, Try.ntmps17
    go_wp2
    go_ret
    exact ⟨rfl, rfl⟩
  · have hmin : min n k = n := by omega
    rw [hmin]
    go_enter Try.func17, Try.ntmps17
    go_wp2
    go_ret
    exact ⟨rfl, rfl⟩

/-- A copy in memory of the call's own. -/
theorem copy_any (A : Option Addr) (n c : Nat) (l : List UInt8) (w : World) (B : Nat) (h : Reads w B A n l) (hn : n ≤ 140737488355328) (hA : A = none → n = 0 ∧ c = 0) :
    Calls Try.prog 18 #[.slice A n c] w fun e w' => (∃ v, e = .returned v ∧ w'.ownsRow w.heap.size 5 1 v n (bytesV l)) ∧ Still w w' := by
  go_enter Try.func18, Try.ntmps18
  go_wp2_with (at_builtin; go_must (refine wpList_adds _ rfl _ _ rfl w.heap.size _ 0 [] rfl (World.ownsRow_nil _ _ _ _) _ n c B l rfl h (fun e => (hA e).2) ?c1 ?c2 ?_))
  case c1 => omega
  case c2 => exact Nat.le_refl _
  intro v' w' hown hg _
  have hst : Still w w' := (Below.refl _ _).grown hg (Nat.le_refl _) (fun k hk => by simp [Value.ownBlock] at hk)
  have hown' : w'.ownsRow w.heap.size 5 1 v' n (bytesV l) := by simpa using hown
  clear hg hown
  go_wp2_with fail
  go_ret
  exact ⟨⟨_, rfl, hown'⟩, hst⟩

end Go.Proofs.Ytgbkpbmilaafgaa
