/- Contracts and facts, several texts in one. It proves no statement. -/
import Derived.Test.YtmpnehhndhepgaaDoorRows
import Derived.WalkKit
import Derived.WalkLawsBesides
import Derived.WalkSpells
import Derived.Laws.AppendOwnNone
import Derived.Maps.AppendAt
import Derived.Deep.Draws
import Derived.Deep.AppendLies
import Derived.Lib.Hide
import Derived.ProofKit
import Derived.OpenShut
import Derived.Outline
import Derived.Deep.DeepMust
import Derived.Deep.QuietTactic
import Derived.BigQuiet
import Derived.RegionTactic
import Derived.ChangeAlike
import Derived.BigRegion
import Derived.Laws.BitsAllLaws
import Derived.Laws.IdiomStrings
import Derived.Laws.BytesArg
import Derived.Deep.WholeRow
import Derived.Great.Walk
import Derived.Great.BuildSlice
import Derived.Deep.RegionHeld3
import Derived.Deep.DeepCutAuto

/- Words for memory that the other texts of this seat use: bytes as values, a slice that reads as bytes, worlds in which nothing that was there has turned. It proves no statement. -/











namespace Go.Proofs.YtmpnehhndhepgaaDoor
open Go.RowKit Go.ChangeShapes Go.WideShapes Go.ChangeAt
set_option linter.unusedVariables false
set_option linter.unusedSimpArgs false

/-- Bytes as the model's values. -/
def bytesV (l : List UInt8) : List Value := l.map (fun b => Value.int .u8 (b.toNat : Int))

theorem bytesV_length (l : List UInt8) : (bytesV l).length = l.length := by simp [bytesV]
theorem bytesV_nil : bytesV [] = [] := rfl
theorem bytesV_append (a b : List UInt8) : bytesV (a ++ b) = bytesV a ++ bytesV b := by simp [bytesV]
theorem bytesV_one (l : List UInt8) : ∀ u ∈ bytesV l, u.oneCell' = true := by
  intro u hu
  obtain ⟨_, _, rfl⟩ := List.mem_map.1 hu
  rfl
theorem bytesV_get (l : List UInt8) (i : Nat) (h : i < l.length) : (bytesV l)[i]? = some (Value.int .u8 ((l.getD i 0).toNat : Int)) := by
  simp [bytesV, h]
theorem bytesV_set (l : List UInt8) (i : Nat) (b : UInt8) : (bytesV l).set i (Value.int .u8 (b.toNat : Int)) = bytesV (l.set i b) := by
  simp [bytesV, List.map_set]
theorem bytesV_rep (n : Nat) : List.replicate n (Value.int .u8 0) = bytesV (List.replicate n 0) := by simp [bytesV]
theorem bytesV_take (l : List UInt8) (k : Nat) : bytesV (l.take k) = (bytesV l).take k := by simp [bytesV, List.map_take]
theorem bytesV_drop (l : List UInt8) (k : Nat) : bytesV (l.drop k) = (bytesV l).drop k := by simp [bytesV, List.map_drop]

/-- Nothing that was there has turned. -/
abbrev Still (w w' : World) : Prop := Below w.heap.size w w'
theorem Still.refl (w : World) : Still w w := Below.refl _ _
theorem Still.trans {a b c : World} (h : Still a b) (k : Still b c) : Still a c := Below.trans h (k.mono h.size)

/-- The slice at A, of n bytes, reads as l, below block B. -/
def Reads (w : World) (B : Nat) (A : Option Addr) (n : Nat) (l : List UInt8) : Prop :=
  l.length = n ∧ (0 < n → ∃ b o, A = some ⟨b, o, none⟩ ∧ b < B ∧ ∀ i, i < n → w.cell? ⟨b, o + i, none⟩ = some (Value.int .u8 ((l.getD i 0).toNat : Int)))

section
variable {w w' : World} {B B' n : Nat} {A : Option Addr} {l : List UInt8}
theorem Reads.len (h : Reads w B A n l) : l.length = n := h.1
theorem Reads.nil0 : Reads w B A 0 [] := ⟨rfl, fun h => absurd h (by omega)⟩
theorem Reads.at_ (h : Reads w B A n l) (hn : 0 < n) : ∃ b o, A = some ⟨b, o, none⟩ ∧ b < B ∧ ∀ i, i < n → w.cell? ⟨b, o + i, none⟩ = some (Value.int .u8 ((l.getD i 0).toNat : Int)) := h.2 hn
theorem Reads.keep (h : Reads w B A n l) (hk : ∀ p : Addr, p.block < B → w'.cell? p = w.cell? p) : Reads w' B A n l :=
  ⟨h.1, fun hn => by
    obtain ⟨b, o, e, hb, hc⟩ := h.2 hn
    exact ⟨b, o, e, hb, fun i hi => (hk _ hb).trans (hc i hi)⟩⟩
theorem Reads.more (h : Reads w B A n l) (hB : B ≤ B') : Reads w B' A n l :=
  ⟨h.1, fun hn => by
    obtain ⟨b, o, e, hb, hc⟩ := h.2 hn
    exact ⟨b, o, e, by omega, hc⟩⟩
theorem Reads.below (h : Reads w B A n l) (hb : Below B w w') : Reads w' B A n l := h.keep fun _ hp => hb.cell hp
theorem Reads.still (h : Reads w B A n l) (hB : B ≤ w.heap.size) (hb : Still w w') : Reads w' B A n l := h.below (hb.mono hB)
theorem Reads.news (h : Reads w B A n l) : ∀ ad, A = some ad → 0 < n → ∀ j u, (bytesV l)[j]? = some u → w.cell? (ad.add j) = some u := by
  intro ad hA hn j u hu
  obtain ⟨b, o, e, _, hc⟩ := h.2 hn
  rw [e] at hA
  obtain rfl := Option.some.inj hA
  have hj : j < l.length := by
    have := (List.getElem?_eq_some_iff.1 hu).1
    rwa [bytesV_length] at this
  rw [bytesV_get l j hj] at hu
  rw [Addr.add_lit]
  rw [← hu]
  exact hc j (by rw [← h.1]; exact hj)
theorem Reads.take (h : Reads w B A n l) (k : Nat) : Reads w B A (min n k) (l.take k) := by
  refine ⟨by rw [List.length_take, h.1]; omega, fun hn => ?_⟩
  obtain ⟨b, o, e, hb, hc⟩ := h.2 (by omega)
  refine ⟨b, o, e, hb, fun i hi => ?_⟩
  rw [hc i (by omega)]
  have : (l.take k).getD i 0 = l.getD i 0 := by simp [List.getD, List.getElem?_take, show i < k by omega]
  rw [this]
theorem Reads.cellAt {b o : Nat} (h : Reads w B (some ⟨b, o, none⟩) n l) (i : Nat) (hi : i < n) : w.cell? ⟨b, o + i, none⟩ = some (Value.int .u8 ((l.getD i 0).toNat : Int)) := by
  obtain ⟨b', o', e, _, hc⟩ := h.2 (by omega)
  simp only [Option.some.injEq, Addr.mk.injEq, and_true] at e
  obtain ⟨rfl, rfl⟩ := e
  exact hc i hi
/-- What the call owns reads. -/
theorem Reads.of_own {base cap : Nat} (h : w.ownsRow base 5 1 (.slice A n cap) n (bytesV l)) : Reads w w.heap.size A n l := by
  have hl : l.length = n := by have := h.1; rw [bytesV_length] at this; omega
  refine ⟨hl, fun hn => ?_⟩
  rcases h.2 with ⟨_, h0⟩ | ⟨g, c, cur, hv, _, hg, _⟩
  · omega
  · have e : A = some ⟨g, 0, none⟩ := by injection hv
    subst e
    refine ⟨g, 0, rfl, (Array.getElem?_eq_some_iff.1 hg).1, fun i hi => ?_⟩
    have := h.cellAt i (by omega)
    rw [Nat.zero_add, this, bytesV_get l i (by omega)]
end

theorem Tryd.infoByte : (Tryd.prog.info? 5).map (fun i => (i.zero, i.size, i.bytes)) = some (some (.int .u8 0), 1, 1) := by kernel_rfl

/-- The bytes of a constant text, laid as a row of its own. -/
theorem const_reads (w : World) (l : List UInt8) (fr : Nat × Nat) : Reads (w.alloc (.cells (bytesV l).toArray 5 fr)) (w.heap.size + 1) (some ⟨w.heap.size, 0, none⟩) l.length l := by
  refine ⟨rfl, fun hn => ⟨w.heap.size, 0, rfl, by omega, fun i hi => ?_⟩⟩
  have hh : (w.alloc (.cells (bytesV l).toArray 5 fr)).heap[w.heap.size]? = some (.cells (bytesV l).toArray 5 fr) := heap_alloc_new w _
  rw [Nat.zero_add, cell_of_row _ w.heap.size i _ _ fr hh]
  have := bytesV_get l i hi
  simpa using this

/-- What is told of a slice of integers that came in. -/
def RowIn (k : IntKind) (w : World) (a : Option Addr) (len cap : Nat) (zs : List Int) : Prop :=
  (a = none ∧ len = 0 ∧ cap = 0 ∧ zs = []) ∨
  ∃ x, a = some x ∧ len ≤ cap ∧ cap ≤ maxLen ∧ zs.length = cap ∧ (∀ i, i < zs.length → w.cell? (x.add i) = some (.int k (zs.getD i 0))) ∧ ∀ n ∈ zs, (Lit.int k n).wf = true
/-- Bytes that came in read. -/
theorem reads_of_row {w : World} {a : Option Addr} {len cap : Nat} {zs : List Int} (h : RowIn .u8 w a len cap zs) :
    ∃ l, Reads w w.heap.size a len l ∧ len ≤ cap ∧ cap ≤ 9223372036854775807 ∧ (a = none → len = 0 ∧ cap = 0) := by
  rcases h with ⟨rfl, rfl, rfl, rfl⟩ | ⟨x, rfl, hl, hm, hz, hc, hw⟩
  · exact ⟨[], Reads.nil0, Nat.le_refl _, by omega, fun _ => ⟨rfl, rfl⟩⟩
  · refine ⟨(zs.take len).map (fun z => UInt8.ofNat z.toNat), ⟨by simp; omega, fun hn => ?_⟩, hl, by unfold maxLen at hm; omega, fun e => by cases e⟩
    obtain ⟨b, o, sp⟩ := x
    have h0 := hc 0 (by omega)
    have hsp : sp = none := by simpa [Addr.add] using World.cell?_spot h0
    subst hsp
    refine ⟨b, o, rfl, by simpa [Addr.add] using World.block_lt_of_cell? w _ h0, fun i hi => ?_⟩
    have hi' := hc i (by omega)
    rw [Addr.add_lit] at hi'
    rw [hi']
    have hb := hw (zs.getD i 0) (by
      simp only [List.getD, List.getElem?_eq_getElem (show i < zs.length by omega), Option.getD_some]
      exact List.getElem_mem _)
    have hbb : 0 ≤ zs.getD i 0 ∧ zs.getD i 0 ≤ 255 := bounds_u8 hb
    have e : (((zs.take len).map (fun z => UInt8.ofNat z.toNat)).getD i 0).toNat = (zs.getD i 0).toNat := by
      have e1 : ((zs.take len).map (fun z => UInt8.ofNat z.toNat)).getD i 0 = UInt8.ofNat (zs.getD i 0).toNat := by
        simp [List.getD, hi, show i < zs.length by omega]
      rw [e1]
      simp only [UInt8.toNat_ofNat']
      omega
    rw [e]
    congr 2
    omega

/-- What the call owns is a slice. -/
theorem own_form {w : World} {base n : Nat} {v : Value} {xs : List Value} (h : w.ownsRow base 5 1 v n xs) :
    ∃ A c, v = .slice A n c ∧ n ≤ c ∧ c ≤ 9223372036854775807 ∧ (A = none → n = 0 ∧ c = 0) := by
  rcases h.2 with ⟨rfl, rfl⟩ | ⟨g, cap, cur, rfl, _, _, hnc, hm, _⟩
  · exact ⟨none, 0, rfl, Nat.le_refl _, by omega, fun _ => ⟨rfl, rfl⟩⟩
  · exact ⟨_, cap, rfl, hnc, by unfold maxLen at hm; omega, fun e => by cases e⟩
/-- What the call owns stays where nothing that was there turns. -/
theorem own_still {w w' : World} {base n : Nat} {v : Value} {xs : List Value} (h : w.ownsRow base 5 1 v n xs) (hs : Still w w') : w'.ownsRow base 5 1 v n xs := by
  refine h.kept (row := none) ⟨hs.os, hs.tape, hs.output, hs.size, fun k hk _ => hs.block k hk⟩ ?_
  cases v.ownBlock <;> simp

/-- 'b = append(b, e)': one byte more on a row of the call's own. -/
theorem wpList_push (w : World) {ops : Array Oper} {rest : List Oper} {o : Oper} {a : Act} {Q : Exit → Act → World → Prop} (hgd : o.guard = none) (s x : Operand)
    (ho : o.op = .call { callee := .builtin .append, args := #[s, x], argTypes := #[22, 22] })
    (base : Nat) (v : Value) (n : Nat) (l : List UInt8) (hs : a.eval s = v) (hown : w.ownsRow base 5 1 v n (bytesV l)) (e : Int) (b : UInt8)
    (hx : a.eval x = .slice (some ⟨w.heap.size, 0, none⟩) 1 1) (he : e = (b.toNat : Int)) (hn : n < 140737488355328) (hbase : base ≤ w.heap.size)
    (h : ∀ v' w', w'.ownsRow base 5 1 v' (n + 1) (bytesV (l ++ [b])) → w.grownBy w' v.ownBlock → (v' = .slice none 0 0 → False) → wpList Tryd.prog ops Q rest (a.put o.dst v') w') :
    wpList Tryd.prog ops Q (o :: rest) a (w.alloc (.cells #[.int .u8 e] 5)) := by
  obtain ⟨i0, hi, hz0, hz1, hz2⟩ := info_parts Tryd.infoByte
  subst he
  refine wpList_append_own _ hgd s x 22 ho base 5 i0 (.int .u8 0) 1 1 Tryd.underlying22 hi hz0 hz1 hz2 rfl (by decide) v n _ hs (hown.alloc _) ⟨w.heap.size, 0, none⟩ 1 1 (bytesV [b]) hx rfl ?_ (bytesV_one _) (by unfold maxLen; omega) (by omega) (by simp; omega) ?_
  · intro j u hu
    match j, hu with
    | 0, hu => simp [bytesV] at hu; subst hu; simp [Addr.add]
  · intro v' w' h2 h3 h4
    rw [← bytesV_append] at h2
    refine h v' w' h2 ⟨h3.os, h3.tape, h3.output, by have := h3.size; simp at this; omega, fun k hk hne => ?_⟩ ?_
    · rw [h3.block k (by simp; omega) hne]
      exact Below.heap_alloc w _ k hk
    · intro e
      exact absurd (h4.1 e).2 (by decide)

/-- 'append(b, c...)': bytes that lie anywhere on a row of the call's own. -/
theorem run_adds (w : World) (ty : TypeId) (base : Nat) (v : Value) (n : Nat) (l : List UInt8) (hown : w.ownsRow base 5 1 v n (bytesV l)) (A : Option Addr) (n' c' : Nat) (B : Nat) (l' : List UInt8)
    (hr : Reads w B A n' l') (hA : A = none → c' = 0) (hn : n + n' ≤ 140737488355328) (hbase : base ≤ w.heap.size) :
    ∃ v' w', (Builtin.append_ #[22, 22] ty #[v, .slice A n' c']).run Tryd.prog w = .ok v' w' ∧ w'.ownsRow base 5 1 v' (n + n') (bytesV (l ++ l')) ∧ w.grownBy w' v.ownBlock ∧ (v' = .slice none 0 0 → v = .slice none 0 0 ∧ n' = 0) := by
  obtain ⟨i0, hi, hz0, hz1, hz2⟩ := info_parts Tryd.infoByte
  rcases A with _ | ad
  · have h0 : n' = 0 := by
      rcases Nat.eq_zero_or_pos n' with h0 | h0
      · exact h0
      · obtain ⟨_, _, e, _⟩ := hr.2 h0
        cases e
    subst h0
    have hl : l' = [] := List.eq_nil_of_length_eq_zero hr.1
    subst hl
    obtain rfl := hA rfl
    exact ⟨v, w, run_append_owned_none (P := Tryd.prog) w base 22 ty 5 i0 1 Tryd.underlying22 hi v n _ hown, by simpa using hown, World.grownBy.refl _ _, fun e => ⟨e, rfl⟩⟩
  · have hnews : ∀ j u, (bytesV l')[j]? = some u → w.cell? (ad.add j) = some u := by
      intro j u hu
      rcases Nat.eq_zero_or_pos n' with h0 | h0
      · subst h0
        have hl : l' = [] := List.eq_nil_of_length_eq_zero hr.1
        subst hl
        simp [bytesV] at hu
      · exact hr.news ad rfl h0 j u hu
    obtain ⟨v', w', hrun, h2, h3, h4⟩ := run_append_own (P := Tryd.prog) w base 22 ty 5 i0 (.int .u8 0) 1 1 Tryd.underlying22 hi hz0 hz1 hz2 rfl (by decide) v n _ hown ad n' c' (bytesV l') (by rw [bytesV_length, hr.1]; omega) hnews (bytesV_one _) (by unfold maxLen; omega) (by omega) hbase
    rw [← bytesV_append] at h2
    exact ⟨v', w', hrun, h2, h3, h4.1⟩
theorem wp_adds (w : World) {o : Oper} {a : Act} {K : Act → World → Prop} {Q : Exit → Act → World → Prop} (s x : Operand)
    (ho : o.op = .call { callee := .builtin .append, args := #[s, x], argTypes := #[22, 22] })
    (base : Nat) (v : Value) (n : Nat) (l : List UInt8) (hs : a.eval s = v) (hown : w.ownsRow base 5 1 v n (bytesV l)) (A : Option Addr) (n' c' : Nat) (B : Nat) (l' : List UInt8)
    (hx : a.eval x = .slice A n' c') (hr : Reads w B A n' l') (hA : A = none → c' = 0) (hn : n + n' ≤ 140737488355328) (hbase : base ≤ w.heap.size)
    (h : ∀ v' w', w'.ownsRow base 5 1 v' (n + n') (bytesV (l ++ l')) → w.grownBy w' v.ownBlock → (v' = .slice none 0 0 → v = .slice none 0 0 ∧ n' = 0) → K (a.put o.dst v') w') : o.wp Tryd.prog a w K Q := by
  obtain ⟨v', w', hrun, h2, h3, h4⟩ := run_adds w o.type base v n l hown A n' c' B l' hr hA hn hbase
  unfold Oper.wp execOp
  simp only [ho, resolve, invoke, builtin, Sem.run_bind, Sem.run_pure, Result.andThen_ok, List.map_toArray, List.map_cons, List.map_nil, hs, hx, hrun]
  exact h v' w' h2 h3 h4
theorem wpList_adds (w : World) {ops : Array Oper} {rest : List Oper} {o : Oper} {a : Act} {Q : Exit → Act → World → Prop} (hgd : o.guard = none) (s x : Operand)
    (ho : o.op = .call { callee := .builtin .append, args := #[s, x], argTypes := #[22, 22] })
    (base : Nat) (v : Value) (n : Nat) (l : List UInt8) (hs : a.eval s = v) (hown : w.ownsRow base 5 1 v n (bytesV l)) (A : Option Addr) (n' c' : Nat) (B : Nat) (l' : List UInt8)
    (hx : a.eval x = .slice A n' c') (hr : Reads w B A n' l') (hA : A = none → c' = 0) (hn : n + n' ≤ 140737488355328) (hbase : base ≤ w.heap.size)
    (h : ∀ v' w', w'.ownsRow base 5 1 v' (n + n') (bytesV (l ++ l')) → w.grownBy w' v.ownBlock → (v' = .slice none 0 0 → v = .slice none 0 0 ∧ n' = 0) → wpList Tryd.prog ops Q rest (a.put o.dst v') w') :
    wpList Tryd.prog ops Q (o :: rest) a w :=
  wpList_plain hgd fun _ hK => wp_adds w s x ho base v n l hs hown A n' c' B l' hx hr hA hn hbase fun v' w' h2 h3 h4 => hK _ _ (h v' w' h2 h3 h4)
/-- The same at a step of a region that draws its order. -/
theorem step_adds (w : World) {ops : Array Oper} {o : Oper} {a : Act} {K : Act → World → Prop} {Q : Exit → Act → World → Prop} {E : Prop} (hgd : o.guard = none) (s x : Operand)
    (ho : o.op = .call { callee := .builtin .append, args := #[s, x], argTypes := #[22, 22] })
    (base : Nat) (v : Value) (n : Nat) (l : List UInt8) (hs : a.eval s = v) (hown : w.ownsRow base 5 1 v n (bytesV l)) (A : Option Addr) (n' c' : Nat) (B : Nat) (l' : List UInt8)
    (hx : a.eval x = .slice A n' c') (hr : Reads w B A n' l') (hA : A = none → c' = 0) (hn : n + n' ≤ 140737488355328) (hbase : base ≤ w.heap.size)
    (h : ∀ v' w', w'.ownsRow base 5 1 v' (n + n') (bytesV (l ++ l')) → w.grownBy w' v.ownBlock → (v' = .slice none 0 0 → v = .slice none 0 0 ∧ n' = 0) → K (a.put o.dst v') w') :
    if Region.wanted o (yielded ops a.tmps) = true then Oper.wp Tryd.prog o a w K Q else E := by
  have hw : Region.wanted o (yielded ops a.tmps) = true := by simp [Region.wanted, hgd]
  rw [if_pos hw]
  exact wp_adds w s x ho base v n l hs hown A n' c' B l' hx hr hA hn hbase h

/-- 'append(b, e)' at a step of a region that draws its order; the new byte lies in a box of its own. -/
theorem run_push (w : World) (ty : TypeId) (base : Nat) (v : Value) (n : Nat) (l : List UInt8) (hown : w.ownsRow base 5 1 v n (bytesV l)) (g : Nat) (b : UInt8)
    (hc : w.cell? ⟨g, 0, none⟩ = some (.int .u8 (b.toNat : Int))) (hn : n < 140737488355328) (hbase : base ≤ w.heap.size) :
    ∃ v' w', (Builtin.append_ #[22, 22] ty #[v, .slice (some ⟨g, 0, none⟩) 1 1]).run Tryd.prog w = .ok v' w' ∧ w'.ownsRow base 5 1 v' (n + 1) (bytesV (l ++ [b])) ∧ w.grownBy w' v.ownBlock ∧ (v'.ownBlock = v.ownBlock ∨ v'.ownBlock = some w.heap.size) := by
  obtain ⟨i0, hi, hz0, hz1, hz2⟩ := info_parts Tryd.infoByte
  obtain ⟨v', w', hrun, h2, h3, _, h5⟩ := run_append_own_at (P := Tryd.prog) w base 22 ty 5 i0 (.int .u8 0) 1 1 Tryd.underlying22 hi hz0 hz1 hz2 rfl (by decide) v n _ hown ⟨g, 0, none⟩ 1 1 (bytesV [b]) rfl (fun j u hu => by
    match j, hu with
    | 0, hu => simp [bytesV] at hu; subst hu; simpa [Addr.add] using hc) (bytesV_one _) (by unfold maxLen; omega) (by omega) hbase
  rw [← bytesV_append] at h2
  exact ⟨v', w', hrun, h2, h3, h5⟩
theorem step_push (w : World) {ops : Array Oper} {o : Oper} {a : Act} {K : Act → World → Prop} {Q : Exit → Act → World → Prop} {E : Prop} (hgd : o.guard = none) (s x : Operand)
    (ho : o.op = .call { callee := .builtin .append, args := #[s, x], argTypes := #[22, 22] })
    (base : Nat) (v : Value) (n : Nat) (l : List UInt8) (hs : a.eval s = v) (hown : w.ownsRow base 5 1 v n (bytesV l)) (g : Nat) (b : UInt8)
    (hx : a.eval x = .slice (some ⟨g, 0, none⟩) 1 1) (hc : w.cell? ⟨g, 0, none⟩ = some (.int .u8 (b.toNat : Int))) (hn : n < 140737488355328) (hbase : base ≤ w.heap.size)
    (h : ∀ v' w', w'.ownsRow base 5 1 v' (n + 1) (bytesV (l ++ [b])) → w.grownBy w' v.ownBlock → (v'.ownBlock = v.ownBlock ∨ v'.ownBlock = some w.heap.size) → K (a.put o.dst v') w') :
    if Region.wanted o (yielded ops a.tmps) = true then Oper.wp Tryd.prog o a w K Q else E := by
  have hw : Region.wanted o (yielded ops a.tmps) = true := by simp [Region.wanted, hgd]
  rw [if_pos hw]
  obtain ⟨v', w', hrun, h2, h3, h4⟩ := run_push w o.type base v n l hown g b hc hn hbase
  unfold Oper.wp execOp
  simp only [ho, resolve, invoke, builtin, Sem.run_bind, Sem.run_pure, Result.andThen_ok, List.map_toArray, List.map_cons, List.map_nil, hs, hx, hrun]
  exact h v' w' h2 h3 h4

end Go.Proofs.YtmpnehhndhepgaaDoor

/- Contracts: which numbers of bytes make a number. It proves no statement. -/



namespace Go.Proofs.YtmpnehhndhepgaaDoor
open Go.RowKit
set_option linter.unusedVariables false
set_option linter.unusedSimpArgs false

theorem fits_yes (n : Int) (w : World) (h1 : 1 ≤ n) (h2 : n ≤ 8) :
    Calls Tryd.prog 81 #[.int .i64 n] w fun e w' => e = .returned (.bool true) ∧ w = w' := by
  go_enter Tryd.func81, Tryd.ntmps81
  go_wp2
  go_ret
  exact ⟨rfl, rfl⟩
theorem fits_no (n : Int) (w : World) (h : n < 1 ∨ 8 < n) :
    Calls Tryd.prog 81 #[.int .i64 n] w fun e w' => e = .returned (.bool false) ∧ w = w' := by
  rcases h with h | h
  · go_enter Tryd.func81, Tryd.ntmps81
    go_wp2
    go_ret
    exact ⟨rfl, rfl⟩
  · have h1 : 1 ≤ n := by omega
    have h2 : decide (n ≤ 8) = false := by simp; omega
    go_enter Tryd.func81, Tryd.ntmps81
    go_wp2
    go_ret
    exact ⟨rfl, rfl⟩
end Go.Proofs.YtmpnehhndhepgaaDoor

/- Contracts: a number as bytes. It proves no statement. -/



namespace Go.Proofs.YtmpnehhndhepgaaDoor
open Go.RowKit
set_option linter.unusedVariables false

def leBytes (x n : Nat) : List UInt8 := (List.range n).map (fun i => UInt8.ofNat (x / 2 ^ (8 * i)))
theorem leBytes_length (x n : Nat) : (leBytes x n).length = n := by simp [leBytes]
theorem leBytes_succ (x n : Nat) : leBytes x (n + 1) = leBytes x n ++ [UInt8.ofNat (x / 2 ^ (8 * n))] := by simp [leBytes, List.range_succ]

theorem byte_cast (y : Nat) : ((UInt8.ofNat y).toNat : Int) = (y : Int) % 256 := by simp
theorem le_cast (x k : Nat) : ((UInt8.ofNat (x / 2 ^ (8 * k))).toNat : Int) = (x : Int) / 2 ^ (8 * k) % 256 := by
  rw [byte_cast]; simp

theorem put_step {w : World} {B g x n k : Nat} (hk : k < n) (h : w.ownsRow B 5 1 (.slice (some ⟨g, 0, none⟩) n n) n (bytesV (leBytes x k ++ List.replicate (n - k) 0))) :
    (w.setCell ⟨g, k, none⟩ (.int .u8 ((UInt8.ofNat (x / 2 ^ (8 * k))).toNat : Int))).ownsRow B 5 1 (.slice (some ⟨g, 0, none⟩) n n) n (bytesV (leBytes x (k + 1) ++ List.replicate (n - (k + 1)) 0)) := by
  have hs := (h.stored k (.int .u8 ((UInt8.ofNat (x / 2 ^ (8 * k))).toNat : Int))).1
  rw [bytesV_set] at hs
  have e : (leBytes x k ++ List.replicate (n - k) 0).set k (UInt8.ofNat (x / 2 ^ (8 * k))) = leBytes x (k + 1) ++ List.replicate (n - (k + 1)) 0 := by
    rw [leBytes_succ, List.set_append_right _ _ (by simp [leBytes_length])]
    obtain ⟨m, rfl⟩ : ∃ m, n = k + 1 + m := ⟨n - (k + 1), by omega⟩
    simp [leBytes_length, show k + 1 + m - k = m + 1 by omega, List.replicate_succ]
  rw [e] at hs
  exact hs

set_option maxRecDepth 100000 in
set_option maxHeartbeats 400000 in
theorem put_yes (x n : Nat) (w : World) (hx : x < 18446744073709551616) (h1 : 1 ≤ n) (h2 : n ≤ 8) :
    Calls Tryd.prog 77 #[.int .u64 x, .int .i64 n] w fun e w' =>
      e = .returned (.slice (some ⟨w.heap.size, 0, none⟩) n n) ∧ w'.ownsRow w.heap.size 5 1 (.slice (some ⟨w.heap.size, 0, none⟩) n n) n (bytesV (leBytes x n)) ∧ Still w w' := by
  obtain ⟨i0, hi, hz0, hz1, hz2⟩ := info_parts Tryd.infoByte
  obtain ⟨B, hB⟩ : ∃ B, B = w.heap.size := ⟨_, rfl⟩
  have HX := Lib.hid hx
  clear hx
  go_enter Tryd.func77, Tryd.ntmps77
  go_wp2_with (first | (go_at_call 81; refine (fits_yes _ _ (by omega) (by omega)).mono ?_; rintro e w' ⟨rfl, rfl⟩) | (at_make; go_must (refine wpList_make_full _ rfl _ _ 22 rfl w.heap.size 5 i0 (.int .u8 0) 1 Tryd.underlying22 hi hz0 hz1 _ _ _ _ n rfl rfl rfl rfl ?c1 ?c2 ?c3 ?_)))
  case c1 => rw [hz2]; omega
  case c2 => unfold maxLen; omega
  case c3 => exact Nat.le_refl _
  intro w1 hown hgrow
  have hst : Still w w1 := (Below.refl _ _).grown hgrow (Nat.le_refl _) (by intro k hk; cases hk)
  clear hgrow
  go_wp2_with fail
  go_loopw [6, 14] (fun _ i wr => ∃ k : Nat, k ≤ n ∧ i = .int .i64 k ∧ wr.ownsRow w.heap.size 5 1 (.slice (some ⟨w.heap.size, 0, none⟩) n n) n (bytesV (leBytes x k ++ List.replicate (n - k) 0)) ∧ Still w wr)
    (fun _ i _ => n - (intOf i).toNat)
  case atStart => exact ⟨0, Nat.zero_le _, rfl, by
    rw [toList_madeCells_one, bytesV_rep] at hown
    simpa [leBytes] using hown, hst⟩
  case round =>
    obtain ⟨k, hk, rfl, hownr, hstr⟩ := hrel
    have hc : k < n → wr.cell? ⟨w.heap.size, k, none⟩ = some (.int .u8 (((leBytes x k ++ List.replicate (n - k) 0).getD k 0).toNat : Int)) := fun h => by
      rw [hownr.cellAt k (by omega), bytesV_get _ _ (by simp [leBytes_length]; omega)]
    have hf : wr.frozen? ⟨w.heap.size, k, none⟩ = false := hownr.frozenAt k
    go_wp2_with fail
    · have hlt : k < n := by assumption
      go_roundw
      case rel => exact ⟨k + 1, by omega, by go_num, by
        have h := put_step hlt hownr
        rw [le_cast] at h
        exact h, hstr.setCell (Nat.le_refl _) _⟩
      case measure => simp [intOf]; omega
    · obtain rfl : k = n := by omega
      go_ret
      exact ⟨rfl, by simpa using hownr, hstr⟩
theorem put_no (x : Nat) (n : Int) (w : World) (h : n < 1 ∨ 8 < n) :
    Calls Tryd.prog 77 #[.int .u64 x, .int .i64 n] w fun e w' => e = .returned (.slice none 0 0) ∧ w = w' := by
  go_enter Tryd.func77, Tryd.ntmps77
  go_wp2_with (go_at_call 81; refine (fits_no _ _ h).mono ?_; rintro e w' ⟨rfl, rfl⟩)
  go_ret
  exact ⟨rfl, rfl⟩

theorem rput_no (x : Nat) (n : Int) (w : World) (h : n < 1 ∨ 8 < n) :
    Calls Tryd.prog 80 #[.int .u64 x, .int .i64 n] w fun e w' => e = .returned (.slice none 0 0) ∧ w = w' := by
  rcases h with h | h
  · go_enter Tryd.func80, Tryd.ntmps80
    go_wp2
    go_ret
    exact ⟨rfl, rfl⟩
  · have h1 : 1 ≤ n := by omega
    go_enter Tryd.func80, Tryd.ntmps80
    go_wp2
    go_ret
    exact ⟨rfl, rfl⟩

set_option maxHeartbeats 400000 in
theorem rput_yes (x n : Nat) (w : World) (hx : x < 18446744073709551616) (h1 : 1 ≤ n) (h2 : n ≤ 8) :
    Calls Tryd.prog 80 #[.int .u64 x, .int .i64 n] w fun e w' =>
      ∃ v, e = .returned v ∧ w'.ownsRow w.heap.size 5 1 v n (bytesV (leBytes x n)) ∧ Still w w' := by
  have h2' : decide ((8 : Int) < n) = false := by simp; omega
  go_enter Tryd.func80, Tryd.ntmps80
  go_wp2_with fail
  go_loopw [0, 5, 6] (fun xv v i wr => ∃ k : Nat, k ≤ n ∧ i = .int .i64 k ∧ (∃ y : Nat, xv = .int .u64 y ∧ Hid (y = x / 2 ^ (8 * k)) ∧ y < 18446744073709551616) ∧ wr.ownsRow w.heap.size 5 1 v k (bytesV (leBytes x k)) ∧ Still w wr)
    (fun _ _ i _ => n - (intOf i).toNat)
  case atStart => exact ⟨0, Nat.zero_le _, rfl, ⟨x, rfl, by simp [Hid], hx⟩, World.ownsRow_nil _ _ _ _, Below.refl _ _⟩
  case round =>
    obtain ⟨k, hk, rfl, ⟨y, rfl, hy, hyb⟩, hownr, hstr⟩ := hrel
    have hbyte : Hid ((y : Int) % 256 = ((UInt8.ofNat (x / 2 ^ (8 * k))).toNat : Int)) := by unfold Hid; rw [byte_cast, hy.out]
    go_wp2_with (at_builtin; go_must (refine wpList_push _ rfl _ _ rfl w.heap.size _ _ _ rfl hownr _ (UInt8.ofNat (x / 2 ^ (8 * k))) rfl ?c1 ?c2 ?c3 ?_))
    case c1 => exact hbyte.out
    case c2 => omega
    case c3 => exact hstr.size
    · intro v' w1 hown' hgrow _
      have hst' : Still w w1 := hstr.grown hgrow hstr.size (fun k hk => (hownr.lt k hk).1)
      have hlt : k < n := by assumption
      clear hgrow hbyte
      go_wp2_with fail
      go_roundw
      case rel => exact ⟨k + 1, by omega, by go_num, ⟨y / 256, by simp, by
        have h := hy.out
        show y / 256 = _
        rw [h, Nat.div_div_eq_div_mul]
        congr 1
        rw [show 8 * (k + 1) = 8 * k + 8 by omega, Nat.pow_add], by omega⟩, by rw [leBytes_succ]; exact hown', hst'⟩
      case measure => simp [intOf]; omega
    · obtain rfl : k = n := by omega
      go_ret
      exact ⟨_, rfl, hownr, hstr⟩
end Go.Proofs.YtmpnehhndhepgaaDoor

/- Contracts: rows of bytes compared, copied, cut, turned round. It proves no statement. -/








namespace Go.Proofs.YtmpnehhndhepgaaDoor
open Go.RowKit
set_option linter.unusedVariables false
set_option linter.unusedSimpArgs false

theorem still_drewN {a w : World} (h : Still a w) (n : Nat) : Still a (w.drewN n) := ⟨h.os, h.tape, h.output, h.size, h.block⟩

set_option maxHeartbeats 400000 in
theorem same_yes (A A' : Option Addr) (n c c' : Nat) (l : List UInt8) (w : World) (B B' : Nat) (h : Reads w B A n l) (h' : Reads w B' A' n l) (hn : n ≤ 9223372036854775807) :
    Calls Tryd.prog 12 #[.slice A n c, .slice A' n c'] w fun e w' => e = .returned (.bool true) ∧ Still w w' := by
  go_enter Tryd.func12, Tryd.ntmps12
  go_wp2_with fail
  go_loopw [5] (fun i wr => ∃ k : Nat, k ≤ n ∧ i = .int .i64 k ∧ Reads wr B A n l ∧ Reads wr B' A' n l ∧ Still w wr) (fun i _ => n - (intOf i).toNat)
  case atStart => exact ⟨0, Nat.zero_le _, rfl, h, h', Below.refl _ _⟩
  case round =>
    obtain ⟨k, hk, rfl, hr, hr', hst⟩ := hrel
    by_cases hlt : k < n
    · obtain ⟨b, o, rfl, hb, hc⟩ := hr.at_ (by omega)
      obtain ⟨b', o', rfl, hb', hc'⟩ := hr'.at_ (by omega)
      have c1 := hc k hlt
      have c2 := hc' k hlt
      clear hc hc'
      generalize (l.getD k 0).toNat = y at c1 c2
      have z1 : (0 : Int) ≤ (k : Int) := by omega
      have z2 : (k : Int) < (n : Int) := by omega
      go_wp2_with fail
      go_quiet (fail)
      go_wp2_with fail
      go_roundw
      case rel => exact ⟨k + 1, by omega, by go_num, hr, hr', still_drewN hst _⟩
      case measure => simp [intOf]; omega
    · obtain rfl : k = n := by omega
      go_wp2_with fail
      go_ret
      exact ⟨rfl, hst⟩
/-- At most k bytes of a slice, k at least one. -/
theorem cut_any (A : Option Addr) (n c k : Nat) (l : List UInt8) (w : World) (B : Nat) (h : Reads w B A n l) (hc : n ≤ c) (hm : c ≤ 9223372036854775807) (hk : 1 ≤ k) :
    Calls Tryd.prog 15 #[.slice A n c, .int .i64 k] w fun e w' => e = .returned (.slice A (min n k) c) ∧ w = w' := by
  by_cases hlt : k < n
  · obtain ⟨b, o, rfl, hb, hcc⟩ := h.at_ (by omega)
    have hmin : min n k = k := by omega
    rw [hmin]
    go_enter Tryd.func15, Tryd.ntmps15
    go_wp2
    go_ret
    exact ⟨rfl, rfl⟩
  · have hmin : min n k = n := by omega
    rw [hmin]
    go_enter Tryd.func15, Tryd.ntmps15
    go_wp2
    go_ret
    exact ⟨rfl, rfl⟩

/-- A copy in memory of the call's own. -/
theorem copy_any (A : Option Addr) (n c : Nat) (l : List UInt8) (w : World) (B : Nat) (h : Reads w B A n l) (hn : n ≤ 140737488355328) (hA : A = none → n = 0 ∧ c = 0) :
    Calls Tryd.prog 16 #[.slice A n c] w fun e w' => (∃ v, e = .returned v ∧ w'.ownsRow w.heap.size 5 1 v n (bytesV l)) ∧ Still w w' := by
  go_enter Tryd.func16, Tryd.ntmps16
  go_wp2_with (at_builtin; go_must (refine wpList_adds _ rfl _ _ rfl w.heap.size _ 0 [] rfl (World.ownsRow_nil _ _ _ _) _ n c B l rfl h (fun e => (hA e).2) ?c1 ?c2 ?_))
  case c1 => omega
  case c2 => exact Nat.le_refl _
  intro v' w' hown hg _
  have hst : Still w w' := (Below.refl _ _).grown hg (Nat.le_refl _) (fun k hk => by simp [Value.ownBlock] at hk)
  have hown' : w'.ownsRow w.heap.size 5 1 v' n (bytesV l) := by simpa using hown
  clear hg hown
  go_wp2_with fail
  go_ret
  exact ⟨⟨_, rfl, hown'⟩, hst⟩

/-- Integers that came in. -/
theorem ints_of_row {w : World} {a : Option Addr} {len cap : Nat} {zs : List Int} (h : RowIn .i64 w a len cap zs) :
    len ≤ 9223372036854775807 ∧ (∀ i, i < len → ∃ b o y, a = some ⟨b, o, none⟩ ∧ b < w.heap.size ∧ w.cell? ⟨b, o + i, none⟩ = some (.int .i64 y)) := by
  rcases h with ⟨rfl, rfl, rfl, rfl⟩ | ⟨x, rfl, hl, hm, hz, hc, hw⟩
  · exact ⟨by omega, fun i hi => by omega⟩
  · unfold maxLen at hm
    refine ⟨by omega, fun i hi => ?_⟩
    obtain ⟨b, o, sp⟩ := x
    have h00 := hc 0 (by omega)
    have hsp : sp = none := by simpa [Addr.add] using World.cell?_spot h00
    subst hsp
    have h0 := hc i (by omega)
    rw [Addr.add_lit] at h0
    exact ⟨b, o, zs.getD i 0, rfl, by simpa using World.block_lt_of_cell? w _ h0, h0⟩

theorem Reads.dropk {w : World} {B n k : Nat} {A : Option Addr} {l : List UInt8} (h : Reads w B A n l) (hk : k ≤ n) : Reads w B (A.map (·.add k)) (n - k) (l.drop k) := by
  refine ⟨by rw [List.length_drop, h.1], fun hn => ?_⟩
  obtain ⟨b, o, rfl, hb, hc⟩ := h.2 (by omega)
  refine ⟨b, o + k, by simp [Addr.add_lit], hb, fun i hi => ?_⟩
  have := hc (k + i) (by omega)
  rw [Nat.add_assoc, this]
  simp [List.getD]
theorem Reads.takek {w : World} {B n k : Nat} {A : Option Addr} {l : List UInt8} (h : Reads w B A n l) (hk : k ≤ n) : Reads w B A k (l.take k) := by
  have := h.take k
  rwa [show min n k = k by omega] at this
end Go.Proofs.YtmpnehhndhepgaaDoor

/- Contracts: bytes as a number, the document's own answer. It proves no statement. -/


namespace Go.Proofs.YtmpnehhndhepgaaDoor
open Go.RowKit
set_option linter.unusedVariables false
set_option linter.unusedSimpArgs false

/-- The number that bytes are, the lowest first. -/
def leNum : List UInt8 → Nat
  | [] => 0
  | b :: r => b.toNat + 256 * leNum r

theorem leNum_snoc (l : List UInt8) (b : UInt8) : leNum (l ++ [b]) = leNum l + b.toNat * 2 ^ (8 * l.length) := by
  induction l with
  | nil => simp [leNum]
  | cons c r ih =>
    simp only [List.cons_append, leNum, ih, List.length_cons]
    rw [show 8 * (r.length + 1) = 8 + 8 * r.length by omega, Nat.pow_add, Nat.mul_add]
    have : 256 * (b.toNat * 2 ^ (8 * r.length)) = b.toNat * (2 ^ 8 * 2 ^ (8 * r.length)) := by
      rw [Nat.mul_left_comm]
    omega
theorem leNum_lt (l : List UInt8) : leNum l < 2 ^ (8 * l.length) := by
  induction l with
  | nil => simp [leNum]
  | cons c r ih =>
    have := c.toNat_lt
    simp only [leNum, List.length_cons]
    rw [show 8 * (r.length + 1) = 8 + 8 * r.length by omega, Nat.pow_add]
    omega
theorem leNum_take (l : List UInt8) (k : Nat) (h : k < l.length) : leNum (l.take (k + 1)) = leNum (l.take k) + (l.getD k 0).toNat * 2 ^ (8 * k) := by
  have e : l.take (k + 1) = l.take k ++ [l.getD k 0] := by
    rw [List.take_add_one]; simp [List.getD, h]
  rw [e, leNum_snoc]
  simp [show min k l.length = k by omega]
theorem pow_le8 (k : Nat) (h : k ≤ 7) : 2 ^ (8 * k) ≤ 72057594037927936 := by
  have := Nat.pow_le_pow_right (show 0 < 2 by omega) (show 8 * k ≤ 56 by omega)
  simpa using this
theorem u64_wrap_nat (x : Nat) (h : x < 18446744073709551616) : IntKind.u64.wrap (x : Int) = (x : Int) := by
  rw [IntKind.wrap_u64]; omega
theorem rget_no (A : Option Addr) (n c : Nat) (w : World) (h : n < 1 ∨ 8 < n) :
    Calls Tryd.prog 86 #[.slice A n c] w fun e w' => e = .returned (.tuple #[.int .u64 0, .bool false]) ∧ w = w' := by
  rcases h with h | h
  · obtain rfl : n = 0 := by omega
    go_enter Tryd.func86, Tryd.ntmps86
    go_wp2
    go_ret2
    exact ⟨rfl, rfl⟩
  · have h0 : ((n : Int) == 0) = false := by simp; omega
    go_enter Tryd.func86, Tryd.ntmps86
    go_wp2
    go_ret2
    exact ⟨rfl, rfl⟩

set_option maxHeartbeats 400000 in
theorem rget_yes (A : Option Addr) (n c : Nat) (l : List UInt8) (w : World) (B : Nat) (h : Reads w B A n l) (h1 : 1 ≤ n) (h2 : n ≤ 8) :
    Calls Tryd.prog 86 #[.slice A n c] w fun e w' => e = .returned (.tuple #[.int .u64 (leNum l : Int), .bool true]) ∧ w = w' := by
  have hl := h.1
  obtain ⟨b, o, rfl, hb, hc⟩ := h.at_ (by omega)
  have h0 : ((n : Int) == 0) = false := by simp; omega
  have h8 : decide ((8 : Int) < n) = false := by simp; omega
  go_enter Tryd.func86, Tryd.ntmps86
  go_wp2_with fail
  go_loop [4, 5] (fun x i => ∃ k : Nat, k ≤ n ∧ i = .int .i64 ((n : Int) - 1 - k) ∧ ∃ y : Nat, x = .int .u64 y ∧ Hid (y = leNum (l.drop (n - k)))) (fun _ i => (intOf i + 1).toNat)
  case atStart => exact ⟨0, Nat.zero_le _, by simp, 0, rfl, by show _ = _; rw [List.drop_of_length_le (by omega)]; rfl⟩
  case round =>
    obtain ⟨k, hk, rfl, y, rfl, hy⟩ := hrel
    by_cases hlt : k < n
    · obtain ⟨j, hj⟩ : ∃ j : Nat, n = k + 1 + j := ⟨n - k - 1, by omega⟩
      have hj' : ((n : Int) - 1 - (k : Int)) = (j : Int) := by omega
      rw [hj']
      have c1 := hc j (by omega)
      obtain ⟨d, hd⟩ : ∃ d, d = (l.getD j 0).toNat := ⟨_, rfl⟩
      rw [← hd] at c1
      have hd' : d < 256 := by rw [hd]; exact (l.getD j 0).toNat_lt
      have HD := Lib.hid hd
      have hyb : y < 72057594037927936 := by
        have := leNum_lt (l.drop (n - k))
        have h8 := pow_le8 k (by omega)
        rw [hy.out]
        simp only [List.length_drop, show l.length - (n - k) = k by omega] at this
        omega
      have J := Lib.hid hj
      have z1 : (j : Int) < (n : Int) := by omega
      clear hc hd hj hj'
      go_wp2_with fail
      have hj := J.out
      go_round
      case rel =>
        refine ⟨k + 1, by omega, by go_num, d + 256 * y, ?_, ?_⟩
        · go_num
        · show _ = _
          rw [show n - (k + 1) = j by omega, List.drop_eq_getElem_cons (by omega), hy.out, HD.out, show n - k = j + 1 by omega]
          simp [leNum, List.getD, show j < l.length by omega]
      case measure => simp [intOf]
    · obtain rfl : k = n := by omega
      have e := hy.out
      rw [Nat.sub_self, List.drop_zero] at e
      have E := Lib.hid e
      clear e hy
      go_wp2_with fail
      go_ret2
      rw [E.out]
      exact ⟨rfl, rfl⟩
end Go.Proofs.YtmpnehhndhepgaaDoor

/- Contract: bytes as a number, the lowest first. It proves no statement. -/



namespace Go.Proofs.YtmpnehhndhepgaaDoor
open Go.RowKit
set_option linter.unusedVariables false
set_option linter.unusedSimpArgs false

theorem get_or (y d k : Nat) (hy : y < 2 ^ (8 * k)) (hd : d < 256) (hk : k ≤ 7) :
    bits BinOp.or IntKind.u64 (y : Int) (IntKind.u64.wrap ((d : Int) * 2 ^ (8 * k))) = ((y + d * 2 ^ (8 * k) : Nat) : Int) := by
  have hp := pow_le8 k hk
  have hm : d * 2 ^ (8 * k) ≤ 255 * 72057594037927936 := Nat.mul_le_mul (by omega) hp
  have e : (d : Int) * 2 ^ (8 * k) = ((d * 2 ^ (8 * k) : Nat) : Int) := by simp
  rw [e, u64_wrap_nat _ (by omega), u64_or_nat _ _ (by omega) (by omega), Nat.or_comm, nat_join (8 * k) _ _ (by simp) hy, Nat.add_comm]
set_option maxHeartbeats 400000 in
theorem get_yes (A : Option Addr) (n c : Nat) (l : List UInt8) (w : World) (B : Nat) (h : Reads w B A n l) (h1 : 1 ≤ n) (h2 : n ≤ 8) :
    Calls Tryd.prog 83 #[.slice A n c] w fun e w' => e = .returned (.tuple #[.int .u64 (leNum l : Int), .bool true]) ∧ w = w' := by
  have hl := h.1
  obtain ⟨b, o, rfl, hb, hc⟩ := h.at_ (by omega)
  go_enter Tryd.func83, Tryd.ntmps83
  go_wp2_with (go_at_call 81; refine (fits_yes _ _ (by omega) (by omega)).mono ?_; rintro e w' ⟨rfl, rfl⟩)
  go_loop [4, 13] (fun x i => ∃ k : Nat, k ≤ n ∧ i = .int .i64 k ∧ ∃ y : Nat, x = .int .u64 y ∧ Hid (y = leNum (l.take k))) (fun _ i => n - (intOf i).toNat)
  case atStart => exact ⟨0, Nat.zero_le _, rfl, 0, rfl, rfl⟩
  case round =>
    obtain ⟨k, hk, rfl, y, rfl, hy⟩ := hrel
    by_cases hlt : k < n
    · have c1 := hc k hlt
      obtain ⟨d, hd⟩ : ∃ d, d = (l.getD k 0).toNat := ⟨_, rfl⟩
      rw [← hd] at c1
      have hd' : d < 256 := by rw [hd]; exact (l.getD k 0).toNat_lt
      have HD := Lib.hid hd
      clear hc hd
      go_wp2_with fail
      go_round
      case rel =>
        have hyb : y < 2 ^ (8 * k) := by
          have := leNum_lt (l.take k)
          rw [hy.out]
          simpa [show min k l.length = k by omega] using this
        refine ⟨k + 1, by omega, by go_num, y + d * 2 ^ (8 * k), ?_, ?_⟩
        · rw [get_or y d k hyb hd' (by omega)]
        · show _ = _
          rw [leNum_take l k (by omega), hy.out, HD.out]
      case measure => simp [intOf]; omega
    · obtain rfl : k = n := by omega
      have e := hy.out
      rw [List.take_of_length_le (by omega)] at e
      have E := Lib.hid e
      clear e hy
      go_wp2_with fail
      go_ret2
      rw [E.out]
      exact ⟨rfl, rfl⟩
theorem get_no (A : Option Addr) (n c : Nat) (w : World) (h : n < 1 ∨ 8 < n) :
    Calls Tryd.prog 83 #[.slice A n c] w fun e w' => e = .returned (.tuple #[.int .u64 0, .bool false]) ∧ w = w' := by
  go_enter Tryd.func83, Tryd.ntmps83
  go_wp2_with (go_at_call 81; refine (fits_no _ _ (by omega)).mono ?_; rintro e w' ⟨rfl, rfl⟩)
  go_ret2
  exact ⟨rfl, rfl⟩
end Go.Proofs.YtmpnehhndhepgaaDoor

/- Bytes as a number and back. It proves no statement. -/





namespace Go.Proofs.YtmpnehhndhepgaaDoor
open Go.RowKit
set_option linter.unusedVariables false
set_option linter.unusedSimpArgs false

theorem leNum_le (x n : Nat) : leNum (leBytes x n) = x % 2 ^ (8 * n) := by
  induction n with
  | zero => simp [leBytes, leNum, Nat.mod_one]
  | succ n ih =>
    rw [leBytes_succ, leNum_snoc, ih, leBytes_length]
    simp only [UInt8.toNat_ofNat']
    rw [show 8 * (n + 1) = 8 * n + 8 by omega, Nat.pow_add, Nat.mod_mul, Nat.mul_comm (x / 2 ^ (8 * n) % 2 ^ 8)]

end Go.Proofs.YtmpnehhndhepgaaDoor

/- Contract: the document's own turning round of bytes. It proves no statement. -/

namespace Go.Proofs.YtmpnehhndhepgaaDoor
open Go.RowKit
set_option linter.unusedVariables false
set_option linter.unusedSimpArgs false

set_option maxHeartbeats 400000 in
theorem back_any (A : Option Addr) (n c : Nat) (l : List UInt8) (w : World) (B : Nat) (h : Reads w B A n l) (hB : B ≤ w.heap.size) (hn : n ≤ 70368744177664) :
    Calls Tryd.prog 79 #[.slice A n c] w fun e w' => (∃ v, e = .returned v ∧ w'.ownsRow w.heap.size 5 1 v n (bytesV l.reverse)) ∧ Still w w' := by
  have hl := h.1
  go_enter Tryd.func79, Tryd.ntmps79
  go_wp2_with fail
  go_loopw [3, 4] (fun v i wr => ∃ k : Nat, k ≤ n ∧ i = .int .i64 ((n : Int) - 1 - k) ∧ wr.ownsRow w.heap.size 5 1 v k (bytesV (l.reverse.take k)) ∧ Still w wr) (fun _ i _ => (intOf i + 1).toNat)
  case atStart => exact ⟨0, Nat.zero_le _, by simp, World.ownsRow_nil _ _ _ _, Below.refl _ _⟩
  case round =>
    obtain ⟨k, hk, rfl, hown, hst⟩ := hrel
    by_cases hlt : k < n
    · obtain ⟨b, o, rfl, hb, hc⟩ := (h.still hB hst).at_ (by omega)
      obtain ⟨j, hj⟩ : ∃ j : Nat, n = k + 1 + j := ⟨n - k - 1, by omega⟩
      have hj' : ((n : Int) - 1 - (k : Int)) = (j : Int) := by omega
      rw [hj']
      have c1 := hc j (by omega)
      have hx : l.reverse.take (k + 1) = l.reverse.take k ++ [l.getD j 0] := by
        have e : l.reverse[k]? = some (l.getD j 0) := by
          rw [List.getElem?_reverse (by omega), show l.length - 1 - k = j by omega]
          simp [List.getD, show j < l.length by omega]
        rw [List.take_add_one, e]; rfl
      have HX := Lib.hid hx
      have J := Lib.hid hj
      have z1 : (j : Int) < (n : Int) := by omega
      have hsz := hst.size
      clear hx hj hj' hc
      go_wp2_with (at_builtin; go_must (refine wpList_push _ rfl _ _ rfl w.heap.size _ _ _ rfl hown _ (l.getD j 0) rfl ?c1 ?c2 ?c3 ?_))
      case c1 => simp
      case c2 => omega
      case c3 => exact hsz
      intro v' w1 hown' hgrow _
      have hst' : Still w w1 := hst.grown hgrow hsz (fun k hk => (hown.lt k hk).1)
      clear hgrow
      go_wp2_with fail
      have hj := J.out
      go_roundw
      case rel => exact ⟨k + 1, by omega, by go_num, by rw [HX.out]; exact hown', hst'⟩
      case measure => simp [intOf]
    · obtain rfl : k = n := by omega
      have e : l.reverse.take k = l.reverse := List.take_of_length_le (by simp; omega)
      rw [e] at hown
      go_wp2_with fail
      go_ret
      exact ⟨⟨_, rfl, hown⟩, hst⟩

end Go.Proofs.YtmpnehhndhepgaaDoor

/- Contract: bytes as a number, the highest first. It proves no statement. -/



namespace Go.Proofs.YtmpnehhndhepgaaDoor
open Go.RowKit
set_option linter.unusedVariables false
set_option linter.unusedSimpArgs false

theorem big_or (y d : Nat) (hy : y < 72057594037927936) (hd : d < 256) :
    bits BinOp.or IntKind.u64 ((y : Int) * 256) (d : Int) = ((d + 256 * y : Nat) : Int) := by
  have e : (y : Int) * 256 = ((y * 256 : Nat) : Int) := by simp
  rw [e, u64_or_nat _ _ (by omega) (by omega), nat_join 8 _ _ (by omega) (by omega)]
  omega

set_option maxHeartbeats 400000 in
theorem getbig_yes (A : Option Addr) (n c : Nat) (l : List UInt8) (w : World) (B : Nat) (h : Reads w B A n l) (h1 : 1 ≤ n) (h2 : n ≤ 8) :
    Calls Tryd.prog 85 #[.slice A n c] w fun e w' => e = .returned (.tuple #[.int .u64 (leNum l.reverse : Int), .bool true]) ∧ w = w' := by
  have hl := h.1
  obtain ⟨b, o, rfl, hb, hc⟩ := h.at_ (by omega)
  go_enter Tryd.func85, Tryd.ntmps85
  go_wp2_with (go_at_call 81; refine (fits_yes _ _ (by omega) (by omega)).mono ?_; rintro e w' ⟨rfl, rfl⟩)
  go_loop [4, 13] (fun x i => ∃ k : Nat, k ≤ n ∧ i = .int .i64 k ∧ ∃ y : Nat, x = .int .u64 y ∧ Hid (y = leNum (l.take k).reverse)) (fun _ i => n - (intOf i).toNat)
  case atStart => exact ⟨0, Nat.zero_le _, rfl, 0, rfl, rfl⟩
  case round =>
    obtain ⟨k, hk, rfl, y, rfl, hy⟩ := hrel
    by_cases hlt : k < n
    · have c1 := hc k hlt
      obtain ⟨d, hd⟩ : ∃ d, d = (l.getD k 0).toNat := ⟨_, rfl⟩
      rw [← hd] at c1
      have hd' : d < 256 := by rw [hd]; exact (l.getD k 0).toNat_lt
      have HD := Lib.hid hd
      have hyb : y < 72057594037927936 := by
        have := leNum_lt (l.take k).reverse
        have h8 := pow_le8 k (by omega)
        rw [hy.out]
        simp only [List.length_reverse, List.length_take, show min k l.length = k by omega] at this
        omega
      clear hc hd
      go_wp2_with fail
      go_round
      case rel =>
        refine ⟨k + 1, by omega, by go_num, d + 256 * y, ?_, ?_⟩
        · have := big_or y d hyb hd'
          rw [this]
        · show _ = _
          have e : l.take (k + 1) = l.take k ++ [l.getD k 0] := by
            rw [List.take_add_one]; simp [List.getD, show k < l.length by omega]
          rw [e, List.reverse_append, hy.out, HD.out]
          rfl
      case measure => simp [intOf]; omega
    · obtain rfl : k = n := by omega
      have e := hy.out
      rw [List.take_of_length_le (by omega)] at e
      have E := Lib.hid e
      clear e hy
      go_wp2_with fail
      go_ret2
      rw [E.out]
      exact ⟨rfl, rfl⟩

theorem getbig_no (A : Option Addr) (n c : Nat) (w : World) (h : n < 1 ∨ 8 < n) :
    Calls Tryd.prog 85 #[.slice A n c] w fun e w' => e = .returned (.tuple #[.int .u64 0, .bool false]) ∧ w = w' := by
  go_enter Tryd.func85, Tryd.ntmps85
  go_wp2_with (go_at_call 81; refine (fits_no _ _ (by omega)).mono ?_; rintro e w' ⟨rfl, rfl⟩)
  go_ret2
  exact ⟨rfl, rfl⟩

end Go.Proofs.YtmpnehhndhepgaaDoor

/- Contract: bytes turned round in place. It proves no statement. -/

namespace Go.Proofs.YtmpnehhndhepgaaDoor
open Go.RowKit
set_option linter.unusedVariables false
set_option linter.unusedSimpArgs false

/-- The first k bytes of l, and the last k, exchanged. -/
def rv (l : List UInt8) (k : Nat) : List UInt8 := (List.range l.length).map fun i => if i < k ∨ l.length - 1 - i < k then l.getD (l.length - 1 - i) 0 else l.getD i 0
theorem rv_length (l : List UInt8) (k : Nat) : (rv l k).length = l.length := by simp [rv]
theorem rv_get (l : List UInt8) (k i : Nat) (hi : i < l.length) : (rv l k).getD i 0 = if i < k ∨ l.length - 1 - i < k then l.getD (l.length - 1 - i) 0 else l.getD i 0 := by
  simp [rv, List.getD, hi]
theorem rv_zero (l : List UInt8) : rv l 0 = l := by
  apply List.ext_getElem (by simp [rv])
  intro i h1 h2
  simp [rv, h2]
theorem rv_end (l : List UInt8) (k : Nat) (h : l.length ≤ 2 * k + 1) : rv l k = l.reverse := by
  apply List.ext_getElem (by simp [rv])
  intro i h1 h2
  simp only [rv_length] at h1
  by_cases c : i < k ∨ l.length - 1 - i < k
  · have h3 : l.length - 1 - i < l.length := by omega
    simp [rv, List.getD, c, h3]
  · have h3 : l.length - 1 - i = i := by omega
    simp [rv, List.getD, h3, h1]
theorem rv_step (l : List UInt8) (k : Nat) (h : 2 * k + 1 < l.length) : ((rv l k).set k (l.getD (l.length - 1 - k) 0)).set (l.length - 1 - k) (l.getD k 0) = rv l (k + 1) := by
  apply List.ext_getElem (by simp [rv])
  intro i h1 h2
  simp only [rv_length] at h2
  rw [List.getElem_set, List.getElem_set]
  have e : l.length - 1 - (l.length - 1 - k) = k := by omega
  by_cases c1 : l.length - 1 - k = i
  · subst c1
    have c2 : l.length - 1 - k < k + 1 ∨ l.length - 1 - (l.length - 1 - k) < k + 1 := by omega
    simp [rv, e]
  · rw [if_neg c1]
    by_cases c2 : k = i
    · subst c2
      simp [rv]
    · rw [if_neg c2]
      by_cases c3 : i < k ∨ l.length - 1 - i < k
      · have c4 : i < k + 1 ∨ l.length - 1 - i < k + 1 := by omega
        simp only [rv, List.getElem_map, List.getElem_range, if_pos c3, if_pos c4]
      · have c4 : ¬ (i < k + 1 ∨ l.length - 1 - i < k + 1) := by omega
        simp only [rv, List.getElem_map, List.getElem_range, if_neg c3, if_neg c4]

set_option maxHeartbeats 400000 in
/-- The exchange in place, on a row of the call's own. -/
theorem reverse_own (base g n cap : Nat) (l : List UInt8) (w : World) (h : w.ownsRow base 5 1 (.slice (some ⟨g, 0, none⟩) n cap) n (bytesV l)) (hn : n ≤ 9223372036854775807) :
    Calls Tryd.prog 78 #[.slice (some ⟨g, 0, none⟩) n cap] w fun e w' =>
      e = .returned (.tuple #[]) ∧ w'.ownsRow base 5 1 (.slice (some ⟨g, 0, none⟩) n cap) n (bytesV l.reverse) ∧ w.grownBy w' (some g) := by
  have hl : l.length = n := by have := h.1; rw [bytesV_length] at this; omega
  go_enter Tryd.func78, Tryd.ntmps78
  go_wp2_with fail
  go_loopw [2, 3] (fun i j wr => ∃ k : Nat, i = .int .i64 k ∧ j = .int .i64 ((n : Int) - 1 - k) ∧ (k = 0 ∨ 2 * k ≤ n) ∧ wr.ownsRow base 5 1 (.slice (some ⟨g, 0, none⟩) n cap) n (bytesV (rv l k)) ∧ w.grownBy wr (some g)) (fun i _ _ => n - (intOf i).toNat)
  case atStart => exact ⟨0, rfl, by simp, .inl rfl, by rw [rv_zero]; exact h, World.grownBy.refl _ _⟩
  case round =>
    obtain ⟨k, rfl, rfl, hk, hr, hg⟩ := hrel
    by_cases hlt : 2 * k + 1 < n
    · obtain ⟨j, hj⟩ : ∃ j : Nat, n = k + 1 + j := ⟨n - k - 1, by omega⟩
      have hj' : ((n : Int) - 1 - (k : Int)) = (j : Int) := by omega
      rw [hj']
      have c1 := hr.cellAt k (by omega)
      have c2 := hr.cellAt j (by omega)
      rw [bytesV_get _ _ (by rw [rv_length]; omega)] at c1 c2
      have f1 := hr.frozenAt k
      have f2 := hr.frozenAt j
      have hkj : k < j := by omega
      have z1 : (j : Int) < (n : Int) := by omega
      have z2 : (k : Int) < (n : Int) := by omega
      have hs1 := hr.stored k (.int .u8 (((rv l k).getD j 0).toNat : Int))
      have hs2 := hs1.1.stored j (.int .u8 (((rv l k).getD k 0).toNat : Int))
      rw [bytesV_set, bytesV_set] at hs2
      have ej : l.length - 1 - k = j := by omega
      have e1 : (rv l k).getD k 0 = l.getD k 0 := by rw [rv_get _ _ _ (by omega), if_neg (by omega)]
      have e2 : (rv l k).getD j 0 = l.getD j 0 := by rw [rv_get _ _ _ (by omega), if_neg (by omega)]
      have e3 := rv_step l k (by omega)
      have hs3 := hg.trans (hs1.2.trans hs2.2)
      have hs4 := hs2.1
      rw [ej] at e3
      rw [e1, e2, e3] at hs4
      rw [e1, e2] at hs3
      rw [e1] at c1
      rw [e2] at c2
      have H4 := Lib.hid hs4
      have H3 := Lib.hid hs3
      have J := Lib.hid hj
      clear hs1 hs2 hs3 hs4 e1 e2 e3 ej hj' hr hj
      generalize (l.getD k 0).toNat = y at c1 H3 H4
      generalize (l.getD j 0).toNat = z at c2 H3 H4
      go_wp2_with fail
      go_region
      go_wp2_with fail
      have hj := J.out
      go_roundw
      case rel => exact ⟨k + 1, by go_num, by go_num, by omega, H4.out, ⟨H3.out.os, H3.out.tape, H3.out.output, H3.out.size, H3.out.block⟩⟩
      case measure => simp [intOf]; omega
    · have e := rv_end l k (by omega)
      rw [e] at hr
      go_wp2_with fail
      go_end0
      exact ⟨rfl, hr, hg⟩

end Go.Proofs.YtmpnehhndhepgaaDoor

/- Contract: a number as bytes in the other order. It proves no statement. -/


namespace Go.Proofs.YtmpnehhndhepgaaDoor
open Go.RowKit
set_option linter.unusedVariables false
set_option linter.unusedSimpArgs false

theorem reverse_nil (w : World) :
    Calls Tryd.prog 78 #[.slice none 0 0] w fun e w' => e = .returned (.tuple #[]) ∧ w = w' := by
  go_enter Tryd.func78, Tryd.ntmps78
  go_wp2_with fail
  refine wp_loop_rounds 1 ?_
  rw [rounds_succ]
  go_wp2_with fail
  go_end0
  exact ⟨rfl, rfl⟩

set_option maxHeartbeats 400000 in
theorem big_yes (x n : Nat) (w : World) (hx : x < 18446744073709551616) (h1 : 1 ≤ n) (h2 : n ≤ 8) :
    Calls Tryd.prog 62 #[.int .u64 x, .int .i64 n] w fun e w' =>
      e = .returned (.slice (some ⟨w.heap.size, 0, none⟩) n n) ∧ w'.ownsRow w.heap.size 5 1 (.slice (some ⟨w.heap.size, 0, none⟩) n n) n (bytesV (leBytes x n).reverse) ∧ Still w w' := by
  go_enter Tryd.func62, Tryd.ntmps62
  go_wp2_with fail
  refine (put_yes x n w hx h1 h2).mono ?_
  rintro e w1 ⟨rfl, hown, hst⟩
  go_wp2_with fail
  refine (reverse_own w.heap.size w.heap.size n n _ w1 hown (by omega)).mono ?_
  rintro e w2 ⟨rfl, hown2, hg⟩
  have hst2 : Still w w2 := hst.grown hg hst.size (fun k hk => by injection hk with hk; omega)
  clear hg hown
  go_wp2_with fail
  go_ret
  exact ⟨rfl, hown2, hst2⟩

theorem big_no (x : Nat) (n : Int) (w : World) (h : n < 1 ∨ 8 < n) :
    Calls Tryd.prog 62 #[.int .u64 x, .int .i64 n] w fun e w' => e = .returned (.slice none 0 0) ∧ w = w' := by
  go_enter Tryd.func62, Tryd.ntmps62
  go_wp2_with (first | (go_at_call 77; refine (put_no _ _ _ h).mono ?_; rintro e w' ⟨rfl, rfl⟩) | (go_at_call 78; refine (reverse_nil _).mono ?_; rintro e w' ⟨rfl, rfl⟩))
  go_ret
  exact ⟨rfl, rfl⟩

end Go.Proofs.YtmpnehhndhepgaaDoor

/- 'string(b)' of bytes that read. It proves no statement. -/



namespace Go.Proofs.YtmpnehhndhepgaaDoor
open Go.RowKit
set_option linter.unusedVariables false
set_option linter.unusedSimpArgs false

/-- 'string(b)'. -/
theorem conv_reads {w : World} {B n : Nat} {A : Option Addr} {l : List UInt8} (h : Reads w B A n l) (c : Nat) :
    (convert 22 9 (.slice A n c)).run Tryd.prog w = .ok (.string ⟨l.toArray⟩) w := by
  obtain rfl := h.1
  rcases A with _ | ad
  · have hl : l = [] := by
      rcases l with _ | ⟨x, r⟩
      · rfl
      · obtain ⟨_, _, e, _⟩ := h.2 (by simp)
        cases e
    subst hl
    exact run_convert_bytes_nil w 22 5 Tryd.underlying22 Tryd.underlying5 0 c 9 Tryd.underlying9
  · refine run_convert_bytes_back w 22 9 5 ad c l Tryd.underlying22 Tryd.underlying5 Tryd.underlying9 fun j hj => ?_
    refine h.news ad rfl (by omega) j _ ?_
    rw [bytesV_get l j hj]
    simp [List.getD, hj]
end Go.Proofs.YtmpnehhndhepgaaDoor

/- Contracts: a reader of bytes. It proves no statement. -/





namespace Go.Proofs.YtmpnehhndhepgaaDoor
open Go.RowKit
set_option linter.unusedVariables false
set_option linter.unusedSimpArgs false

/-- A block that is known whole, not frozen. -/
def Blk (w : World) (g : Nat) (t : TypeId) (cs : Array Value) : Prop := w.heap[g]? = some (.cells cs t (0, 0))
section
variable {w w' : World} {g : Nat} {t : TypeId} {cs : Array Value}
theorem Blk.lt (h : Blk w g t cs) : g < w.heap.size := (Array.getElem?_eq_some_iff.1 h).1
theorem Blk.cell (h : Blk w g t cs) (i : Nat) : w.cell? ⟨g, i, none⟩ = cs[i]? := cell_of_row w g i cs t (0, 0) h
theorem Blk.frozen (h : Blk w g t cs) (i : Nat) : w.frozen? ⟨g, i, none⟩ = false := frozen_of_row w g i cs t h
theorem Blk.still (h : Blk w g t cs) (hs : Still w w') : Blk w' g t cs := (hs.block g h.lt).trans h
theorem Blk.setc (h : Blk w g t cs) (i : Nat) (u : Value) : Blk (w.setCell ⟨g, i, none⟩ u) g t (cs.setIfInBounds i u) := heap_setCell_same w g i cs t u h
theorem Blk.far (h : Blk w g t cs) {p : Addr} (hp : g ≠ p.block) (u : Value) : Blk (w.setCell p u) g t cs := (Below.heap_setCell w p u g hp).trans h
theorem Blk.new (w : World) (t : TypeId) (cs : Array Value) : Blk (w.alloc (.cells cs t)) w.heap.size t cs := heap_alloc_new w _
theorem Blk.alloc (h : Blk w g t cs) (o : Obj) : Blk (w.alloc o) g t cs := (Below.heap_alloc w o g h.lt).trans h
end

/-- A reader that no call made: nil, or a struct of noughts. -/
def Dead (w : World) (P : Value) : Prop := P = .pointer none ∨ ∃ g, P = .pointer (some ⟨g, 0, none⟩) ∧ Blk w g 82 #[.slice none 0 0, .int .i64 0, .bool false]

theorem err_dead (P : Value) (w : World) (h : Dead w P) : Calls Tryd.prog 56 #[P] w fun e w' => e = .returned (.int .i64 1) ∧ w = w' := by
  rcases h with rfl | ⟨g, rfl, hb⟩
  · go_enter Tryd.func56, Tryd.ntmps56
    go_wp2
    go_ret
    exact ⟨rfl, rfl⟩
  · have c2 : w.cell? ⟨g, 2, none⟩ = some (.bool false) := hb.cell 2
    have HB := Lib.hid hb
    clear hb
    go_enter Tryd.func56, Tryd.ntmps56
    go_wp2
    go_ret
    exact ⟨rfl, rfl⟩
theorem fail_dead (P : Value) (x : Int) (w : World) (h : Dead w P) : Calls Tryd.prog 82 #[P, .int .i64 x] w fun e w' => e = .returned (.tuple #[]) ∧ w = w' := by
  go_enter Tryd.func82, Tryd.ntmps82
  go_wp2_with fail
  refine (err_dead P w h).mono ?_
  rintro e w1 ⟨rfl, rfl⟩
  go_wp2_with fail
  go_end0
  exact ⟨rfl, rfl⟩
theorem take_dead (P : Value) (n : Int) (w : World) (h : Dead w P) : Calls Tryd.prog 84 #[P, .int .i64 n] w fun e w' => e = .returned (.slice none 0 0) ∧ w = w' := by
  go_enter Tryd.func84, Tryd.ntmps84
  go_wp2_with fail
  refine (err_dead P w h).mono ?_
  rintro e w1 ⟨rfl, rfl⟩
  go_wp2_with fail
  go_ret
  exact ⟨rfl, rfl⟩
theorem num_dead (P : Value) (n : Int) (w : World) (h : Dead w P) : Calls Tryd.prog 67 #[P, .int .i64 n] w fun e w' => e = .returned (.int .u64 0) ∧ w = w' := by
  by_cases hn : n < 1 ∨ 8 < n
  · go_enter Tryd.func67, Tryd.ntmps67
    go_wp2_with fail
    refine (fits_no n w hn).mono ?_
    rintro e w1 ⟨rfl, rfl⟩
    go_wp2_with fail
    refine (fail_dead P _ w h).mono ?_
    rintro e w1 ⟨rfl, rfl⟩
    go_wp2_with fail
    go_ret
    exact ⟨rfl, rfl⟩
  · go_enter Tryd.func67, Tryd.ntmps67
    go_wp2_with fail
    refine (fits_yes n w (by omega) (by omega)).mono ?_
    rintro e w1 ⟨rfl, rfl⟩
    go_wp2_with fail
    refine (take_dead P n w h).mono ?_
    rintro e w1 ⟨rfl, rfl⟩
    go_wp2_with fail
    refine (get_no none 0 0 w (by omega)).mono ?_
    rintro e w1 ⟨rfl, rfl⟩
    go_wp2_with fail
    go_ret
    exact ⟨rfl, rfl⟩
theorem bytes_dead (P : Value) (n : Int) (w : World) (h : Dead w P) : Calls Tryd.prog 72 #[P, .int .i64 n] w fun e w' => e = .returned (.slice none 0 0) ∧ w = w' := by
  go_enter Tryd.func72, Tryd.ntmps72
  go_wp2_with fail
  refine (take_dead P n w h).mono ?_
  rintro e w1 ⟨rfl, rfl⟩
  go_wp2_with fail
  go_ret
  exact ⟨rfl, rfl⟩
theorem text_dead (P : Value) (n : Int) (w : World) (h : Dead w P) : Calls Tryd.prog 73 #[P, .int .i64 n] w fun e w' => e = .returned (.string ⟨#[]⟩) ∧ w = w' := by
  go_enter Tryd.func73, Tryd.ntmps73
  go_wp2_with fail
  refine (take_dead P n w h).mono ?_
  rintro e w1 ⟨rfl, rfl⟩
  have kc := conv_reads (w := w) (B := 0) (A := none) Reads.nil0 0
  go_wp2_with fail
  go_ret
  exact ⟨rfl, rfl⟩
theorem end_dead (P : Value) (w : World) (h : Dead w P) : Calls Tryd.prog 30 #[P] w fun e w' => e = .returned (.int .i64 1) ∧ w = w' := by
  go_enter Tryd.func30, Tryd.ntmps30
  go_wp2_with fail
  refine (err_dead P w h).mono ?_
  rintro e w1 ⟨rfl, rfl⟩
  go_wp2_with fail
  go_ret
  exact ⟨rfl, rfl⟩
end Go.Proofs.YtmpnehhndhepgaaDoor

/- Contracts: a reader that Open made. It proves no statement. -/

namespace Go.Proofs.YtmpnehhndhepgaaDoor
open Go.RowKit
set_option linter.unusedVariables false
set_option linter.unusedSimpArgs false

/-- The row at A lies from block lo on, and no cell of it is frozen. -/
def Mine (w : World) (lo : Nat) (A : Option Addr) (n : Nat) : Prop := 0 < n → ∃ b o, A = some ⟨b, o, none⟩ ∧ lo ≤ b ∧ ∀ i, i < n → w.frozen? ⟨b, o + i, none⟩ = false

/-- A reader with the bytes l left, at A, and the error e. -/
structure Live (w : World) (lo B g : Nat) (A : Option Addr) (n c : Nat) (l : List UInt8) (e : Int) : Prop where
  blk : Blk w g 82 #[.slice A n c, .int .i64 e, .bool true]
  low : lo ≤ g
  high : g < B
  reads : Reads w B A n l
  mine : Mine w lo A n
  fit : n ≤ c
  cap : c ≤ 9223372036854775807
  nil : A = none → n = 0 ∧ c = 0

set_option maxHeartbeats 400000 in
theorem clone_any (A : Option Addr) (n c : Nat) (l : List UInt8) (w : World) (B : Nat) (h : Reads w B A n l) (hB : B ≤ w.heap.size) (hn : n ≤ 70368744177664) (hA : A = none → n = 0 ∧ c = 0) :
    Calls Tryd.prog 48 #[.slice A n c] w fun e w' => (∃ v, e = .returned v ∧ w'.ownsRow w.heap.size 5 1 v n (bytesV l)) ∧ Still w w' := by
  rcases A with _ | ad
  · obtain ⟨rfl, rfl⟩ := hA rfl
    have hl : l = [] := List.eq_nil_of_length_eq_zero h.1
    subst hl
    have hk : ∀ w : World, (binOp .eql 22 (.slice none 0 0) (.slice none 0 0)).run Tryd.prog w = .ok (.bool true) w := fun w => Lib.run_eql_slice_nil w _ _ none 0 0 0 0 Tryd.underlying22
    go_enter Tryd.func48, Tryd.ntmps48
    go_wp2
    go_ret
    exact ⟨⟨_, rfl, World.ownsRow_nil _ _ _ _⟩, Below.refl _ _⟩
  · have r1 : Reads (w.alloc (.cells #[] 5)) B (some ad) n l := h.keep fun p hp => World.cell?_alloc_lt w _ p (by omega)
    have o1 : (w.alloc (.cells #[] 5)).ownsRow w.heap.size 5 1 (.slice (some ⟨w.heap.size, 0, none⟩) 0 0) 0 (bytesV []) := World.ownsRow_made w #[] 0 (Nat.le_refl _) (by unfold maxLen; omega) rfl
    have s1 : Still w (w.alloc (.cells #[] 5)) := (Below.refl _ _).alloc (Nat.le_refl _) _
    have hk : ∀ w : World, (binOp .eql 22 (.slice (some ad) n c) (.slice none 0 0)).run Tryd.prog w = .ok (.bool false) w := fun w => Lib.run_eql_slice_nil w _ _ (some ad) n c 0 0 Tryd.underlying22
    go_enter Tryd.func48, Tryd.ntmps48
    go_wp2_with (at_builtin; go_must (refine wpList_adds _ rfl _ _ rfl w.heap.size _ 0 [] rfl o1 _ n c B l rfl r1 (fun e => by cases e) ?c1 ?c2 ?_))
    case c1 => omega
    case c2 => simp
    intro v' w' hown hg _
    have hst : Still w w' := s1.grown hg (by simp) (fun k hk => by simp [Value.ownBlock] at hk; omega)
    have hown' : w'.ownsRow w.heap.size 5 1 v' n (bytesV l) := by simpa using hown
    clear hg hown
    go_wp2_with fail
    go_ret
    exact ⟨⟨_, rfl, hown'⟩, hst⟩

set_option maxHeartbeats 400000 in
theorem open_any (A : Option Addr) (n c : Nat) (l : List UInt8) (w : World) (B : Nat) (h : Reads w B A n l) (hB : B ≤ w.heap.size) (hn : n ≤ 70368744177664) (hA : A = none → n = 0 ∧ c = 0) :
    Calls Tryd.prog 28 #[.slice A n c] w fun e w' => (∃ g A' c', e = .returned (.pointer (some ⟨g, 0, none⟩)) ∧ Live w' w.heap.size w'.heap.size g A' n c' l 0) ∧ Still w w' := by
  go_enter Tryd.func28, Tryd.ntmps28
  go_wp2_with fail
  refine (clone_any A n c l w B h hB hn hA).mono ?_
  rintro e w1 ⟨⟨v, rfl, hown⟩, s1⟩
  obtain ⟨A1, c1, rfl, f1, f2, f3⟩ := own_form hown
  have s2 : Still w (w1.alloc (.cells #[.slice A1 n c1, .int .i64 0, .bool true] 82)) := s1.alloc s1.size _
  have q1 := Reads.of_own hown
  have lv : Live (w1.alloc (.cells #[.slice A1 n c1, .int .i64 0, .bool true] 82)) w.heap.size (w1.heap.size + 1) w1.heap.size A1 n c1 l 0 := by
    refine ⟨Blk.new _ _ _, s1.size, by omega, (q1.keep fun p hp => World.cell?_alloc_lt w1 _ p hp).more (by omega), fun hn => ?_, f1, f2, f3⟩
    rcases hown.2 with ⟨_, h0⟩ | ⟨g, cap, cur, hv, hb, hg, _⟩
    · omega
    · have e : A1 = some ⟨g, 0, none⟩ := by injection hv
      refine ⟨g, 0, e, hb, fun i hi => ?_⟩
      have hlt : g < w1.heap.size := (Array.getElem?_eq_some_iff.1 hg).1
      have e2 := Below.heap_alloc w1 (.cells #[.slice A1 n c1, .int .i64 0, .bool true] 82) g hlt
      exact (World.frozen?_of_block (w := w1) e2).trans (frozen_of_row w1 g _ cur _ hg)
  clear q1 hown s1
  go_wp2_with fail
  go_ret
  exact ⟨⟨_, _, _, rfl, by simpa using lv⟩, s2⟩

theorem err_live {w : World} {lo B g : Nat} {A : Option Addr} {n c : Nat} {l : List UInt8} {x : Int} (h : Live w lo B g A n c l x) :
    Calls Tryd.prog 56 #[.pointer (some ⟨g, 0, none⟩)] w fun e w' => e = .returned (.int .i64 x) ∧ w = w' := by
  have c1 : w.cell? ⟨g, 1, none⟩ = some (.int .i64 x) := h.blk.cell 1
  have c2 : w.cell? ⟨g, 2, none⟩ = some (.bool true) := h.blk.cell 2
  go_enter Tryd.func56, Tryd.ntmps56
  go_wp2
  go_ret
  exact ⟨rfl, rfl⟩
/-- What End answers. -/
def endOf (n : Nat) (x : Int) : Int := if x = 0 then (if n = 0 then 0 else 6) else x
theorem end_live {w : World} {lo B g : Nat} {A : Option Addr} {n c : Nat} {l : List UInt8} {x : Int} (h : Live w lo B g A n c l x) :
    Calls Tryd.prog 30 #[.pointer (some ⟨g, 0, none⟩)] w fun e w' => e = .returned (.int .i64 (endOf n x)) ∧ w = w' := by
  have c0 : w.cell? ⟨g, 0, none⟩ = some (.slice A n c) := h.blk.cell 0
  by_cases hx : x = 0
  · subst hx
    by_cases hn : n = 0
    · subst hn
      have e : endOf 0 0 = 0 := rfl
      rw [e]
      go_enter Tryd.func30, Tryd.ntmps30
      go_wp2_with fail
      refine (err_live h).mono ?_
      rintro e w1 ⟨rfl, rfl⟩
      go_wp2_with fail
      go_ret
      exact ⟨rfl, rfl⟩
    · have e : endOf n 0 = 6 := by simp [endOf, hn]
      rw [e]
      have hp : (0 : Int) < n := by omega
      go_enter Tryd.func30, Tryd.ntmps30
      go_wp2_with fail
      refine (err_live h).mono ?_
      rintro e w1 ⟨rfl, rfl⟩
      go_wp2_with fail
      go_ret
      exact ⟨rfl, rfl⟩
  · have e : endOf n x = x := by simp [endOf, hx]
    rw [e]
    have hb : (x != 0) = true := by simpa using hx
    go_enter Tryd.func30, Tryd.ntmps30
    go_wp2_with fail
    refine (err_live h).mono ?_
    rintro e w1 ⟨rfl, rfl⟩
    go_wp2_with fail
    go_ret
    exact ⟨rfl, rfl⟩

/-- A byte's cell lies in no reader's block. -/
theorem byte_far {w : World} {g : Nat} {A : Option Addr} {n c : Nat} {x : Int} {m : Bool} (hb : Blk w g 82 #[.slice A n c, .int .i64 x, .bool m]) {b o : Nat} {y : Int}
    (hc : w.cell? ⟨b, o, none⟩ = some (.int .u8 y)) : b ≠ g := by
  rintro rfl
  rw [hb.cell] at hc
  match o, hc with
  | 0, hc => simp at hc
  | 1, hc => simp at hc
  | 2, hc => simp at hc
  | o + 3, hc => simp at hc
/-- A store into the reader's own block leaves the bytes. -/
theorem Reads.setR {w : World} {B g n c k : Nat} {A A0 : Option Addr} {n0 : Nat} {l : List UInt8} {x : Int} {m : Bool} (h : Reads w B A n l) (hb : Blk w g 82 #[.slice A0 n0 c, .int .i64 x, .bool m]) (u : Value) :
    Reads (w.setCell ⟨g, k, none⟩ u) B A n l := by
  refine ⟨h.1, fun hn => ?_⟩
  obtain ⟨b, o, e, hlt, hc⟩ := h.2 hn
  refine ⟨b, o, e, hlt, fun i hi => ?_⟩
  have hne := byte_far hb (hc i hi)
  exact (World.cell?_of_block (w := w) (Below.heap_setCell w ⟨g, k, none⟩ u b hne)).trans (hc i hi)
theorem Mine.setR {w : World} {lo B g n c k : Nat} {A A0 : Option Addr} {n0 : Nat} {l : List UInt8} {x : Int} {m : Bool} (hm : Mine w lo A n) (h : Reads w B A n l) (hb : Blk w g 82 #[.slice A0 n0 c, .int .i64 x, .bool m]) (u : Value) :
    Mine (w.setCell ⟨g, k, none⟩ u) lo A n := by
  intro hn
  obtain ⟨b, o, e, hlt, hc⟩ := h.2 hn
  obtain ⟨b', o', e', hlo, hf⟩ := hm hn
  rw [e] at e'
  simp only [Option.some.injEq, Addr.mk.injEq, and_true] at e'
  obtain ⟨rfl, rfl⟩ := e'
  refine ⟨b, o, e, hlo, fun i hi => ?_⟩
  have hne := byte_far hb (hc i hi)
  exact (World.frozen?_of_block (w := w) (Below.heap_setCell w ⟨g, k, none⟩ u b hne)).trans (hf i hi)

theorem fail_none {w : World} {lo B g : Nat} {A : Option Addr} {n c : Nat} {l : List UInt8} {x : Int} (h : Live w lo B g A n c l x) (hx : x ≠ 0) (y : Int) :
    Calls Tryd.prog 82 #[.pointer (some ⟨g, 0, none⟩), .int .i64 y] w fun e w' => e = .returned (.tuple #[]) ∧ w = w' := by
  have hb : (x == 0) = false := by simpa using hx
  go_enter Tryd.func82, Tryd.ntmps82
  go_wp2_with fail
  refine (err_live h).mono ?_
  rintro e w1 ⟨rfl, rfl⟩
  go_wp2_with fail
  go_end0
  exact ⟨rfl, rfl⟩
theorem fail_sets {w : World} {lo B g : Nat} {A : Option Addr} {n c : Nat} {l : List UInt8} (h : Live w lo B g A n c l 0) (y : Int) :
    Calls Tryd.prog 82 #[.pointer (some ⟨g, 0, none⟩), .int .i64 y] w fun e w' => e = .returned (.tuple #[]) ∧ Live w' lo B g A n c l y ∧ w.grownBy w' (some g) := by
  have c1 : w.cell? ⟨g, 1, none⟩ = some (.int .i64 0) := h.blk.cell 1
  have f1 := h.blk.frozen 1
  have lv : Live (w.setCell ⟨g, 1, none⟩ (.int .i64 y)) lo B g A n c l y := ⟨h.blk.setc 1 _, h.low, h.high, h.reads.setR h.blk _, h.mine.setR h.reads h.blk _, h.fit, h.cap, h.nil⟩
  have gr : w.grownBy (w.setCell ⟨g, 1, none⟩ (.int .i64 y)) (some g) := ⟨rfl, rfl, rfl, by simp [World.setCell], fun k _ hk => Below.heap_setCell _ _ _ _ (fun e => hk (by rw [e]))⟩
  go_enter Tryd.func82, Tryd.ntmps82
  go_wp2_with fail
  refine (err_live h).mono ?_
  rintro e w1 ⟨rfl, rfl⟩
  go_wp2_with fail
  go_end0
  exact ⟨rfl, lv, gr⟩

theorem take_none {w : World} {lo B g : Nat} {A : Option Addr} {n c : Nat} {l : List UInt8} {x : Int} (h : Live w lo B g A n c l x) (hx : x ≠ 0) (y : Int) :
    Calls Tryd.prog 84 #[.pointer (some ⟨g, 0, none⟩), .int .i64 y] w fun e w' => e = .returned (.slice none 0 0) ∧ w = w' := by
  have hb : (x != 0) = true := by simpa using hx
  go_enter Tryd.func84, Tryd.ntmps84
  go_wp2_with fail
  refine (err_live h).mono ?_
  rintro e w1 ⟨rfl, rfl⟩
  go_wp2_with fail
  go_ret
  exact ⟨rfl, rfl⟩
theorem take_neg {w : World} {lo B g : Nat} {A : Option Addr} {n c : Nat} {l : List UInt8} (h : Live w lo B g A n c l 0) (y : Int) (hy : y < 0) :
    Calls Tryd.prog 84 #[.pointer (some ⟨g, 0, none⟩), .int .i64 y] w fun e w' => e = .returned (.slice none 0 0) ∧ Live w' lo B g A n c l 2 ∧ w.grownBy w' (some g) := by
  go_enter Tryd.func84, Tryd.ntmps84
  go_wp2_with fail
  refine (err_live h).mono ?_
  rintro e w1 ⟨rfl, rfl⟩
  go_wp2_with fail
  refine (fail_sets h 2).mono ?_
  rintro e w1 ⟨rfl, lv, gr⟩
  go_wp2_with fail
  go_ret
  exact ⟨rfl, lv, gr⟩
theorem take_short {w : World} {lo B g : Nat} {A : Option Addr} {n c : Nat} {l : List UInt8} (h : Live w lo B g A n c l 0) (y : Int) (hy0 : 0 ≤ y) (hy : (n : Int) < y) :
    Calls Tryd.prog 84 #[.pointer (some ⟨g, 0, none⟩), .int .i64 y] w fun e w' => e = .returned (.slice none 0 0) ∧ Live w' lo B g A n c l 3 ∧ w.grownBy w' (some g) := by
  have c0 : w.cell? ⟨g, 0, none⟩ = some (.slice A n c) := h.blk.cell 0
  go_enter Tryd.func84, Tryd.ntmps84
  go_wp2_with fail
  refine (err_live h).mono ?_
  rintro e w1 ⟨rfl, rfl⟩
  go_wp2_with fail
  refine (fail_sets h 3).mono ?_
  rintro e w1 ⟨rfl, lv, gr⟩
  clear c0
  go_wp2_with fail
  go_ret
  exact ⟨rfl, lv, gr⟩
theorem Mine.dropk {w : World} {lo n k : Nat} {A : Option Addr} (h : Mine w lo A n) (hk : k ≤ n) : Mine w lo (A.map (·.add k)) (n - k) := by
  intro hn
  obtain ⟨b, o, rfl, hb, hc⟩ := h (by omega)
  refine ⟨b, o + k, by simp [Addr.add_lit], hb, fun i hi => ?_⟩
  have := hc (k + i) (by omega)
  rw [Nat.add_assoc, this]
theorem Mine.takek {w : World} {lo n k : Nat} {A : Option Addr} (h : Mine w lo A n) (hk : k ≤ n) : Mine w lo A k := by
  intro hn
  obtain ⟨b, o, e, hb, hc⟩ := h (by omega)
  exact ⟨b, o, e, hb, fun i hi => hc i (by omega)⟩

theorem take_ok {w : World} {lo B g : Nat} {A : Option Addr} {n c k : Nat} {l : List UInt8} (h : Live w lo B g A n c l 0) (hk : k ≤ n) :
    Calls Tryd.prog 84 #[.pointer (some ⟨g, 0, none⟩), .int .i64 k] w fun e w' => e = .returned (.slice A k k) ∧
      (∃ A' c', Live w' lo B g A' (n - k) c' (l.drop k) 0 ∧ (0 < n - k → A' = A.map (·.add k))) ∧ Reads w' B A k (l.take k) ∧ Mine w' lo A k ∧ (A = none → k = 0) ∧ w.grownBy w' (some g) := by
  have c0 : w.cell? ⟨g, 0, none⟩ = some (.slice A n c) := h.blk.cell 0
  have f0 := h.blk.frozen 0
  have hf := h.fit
  have hc := h.cap
  have gr : ∀ u, w.grownBy (w.setCell ⟨g, 0, none⟩ u) (some g) := fun u => ⟨rfl, rfl, rfl, by simp [World.setCell], fun k _ hk => Below.heap_setCell _ _ _ _ (fun e => hk (by rw [e]))⟩
  have rd : ∀ u, Reads (w.setCell ⟨g, 0, none⟩ u) B A k (l.take k) := fun u => (h.reads.takek hk).setR h.blk u
  have mi : ∀ u, Mine (w.setCell ⟨g, 0, none⟩ u) lo A k := fun u => (h.mine.takek hk).setR (h.reads.takek hk) h.blk u
  have nn : A = none → k = 0 := fun e => by have := (h.nil e).1; omega
  by_cases hck : c = k
  · have hnk : n = k := by omega
    subst hnk
    subst hck
    have lv : Live (w.setCell ⟨g, 0, none⟩ (.slice A (c - c) 0)) lo B g A (c - c) 0 (l.drop c) 0 := by
      have hd : l.drop c = [] := by rw [List.drop_of_length_le]; have := h.reads.1; omega
      rw [hd, Nat.sub_self]
      exact ⟨h.blk.setc 0 _, h.low, h.high, ⟨rfl, fun hn => by omega⟩, fun hn => by omega, Nat.le_refl _, by omega, fun _ => ⟨rfl, rfl⟩⟩
    have G := Lib.hid gr
    have R := Lib.hid rd
    have M := Lib.hid mi
    clear gr rd mi hk hf
    go_enter Tryd.func84, Tryd.ntmps84
    go_wp2_with fail
    refine (err_live h).mono ?_
    rintro e w1 ⟨rfl, rfl⟩
    go_wp2_with fail
    go_ret
    refine ⟨rfl, ⟨A, 0, ?_, fun hn => by omega⟩, R.out _, M.out _, nn, G.out _⟩
    simpa using lv
  · have lv : Live (w.setCell ⟨g, 0, none⟩ (.slice (A.map (·.add k)) (n - k) (c - k))) lo B g (A.map (·.add k)) (n - k) (c - k) (l.drop k) 0 :=
      ⟨h.blk.setc 0 _, h.low, h.high, (h.reads.dropk hk).setR h.blk _, (h.mine.dropk hk).setR (h.reads.dropk hk) h.blk _, by omega, by omega, fun e => by
        have e2 : A = none := by simpa using e
        have := h.nil e2
        omega⟩
    have G := Lib.hid gr
    have R := Lib.hid rd
    have M := Lib.hid mi
    clear gr rd mi
    go_enter Tryd.func84, Tryd.ntmps84
    go_wp2_with fail
    refine (err_live h).mono ?_
    rintro e w1 ⟨rfl, rfl⟩
    go_wp2_with fail
    go_ret
    exact ⟨rfl, ⟨_, _, lv, fun _ => rfl⟩, R.out _, M.out _, nn, G.out _⟩
end Go.Proofs.YtmpnehhndhepgaaDoor

/- Contracts: one reading of a reader that Open made, whatever is asked. It proves no statement. -/

namespace Go.Proofs.YtmpnehhndhepgaaDoor
open Go.RowKit
set_option linter.unusedVariables false
set_option linter.unusedSimpArgs false

/-- What one reading does: what is left, the error, what was read. -/
def rstep (l : List UInt8) (x y : Int) (num : Bool) : (List UInt8 × Int) × List UInt8 :=
  if x ≠ 0 then ((l, x), [])
  else if y < 0 ∨ (num = true ∧ (y < 1 ∨ 8 < y)) then ((l, 2), [])
  else if (l.length : Int) < y then ((l, 3), [])
  else ((l.drop y.toNat, 0), l.take y.toNat)
theorem rstep_err (l : List UInt8) (x y : Int) (num : Bool) (h : x ≠ 0) : rstep l x y num = ((l, x), []) := by simp [rstep, h]
theorem rstep_arg (l : List UInt8) (y : Int) (num : Bool) (h : y < 0 ∨ (num = true ∧ (y < 1 ∨ 8 < y))) : rstep l 0 y num = ((l, 2), []) := by simp [rstep, h]
theorem rstep_short (l : List UInt8) (y : Int) (num : Bool) (h : ¬ (y < 0 ∨ (num = true ∧ (y < 1 ∨ 8 < y)))) (h2 : (l.length : Int) < y) : rstep l 0 y num = ((l, 3), []) := by
  simp only [rstep, ne_eq, not_true_eq_false, if_false, if_neg h, if_pos h2]
theorem rstep_ok (l : List UInt8) (k : Nat) (num : Bool) (h : ¬ ((k : Int) < 0 ∨ (num = true ∧ ((k : Int) < 1 ∨ 8 < (k : Int))))) (h2 : k ≤ l.length) : rstep l 0 k num = ((l.drop k, 0), l.take k) := by
  simp only [rstep, ne_eq, not_true_eq_false, if_false, if_neg h]
  rw [if_neg (by omega)]
  simp

/-- The row that was handed out lies ahead of what is left. -/
def Ahead (A : Option Addr) (k : Nat) (A' : Option Addr) (n' : Nat) : Prop := 0 < k → 0 < n' → A' = A.map (·.add k)

/-- A reader, whatever its row. -/
def LiveAny (w : World) (lo B g : Nat) (l : List UInt8) (x : Int) : Prop := ∃ A n c, Live w lo B g A n c l x

theorem take_any {w : World} {lo B g : Nat} {A : Option Addr} {n c : Nat} {l : List UInt8} {x : Int} (h : Live w lo B g A n c l x) (y : Int) :
    Calls Tryd.prog 84 #[.pointer (some ⟨g, 0, none⟩), .int .i64 y] w fun e w' =>
      ∃ A1 k A' n' c', e = .returned (.slice A1 k k) ∧ Live w' lo B g A' n' c' (rstep l x y false).1.1 (rstep l x y false).1.2 ∧ Ahead A1 k A' n' ∧ Reads w' B A1 k (rstep l x y false).2 ∧ Mine w' lo A1 k ∧ (A1 = none → k = 0) ∧ w.grownBy w' (some g) := by
  by_cases hx : x = 0
  · subst hx
    by_cases hy : y < 0
    · rw [rstep_arg l y false (.inl hy)]
      exact (take_neg h y hy).mono fun e w' ⟨he, lv, gr⟩ => ⟨none, 0, A, n, c, he, lv, fun h => by omega, Reads.nil0, fun h => by omega, fun _ => rfl, gr⟩
    · by_cases hs : (l.length : Int) < y
      · rw [rstep_short l y false (by simp; omega) hs]
        exact (take_short h y (by omega) (by have := h.reads.1; omega)).mono fun e w' ⟨he, lv, gr⟩ => ⟨none, 0, A, n, c, he, lv, fun h => by omega, Reads.nil0, fun h => by omega, fun _ => rfl, gr⟩
      · obtain ⟨k, rfl⟩ := Int.eq_ofNat_of_zero_le (show 0 ≤ y by omega)
        rw [rstep_ok l k false (by simp) (by omega)]
        exact (take_ok h (k := k) (by have := h.reads.1; omega)).mono fun e w' ⟨he, ⟨A', c', lv, ha⟩, rd, mi, nn, gr⟩ => ⟨A, k, A', n - k, c', he, lv, fun _ h2 => ha h2, rd, mi, nn, gr⟩
  · rw [rstep_err l x y false hx]
    exact (take_none h hx y).mono fun e w' ⟨he, hw⟩ => ⟨none, 0, A, n, c, he, hw ▸ h, fun h => by omega, Reads.nil0, fun h => by omega, fun _ => rfl, hw ▸ World.grownBy.refl _ _⟩

theorem bytes_any {w : World} {lo B g : Nat} {l : List UInt8} {x : Int} (h : LiveAny w lo B g l x) (y : Int) :
    Calls Tryd.prog 72 #[.pointer (some ⟨g, 0, none⟩), .int .i64 y] w fun e w' =>
      ∃ A1 k A' n' c', e = .returned (.slice A1 k k) ∧ Live w' lo B g A' n' c' (rstep l x y false).1.1 (rstep l x y false).1.2 ∧ Ahead A1 k A' n' ∧ Reads w' B A1 k (rstep l x y false).2 ∧ Mine w' lo A1 k ∧ (A1 = none → k = 0) ∧ w.grownBy w' (some g) := by
  obtain ⟨A, n, c, h⟩ := h
  generalize hst : rstep l x y false = st
  have ht := take_any h y
  rw [hst] at ht
  clear hst
  obtain ⟨⟨l1, x1⟩, p1⟩ := st
  simp only at ht ⊢
  go_enter Tryd.func72, Tryd.ntmps72
  go_wp2_with fail
  refine ht.mono ?_
  rintro e w1 ⟨A1, k, A', n', c', rfl, r⟩
  clear ht
  have R := Lib.hid r
  clear r
  go_wp2_with fail
  go_ret
  exact ⟨A1, k, A', n', c', rfl, R.out⟩

theorem text_any {w : World} {lo B g : Nat} {l : List UInt8} {x : Int} (h : LiveAny w lo B g l x) (y : Int) :
    Calls Tryd.prog 73 #[.pointer (some ⟨g, 0, none⟩), .int .i64 y] w fun e w' =>
      e = .returned (.string ⟨(rstep l x y false).2.toArray⟩) ∧ LiveAny w' lo B g (rstep l x y false).1.1 (rstep l x y false).1.2 ∧ w.grownBy w' (some g) := by
  obtain ⟨A, n, c, h⟩ := h
  generalize hst : rstep l x y false = st
  have ht := take_any h y
  rw [hst] at ht
  clear hst
  obtain ⟨⟨l1, x1⟩, p1⟩ := st
  simp only at ht ⊢
  go_enter Tryd.func73, Tryd.ntmps73
  go_wp2_with fail
  refine ht.mono ?_
  rintro e w1 ⟨A1, k, A', n', c', rfl, lv, ha, rd, mi, nn, gr⟩
  have kc := conv_reads rd k
  clear ht mi nn ha
  generalize hq : p1.toArray = q at kc
  have HQ := Lib.hid hq
  clear hq
  go_wp2_with fail
  go_ret
  exact ⟨by rw [HQ.out]; rfl, ⟨A', n', c', lv⟩, gr⟩

theorem num_any {w : World} {lo B g : Nat} {l : List UInt8} {x : Int} (h : LiveAny w lo B g l x) (y : Int) :
    Calls Tryd.prog 67 #[.pointer (some ⟨g, 0, none⟩), .int .i64 y] w fun e w' =>
      e = .returned (.int .u64 (leNum (rstep l x y true).2 : Nat)) ∧ LiveAny w' lo B g (rstep l x y true).1.1 (rstep l x y true).1.2 ∧ w.grownBy w' (some g) := by
  obtain ⟨A, n, c, h⟩ := h
  by_cases hy : y < 1 ∨ 8 < y
  · by_cases hx : x = 0
    · subst hx
      rw [rstep_arg l y true (.inr ⟨rfl, hy⟩)]
      go_enter Tryd.func67, Tryd.ntmps67
      go_wp2_with fail
      refine (fits_no y w hy).mono ?_
      rintro e w1 ⟨rfl, rfl⟩
      go_wp2_with fail
      refine (fail_sets h 2).mono ?_
      rintro e w1 ⟨rfl, lv, gr⟩
      go_wp2_with fail
      go_ret
      exact ⟨rfl, ⟨_, _, _, lv⟩, gr⟩
    · rw [rstep_err l x y true hx]
      go_enter Tryd.func67, Tryd.ntmps67
      go_wp2_with fail
      refine (fits_no y w hy).mono ?_
      rintro e w1 ⟨rfl, rfl⟩
      go_wp2_with fail
      refine (fail_none h hx 2).mono ?_
      rintro e w1 ⟨rfl, rfl⟩
      go_wp2_with fail
      go_ret
      exact ⟨rfl, ⟨_, _, _, h⟩, World.grownBy.refl _ _⟩
  · have e : rstep l x y true = rstep l x y false := by
      have h1 : ¬ (y < 0 ∨ (true = true ∧ (y < 1 ∨ 8 < y))) := by simp; omega
      have h2 : ¬ (y < 0 ∨ (false = true ∧ (y < 1 ∨ 8 < y))) := by simp; omega
      unfold rstep
      rw [if_neg h1, if_neg h2]
    rw [e]
    have hl : (rstep l x y false).2 = [] ∨ (1 ≤ (rstep l x y false).2.length ∧ (rstep l x y false).2.length ≤ 8) := by
      unfold rstep
      split
      · exact .inl rfl
      · split
        · exact .inl rfl
        · split
          · exact .inl rfl
          · right
            simp only [List.length_take]
            omega
    generalize hst : rstep l x y false = st at hl
    have ht := take_any h y
    rw [hst] at ht
    clear hst e
    obtain ⟨⟨l1, x1⟩, p1⟩ := st
    simp only at ht hl ⊢
    go_enter Tryd.func67, Tryd.ntmps67
    go_wp2_with fail
    refine (fits_yes y w (by omega) (by omega)).mono ?_
    rintro e w1 ⟨rfl, rfl⟩
    go_wp2_with fail
    refine ht.mono ?_
    rintro e w1 ⟨A1, k, A', n', c', rfl, lv, ha, rd, mi, nn, gr⟩
    clear ht
    rcases hl with rfl | ⟨h1, h2⟩
    · have hk : k = 0 := rd.1.symm
      subst hk
      clear rd mi nn ha
      go_wp2_with fail
      refine (get_no A1 0 0 w1 (by omega)).mono ?_
      rintro e w2 ⟨rfl, rfl⟩
      go_wp2_with fail
      go_ret
      exact ⟨rfl, ⟨_, _, _, lv⟩, gr⟩
    · have hk : p1.length = k := rd.1
      rw [hk] at h1 h2
      have HR := Lib.hid rd
      clear rd mi nn ha hk
      generalize hz : leNum p1 = z
      have HZ := Lib.hid hz
      clear hz
      go_wp2_with fail
      refine (get_yes A1 k k p1 w1 _ HR.out h1 h2).mono ?_
      rintro e w2 ⟨rfl, rfl⟩
      rw [HZ.out]
      go_wp2_with fail
      go_ret
      exact ⟨by rw [HZ.out]; rfl, ⟨_, _, _, lv⟩, gr⟩
end Go.Proofs.YtmpnehhndhepgaaDoor

/- 'append(b, c...)', told where the row lies behind it. It proves no statement. -/

namespace Go.Proofs.YtmpnehhndhepgaaDoor
open Go.RowKit
set_option linter.unusedVariables false

theorem run_adds_at (w : World) (ty : TypeId) (base : Nat) (v : Value) (n : Nat) (l : List UInt8) (hown : w.ownsRow base 5 1 v n (bytesV l)) (A : Option Addr) (n' c' : Nat) (B : Nat) (l' : List UInt8)
    (hr : Reads w B A n' l') (hA : A = none → c' = 0) (hn : n + n' ≤ 140737488355328) (hbase : base ≤ w.heap.size) :
    ∃ v' w', (Builtin.append_ #[22, 22] ty #[v, .slice A n' c']).run Tryd.prog w = .ok v' w' ∧ w'.ownsRow base 5 1 v' (n + n') (bytesV (l ++ l')) ∧ w.grownBy w' v.ownBlock ∧ (v'.ownBlock = v.ownBlock ∨ v'.ownBlock = some w.heap.size) := by
  obtain ⟨i0, hi, hz0, hz1, hz2⟩ := info_parts Tryd.infoByte
  rcases A with _ | ad
  · have h0 : n' = 0 := by
      rcases Nat.eq_zero_or_pos n' with h0 | h0
      · exact h0
      · obtain ⟨_, _, e, _⟩ := hr.2 h0
        cases e
    subst h0
    have hl : l' = [] := List.eq_nil_of_length_eq_zero hr.1
    subst hl
    obtain rfl := hA rfl
    exact ⟨v, w, run_append_owned_none (P := Tryd.prog) w base 22 ty 5 i0 1 Tryd.underlying22 hi v n _ hown, by simpa using hown, World.grownBy.refl _ _, .inl rfl⟩
  · have hnews : ∀ j u, (bytesV l')[j]? = some u → w.cell? (ad.add j) = some u := by
      intro j u hu
      rcases Nat.eq_zero_or_pos n' with h0 | h0
      · subst h0
        have hl : l' = [] := List.eq_nil_of_length_eq_zero hr.1
        subst hl
        simp [bytesV] at hu
      · exact hr.news ad rfl h0 j u hu
    obtain ⟨v', w', hrun, h2, h3, _, h5⟩ := run_append_own_at (P := Tryd.prog) w base 22 ty 5 i0 (.int .u8 0) 1 1 Tryd.underlying22 hi hz0 hz1 hz2 rfl (by decide) v n _ hown ad n' c' (bytesV l') (by rw [bytesV_length, hr.1]; omega) hnews (bytesV_one _) (by unfold maxLen; omega) (by omega) hbase
    rw [← bytesV_append] at h2
    exact ⟨v', w', hrun, h2, h3, h5⟩
theorem wpList_adds_at (w : World) {ops : Array Oper} {rest : List Oper} {o : Oper} {a : Act} {Q : Exit → Act → World → Prop} (hgd : o.guard = none) (s x : Operand)
    (ho : o.op = .call { callee := .builtin .append, args := #[s, x], argTypes := #[22, 22] })
    (base : Nat) (v : Value) (n : Nat) (l : List UInt8) (hs : a.eval s = v) (hown : w.ownsRow base 5 1 v n (bytesV l)) (A : Option Addr) (n' c' : Nat) (B : Nat) (l' : List UInt8)
    (hx : a.eval x = .slice A n' c') (hr : Reads w B A n' l') (hA : A = none → c' = 0) (hn : n + n' ≤ 140737488355328) (hbase : base ≤ w.heap.size)
    (h : ∀ v' w', w'.ownsRow base 5 1 v' (n + n') (bytesV (l ++ l')) → w.grownBy w' v.ownBlock → (v'.ownBlock = v.ownBlock ∨ v'.ownBlock = some w.heap.size) → wpList Tryd.prog ops Q rest (a.put o.dst v') w') :
    wpList Tryd.prog ops Q (o :: rest) a w := by
  refine wpList_plain hgd fun K hK => ?_
  obtain ⟨v', w', hrun, h2, h3, h4⟩ := run_adds_at w o.type base v n l hown A n' c' B l' hr hA hn hbase
  unfold Oper.wp execOp
  simp only [ho, resolve, invoke, builtin, Sem.run_bind, Sem.run_pure, Result.andThen_ok, List.map_toArray, List.map_cons, List.map_nil, hs, hx, hrun]
  exact hK _ _ (h v' w' h2 h3 h4)
end Go.Proofs.YtmpnehhndhepgaaDoor

/- Rows outside a block that is written. It proves no statement. -/

namespace Go.Proofs.YtmpnehhndhepgaaDoor
open Go.RowKit
set_option linter.unusedVariables false

theorem grownBy_drew {w w' : World} {r : Option Nat} (h : w.grownBy w' r) : w.grownBy w'.drew r := ⟨h.os, h.tape, h.output, h.size, h.block⟩
theorem grownBy_drewN {w w' : World} {r : Option Nat} (h : w.grownBy w' r) (n : Nat) : w.grownBy (w'.drewN n) r := ⟨h.os, h.tape, h.output, h.size, h.block⟩
theorem grownBy_set (w : World) (g o : Nat) (u : Value) : w.grownBy (w.setCell ⟨g, o, none⟩ u) (some g) := ⟨rfl, rfl, rfl, by simp [World.setCell], fun k _ hk => Below.heap_setCell _ _ _ _ (fun e => hk (by rw [e]))⟩
/-- A row that reads and lies outside block g. -/
def Far (g : Nat) (A : Option Addr) (n : Nat) : Prop := ∀ ad, A = some ad → 0 < n → ad.block ≠ g
theorem Reads.grown {w w' : World} {B g n : Nat} {A : Option Addr} {l : List UInt8} (h : Reads w B A n l) (hf : Far g A n) (hg : w.grownBy w' (some g)) : Reads w' B A n l := by
  refine ⟨h.1, fun hn => ?_⟩
  obtain ⟨b, o, e, hb, hc⟩ := h.2 hn
  refine ⟨b, o, e, hb, fun i hi => ?_⟩
  have hne := hf _ e hn
  rw [hg.cell_far ⟨b, o + i, none⟩ (World.block_lt_of_cell? w _ (hc i hi)) (fun e2 => hne (Option.some.inj e2))]
  exact hc i hi
theorem still_grown {w w1 w2 : World} {g : Nat} (s : Still w w1) (gr : w1.grownBy w2 (some g)) (hg : w.heap.size ≤ g) : Still w w2 := s.grown gr s.size (fun k hk => by cases hk; exact hg)
theorem far_low {w : World} {B g n : Nat} {A : Option Addr} {l : List UInt8} (h : Reads w B A n l) (hB : B ≤ g) : Far g A n := by
  intro ad e hn
  obtain ⟨b, o, e2, hb, _⟩ := h.2 hn
  rw [e2] at e
  cases e
  show b ≠ g
  omega
theorem far_own {w : World} {base g n c : Nat} {A : Option Addr} {xs : List Value} (h : w.ownsRow base 5 1 (.slice A n c) n xs) (hg : g < base) : Far g A n := by
  intro ad e hn
  subst e
  rcases h.2 with ⟨_, h0⟩ | ⟨b, cap, cur, hv, hb, _⟩
  · omega
  · injection hv with hv1
    cases hv1
    show b ≠ g
    omega
end Go.Proofs.YtmpnehhndhepgaaDoor

/- 'var a [n]T': a new block of noughts. It proves no statement. -/




namespace Go.Proofs.YtmpnehhndhepgaaDoor
open Go.RowKit
set_option linter.unusedVariables false
set_option linter.unusedSimpArgs false

theorem run_alloc_arr {P : Program} (ρ : Operand → Value) (o : Oper) (t : TypeId) (ho : o.op = .alloc t) (cs : Array Value) (n : Nat) (h : (P.info? t).map (fun i => (i.zero, i.size)) = some (some (.agg cs), n)) (w : World) :
    (execOp ρ o).run P w = .ok (.value (.pointer (some ⟨w.heap.size, 0, none⟩))) (w.alloc (.cells cs t)) := by
  have hz := (zero_of_info h).1
  unfold execOp
  simp [ho, Instr.alloc, hz, Value.cells, newVar, newRow, Sem.run_bind]
theorem wpList_alloc_arr {P : Program} {ops : Array Oper} {rest : List Oper} {o : Oper} {a : Act} {w : World} {Q : Exit → Act → World → Prop} (hg : o.guard = none) (t : TypeId) (ho : o.op = .alloc t) (dst : Option Tmp) (hdst : o.dst = dst) (cs : Array Value) (n : Nat)
    (hi : (P.info? t).map (fun i => (i.zero, i.size)) = some (some (.agg cs), n)) (h : wpList P ops Q rest (a.put dst (.pointer (some ⟨w.heap.size, 0, none⟩))) (w.alloc (.cells cs t))) : wpList P ops Q (o :: rest) a w :=
  Go.Great.wpList_runTo hg dst hdst _ _ (run_alloc_arr _ o t ho cs n hi w) h
theorem wpList_box_arr {P : Program} {ops : Array Oper} {rest : List Oper} {o : Oper} {a : Act} {w : World} {Q : Exit → Act → World → Prop} (hg : o.guard = none) (t : TypeId) (x : Operand) (ho : o.op = .box t x) (dst : Option Tmp) (hdst : o.dst = dst) (cs : Array Value)
    (hx : a.eval x = .agg cs) (h : wpList P ops Q rest (a.put dst (.pointer (some ⟨w.heap.size, 0, none⟩))) (w.alloc (.cells cs t))) : wpList P ops Q (o :: rest) a w := by
  refine Go.Great.wpList_runTo hg dst hdst _ _ ?_ h
  unfold execOp
  simp [ho, hx, Instr.box, Value.cells, newVar, newRow, Sem.run_bind]
/-- An element of an array that is a value. -/
theorem run_index_arr {P : Program} (w : World) (t e : TypeId) (n : Nat) (k : IntKind) (ht : P.underlying t = some (.array n e)) (he : P.underlying e = some (.int k)) (hs : (P.info? e).map (·.size) = some 1)
    (cs : List Value) (hn : cs.length = n) (i : Nat) (hi : i < n) (v : Value) (hv : cs[i]? = some v) : (Instr.index t (.agg cs.toArray) (.int .i64 (i : Int))).run P w = .ok v w := by
  cases hq : P.info? e with
  | none => simp [hq] at hs
  | some ie =>
    have hz : ie.size = 1 := by simpa [hq] using hs
    simp [Instr.index, asIntOf, run_underlying ht, Sem.run_bind, sizeOf, typeInfo, hq, hz, part, isAgg, run_underlying he, hv, hi]
end Go.Proofs.YtmpnehhndhepgaaDoor

/- Contracts: tags. It proves no statement. -/

namespace Go.Proofs.YtmpnehhndhepgaaDoor
open Go.RowKit
set_option linter.unusedVariables false
set_option linter.unusedSimpArgs false

/-- How many bytes stand behind a tag. -/
def bh (t : Nat) : Nat :=
  if t = 196 ∨ t = 217 ∨ t = 204 ∨ t = 208 then 1
  else if t = 197 ∨ t = 218 ∨ t = 220 ∨ t = 222 ∨ t = 205 ∨ t = 209 then 2
  else if t = 206 ∨ t = 210 then 4
  else if t = 207 ∨ t = 211 then 8
  else 0
theorem ret_i64 {a b : Int} (h : a = b) : Ending.returned (.int .i64 a) = .returned (.int .i64 b) := by rw [h]
theorem ret_u8 {a b : Int} (h : a = b) : Ending.returned (.int .u8 a) = .returned (.int .u8 b) := by rw [h]

set_option maxHeartbeats 800000 in
theorem behind_any (t : Nat) (w : World) : Calls Tryd.prog 63 #[.int .u8 (t : Int)] w fun e w' => e = .returned (.int .i64 (bh t : Nat)) ∧ w = w' := by
  obtain ⟨b, hb⟩ : ∃ b, b = bh t := ⟨_, rfl⟩
  rw [← hb]
  have HB := Lib.hid hb
  clear hb
  go_enter Tryd.func63, Tryd.ntmps63
  go_wp2_with fail
  all_goals
    (try simp only [beq_iff_eq, beq_eq_false_iff_ne, ne_eq, decide_eq_true_eq, decide_eq_false_iff_not] at *)
    go_ret
    refine ⟨ret_i64 ?_, rfl⟩
    rw [HB.out]
    unfold bh
    first
      | (rw [if_pos (by omega)]; rfl)
      | (rw [if_neg (by omega), if_pos (by omega)]; rfl)
      | (rw [if_neg (by omega), if_neg (by omega), if_pos (by omega)]; rfl)
      | (rw [if_neg (by omega), if_neg (by omega), if_neg (by omega), if_pos (by omega)]; rfl)
      | (rw [if_neg (by omega), if_neg (by omega), if_neg (by omega), if_neg (by omega)]; rfl)

/-- The kind that a tag begins. -/
def kd (t : Nat) : Int :=
  if t < 128 ∨ 224 ≤ t ∨ (204 ≤ t ∧ t ≤ 211) then 3
  else if t < 144 ∨ t = 222 then 7
  else if t < 160 ∨ t = 220 then 6
  else if t < 192 ∨ t = 217 ∨ t = 218 then 5
  else if t = 196 ∨ t = 197 then 4
  else if t = 192 then 0
  else if t = 194 then 1
  else if t = 195 then 2
  else -1
set_option maxRecDepth 100000 in
set_option maxHeartbeats 1600000 in
theorem kindOf_any (t : Nat) (w : World) : Calls Tryd.prog 50 #[.int .u8 (t : Int)] w fun e w' => e = .returned (.int .i64 (kd t)) ∧ w = w' := by
  obtain ⟨b, hb⟩ : ∃ b, b = kd t := ⟨_, rfl⟩
  rw [← hb]
  have HB := Lib.hid hb
  clear hb
  go_enter Tryd.func50, Tryd.ntmps50
  go_wp2_with fail
  all_goals
    (try simp only [beq_iff_eq, beq_eq_false_iff_ne, ne_eq, decide_eq_true_eq, decide_eq_false_iff_not] at *)
    go_ret
    refine ⟨ret_i64 ?_, rfl⟩
    rw [HB.out]
    unfold kd
    first
      | (rw [if_pos (by omega)]; done)
      | (rw [if_neg (by omega), if_pos (by omega)]; done)
      | (rw [if_neg (by omega), if_neg (by omega), if_pos (by omega)]; done)
      | (rw [if_neg (by omega), if_neg (by omega), if_neg (by omega), if_pos (by omega)]; done)
      | (rw [if_neg (by omega), if_neg (by omega), if_neg (by omega), if_neg (by omega), if_pos (by omega)]; done)
      | (rw [if_neg (by omega), if_neg (by omega), if_neg (by omega), if_neg (by omega), if_neg (by omega), if_pos (by omega)]; done)
      | (rw [if_neg (by omega), if_neg (by omega), if_neg (by omega), if_neg (by omega), if_neg (by omega), if_neg (by omega), if_pos (by omega)]; done)
      | (rw [if_neg (by omega), if_neg (by omega), if_neg (by omega), if_neg (by omega), if_neg (by omega), if_neg (by omega), if_neg (by omega), if_pos (by omega)]; done)
      | (rw [if_neg (by omega), if_neg (by omega), if_neg (by omega), if_neg (by omega), if_neg (by omega), if_neg (by omega), if_neg (by omega), if_neg (by omega)]; done)

/-- The tag of a number that has one, two, four, eight bytes; a: the first tag of its kind. -/
def pk (x a : Nat) : Nat := if x < 256 then a else if x < 65536 then a + 1 else if x < 4294967296 then a + 2 else a + 3
set_option maxRecDepth 100000 in
set_option maxHeartbeats 800000 in
theorem pick_any (x a : Nat) (w : World) (hx : x < 18446744073709551616) :
    Calls Tryd.prog 64 #[.int .u64 (x : Int), .agg #[.int .u8 (a : Int), .int .u8 ((a + 1 : Nat) : Int), .int .u8 ((a + 2 : Nat) : Int), .int .u8 ((a + 3 : Nat) : Int)]] w fun e w' => e = .returned (.int .u8 (pk x a : Nat)) ∧ Still w w' := by
  obtain ⟨b, hb⟩ : ∃ b, b = pk x a := ⟨_, rfl⟩
  rw [← hb]
  have HB := Lib.hid hb
  clear hb hx
  generalize hb1 : a + 1 = a1
  generalize hb2 : a + 2 = a2
  generalize hb3 : a + 3 = a3
  have HA := Lib.hid (⟨hb1, hb2, hb3⟩ : a + 1 = a1 ∧ a + 2 = a2 ∧ a + 3 = a3)
  clear hb1 hb2 hb3
  have key : (((x : Int) < 256 ∧ b = a) ∨ (¬ (x : Int) < 256 ∧ (x : Int) < 65536 ∧ b = a1) ∨ (¬ (x : Int) < 256 ∧ ¬ (x : Int) < 65536 ∧ (x : Int) < 4294967296 ∧ b = a2) ∨ (¬ (x : Int) < 256 ∧ ¬ (x : Int) < 65536 ∧ ¬ (x : Int) < 4294967296 ∧ b = a3)) := by
    have h := HA.out
    rw [HB.out]
    unfold pk
    by_cases h1 : x < 256
    · rw [if_pos h1]; exact .inl ⟨by omega, rfl⟩
    · by_cases h2 : x < 65536
      · rw [if_neg h1, if_pos h2]; exact .inr (.inl ⟨by omega, by omega, by omega⟩)
      · by_cases h3 : x < 4294967296
        · rw [if_neg h1, if_neg h2, if_pos h3]; exact .inr (.inr (.inl ⟨by omega, by omega, by omega, by omega⟩))
        · rw [if_neg h1, if_neg h2, if_neg h3]; exact .inr (.inr (.inr ⟨by omega, by omega, by omega, by omega⟩))
  have st := (Still.refl w).alloc (Nat.le_refl _) (.cells #[.int .u8 (a : Int), .int .u8 (a1 : Int), .int .u8 (a2 : Int), .int .u8 (a3 : Int)] 101)
  rcases key with ⟨h1, rfl⟩ | ⟨h1, h2, rfl⟩ | ⟨h1, h2, h3, rfl⟩ | ⟨h1, h2, h3, rfl⟩
  all_goals
    go_enter Tryd.func64, Tryd.ntmps64
    go_wp2_with fail
    go_ret
    exact ⟨rfl, st⟩
end Go.Proofs.YtmpnehhndhepgaaDoor

/- Contract: a number's tag. It proves no statement. -/


namespace Go.Proofs.YtmpnehhndhepgaaDoor
open Go.RowKit
set_option linter.unusedVariables false
set_option linter.unusedSimpArgs false

/-- A number's tag. -/
def nt (x : Int) : Nat := if -32 ≤ x ∧ x ≤ 127 then (x % 256).toNat else if 0 ≤ x then pk x.toNat 204 else pk (2 * (-x - 1)).toNat 208
theorem i64_flip (x : Int) (h1 : -9223372036854775808 ≤ x) (h2 : x ≤ 9223372036854775807) : bits .xor .i64 (-1) x = -1 - x := by
  show IntKind.i64.wrap ((BitVec.ofInt 64 (-1) ^^^ BitVec.ofInt 64 x).toNat : Int) = _
  have h : BitVec.ofInt 64 (-1) = BitVec.allOnes 64 := by decide
  rw [h, BitVec.allOnes_xor, BitVec.toNat_not, BitVec.toNat_ofInt, IntKind.wrap_i64]
  omega
theorem pick_lit (x : Nat) (w : World) (hx : x < 18446744073709551616) :
    Calls Tryd.prog 64 #[.int .u64 (x : Int), .agg #[.int .u8 204, .int .u8 205, .int .u8 206, .int .u8 207]] w fun e w' => e = .returned (.int .u8 (pk x 204 : Nat)) ∧ Still w w' := pick_any x 204 w hx
theorem pick_lit2 (x : Nat) (w : World) (hx : x < 18446744073709551616) :
    Calls Tryd.prog 64 #[.int .u64 (x : Int), .agg #[.int .u8 208, .int .u8 209, .int .u8 210, .int .u8 211]] w fun e w' => e = .returned (.int .u8 (pk x 208 : Nat)) ∧ Still w w' := pick_any x 208 w hx

set_option maxRecDepth 100000 in
set_option maxHeartbeats 800000 in
theorem numTag_any (x : Int) (w : World) (h1 : -9223372036854775808 ≤ x) (h2 : x ≤ 9223372036854775807) :
    Calls Tryd.prog 41 #[.int .i64 x] w fun e w' => e = .returned (.int .u8 (nt x : Nat)) ∧ Still w w' := by
  by_cases c1 : -32 ≤ x ∧ x ≤ 127
  · obtain ⟨a, b⟩ := c1
    have e : ((nt x : Nat) : Int) = x % 256 := by unfold nt; rw [if_pos ⟨a, b⟩]; omega
    have HE := Lib.hid e
    clear e h1 h2
    go_enter Tryd.func41, Tryd.ntmps41
    go_wp2_with fail
    go_ret
    exact ⟨ret_u8 HE.out.symm, Still.refl w⟩
  · by_cases c2 : 0 ≤ x
    · obtain ⟨n, rfl⟩ := Int.eq_ofNat_of_zero_le c2
      have e : nt (n : Int) = pk n 204 := by unfold nt; rw [if_neg c1, if_pos c2]; rfl
      have HP := Lib.hid (fun w => pick_lit n w (by omega))
      have d1 : -32 ≤ (n : Int) := by omega
      have d2 : ¬ (n : Int) ≤ 127 := by omega
      have e2 : IntKind.u64.wrap (n : Int) = (n : Int) := by rw [IntKind.wrap_u64]; omega
      rw [e]
      obtain ⟨y, hy⟩ : ∃ y, y = pk n 204 := ⟨_, rfl⟩
      rw [← hy] at HP ⊢
      clear e c1 h1 h2 hy
      go_enter Tryd.func41, Tryd.ntmps41
      go_wp2_with fail
      refine (HP.out _).mono ?_
      rintro e w1 ⟨rfl, s1⟩
      go_wp2_with fail
      go_ret
      exact ⟨rfl, s1⟩
    · obtain ⟨n, hn⟩ := Int.eq_ofNat_of_zero_le (show 0 ≤ -x - 1 by omega)
      have e : nt x = pk (2 * n) 208 := by unfold nt; rw [if_neg c1, if_neg c2, hn]; rfl
      have HP := Lib.hid (fun w => pick_lit2 (2 * n) w (by omega))
      have d1 : ¬ -32 ≤ x := by omega
      have d2 : ¬ 0 ≤ x := by omega
      have e1 : bits .xor .i64 (-1) x = (n : Int) := by rw [i64_flip x h1 h2]; omega
      have e2 : IntKind.u64.wrap (n : Int) = (n : Int) := by rw [IntKind.wrap_u64]; omega
      obtain ⟨m, hm⟩ : ∃ m, m = 2 * n := ⟨_, rfl⟩
      have e3 : IntKind.u64.wrap ((n : Int) * 2) = (m : Int) := by rw [IntKind.wrap_u64]; omega
      have e4 : (n : Int) * 2 = (m : Int) := by omega
      have e5 : IntKind.u64.wrap (m : Int) = (m : Int) := by rw [IntKind.wrap_u64]; omega
      rw [e]
      rw [← hm] at HP ⊢
      obtain ⟨y, hy⟩ : ∃ y, y = pk m 208 := ⟨_, rfl⟩
      rw [← hy] at HP ⊢
      have HX := Lib.hid hn
      clear e c1 c2 h1 h2 hy hn hm
      go_enter Tryd.func41, Tryd.ntmps41
      go_wp2_with fail
      refine (HP.out _).mono ?_
      rintro e w1 ⟨rfl, s1⟩
      go_wp2_with fail
      go_ret
      exact ⟨rfl, s1⟩
end Go.Proofs.YtmpnehhndhepgaaDoor

/- Contracts: the writer that lays bytes. It proves no statement. -/




namespace Go.Proofs.YtmpnehhndhepgaaDoor
open Go.RowKit
set_option linter.unusedVariables false
set_option linter.unusedSimpArgs false

/-- The writer at block g, its row in block R: what was laid, and whether it was too much. -/
def Wr (w : World) (lo g : Nat) (R : Option Nat) (s : List UInt8 × Bool) : Prop :=
  lo ≤ g ∧ s.1.length ≤ 65536 ∧ ∃ A c, R = (Value.slice A s.1.length c).ownBlock ∧ Blk w g 53 #[.slice A s.1.length c, .bool s.2] ∧ w.ownsRow lo 5 1 (.slice A s.1.length c) s.1.length (bytesV s.1) ∧ R ≠ some g
/-- All blocks but the writer's are as they were. -/
structure Kept (g : Nat) (R : Option Nat) (w w' : World) : Prop where
  os : w'.os = w.os
  tape : w'.tape = w.tape
  output : w'.output = w.output
  size : w.heap.size ≤ w'.heap.size
  block : ∀ k, k < w.heap.size → k ≠ g → R ≠ some k → w'.heap[k]? = w.heap[k]?
/-- From w to w' only the writer wrote; its row lies in block R2 then. -/
def Via (g : Nat) (R R2 : Option Nat) (w w' : World) : Prop := Kept g R w w' ∧ ∀ k, k < w.heap.size → R2 = some k → R = some k
/-- The writer has written. -/
def Wrote (w w' : World) (lo g : Nat) (R : Option Nat) (s' : List UInt8 × Bool) : Prop := ∃ R', Wr w' lo g R' s' ∧ Via g R R' w w'
/-- What one laying does. -/
def lay1 (s : List UInt8 × Bool) (l : List UInt8) : List UInt8 × Bool := if 65536 < s.1.length + l.length then (s.1, true) else (s.1 ++ l, s.2)

section
variable {w w' w'' : World} {lo g : Nat} {R : Option Nat} {s s' : List UInt8 × Bool}
theorem Wr.below (h : Wr w lo g R s) (b : Still w w') : Wr w' lo g R s := by
  obtain ⟨h1, h2, A, c, hR, hb, ho, hn⟩ := h
  exact ⟨h1, h2, A, c, hR, hb.still b, own_still ho b, hn⟩
theorem Wr.lt (h : Wr w lo g R s) : lo ≤ w.heap.size ∧ g < w.heap.size ∧ lo ≤ g := by
  obtain ⟨h1, h2, A, c, hR, hb, ho, hn⟩ := h
  have := hb.lt
  exact ⟨by omega, this, h1⟩
theorem Wr.row (h : Wr w lo g R s) (k : Nat) (hk : R = some k) : lo ≤ k ∧ k < w.heap.size := by
  obtain ⟨h1, h2, A, c, hR, hb, ho, hn⟩ := h
  exact ho.lt k (hR ▸ hk)
theorem Kept.low (h : Kept g R w w') (hw : Wr w lo g R s) : Below lo w w' :=
  ⟨h.os, h.tape, h.output, h.size, fun k hk => h.block k (by have := hw.lt; omega) (by have := hw.lt; omega) (fun e => by have := hw.row k e; omega)⟩
theorem Via.refl (g : Nat) (R : Option Nat) (w : World) : Via g R R w w := ⟨⟨rfl, rfl, rfl, Nat.le_refl _, fun _ _ _ _ => rfl⟩, fun _ _ e => e⟩
theorem Via.trans {R1 R2 : Option Nat} (h : Via g R R1 w w') (n : Via g R1 R2 w' w'') : Via g R R2 w w'' := by
  obtain ⟨k, hr⟩ := h
  obtain ⟨k2, hr2⟩ := n
  exact ⟨⟨k2.os.trans k.os, k2.tape.trans k.tape, k2.output.trans k.output, Nat.le_trans k.size k2.size, fun i hi h1 h2 => (k2.block i (Nat.lt_of_lt_of_le hi k.size) h1 (fun e => h2 (hr i hi e))).trans (k.block i hi h1 h2)⟩, fun i hi e => hr i hi (hr2 i (Nat.lt_of_lt_of_le hi k.size) e)⟩
/-- Other blocks were made. -/
theorem Via.of_still (b : Still w w') : Via g R R w w' := ⟨⟨b.os, b.tape, b.output, b.size, fun i hi _ _ => b.block i hi⟩, fun _ _ e => e⟩
theorem Via.low {R2 : Option Nat} (h : Via g R R2 w w') (hw : Wr w lo g R s) : Below lo w w' := h.1.low hw
theorem Via.size {R2 : Option Nat} (h : Via g R R2 w w') : w.heap.size ≤ w'.heap.size := h.1.size
/-- A block of somebody else's stays. -/
theorem Via.blk {R2 : Option Nat} (h : Via g R R2 w w') {k : Nat} {t : TypeId} {cs : Array Value} (hb : Blk w k t cs) (h1 : k ≠ g) (h2 : R ≠ some k) : Blk w' k t cs :=
  (h.1.block k hb.lt h1 h2).trans hb
end

set_option maxRecDepth 100000 in
set_option maxHeartbeats 800000 in
theorem lay_any {w : World} {lo g : Nat} {R : Option Nat} {s : List UInt8 × Bool} (h : Wr w lo g R s) (A0 : Option Addr) (n c0 : Nat) (l : List UInt8) (B : Nat) (hr : Reads w B A0 n l) (hn : n ≤ 70368744177664) (hA : A0 = none → c0 = 0) :
    Calls Tryd.prog 39 #[.pointer (some ⟨g, 0, none⟩), .slice A0 n c0] w fun e w' => e = .returned (.tuple #[]) ∧ Wrote w w' lo g R (lay1 s l) := by
  obtain ⟨h1, h2, A, c, hRR, hb, ho, hne⟩ := h
  obtain ⟨o, big⟩ := s
  simp only at *
  obtain ⟨L, hL⟩ : ∃ L, L = o.length := ⟨_, rfl⟩
  rw [← hL] at h2 hb ho hRR
  rw [hRR] at hne
  have HRR := Lib.hid hRR
  clear hRR
  have hlen := hr.1
  have hlow := hb.lt
  have hc := ho
  have c0' : w.cell? ⟨g, 0, none⟩ = some (.slice A L c) := hb.cell 0
  have c1' : w.cell? ⟨g, 1, none⟩ = some (.bool big) := hb.cell 1
  have f0 : w.frozen? ⟨g, 0, none⟩ = false := hb.frozen 0
  have f1 : w.frozen? ⟨g, 1, none⟩ = false := hb.frozen 1
  have e1 : IntKind.i64.wrap (65536 - (L : Int)) = 65536 - (L : Int) := by rw [IntKind.wrap_i64]; omega
  have HLEN := Lib.hid hlen
  have HL := Lib.hid hL
  have HB := Lib.hid hb
  have HO := Lib.hid ho
  have HNE := Lib.hid hne
  have HR := Lib.hid hr
  have HAN := Lib.hid hA
  clear hL hb ho hne hr hlen hc hA
  by_cases hlong : 65536 < L + n
  · have d1 : (65536 : Int) - (L : Int) < (n : Int) := by omega
    have e : lay1 (o, big) l = (o, true) := by unfold lay1; rw [if_pos (by simp only; rw [← HL.out, HLEN.out]; exact hlong)]
    have HE := Lib.hid e
    clear e hlong
    go_enter Tryd.func39, Tryd.ntmps39
    go_wp2_with fail
    (try simp only [Exit.inBlock, Exit.then])
    refine bodyPost_ret (results_none rfl _ _ _) rfl ?_
    rw [HE.out]
    have gs := grownBy_set w g 1 (.bool true)
    refine ⟨rfl, R, ⟨h1, by rw [← HL.out]; exact h2, A, c, ?_, ?_, ?_, ?_⟩, ⟨gs.os, gs.tape, gs.output, gs.size, fun k hk hkg _ => gs.block k hk (fun e => hkg (Option.some.inj e))⟩, fun k _ e => e⟩
    · rw [← HL.out]; exact HRR.out
    · rw [← HL.out]; exact HB.out.setc 1 _
    · rw [← HL.out]; exact HO.out.kept gs (.inr HNE.out)
    · rw [HRR.out]; exact HNE.out
  · have d1 : ¬ (65536 : Int) - (L : Int) < (n : Int) := by omega
    have e : lay1 (o, big) l = (o ++ l, big) := by unfold lay1; rw [if_neg (by simp only; rw [← HL.out, HLEN.out]; exact hlong)]
    have HE := Lib.hid e
    have HLG := Lib.hid hlong
    clear e hlong
    go_enter Tryd.func39, Tryd.ntmps39
    go_wp2_with (at_builtin; go_must (refine wpList_adds_at _ rfl _ _ rfl lo _ L o rfl HO.out A0 n c0 B l rfl HR.out HAN.out ?c1 ?c2 ?_))
    case c1 => have := HLG.out; omega
    case c2 => omega
    intro v' w1 own1 gr1 loc1
    obtain ⟨A1, k1, rfl, q1, q2, q3⟩ := own_form own1
    have hne1 : (Value.slice A1 (L + n) k1).ownBlock ≠ some g := by
      rcases loc1 with h | h
      · rw [h]; exact HNE.out
      · rw [h]; intro e; cases e; omega
    have hb1 : Blk w1 g 53 #[.slice A L c, .bool big] := (gr1.block g hlow (fun e => HNE.out e.symm)).trans HB.out
    have f01 : w1.frozen? ⟨g, 0, none⟩ = false := hb1.frozen 0
    have c01 : w1.cell? ⟨g, 0, none⟩ = some (.slice A L c) := hb1.cell 0
    have kp : ∀ u, Kept g R w (w1.setCell ⟨g, 0, none⟩ u) := fun u => by
      have gs := grownBy_set w1 g 0 u
      refine ⟨gs.os.trans gr1.os, gs.tape.trans gr1.tape, gs.output.trans gr1.output, Nat.le_trans gr1.size gs.size, fun k hk hkg hkR => (gs.block k (Nat.lt_of_lt_of_le hk gr1.size) (fun e => hkg (Option.some.inj e))).trans (gr1.block k hk (fun e => hkR ?_))⟩
      rw [HRR.out]
      exact e.symm
    have hrk : ∀ k, k < w.heap.size → (Value.slice A1 (L + n) k1).ownBlock = some k → R = some k := fun k hk e => by
      rcases loc1 with h | h
      · rw [HRR.out, ← h]; exact e
      · rw [h] at e; cases e; omega
    have KP := Lib.hid kp
    have HRK := Lib.hid hrk
    clear kp hrk
    have OW1 := Lib.hid own1
    have HNE1 := Lib.hid hne1
    have HB1 := Lib.hid hb1
    clear own1 hne1 hb1 gr1 loc1 q1 q2 q3
    go_wp2_with fail
    (try simp only [Exit.inBlock, Exit.then])
    first | go_end0 | refine bodyPost_ret (results_none rfl _ _ _) rfl ?_
    rw [HE.out]
    have hll : (o ++ l).length = L + n := by rw [List.length_append, HLEN.out, ← HL.out]
    refine ⟨rfl, (Value.slice A1 (L + n) k1).ownBlock, ⟨h1, by simp only; rw [hll]; have := HLG.out; omega, A1, k1, ?_, ?_, ?_, HNE1.out⟩, KP.out _, HRK.out⟩
    · simp only; rw [hll]
    · simp only; rw [hll]; exact HB1.out.setc 0 _
    · simp only; rw [hll]; exact OW1.out.kept (grownBy_set w1 g 0 _) (.inr HNE1.out)
end Go.Proofs.YtmpnehhndhepgaaDoor

/- Contracts: a tag and a number laid; a number encoded. It proves no statement. -/


namespace Go.Proofs.YtmpnehhndhepgaaDoor
open Go.RowKit
set_option linter.unusedVariables false
set_option linter.unusedSimpArgs false

/-- What stands behind a tag. -/
def numB (t x : Nat) : List UInt8 := (leBytes x (bh t)).reverse
theorem bh_le (t : Nat) : bh t ≤ 8 := by
  unfold bh; split <;> (try split) <;> (try split) <;> (try split) <;> omega
theorem numB_length (t x : Nat) : (numB t x).length = bh t := by simp [numB, leBytes_length]
/-- A tag, and the number behind it. -/
def layN (s : List UInt8 × Bool) (t x : Nat) : List UInt8 × Bool := lay1 (lay1 s [UInt8.ofNat t]) (numB t x)
theorem one_reads (w : World) (t : Nat) (ht : t < 256) : Reads (w.alloc (.cells #[.int .u8 (t : Int)] 5)) (w.heap.size + 1) (some ⟨w.heap.size, 0, none⟩) 1 [UInt8.ofNat t] := by
  have h := const_reads w [UInt8.ofNat t] (0, 0)
  have e : (bytesV [UInt8.ofNat t]).toArray = #[.int .u8 (t : Int)] := by
    simp only [bytesV, List.map_cons, List.map_nil, UInt8.toNat_ofNat']
    rw [show t % 2 ^ 8 = t by omega]
  rw [e] at h
  exact h

set_option maxRecDepth 100000 in
set_option maxHeartbeats 800000 in
theorem number_any {w : World} {lo g : Nat} {R : Option Nat} {s : List UInt8 × Bool} (h : Wr w lo g R s) (t x : Nat) (ht : t < 256) (hx : x < 18446744073709551616) :
    Calls Tryd.prog 40 #[.pointer (some ⟨g, 0, none⟩), .int .u8 (t : Int), .int .u64 (x : Int)] w fun e w' => e = .returned (.tuple #[]) ∧ Wrote w w' lo g R (layN s t x) := by
  obtain ⟨w1, hw1⟩ : ∃ w1, w1 = w.alloc (.cells #[.int .u8 (t : Int)] 5) := ⟨_, rfl⟩
  have r1 := one_reads w t ht
  have s1 : Still w w1 := by rw [hw1]; exact (Still.refl w).alloc (Nat.le_refl _) _
  rw [← hw1] at r1
  have L1 := Lib.hid (lay_any (h.below s1) _ 1 1 _ _ r1 (by omega) (fun e => by cases e))
  have V1 := Lib.hid (Via.of_still (g := g) (R := R) s1)
  have HB := Lib.hid (fun w => behind_any t w)
  have hb8 := bh_le t
  have hnl := numB_length t x
  have HS := Lib.hid (show layN s t x = lay1 (lay1 s [UInt8.ofNat t]) (numB t x) from rfl)
  obtain ⟨N, hN⟩ : ∃ N, N = numB t x := ⟨_, rfl⟩
  obtain ⟨b, hb⟩ : ∃ b, b = bh t := ⟨_, rfl⟩
  have hN2 : N = (leBytes x b).reverse := by rw [hN, hb]; rfl
  rw [← hb] at HB hb8 hnl
  rw [← hN] at hnl HS
  have HN := Lib.hid hN2
  have HNL := Lib.hid hnl
  have HW1 := Lib.hid hw1
  have HX := Lib.hid hx
  clear hN hb hN2 hnl hw1 r1 s1 h hx ht
  go_enter Tryd.func40, Tryd.ntmps40
  go_wp2_with fail
  rw [← HW1.out]
  refine L1.out.mono ?_
  rintro e w2 ⟨rfl, wt2⟩
  obtain ⟨R2, wr2, v2⟩ := wt2
  have WR2 := Lib.hid wr2
  have V2 := Lib.hid (V1.out.trans v2)
  clear wr2 v2 L1 V1
  go_wp2_with fail
  refine (HB.out _).mono ?_
  rintro e w3 ⟨rfl, rfl⟩
  by_cases hz : b = 0
  · have d : (b : Int) < 1 ∨ 8 < (b : Int) := by omega
    have BG := Lib.hid (big_no x b w2 d)
    have hN0 : N = [] := List.eq_nil_of_length_eq_zero (by rw [HNL.out]; exact hz)
    have L2 := Lib.hid (lay_any WR2.out none 0 0 N 0 (by rw [hN0]; exact Reads.nil0) (by omega) (fun _ => rfl))
    clear hN0 d hz
    go_wp2_with fail
    refine BG.out.mono ?_
    rintro e w3 ⟨rfl, rfl⟩
    go_wp2_with fail
    refine L2.out.mono ?_
    rintro e w4 ⟨rfl, wt4⟩
    obtain ⟨R4, wr4, v4⟩ := wt4
    have WR4 := Lib.hid wr4
    have V4 := Lib.hid v4
    clear wr4 v4
    go_wp2_with fail
    first | go_end0 | refine bodyPost_ret (results_none rfl _ _ _) rfl ?_
    exact ⟨rfl, R4, by rw [HS.out]; exact WR4.out, V2.out.trans V4.out⟩
  · have d1 : 1 ≤ b := by omega
    have BG := Lib.hid (big_yes x b w2 HX.out d1 hb8)
    clear hz
    go_wp2_with fail
    refine BG.out.mono ?_
    rintro e w3 ⟨rfl, own3, s3⟩
    have q3 := Reads.of_own own3
    rw [← HN.out] at q3
    have L2 := Lib.hid (lay_any (WR2.out.below s3) _ b b N _ q3 (by omega) (fun e => by cases e))
    have V3 := Lib.hid (V2.out.trans (Via.of_still s3))
    clear own3 q3 s3
    go_wp2_with fail
    refine L2.out.mono ?_
    rintro e w4 ⟨rfl, wt4⟩
    obtain ⟨R4, wr4, v4⟩ := wt4
    have WR4 := Lib.hid wr4
    have V4 := Lib.hid v4
    clear wr4 v4
    go_wp2_with fail
    first | go_end0 | refine bodyPost_ret (results_none rfl _ _ _) rfl ?_
    exact ⟨rfl, R4, by rw [HS.out]; exact WR4.out, V3.out.trans V4.out⟩
end Go.Proofs.YtmpnehhndhepgaaDoor

/- Contracts: a number as a value, encoded. It proves no statement. -/



namespace Go.Proofs.YtmpnehhndhepgaaDoor
open Go.RowKit
set_option linter.unusedVariables false
set_option linter.unusedSimpArgs false

/-- A value's six cells. -/
def cellsI (x : Int) : Array Value := #[.int .i64 3, .int .i64 x, .slice none 0 0, .string ⟨#[]⟩, .slice none 0 0, .slice none 0 0]
theorem underValue : ∃ fs, Tryd.prog.underlying 26 = some (.struct fs) := by
  exact ⟨_, Tryd.underlying26⟩
theorem sizeValue : (Tryd.prog.info? 26).map (·.size) = some 6 := by kernel_rfl

set_option maxRecDepth 100000 in
set_option maxHeartbeats 800000 in
theorem of_any (x : Int) (w : World) : Calls Tryd.prog 22 #[.int .i64 x] w fun e w' => e = .returned (.agg (cellsI x)) ∧ Still w w' := by
  obtain ⟨fs, hu⟩ := underValue
  have HU := Lib.hid hu
  clear hu
  go_enter Tryd.func22, Tryd.ntmps22
  go_wp2_with fail
  refine bodyPost_ret (results_cell_row rfl _ _ w.heap.size _ _ _ _ rfl (heap_alloc_new w _) HU.out rfl (by rw [sizeValue]; rfl)) rfl ?_
  exact ⟨rfl, (Still.refl w).alloc (Nat.le_refl _) _⟩

set_option maxRecDepth 100000 in
set_option maxHeartbeats 800000 in
theorem can_leaf (k i : Int) (b t ks l : Value) (w : World) (d : Int) (hd : d ≤ 16) (h1 : 0 ≤ k) (h2 : k ≤ 5) :
    Calls Tryd.prog 24 #[.agg #[.int .i64 k, .int .i64 i, b, t, ks, l], .int .i64 d] w fun e w' => e = .returned (.bool true) ∧ Still w w' := by
  have d1 : ¬ 16 < d := by omega
  have d2 : ¬ k < 0 := by omega
  have d3 : ¬ 7 < k := by omega
  have d4 : (k == 7) = false := by simp; omega
  have d5 : (k != 7) = true := by simp; omega
  have d6 : (k != 6) = true := by simp; omega
  clear hd h1 h2
  go_enter Tryd.func24, Tryd.ntmps24
  go_wp2_with fail
  go_ret
  exact ⟨rfl, ((Still.refl w).alloc (Nat.le_refl _) _).alloc (by simp) _⟩

/-- The 64 bits of a number. -/
def ux (x : Int) : Nat := (x % 18446744073709551616).toNat
theorem ux_lt (x : Int) : ux x < 18446744073709551616 := by unfold ux; omega
theorem ux_cast (x : Int) : IntKind.u64.wrap x = (ux x : Int) := by rw [IntKind.wrap_u64]; unfold ux; omega
theorem pk_lt (x a : Nat) (h : a ≤ 208) : pk x a < 256 := by unfold pk; split <;> (try split) <;> (try split) <;> omega
theorem nt_lt (x : Int) : nt x < 256 := by
  unfold nt
  split
  · omega
  · split <;> exact pk_lt _ _ (by omega)

set_option maxRecDepth 100000 in
set_option maxHeartbeats 800000 in
theorem value_int {w : World} {lo g : Nat} {R : Option Nat} {s : List UInt8 × Bool} (h : Wr w lo g R s) (x : Int) (b t ks l : Value) (h1 : -9223372036854775808 ≤ x) (h2 : x ≤ 9223372036854775807) :
    Calls Tryd.prog 25 #[.pointer (some ⟨g, 0, none⟩), .agg #[.int .i64 3, .int .i64 x, b, t, ks, l]] w fun e w' => e = .returned (.tuple #[]) ∧ Wrote w w' lo g R (layN s (nt x) (ux x)) := by
  obtain ⟨cs, hcs⟩ : ∃ cs : Array Value, cs = #[.int .i64 3, .int .i64 x, b, t, ks, l] := ⟨_, rfl⟩
  obtain ⟨wA, hA⟩ : ∃ wA, wA = w.alloc (.cells #[.int .i64 3, .int .i64 x, b, t, ks, l] 26) := ⟨_, rfl⟩
  have sA : Still w wA := by rw [hA]; exact (Still.refl w).alloc (Nat.le_refl _) _
  have bA : Blk wA w.heap.size 26 #[.int .i64 3, .int .i64 x, b, t, ks, l] := by rw [hA]; exact Blk.new _ _ _
  have c0 : wA.cell? ⟨w.heap.size, 0, none⟩ = some (.int .i64 3) := bA.cell 0
  have hlt := h.lt
  have NT := Lib.hid (fun w => numTag_any x w h1 h2)
  have ntl := nt_lt x
  obtain ⟨y, hy⟩ : ∃ y, y = nt x := ⟨_, rfl⟩
  obtain ⟨u, hu⟩ : ∃ u, u = ux x := ⟨_, rfl⟩
  have e1 : IntKind.u64.wrap x = (u : Int) := by rw [hu]; exact ux_cast x
  have hul : u < 18446744073709551616 := by rw [hu]; exact ux_lt x
  rw [← hy] at NT ntl ⊢
  rw [← hu]
  have NU := Lib.hid (fun (w' : World) (hs : Still wA w') => number_any ((h.below sA).below hs) y u ntl hul)
  have V1 := Lib.hid (Via.of_still (g := g) (R := R) sA)
  have ne1 : w.heap.size ≠ g := by omega
  have ne2 : R ≠ some w.heap.size := fun e => by have := h.row _ e; omega
  have CL : Hid (∀ W, Still wA W → W.cell? ⟨w.heap.size, 1, none⟩ = some (.int .i64 x)) := Lib.hid fun W s => (bA.still s).cell 1
  have CV : Hid (∀ W W' (R' : Option Nat) , Still wA W → Via g R R' W W' → W'.cell? ⟨w.heap.size, 1, none⟩ = some (.int .i64 x)) := Lib.hid fun W W' R' s v => (v.blk (bA.still s) ne1 ne2).cell 1
  have HA := Lib.hid hA
  clear hA sA bA hcs hlt h1 h2 ntl hy hu hul ne1 ne2 h
  go_enter Tryd.func25, Tryd.ntmps25
  go_upto_region 1 with fail
  rw [← HA.out]
  clear HA
  go_wp2_with fail
  go_region_held3 (fun w' => w'.cell? ⟨w.heap.size, 1, none⟩ = some (.int .i64 x)) (first | exact CL.out _ ((Still.refl _).drew) | exact CV.out _ _ _ s1' v2 | exact CL.out _ s1')
    (first
      | (go_at_call 41; refine (NT.out _).mono ?_; rintro e w1 ⟨rfl, s1⟩; have s1' : Still wA w1 := Still.trans ((Still.refl wA).drew) s1)
      | (go_at_call 40; refine (NU.out _ s1').mono ?_; rintro e w2 ⟨rfl, R2, wr2, v2⟩))
  go_wp2_with fail
  first | go_end0 | refine bodyPost_ret (results_none rfl _ _ _) rfl ?_
  exact ⟨rfl, R2, wr2, V1.out.trans ((Via.of_still s1').trans v2)⟩
end Go.Proofs.YtmpnehhndhepgaaDoor

/- Contracts: Encode of a number; that anything is written at all. It proves no statement. -/

namespace Go.Proofs.YtmpnehhndhepgaaDoor
open Go.RowKit
set_option linter.unusedVariables false
set_option linter.unusedSimpArgs false

/-- A number's bytes. -/
def encI (x : Int) : List UInt8 := UInt8.ofNat (nt x) :: numB (nt x) (ux x)
theorem encI_length (x : Int) : (encI x).length = 1 + bh (nt x) := by simp [encI, numB_length]; omega
theorem layN_encI (x : Int) : layN ([], false) (nt x) (ux x) = (encI x, false) := by
  have h := bh_le (nt x)
  have hl := numB_length (nt x) (ux x)
  have e1 : lay1 ([], false) [UInt8.ofNat (nt x)] = ([UInt8.ofNat (nt x)], false) := by
    unfold lay1
    rw [if_neg (by simp)]
    rfl
  unfold layN
  rw [e1]
  unfold lay1
  rw [if_neg (by simp only [List.length_cons, List.length_nil]; omega)]
  rfl

theorem own_rebase {w : World} {B B' : Nat} {e : TypeId} {z n : Nat} {v : Value} {xs : List Value} (h : w.ownsRow B e z v n xs) (hb : B' ≤ B) : w.ownsRow B' e z v n xs := by
  obtain ⟨h1, h2⟩ := h
  refine ⟨h1, h2.imp id ?_⟩
  rintro ⟨g, cap, cur, a, b, r⟩
  exact ⟨g, cap, cur, a, Nat.le_trans hb b, r⟩

set_option maxRecDepth 100000 in
set_option maxHeartbeats 800000 in
theorem encode_int (x : Int) (w : World) (h1 : -9223372036854775808 ≤ x) (h2 : x ≤ 9223372036854775807) :
    Calls Tryd.prog 10 #[.agg (cellsI x)] w fun e w' => ∃ A c, e = .returned (.tuple #[.slice A (encI x).length c, .int .i64 0]) ∧ w'.ownsRow w.heap.size 5 1 (.slice A (encI x).length c) (encI x).length (bytesV (encI x)) ∧ Still w w' := by
  have CAN := Lib.hid (fun w => can_leaf 3 x (.slice none 0 0) (.string ⟨#[]⟩) (.slice none 0 0) (.slice none 0 0) w 1 (by omega) (by omega) (by omega))
  have VAL := Lib.hid (fun (w : World) (lo g : Nat) (R : Option Nat) (h : Wr w lo g R ([], false)) => value_int h x (.slice none 0 0) (.string ⟨#[]⟩) (.slice none 0 0) (.slice none 0 0) h1 h2)
  rw [layN_encI] at VAL
  have hen : (encI x).length ≤ 9 := by rw [encI_length]; have := bh_le (nt x); omega
  obtain ⟨E, hE⟩ : ∃ E, E = encI x := ⟨_, rfl⟩
  rw [← hE] at VAL hen ⊢
  obtain ⟨wA, hA⟩ : ∃ wA, wA = w.alloc (.cells #[.int .i64 3, .int .i64 x, .slice none 0 0, .string ⟨#[]⟩, .slice none 0 0, .slice none 0 0] 26) := ⟨_, rfl⟩
  have sA : Still w wA := by rw [hA]; exact (Still.refl w).alloc (Nat.le_refl _) _
  have bA : Blk wA w.heap.size 26 #[.int .i64 3, .int .i64 x, .slice none 0 0, .string ⟨#[]⟩, .slice none 0 0, .slice none 0 0] := by rw [hA]; exact Blk.new _ _ _
  have HA := Lib.hid hA
  have SA := Lib.hid sA
  have BA := Lib.hid bA
  have ca0 : ∀ i : Nat, wA.cell? ⟨w.heap.size, i, none⟩ = _ := fun i => bA.cell i
  have CC := Lib.hid (fun (W : World) (h : Blk W w.heap.size 26 #[.int .i64 3, .int .i64 x, .slice none 0 0, .string ⟨#[]⟩, .slice none 0 0, .slice none 0 0]) => (⟨h.cell 0, h.cell 1, h.cell 2, h.cell 3, h.cell 4, h.cell 5⟩ : W.cell? ⟨w.heap.size, 0, none⟩ = some (.int .i64 3) ∧ W.cell? ⟨w.heap.size, 1, none⟩ = some (.int .i64 x) ∧ W.cell? ⟨w.heap.size, 2, none⟩ = some (.slice none 0 0) ∧ W.cell? ⟨w.heap.size, 3, none⟩ = some (.string ⟨#[]⟩) ∧ W.cell? ⟨w.heap.size, 4, none⟩ = some (.slice none 0 0) ∧ W.cell? ⟨w.heap.size, 5, none⟩ = some (.slice none 0 0)))
  obtain ⟨c0, c1, c2, c3, c4, c5⟩ := CC.out wA bA
  have HEN := Lib.hid hen
  clear hA sA bA ca0 hE h1 h2 hen
  unfold cellsI
  go_enter Tryd.func10, Tryd.ntmps10
  go_upto_region 1 with fail
  rw [← HA.out]
  clear HA
  go_wp2_with fail
  refine (CAN.out _).mono ?_
  rintro e w1 ⟨rfl, s1⟩
  have S1 := Lib.hid (SA.out.trans s1)
  have B1 := Lib.hid (BA.out.still s1)
  clear c0 c1 c2 c3 c4 c5 s1 CAN
  go_upto_region 4 with fail
  obtain ⟨w2, hw2⟩ : ∃ w2, w2 = w1.alloc (.cells #[.slice none 0 0, .bool false] 53) := ⟨_, rfl⟩
  have s2 : Still w1 w2 := by rw [hw2]; exact (Still.refl w1).alloc (Nat.le_refl _) _
  have wr2 : Wr w2 w1.heap.size w1.heap.size none ([], false) :=
    ⟨Nat.le_refl _, by simp, none, 0, rfl, by rw [hw2]; exact Blk.new _ _ _, World.ownsRow_nil _ _ _ _, by simp⟩
  have b2 := B1.out.still s2
  obtain ⟨c0, c1, c2, c3, c4, c5⟩ := CC.out w2 b2
  have WR2 := Lib.hid wr2
  have S2 := Lib.hid (S1.out.trans s2)
  have Z2 := Lib.hid (show w.heap.size ≤ w1.heap.size from S1.out.size)
  rw [← hw2]
  obtain ⟨g, hg⟩ : ∃ g, g = w1.heap.size := ⟨_, rfl⟩
  rw [← hg] at WR2 Z2 ⊢
  clear hw2 s2 wr2 b2 hg
  go_wp2_with fail
  refine (VAL.out _ _ _ _ WR2.out).mono ?_
  rintro e w3 ⟨rfl, R3, wr3, v3⟩
  have S3 := Lib.hid (show Still w w3 from Below.trans S2.out (Below.mono (v3.low WR2.out) Z2.out))
  obtain ⟨q1, q2, A, c, -, hb3, own3, -⟩ := wr3
  have k0 : w3.cell? ⟨g, 0, none⟩ = some (.slice A E.length c) := hb3.cell 0
  have k1 : w3.cell? ⟨g, 1, none⟩ = some (.bool false) := hb3.cell 1
  have O3 : Hid (w3.ownsRow w.heap.size 5 1 (.slice A E.length c) E.length (bytesV E)) := Lib.hid (own_rebase own3 Z2.out)
  clear c0 c1 c2 c3 c4 c5 q1 q2 hb3 own3 v3
  generalize hn : E.length = n at *
  have HNN := Lib.hid hn
  clear hn
  go_wp2_with fail
  go_ret2
  rw [HNN.out]
  exact ⟨A, c, rfl, O3.out, S3.out⟩

set_option maxRecDepth 100000 in
set_option maxHeartbeats 800000 in
theorem lives_any (w : World) : Calls Tryd.prog 14 #[] w fun e w' => e = .returned (.bool true) ∧ Still w w' := by
  have e5 : encI 5 = [5] := by decide +kernel
  have ENC := Lib.hid (fun w => encode_int 5 w (by omega) (by omega))
  rw [e5] at ENC
  have OF := Lib.hid (of_any 5 w)
  obtain ⟨cs, hcs⟩ : ∃ cs, cs = cellsI 5 := ⟨_, rfl⟩
  rw [← hcs] at ENC OF
  clear e5 hcs
  go_enter Tryd.func14, Tryd.ntmps14
  go_wp2_with fail
  refine OF.out.mono ?_
  rintro e w1 ⟨rfl, s1⟩
  go_wp2_with fail
  refine (ENC.out _).mono ?_
  rintro e w2 ⟨A, c, rfl, own2, s2⟩
  obtain ⟨g, rfl⟩ : ∃ g, A = some ⟨g, 0, none⟩ := by
    rcases own2.2 with ⟨_, h0⟩ | ⟨b4, cap, cur, hv, _⟩
    · cases h0
    · injection hv with hv1
      exact ⟨b4, hv1⟩
  have k0 : w2.cell? ⟨g, 0, none⟩ = some (.int .u8 5) := own2.cellAt 0 (by decide)
  have OW := Lib.hid own2
  have ST := Lib.hid (s1.trans s2)
  clear own2 s1 s2
  go_wp2_with fail
  go_ret
  exact ⟨rfl, ST.out⟩
end Go.Proofs.YtmpnehhndhepgaaDoor
