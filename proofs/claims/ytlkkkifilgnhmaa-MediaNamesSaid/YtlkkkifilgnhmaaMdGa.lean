/- Contracts and facts, several texts in one. It proves no statement. -/
import Derived.Test.YtlkkkifilgnhmaaRows
import Derived.WalkKit
import Derived.WalkLawsBesides
import Derived.WalkSpells
import Derived.Laws.AppendOwnNone
import Derived.Maps.AppendAt
import Derived.Deep.Draws
import Derived.Deep.AppendLies
import Derived.Lib.Hide
import Derived.ProofKit
import Derived.OpenShut
import Derived.Laws.IdiomStrings
import Derived.Laws.BytesArg
import Derived.Maps.OwnSet
import Derived.Maps.OwnOps
import Derived.Maps.RangeWalk
import Derived.Maps.Ext
import Derived.Deep.MidRow
import Derived.Deep.RegionHeld
import Derived.Great.BuildSlice
import Derived.Outline
import Derived.Deep.DeepMust
import Derived.Deep.QuietTactic
import Derived.BigQuiet
import Derived.RegionTactic
import Derived.ChangeAlike
import Derived.BigRegion
import Derived.StillTailTactics
import Derived.Deep.DeepCutAuto
import Derived.Deep.CutBlock

/- Words for memory that the other texts of this seat use: bytes as values, a slice that reads as bytes, worlds in which nothing that was there has turned. It proves no statement. -/











namespace Go.Proofs.Ytlkkkifilgnhmaa
open Go.RowKit Go.ChangeShapes Go.WideShapes Go.ChangeAt
set_option linter.unusedVariables false
set_option linter.unusedSimpArgs false

/-- Bytes as the model's values. -/
def bytesV (l : List UInt8) : List Value := l.map (fun b => Value.int .u8 (b.toNat : Int))

theorem bytesV_length (l : List UInt8) : (bytesV l).length = l.length := by simp [bytesV]
theorem bytesV_nil : bytesV [] = [] := rfl
theorem bytesV_append (a b : List UInt8) : bytesV (a ++ b) = bytesV a ++ bytesV b := by simp [bytesV]
theorem bytesV_one (l : List UInt8) : ∀ u ∈ bytesV l, u.oneCell' = true := by
  intro u hu
  obtain ⟨_, _, rfl⟩ := List.mem_map.1 hu
  rfl
theorem bytesV_get (l : List UInt8) (i : Nat) (h : i < l.length) : (bytesV l)[i]? = some (Value.int .u8 ((l.getD i 0).toNat : Int)) := by
  simp [bytesV, h]
theorem bytesV_set (l : List UInt8) (i : Nat) (b : UInt8) : (bytesV l).set i (Value.int .u8 (b.toNat : Int)) = bytesV (l.set i b) := by
  simp [bytesV, List.map_set]
theorem bytesV_rep (n : Nat) : List.replicate n (Value.int .u8 0) = bytesV (List.replicate n 0) := by simp [bytesV]
theorem bytesV_take (l : List UInt8) (k : Nat) : bytesV (l.take k) = (bytesV l).take k := by simp [bytesV, List.map_take]
theorem bytesV_drop (l : List UInt8) (k : Nat) : bytesV (l.drop k) = (bytesV l).drop k := by simp [bytesV, List.map_drop]

/-- Nothing that was there has turned. -/
abbrev Still (w w' : World) : Prop := Below w.heap.size w w'
theorem Still.refl (w : World) : Still w w := Below.refl _ _
theorem Still.trans {a b c : World} (h : Still a b) (k : Still b c) : Still a c := Below.trans h (k.mono h.size)

/-- The slice at A, of n bytes, reads as l, below block B. -/
def Reads (w : World) (B : Nat) (A : Option Addr) (n : Nat) (l : List UInt8) : Prop :=
  l.length = n ∧ (0 < n → ∃ b o, A = some ⟨b, o, none⟩ ∧ b < B ∧ ∀ i, i < n → w.cell? ⟨b, o + i, none⟩ = some (Value.int .u8 ((l.getD i 0).toNat : Int)))

section
variable {w w' : World} {B B' n : Nat} {A : Option Addr} {l : List UInt8}
theorem Reads.len (h : Reads w B A n l) : l.length = n := h.1
theorem Reads.nil0 : Reads w B A 0 [] := ⟨rfl, fun h => absurd h (by omega)⟩
theorem Reads.at_ (h : Reads w B A n l) (hn : 0 < n) : ∃ b o, A = some ⟨b, o, none⟩ ∧ b < B ∧ ∀ i, i < n → w.cell? ⟨b, o + i, none⟩ = some (Value.int .u8 ((l.getD i 0).toNat : Int)) := h.2 hn
theorem Reads.keep (h : Reads w B A n l) (hk : ∀ p : Addr, p.block < B → w'.cell? p = w.cell? p) : Reads w' B A n l :=
  ⟨h.1, fun hn => by
    obtain ⟨b, o, e, hb, hc⟩ := h.2 hn
    exact ⟨b, o, e, hb, fun i hi => (hk _ hb).trans (hc i hi)⟩⟩
theorem Reads.more (h : Reads w B A n l) (hB : B ≤ B') : Reads w B' A n l :=
  ⟨h.1, fun hn => by
    obtain ⟨b, o, e, hb, hc⟩ := h.2 hn
    exact ⟨b, o, e, by omega, hc⟩⟩
theorem Reads.below (h : Reads w B A n l) (hb : Below B w w') : Reads w' B A n l := h.keep fun _ hp => hb.cell hp
theorem Reads.still (h : Reads w B A n l) (hB : B ≤ w.heap.size) (hb : Still w w') : Reads w' B A n l := h.below (hb.mono hB)
theorem Reads.news (h : Reads w B A n l) : ∀ ad, A = some ad → 0 < n → ∀ j u, (bytesV l)[j]? = some u → w.cell? (ad.add j) = some u := by
  intro ad hA hn j u hu
  obtain ⟨b, o, e, _, hc⟩ := h.2 hn
  rw [e] at hA
  obtain rfl := Option.some.inj hA
  have hj : j < l.length := by
    have := (List.getElem?_eq_some_iff.1 hu).1
    rwa [bytesV_length] at this
  rw [bytesV_get l j hj] at hu
  rw [Addr.add_lit]
  rw [← hu]
  exact hc j (by rw [← h.1]; exact hj)
theorem Reads.take (h : Reads w B A n l) (k : Nat) : Reads w B A (min n k) (l.take k) := by
  refine ⟨by rw [List.length_take, h.1]; omega, fun hn => ?_⟩
  obtain ⟨b, o, e, hb, hc⟩ := h.2 (by omega)
  refine ⟨b, o, e, hb, fun i hi => ?_⟩
  rw [hc i (by omega)]
  have : (l.take k).getD i 0 = l.getD i 0 := by simp [List.getD, List.getElem?_take, show i < k by omega]
  rw [this]
theorem Reads.cellAt {b o : Nat} (h : Reads w B (some ⟨b, o, none⟩) n l) (i : Nat) (hi : i < n) : w.cell? ⟨b, o + i, none⟩ = some (Value.int .u8 ((l.getD i 0).toNat : Int)) := by
  obtain ⟨b', o', e, _, hc⟩ := h.2 (by omega)
  simp only [Option.some.injEq, Addr.mk.injEq, and_true] at e
  obtain ⟨rfl, rfl⟩ := e
  exact hc i hi
/-- What the call owns reads. -/
theorem Reads.of_own {base cap : Nat} (h : w.ownsRow base 5 1 (.slice A n cap) n (bytesV l)) : Reads w w.heap.size A n l := by
  have hl : l.length = n := by have := h.1; rw [bytesV_length] at this; omega
  refine ⟨hl, fun hn => ?_⟩
  rcases h.2 with ⟨_, h0⟩ | ⟨g, c, cur, hv, _, hg, _⟩
  · omega
  · have e : A = some ⟨g, 0, none⟩ := by injection hv
    subst e
    refine ⟨g, 0, rfl, (Array.getElem?_eq_some_iff.1 hg).1, fun i hi => ?_⟩
    have := h.cellAt i (by omega)
    rw [Nat.zero_add, this, bytesV_get l i (by omega)]
end

theorem Try.infoByte : (Try.prog.info? 5).map (fun i => (i.zero, i.size, i.bytes)) = some (some (.int .u8 0), 1, 1) := by kernel_rfl

/-- The bytes of a constant text, laid as a row of its own. -/
theorem const_reads (w : World) (l : List UInt8) (fr : Nat × Nat) : Reads (w.alloc (.cells (bytesV l).toArray 5 fr)) (w.heap.size + 1) (some ⟨w.heap.size, 0, none⟩) l.length l := by
  refine ⟨rfl, fun hn => ⟨w.heap.size, 0, rfl, by omega, fun i hi => ?_⟩⟩
  have hh : (w.alloc (.cells (bytesV l).toArray 5 fr)).heap[w.heap.size]? = some (.cells (bytesV l).toArray 5 fr) := heap_alloc_new w _
  rw [Nat.zero_add, cell_of_row _ w.heap.size i _ _ fr hh]
  have := bytesV_get l i hi
  simpa using this

/-- What is told of a slice of integers that came in. -/
def RowIn (k : IntKind) (w : World) (a : Option Addr) (len cap : Nat) (zs : List Int) : Prop :=
  (a = none ∧ len = 0 ∧ cap = 0 ∧ zs = []) ∨
  ∃ x, a = some x ∧ len ≤ cap ∧ cap ≤ maxLen ∧ zs.length = cap ∧ (∀ i, i < zs.length → w.cell? (x.add i) = some (.int k (zs.getD i 0))) ∧ ∀ n ∈ zs, (Lit.int k n).wf = true
/-- Bytes that came in read. -/
theorem reads_of_row {w : World} {a : Option Addr} {len cap : Nat} {zs : List Int} (h : RowIn .u8 w a len cap zs) :
    ∃ l, Reads w w.heap.size a len l ∧ len ≤ cap ∧ cap ≤ 9223372036854775807 ∧ (a = none → len = 0 ∧ cap = 0) := by
  rcases h with ⟨rfl, rfl, rfl, rfl⟩ | ⟨x, rfl, hl, hm, hz, hc, hw⟩
  · exact ⟨[], Reads.nil0, Nat.le_refl _, by omega, fun _ => ⟨rfl, rfl⟩⟩
  · refine ⟨(zs.take len).map (fun z => UInt8.ofNat z.toNat), ⟨by simp; omega, fun hn => ?_⟩, hl, by unfold maxLen at hm; omega, fun e => by cases e⟩
    obtain ⟨b, o, sp⟩ := x
    have h0 := hc 0 (by omega)
    have hsp : sp = none := by simpa [Addr.add] using World.cell?_spot h0
    subst hsp
    refine ⟨b, o, rfl, by simpa [Addr.add] using World.block_lt_of_cell? w _ h0, fun i hi => ?_⟩
    have hi' := hc i (by omega)
    rw [Addr.add_lit] at hi'
    rw [hi']
    have hb := hw (zs.getD i 0) (by
      simp only [List.getD, List.getElem?_eq_getElem (show i < zs.length by omega), Option.getD_some]
      exact List.getElem_mem _)
    have hbb : 0 ≤ zs.getD i 0 ∧ zs.getD i 0 ≤ 255 := bounds_u8 hb
    have e : (((zs.take len).map (fun z => UInt8.ofNat z.toNat)).getD i 0).toNat = (zs.getD i 0).toNat := by
      have e1 : ((zs.take len).map (fun z => UInt8.ofNat z.toNat)).getD i 0 = UInt8.ofNat (zs.getD i 0).toNat := by
        simp [List.getD, hi, show i < zs.length by omega]
      rw [e1]
      simp only [UInt8.toNat_ofNat']
      omega
    rw [e]
    congr 2
    omega

/-- What the call owns is a slice. -/
theorem own_form {w : World} {base n : Nat} {v : Value} {xs : List Value} (h : w.ownsRow base 5 1 v n xs) :
    ∃ A c, v = .slice A n c ∧ n ≤ c ∧ c ≤ 9223372036854775807 ∧ (A = none → n = 0 ∧ c = 0) := by
  rcases h.2 with ⟨rfl, rfl⟩ | ⟨g, cap, cur, rfl, _, _, hnc, hm, _⟩
  · exact ⟨none, 0, rfl, Nat.le_refl _, by omega, fun _ => ⟨rfl, rfl⟩⟩
  · exact ⟨_, cap, rfl, hnc, by unfold maxLen at hm; omega, fun e => by cases e⟩
/-- What the call owns stays where nothing that was there turns. -/
theorem own_still {w w' : World} {base n : Nat} {v : Value} {xs : List Value} (h : w.ownsRow base 5 1 v n xs) (hs : Still w w') : w'.ownsRow base 5 1 v n xs := by
  refine h.kept (row := none) ⟨hs.os, hs.tape, hs.output, hs.size, fun k hk _ => hs.block k hk⟩ ?_
  cases v.ownBlock <;> simp

/-- 'b = append(b, e)': one byte more on a row of the call's own. -/
theorem wpList_push (w : World) {ops : Array Oper} {rest : List Oper} {o : Oper} {a : Act} {Q : Exit → Act → World → Prop} (hgd : o.guard = none) (s x : Operand)
    (ho : o.op = .call { callee := .builtin .append, args := #[s, x], argTypes := #[32, 32] })
    (base : Nat) (v : Value) (n : Nat) (l : List UInt8) (hs : a.eval s = v) (hown : w.ownsRow base 5 1 v n (bytesV l)) (e : Int) (b : UInt8)
    (hx : a.eval x = .slice (some ⟨w.heap.size, 0, none⟩) 1 1) (he : e = (b.toNat : Int)) (hn : n < 140737488355328) (hbase : base ≤ w.heap.size)
    (h : ∀ v' w', w'.ownsRow base 5 1 v' (n + 1) (bytesV (l ++ [b])) → w.grownBy w' v.ownBlock → (v' = .slice none 0 0 → False) → wpList Try.prog ops Q rest (a.put o.dst v') w') :
    wpList Try.prog ops Q (o :: rest) a (w.alloc (.cells #[.int .u8 e] 5)) := by
  obtain ⟨i0, hi, hz0, hz1, hz2⟩ := info_parts Try.infoByte
  subst he
  refine wpList_append_own _ hgd s x 32 ho base 5 i0 (.int .u8 0) 1 1 Try.underlying32 hi hz0 hz1 hz2 rfl (by decide) v n _ hs (hown.alloc _) ⟨w.heap.size, 0, none⟩ 1 1 (bytesV [b]) hx rfl ?_ (bytesV_one _) (by unfold maxLen; omega) (by omega) (by simp; omega) ?_
  · intro j u hu
    match j, hu with
    | 0, hu => simp [bytesV] at hu; subst hu; simp [Addr.add]
  · intro v' w' h2 h3 h4
    rw [← bytesV_append] at h2
    refine h v' w' h2 ⟨h3.os, h3.tape, h3.output, by have := h3.size; simp at this; omega, fun k hk hne => ?_⟩ ?_
    · rw [h3.block k (by simp; omega) hne]
      exact Below.heap_alloc w _ k hk
    · intro e
      exact absurd (h4.1 e).2 (by decide)

/-- 'append(b, c...)': bytes that lie anywhere on a row of the call's own. -/
theorem run_adds (w : World) (ty : TypeId) (base : Nat) (v : Value) (n : Nat) (l : List UInt8) (hown : w.ownsRow base 5 1 v n (bytesV l)) (A : Option Addr) (n' c' : Nat) (B : Nat) (l' : List UInt8)
    (hr : Reads w B A n' l') (hA : A = none → c' = 0) (hn : n + n' ≤ 140737488355328) (hbase : base ≤ w.heap.size) :
    ∃ v' w', (Builtin.append_ #[32, 32] ty #[v, .slice A n' c']).run Try.prog w = .ok v' w' ∧ w'.ownsRow base 5 1 v' (n + n') (bytesV (l ++ l')) ∧ w.grownBy w' v.ownBlock ∧ (v' = .slice none 0 0 → v = .slice none 0 0 ∧ n' = 0) := by
  obtain ⟨i0, hi, hz0, hz1, hz2⟩ := info_parts Try.infoByte
  rcases A with _ | ad
  · have h0 : n' = 0 := by
      rcases Nat.eq_zero_or_pos n' with h0 | h0
      · exact h0
      · obtain ⟨_, _, e, _⟩ := hr.2 h0
        cases e
    subst h0
    have hl : l' = [] := List.eq_nil_of_length_eq_zero hr.1
    subst hl
    obtain rfl := hA rfl
    exact ⟨v, w, run_append_owned_none (P := Try.prog) w base 32 ty 5 i0 1 Try.underlying32 hi v n _ hown, by simpa using hown, World.grownBy.refl _ _, fun e => ⟨e, rfl⟩⟩
  · have hnews : ∀ j u, (bytesV l')[j]? = some u → w.cell? (ad.add j) = some u := by
      intro j u hu
      rcases Nat.eq_zero_or_pos n' with h0 | h0
      · subst h0
        have hl : l' = [] := List.eq_nil_of_length_eq_zero hr.1
        subst hl
        simp [bytesV] at hu
      · exact hr.news ad rfl h0 j u hu
    obtain ⟨v', w', hrun, h2, h3, h4⟩ := run_append_own (P := Try.prog) w base 32 ty 5 i0 (.int .u8 0) 1 1 Try.underlying32 hi hz0 hz1 hz2 rfl (by decide) v n _ hown ad n' c' (bytesV l') (by rw [bytesV_length, hr.1]; omega) hnews (bytesV_one _) (by unfold maxLen; omega) (by omega) hbase
    rw [← bytesV_append] at h2
    exact ⟨v', w', hrun, h2, h3, h4.1⟩
theorem wp_adds (w : World) {o : Oper} {a : Act} {K : Act → World → Prop} {Q : Exit → Act → World → Prop} (s x : Operand)
    (ho : o.op = .call { callee := .builtin .append, args := #[s, x], argTypes := #[32, 32] })
    (base : Nat) (v : Value) (n : Nat) (l : List UInt8) (hs : a.eval s = v) (hown : w.ownsRow base 5 1 v n (bytesV l)) (A : Option Addr) (n' c' : Nat) (B : Nat) (l' : List UInt8)
    (hx : a.eval x = .slice A n' c') (hr : Reads w B A n' l') (hA : A = none → c' = 0) (hn : n + n' ≤ 140737488355328) (hbase : base ≤ w.heap.size)
    (h : ∀ v' w', w'.ownsRow base 5 1 v' (n + n') (bytesV (l ++ l')) → w.grownBy w' v.ownBlock → (v' = .slice none 0 0 → v = .slice none 0 0 ∧ n' = 0) → K (a.put o.dst v') w') : o.wp Try.prog a w K Q := by
  obtain ⟨v', w', hrun, h2, h3, h4⟩ := run_adds w o.type base v n l hown A n' c' B l' hr hA hn hbase
  unfold Oper.wp execOp
  simp only [ho, resolve, invoke, builtin, Sem.run_bind, Sem.run_pure, Result.andThen_ok, List.map_toArray, List.map_cons, List.map_nil, hs, hx, hrun]
  exact h v' w' h2 h3 h4
theorem wpList_adds (w : World) {ops : Array Oper} {rest : List Oper} {o : Oper} {a : Act} {Q : Exit → Act → World → Prop} (hgd : o.guard = none) (s x : Operand)
    (ho : o.op = .call { callee := .builtin .append, args := #[s, x], argTypes := #[32, 32] })
    (base : Nat) (v : Value) (n : Nat) (l : List UInt8) (hs : a.eval s = v) (hown : w.ownsRow base 5 1 v n (bytesV l)) (A : Option Addr) (n' c' : Nat) (B : Nat) (l' : List UInt8)
    (hx : a.eval x = .slice A n' c') (hr : Reads w B A n' l') (hA : A = none → c' = 0) (hn : n + n' ≤ 140737488355328) (hbase : base ≤ w.heap.size)
    (h : ∀ v' w', w'.ownsRow base 5 1 v' (n + n') (bytesV (l ++ l')) → w.grownBy w' v.ownBlock → (v' = .slice none 0 0 → v = .slice none 0 0 ∧ n' = 0) → wpList Try.prog ops Q rest (a.put o.dst v') w') :
    wpList Try.prog ops Q (o :: rest) a w :=
  wpList_plain hgd fun _ hK => wp_adds w s x ho base v n l hs hown A n' c' B l' hx hr hA hn hbase fun v' w' h2 h3 h4 => hK _ _ (h v' w' h2 h3 h4)
/-- The same at a step of a region that draws its order. -/
theorem step_adds (w : World) {ops : Array Oper} {o : Oper} {a : Act} {K : Act → World → Prop} {Q : Exit → Act → World → Prop} {E : Prop} (hgd : o.guard = none) (s x : Operand)
    (ho : o.op = .call { callee := .builtin .append, args := #[s, x], argTypes := #[32, 32] })
    (base : Nat) (v : Value) (n : Nat) (l : List UInt8) (hs : a.eval s = v) (hown : w.ownsRow base 5 1 v n (bytesV l)) (A : Option Addr) (n' c' : Nat) (B : Nat) (l' : List UInt8)
    (hx : a.eval x = .slice A n' c') (hr : Reads w B A n' l') (hA : A = none → c' = 0) (hn : n + n' ≤ 140737488355328) (hbase : base ≤ w.heap.size)
    (h : ∀ v' w', w'.ownsRow base 5 1 v' (n + n') (bytesV (l ++ l')) → w.grownBy w' v.ownBlock → (v' = .slice none 0 0 → v = .slice none 0 0 ∧ n' = 0) → K (a.put o.dst v') w') :
    if Region.wanted o (yielded ops a.tmps) = true then Oper.wp Try.prog o a w K Q else E := by
  have hw : Region.wanted o (yielded ops a.tmps) = true := by simp [Region.wanted, hgd]
  rw [if_pos hw]
  exact wp_adds w s x ho base v n l hs hown A n' c' B l' hx hr hA hn hbase h

/-- 'append(b, e)' at a step of a region that draws its order; the new byte lies in a box of its own. -/
theorem run_push (w : World) (ty : TypeId) (base : Nat) (v : Value) (n : Nat) (l : List UInt8) (hown : w.ownsRow base 5 1 v n (bytesV l)) (g : Nat) (b : UInt8)
    (hc : w.cell? ⟨g, 0, none⟩ = some (.int .u8 (b.toNat : Int))) (hn : n < 140737488355328) (hbase : base ≤ w.heap.size) :
    ∃ v' w', (Builtin.append_ #[32, 32] ty #[v, .slice (some ⟨g, 0, none⟩) 1 1]).run Try.prog w = .ok v' w' ∧ w'.ownsRow base 5 1 v' (n + 1) (bytesV (l ++ [b])) ∧ w.grownBy w' v.ownBlock ∧ (v'.ownBlock = v.ownBlock ∨ v'.ownBlock = some w.heap.size) := by
  obtain ⟨i0, hi, hz0, hz1, hz2⟩ := info_parts Try.infoByte
  obtain ⟨v', w', hrun, h2, h3, _, h5⟩ := run_append_own_at (P := Try.prog) w base 32 ty 5 i0 (.int .u8 0) 1 1 Try.underlying32 hi hz0 hz1 hz2 rfl (by decide) v n _ hown ⟨g, 0, none⟩ 1 1 (bytesV [b]) rfl (fun j u hu => by
    match j, hu with
    | 0, hu => simp [bytesV] at hu; subst hu; simpa [Addr.add] using hc) (bytesV_one _) (by unfold maxLen; omega) (by omega) hbase
  rw [← bytesV_append] at h2
  exact ⟨v', w', hrun, h2, h3, h5⟩
theorem step_push (w : World) {ops : Array Oper} {o : Oper} {a : Act} {K : Act → World → Prop} {Q : Exit → Act → World → Prop} {E : Prop} (hgd : o.guard = none) (s x : Operand)
    (ho : o.op = .call { callee := .builtin .append, args := #[s, x], argTypes := #[32, 32] })
    (base : Nat) (v : Value) (n : Nat) (l : List UInt8) (hs : a.eval s = v) (hown : w.ownsRow base 5 1 v n (bytesV l)) (g : Nat) (b : UInt8)
    (hx : a.eval x = .slice (some ⟨g, 0, none⟩) 1 1) (hc : w.cell? ⟨g, 0, none⟩ = some (.int .u8 (b.toNat : Int))) (hn : n < 140737488355328) (hbase : base ≤ w.heap.size)
    (h : ∀ v' w', w'.ownsRow base 5 1 v' (n + 1) (bytesV (l ++ [b])) → w.grownBy w' v.ownBlock → (v'.ownBlock = v.ownBlock ∨ v'.ownBlock = some w.heap.size) → K (a.put o.dst v') w') :
    if Region.wanted o (yielded ops a.tmps) = true then Oper.wp Try.prog o a w K Q else E := by
  have hw : Region.wanted o (yielded ops a.tmps) = true := by simp [Region.wanted, hgd]
  rw [if_pos hw]
  obtain ⟨v', w', hrun, h2, h3, h4⟩ := run_push w o.type base v n l hown g b hc hn hbase
  unfold Oper.wp execOp
  simp only [ho, resolve, invoke, builtin, Sem.run_bind, Sem.run_pure, Result.andThen_ok, List.map_toArray, List.map_cons, List.map_nil, hs, hx, hrun]
  exact h v' w' h2 h3 h4

end Go.Proofs.Ytlkkkifilgnhmaa

/- A block that is known whole. It proves no statement. -/



namespace Go.Proofs.Ytlkkkifilgnhmaa
open Go.RowKit
set_option linter.unusedVariables false
set_option linter.unusedSimpArgs false

/-- A block that is known whole, not frozen. -/
def Blk (w : World) (g : Nat) (t : TypeId) (cs : Array Value) : Prop := w.heap[g]? = some (.cells cs t (0, 0))
section
variable {w w' : World} {g : Nat} {t : TypeId} {cs : Array Value}
theorem Blk.lt (h : Blk w g t cs) : g < w.heap.size := (Array.getElem?_eq_some_iff.1 h).1
theorem Blk.cell (h : Blk w g t cs) (i : Nat) : w.cell? ⟨g, i, none⟩ = cs[i]? := cell_of_row w g i cs t (0, 0) h
theorem Blk.frozen (h : Blk w g t cs) (i : Nat) : w.frozen? ⟨g, i, none⟩ = false := frozen_of_row w g i cs t h
theorem Blk.still (h : Blk w g t cs) (hs : Still w w') : Blk w' g t cs := (hs.block g h.lt).trans h
theorem Blk.setc (h : Blk w g t cs) (i : Nat) (u : Value) : Blk (w.setCell ⟨g, i, none⟩ u) g t (cs.setIfInBounds i u) := heap_setCell_same w g i cs t u h
theorem Blk.far (h : Blk w g t cs) {p : Addr} (hp : g ≠ p.block) (u : Value) : Blk (w.setCell p u) g t cs := (Below.heap_setCell w p u g hp).trans h
theorem Blk.new (w : World) (t : TypeId) (cs : Array Value) : Blk (w.alloc (.cells cs t)) w.heap.size t cs := heap_alloc_new w _
theorem Blk.alloc (h : Blk w g t cs) (o : Obj) : Blk (w.alloc o) g t cs := (Below.heap_alloc w o g h.lt).trans h
end

end Go.Proofs.Ytlkkkifilgnhmaa

/- Maps of names to files (pointers), as the media's functions use them. It proves no statement. -/





namespace Go.Proofs.Ytlkkkifilgnhmaa
open Go.RowKit Go.Maps Go.WideMaps
set_option linter.unusedVariables false
set_option linter.unusedSimpArgs false

/-- A file's number as a datum. -/
def fd (f : Int) : DataW Unit := .lit (.int .i64 f)
/-- How a pointer to a file reads. -/
def ptrElem (v : Value) : Option (DataW Unit × List MemPlace) :=
  match v with
  | .pointer none => some (fd (-1), [])
  | .pointer (some ⟨b, 0, none⟩) => some (fd (b : Int), [])
  | _ => none
/-- The pointer of a number. -/
def pa (f : Int) : Option Addr := if f < 0 then none else some ⟨f.toNat, 0, none⟩
def pv (f : Int) : Value := .pointer (pa f)
theorem pv_nil : pv (-1) = .pointer none := rfl
theorem pv_at (b : Nat) : pv (b : Int) = .pointer (some ⟨b, 0, none⟩) := by
  unfold pv pa
  rw [if_neg (by omega)]
  simp
theorem ptrElem_nil : ptrElem (.pointer none) = some (fd (-1), []) := rfl
theorem ptrElem_at (b : Nat) : ptrElem (.pointer (some ⟨b, 0, none⟩)) = some (fd (b : Int), []) := rfl
theorem ptrElem_inv {v : Value} {z : DataW Unit × List MemPlace} (h : ptrElem v = some z) : ∃ f : Int, (f = -1 ∨ 0 ≤ f) ∧ v = pv f ∧ z = (fd f, []) := by
  unfold ptrElem at h
  split at h
  · injection h with h
    exact ⟨-1, .inl rfl, rfl, h.symm⟩
  · rename_i b
    injection h with h
    exact ⟨(b : Int), .inr (by omega), (pv_at b).symm, h.symm⟩
  · cases h
theorem mapLaw : Keyed Try.prog 9 := string_keyed Try.underlying9
theorem zeroPtr (w : World) : (zeroValue 53).run Try.prog w = .ok (.pointer none) w := by kernel_rfl
theorem underNames : Try.prog.underlying 45 = some (.map 9 53) := Try.underlying45
/-- Block b is a map of names that reads as D. -/
abbrev NM (w : World) (b n : Nat) (D : DataW Unit) : Prop := w.ownsMap Try.prog 9 ptrElem b n D
/-- A name as a key. -/
def kl (s : ByteArray) : Lit := .string s.data.toList
theorem key_of (s : ByteArray) (hs : s.size ≤ maxLen) : keyOf Try.prog 9 (.string s) = some (kl s) := keyOf_string_mk Try.underlying9 hs
/-- The file under a name, or -1. -/
def look (D : DataW Unit) (s : ByteArray) : Int := match D.atKey (kl s) (fd (-1)) with | .lit (.int .i64 f) => f | _ => -1

section
variable {w : World} {ops : Array Oper} {rest : List Oper} {o : Oper} {a : Act} {Q : Exit → Act → World → Prop}
theorem wpList_look (hg : o.guard = none) (m x : Operand) (hop : o.op = Op.lookup 45 m x false)
    (b n : Nat) (D : DataW Unit) (hm : a.eval m = .map (some b)) (hown : NM w b n D) (s : ByteArray) (hx : a.eval x = .string s) (hs : s.size ≤ maxLen)
    (hK : ∀ f : Int, (f = -1 ∨ 0 ≤ f) → look D s = f → wpList Try.prog ops Q rest (a.put o.dst (pv f)) w) :
    wpList Try.prog ops Q (o :: rest) a w := by
  refine wpList_plain hg fun K' hK' => ?_
  obtain ⟨v, ps, hrun, hv⟩ := hown.lookup mapLaw underNames (zeroPtr w) ptrElem_nil (key_of s hs)
  obtain ⟨f, hf, rfl, hz⟩ := ptrElem_inv hv
  have hl : look D s = f := by
    unfold look
    have := congrArg Prod.fst hz
    simp only at this
    rw [this]
    rfl
  unfold Oper.wp
  simp [execOp, hop, hm, hx, hrun, Result.andThen]
  exact hK' _ _ (hK f hf hl)
end
end Go.Proofs.Ytlkkkifilgnhmaa

/- Rows of namings, of changes, of calls: '[]T{x}', 'append(row, x)'. It proves no statement. -/





namespace Go.Proofs.Ytlkkkifilgnhmaa
open Go.RowKit Go.Maps Go.WideMaps
set_option linter.unusedVariables false
set_option linter.unusedSimpArgs false

theorem Try.infoNm : (Try.prog.info? 72).map (fun i => (i.zero, i.size, i.bytes)) = some (some (.agg #[.string ⟨#[]⟩, .string ⟨#[]⟩, .pointer none]), 3, 40) := by kernel_rfl
set_option maxRecDepth 100000 in
theorem fill_Nm (s : ByteArray) (t : ByteArray) (p : Option Addr) : Instr.fill (fun i => some (i * 3, 3)) ((Array.range (1 * 3)).map ((Value.agg #[.string ⟨#[]⟩, .string ⟨#[]⟩, .pointer none]).cells[· % (Value.agg #[.string ⟨#[]⟩, .string ⟨#[]⟩, .pointer none]).cells.size]!)) [(0, .agg #[.string s, .string t, .pointer p])] = some #[.string s, .string t, .pointer p] := by kernel_rfl
theorem step_boxNm (w : World) {o : Oper} {a : Act} {K' : Act → World → Prop} {Q : Exit → Act → World → Prop} (x : Operand)
    (ho : o.op = .buildSlice 46 1 #[(0, x)]) (s : ByteArray) (t : ByteArray) (p : Option Addr) (hx : a.eval x = .agg #[.string s, .string t, .pointer p])
    (h : K' (a.put o.dst (.slice (some ⟨w.heap.size, 0, none⟩) 1 1)) (w.alloc (.cells #[.string s, .string t, .pointer p] 72))) : o.wp Try.prog a w K' Q := by
  obtain ⟨i0, hi, hz0, hz1, hz2⟩ := info_parts Try.infoNm
  refine wp_buildSlice 46 72 1 #[(0, x)] ho #[.string s, .string t, .pointer p] i0 _ Try.underlying46 hi hz0 (by rw [hz1]; decide) (by rw [hz1]; decide) ?_ h
  rw [hz1]
  simp only [List.map_toArray, List.map_cons, List.map_nil, hx]
  exact fill_Nm s t p
theorem wpList_boxNm (w : World) {ops : Array Oper} {rest : List Oper} {o : Oper} {a : Act} {Q : Exit → Act → World → Prop} (hgd : o.guard = none) (x : Operand)
    (ho : o.op = .buildSlice 46 1 #[(0, x)]) (s : ByteArray) (t : ByteArray) (p : Option Addr) (hx : a.eval x = .agg #[.string s, .string t, .pointer p])
    (h : wpList Try.prog ops Q rest (a.put o.dst (.slice (some ⟨w.heap.size, 0, none⟩) 1 1)) (w.alloc (.cells #[.string s, .string t, .pointer p] 72))) : wpList Try.prog ops Q (o :: rest) a w :=
  wpList_plain hgd fun _ hQ => step_boxNm w x ho s t p hx (hQ _ _ h)
theorem step_pushNm (w : World) {o : Oper} {a : Act} {K : Act → World → Prop} {Q : Exit → Act → World → Prop} (s x : Operand)
    (ho : o.op = .call { callee := .builtin .append, args := #[s, x], argTypes := #[46, 46] })
    (base : Nat) (v : Value) (n : Nat) (xs : List Value) (hs : a.eval s = v) (hown : w.ownsRow base 72 3 v n xs) (gb : Nat) (cs : List Value)
    (hx : a.eval x = .slice (some ⟨gb, 0, none⟩) 1 1) (hc : ∀ q u, cs[q]? = some u → w.cell? ⟨gb, q, none⟩ = some u) (hc6 : cs.length = 3) (h1 : ∀ u ∈ cs, u.oneCell' = true) (hn : n ≤ 1048576) (hbase : base ≤ w.heap.size)
    (h : ∀ v' w', w'.ownsRow base 72 3 v' (n + 1) (xs ++ cs) → w.grownBy w' v.ownBlock → (v'.ownBlock = v.ownBlock ∨ v'.ownBlock = some w.heap.size) → K (a.put o.dst v') w') :
    o.wp Try.prog a w K Q := by
  obtain ⟨i0, hi, hz0, hz1, hz2⟩ := info_parts Try.infoNm
  obtain ⟨v', w', hrun, h2, h3, _, h5⟩ := run_append_own_at (P := Try.prog) w base 46 o.type 72 i0 _ 3 40 Try.underlying46 hi hz0 hz1 hz2 rfl (by decide) v n xs hown ⟨gb, 0, none⟩ 1 1 cs (by rw [hc6]) (fun j u hu => by
    rw [Addr.add_mid, Nat.zero_add]; exact hc j u hu) h1 (by unfold maxLen; omega) (by omega) hbase
  unfold Oper.wp execOp
  simp only [ho, resolve, invoke, builtin, Sem.run_bind, Sem.run_pure, Result.andThen_ok, List.map_toArray, List.map_cons, List.map_nil, hs, hx, hrun]
  exact h v' w' h2 h3 h5
theorem wpList_pushNm (w : World) {ops : Array Oper} {rest : List Oper} {o : Oper} {a : Act} {Q : Exit → Act → World → Prop} (hgd : o.guard = none) (s x : Operand)
    (ho : o.op = .call { callee := .builtin .append, args := #[s, x], argTypes := #[46, 46] })
    (base : Nat) (v : Value) (n : Nat) (xs : List Value) (hs : a.eval s = v) (hown : w.ownsRow base 72 3 v n xs) (gb : Nat) (cs : List Value)
    (hx : a.eval x = .slice (some ⟨gb, 0, none⟩) 1 1) (hc : ∀ q u, cs[q]? = some u → w.cell? ⟨gb, q, none⟩ = some u) (hc6 : cs.length = 3) (h1 : ∀ u ∈ cs, u.oneCell' = true) (hn : n ≤ 1048576) (hbase : base ≤ w.heap.size)
    (h : ∀ v' w', w'.ownsRow base 72 3 v' (n + 1) (xs ++ cs) → w.grownBy w' v.ownBlock → (v'.ownBlock = v.ownBlock ∨ v'.ownBlock = some w.heap.size) → wpList Try.prog ops Q rest (a.put o.dst v') w') :
    wpList Try.prog ops Q (o :: rest) a w :=
  wpList_plain hgd fun _ hQ => step_pushNm w s x ho base v n xs hs hown gb cs hx hc hc6 h1 hn hbase fun v' w' h2 h3 h5 => hQ _ _ (h v' w' h2 h3 h5)

theorem Try.infoCh : (Try.prog.info? 84).map (fun i => (i.zero, i.size, i.bytes)) = some (some (.agg #[.int .i64 0, .slice none 0 0]), 2, 32) := by kernel_rfl
set_option maxRecDepth 100000 in
theorem fill_Ch (e : Int) (A : Option Addr) (n : Nat) (c : Nat) : Instr.fill (fun i => some (i * 2, 2)) ((Array.range (1 * 2)).map ((Value.agg #[.int .i64 0, .slice none 0 0]).cells[· % (Value.agg #[.int .i64 0, .slice none 0 0]).cells.size]!)) [(0, .agg #[.int .i64 e, .slice A n c])] = some #[.int .i64 e, .slice A n c] := by kernel_rfl
theorem step_boxCh (w : World) {o : Oper} {a : Act} {K' : Act → World → Prop} {Q : Exit → Act → World → Prop} (x : Operand)
    (ho : o.op = .buildSlice 77 1 #[(0, x)]) (e : Int) (A : Option Addr) (n : Nat) (c : Nat) (hx : a.eval x = .agg #[.int .i64 e, .slice A n c])
    (h : K' (a.put o.dst (.slice (some ⟨w.heap.size, 0, none⟩) 1 1)) (w.alloc (.cells #[.int .i64 e, .slice A n c] 84))) : o.wp Try.prog a w K' Q := by
  obtain ⟨i0, hi, hz0, hz1, hz2⟩ := info_parts Try.infoCh
  refine wp_buildSlice 77 84 1 #[(0, x)] ho #[.int .i64 e, .slice A n c] i0 _ Try.underlying77 hi hz0 (by rw [hz1]; decide) (by rw [hz1]; decide) ?_ h
  rw [hz1]
  simp only [List.map_toArray, List.map_cons, List.map_nil, hx]
  exact fill_Ch e A n c
theorem wpList_boxCh (w : World) {ops : Array Oper} {rest : List Oper} {o : Oper} {a : Act} {Q : Exit → Act → World → Prop} (hgd : o.guard = none) (x : Operand)
    (ho : o.op = .buildSlice 77 1 #[(0, x)]) (e : Int) (A : Option Addr) (n : Nat) (c : Nat) (hx : a.eval x = .agg #[.int .i64 e, .slice A n c])
    (h : wpList Try.prog ops Q rest (a.put o.dst (.slice (some ⟨w.heap.size, 0, none⟩) 1 1)) (w.alloc (.cells #[.int .i64 e, .slice A n c] 84))) : wpList Try.prog ops Q (o :: rest) a w :=
  wpList_plain hgd fun _ hQ => step_boxCh w x ho e A n c hx (hQ _ _ h)
theorem step_pushCh (w : World) {o : Oper} {a : Act} {K : Act → World → Prop} {Q : Exit → Act → World → Prop} (s x : Operand)
    (ho : o.op = .call { callee := .builtin .append, args := #[s, x], argTypes := #[77, 77] })
    (base : Nat) (v : Value) (n : Nat) (xs : List Value) (hs : a.eval s = v) (hown : w.ownsRow base 84 2 v n xs) (gb : Nat) (cs : List Value)
    (hx : a.eval x = .slice (some ⟨gb, 0, none⟩) 1 1) (hc : ∀ q u, cs[q]? = some u → w.cell? ⟨gb, q, none⟩ = some u) (hc6 : cs.length = 2) (h1 : ∀ u ∈ cs, u.oneCell' = true) (hn : n ≤ 1048576) (hbase : base ≤ w.heap.size)
    (h : ∀ v' w', w'.ownsRow base 84 2 v' (n + 1) (xs ++ cs) → w.grownBy w' v.ownBlock → (v'.ownBlock = v.ownBlock ∨ v'.ownBlock = some w.heap.size) → K (a.put o.dst v') w') :
    o.wp Try.prog a w K Q := by
  obtain ⟨i0, hi, hz0, hz1, hz2⟩ := info_parts Try.infoCh
  obtain ⟨v', w', hrun, h2, h3, _, h5⟩ := run_append_own_at (P := Try.prog) w base 77 o.type 84 i0 _ 2 32 Try.underlying77 hi hz0 hz1 hz2 rfl (by decide) v n xs hown ⟨gb, 0, none⟩ 1 1 cs (by rw [hc6]) (fun j u hu => by
    rw [Addr.add_mid, Nat.zero_add]; exact hc j u hu) h1 (by unfold maxLen; omega) (by omega) hbase
  unfold Oper.wp execOp
  simp only [ho, resolve, invoke, builtin, Sem.run_bind, Sem.run_pure, Result.andThen_ok, List.map_toArray, List.map_cons, List.map_nil, hs, hx, hrun]
  exact h v' w' h2 h3 h5
theorem wpList_pushCh (w : World) {ops : Array Oper} {rest : List Oper} {o : Oper} {a : Act} {Q : Exit → Act → World → Prop} (hgd : o.guard = none) (s x : Operand)
    (ho : o.op = .call { callee := .builtin .append, args := #[s, x], argTypes := #[77, 77] })
    (base : Nat) (v : Value) (n : Nat) (xs : List Value) (hs : a.eval s = v) (hown : w.ownsRow base 84 2 v n xs) (gb : Nat) (cs : List Value)
    (hx : a.eval x = .slice (some ⟨gb, 0, none⟩) 1 1) (hc : ∀ q u, cs[q]? = some u → w.cell? ⟨gb, q, none⟩ = some u) (hc6 : cs.length = 2) (h1 : ∀ u ∈ cs, u.oneCell' = true) (hn : n ≤ 1048576) (hbase : base ≤ w.heap.size)
    (h : ∀ v' w', w'.ownsRow base 84 2 v' (n + 1) (xs ++ cs) → w.grownBy w' v.ownBlock → (v'.ownBlock = v.ownBlock ∨ v'.ownBlock = some w.heap.size) → wpList Try.prog ops Q rest (a.put o.dst v') w') :
    wpList Try.prog ops Q (o :: rest) a w :=
  wpList_plain hgd fun _ hQ => step_pushCh w s x ho base v n xs hs hown gb cs hx hc hc6 h1 hn hbase fun v' w' h2 h3 h5 => hQ _ _ (h v' w' h2 h3 h5)

theorem Try.infoDo : (Try.prog.info? 34).map (fun i => (i.zero, i.size, i.bytes)) = some (some (.agg #[.int .i64 0, .string ⟨#[]⟩, .string ⟨#[]⟩, .int .i64 0, .int .i64 0, .slice none 0 0, .slice none 0 0]), 7, 104) := by kernel_rfl
set_option maxRecDepth 100000 in
theorem fill_Do (k : Int) (s : ByteArray) (t : ByteArray) (nn : Int) (mm : Int) (A : Option Addr) (n : Nat) (c : Nat) (A2 : Option Addr) (n2 : Nat) (c2 : Nat) : Instr.fill (fun i => some (i * 7, 7)) ((Array.range (1 * 7)).map ((Value.agg #[.int .i64 0, .string ⟨#[]⟩, .string ⟨#[]⟩, .int .i64 0, .int .i64 0, .slice none 0 0, .slice none 0 0]).cells[· % (Value.agg #[.int .i64 0, .string ⟨#[]⟩, .string ⟨#[]⟩, .int .i64 0, .int .i64 0, .slice none 0 0, .slice none 0 0]).cells.size]!)) [(0, .agg #[.int .i64 k, .string s, .string t, .int .i64 nn, .int .i64 mm, .slice A n c, .slice A2 n2 c2])] = some #[.int .i64 k, .string s, .string t, .int .i64 nn, .int .i64 mm, .slice A n c, .slice A2 n2 c2] := by kernel_rfl
theorem step_boxDo (w : World) {o : Oper} {a : Act} {K' : Act → World → Prop} {Q : Exit → Act → World → Prop} (x : Operand)
    (ho : o.op = .buildSlice 22 1 #[(0, x)]) (k : Int) (s : ByteArray) (t : ByteArray) (nn : Int) (mm : Int) (A : Option Addr) (n : Nat) (c : Nat) (A2 : Option Addr) (n2 : Nat) (c2 : Nat) (hx : a.eval x = .agg #[.int .i64 k, .string s, .string t, .int .i64 nn, .int .i64 mm, .slice A n c, .slice A2 n2 c2])
    (h : K' (a.put o.dst (.slice (some ⟨w.heap.size, 0, none⟩) 1 1)) (w.alloc (.cells #[.int .i64 k, .string s, .string t, .int .i64 nn, .int .i64 mm, .slice A n c, .slice A2 n2 c2] 34))) : o.wp Try.prog a w K' Q := by
  obtain ⟨i0, hi, hz0, hz1, hz2⟩ := info_parts Try.infoDo
  refine wp_buildSlice 22 34 1 #[(0, x)] ho #[.int .i64 k, .string s, .string t, .int .i64 nn, .int .i64 mm, .slice A n c, .slice A2 n2 c2] i0 _ Try.underlying22 hi hz0 (by rw [hz1]; decide) (by rw [hz1]; decide) ?_ h
  rw [hz1]
  simp only [List.map_toArray, List.map_cons, List.map_nil, hx]
  exact fill_Do k s t nn mm A n c A2 n2 c2
theorem wpList_boxDo (w : World) {ops : Array Oper} {rest : List Oper} {o : Oper} {a : Act} {Q : Exit → Act → World → Prop} (hgd : o.guard = none) (x : Operand)
    (ho : o.op = .buildSlice 22 1 #[(0, x)]) (k : Int) (s : ByteArray) (t : ByteArray) (nn : Int) (mm : Int) (A : Option Addr) (n : Nat) (c : Nat) (A2 : Option Addr) (n2 : Nat) (c2 : Nat) (hx : a.eval x = .agg #[.int .i64 k, .string s, .string t, .int .i64 nn, .int .i64 mm, .slice A n c, .slice A2 n2 c2])
    (h : wpList Try.prog ops Q rest (a.put o.dst (.slice (some ⟨w.heap.size, 0, none⟩) 1 1)) (w.alloc (.cells #[.int .i64 k, .string s, .string t, .int .i64 nn, .int .i64 mm, .slice A n c, .slice A2 n2 c2] 34))) : wpList Try.prog ops Q (o :: rest) a w :=
  wpList_plain hgd fun _ hQ => step_boxDo w x ho k s t nn mm A n c A2 n2 c2 hx (hQ _ _ h)
theorem step_pushDo (w : World) {o : Oper} {a : Act} {K : Act → World → Prop} {Q : Exit → Act → World → Prop} (s x : Operand)
    (ho : o.op = .call { callee := .builtin .append, args := #[s, x], argTypes := #[22, 22] })
    (base : Nat) (v : Value) (n : Nat) (xs : List Value) (hs : a.eval s = v) (hown : w.ownsRow base 34 7 v n xs) (gb : Nat) (cs : List Value)
    (hx : a.eval x = .slice (some ⟨gb, 0, none⟩) 1 1) (hc : ∀ q u, cs[q]? = some u → w.cell? ⟨gb, q, none⟩ = some u) (hc6 : cs.length = 7) (h1 : ∀ u ∈ cs, u.oneCell' = true) (hn : n ≤ 1048576) (hbase : base ≤ w.heap.size)
    (h : ∀ v' w', w'.ownsRow base 34 7 v' (n + 1) (xs ++ cs) → w.grownBy w' v.ownBlock → (v'.ownBlock = v.ownBlock ∨ v'.ownBlock = some w.heap.size) → K (a.put o.dst v') w') :
    o.wp Try.prog a w K Q := by
  obtain ⟨i0, hi, hz0, hz1, hz2⟩ := info_parts Try.infoDo
  obtain ⟨v', w', hrun, h2, h3, _, h5⟩ := run_append_own_at (P := Try.prog) w base 22 o.type 34 i0 _ 7 104 Try.underlying22 hi hz0 hz1 hz2 rfl (by decide) v n xs hown ⟨gb, 0, none⟩ 1 1 cs (by rw [hc6]) (fun j u hu => by
    rw [Addr.add_mid, Nat.zero_add]; exact hc j u hu) h1 (by unfold maxLen; omega) (by omega) hbase
  unfold Oper.wp execOp
  simp only [ho, resolve, invoke, builtin, Sem.run_bind, Sem.run_pure, Result.andThen_ok, List.map_toArray, List.map_cons, List.map_nil, hs, hx, hrun]
  exact h v' w' h2 h3 h5
theorem wpList_pushDo (w : World) {ops : Array Oper} {rest : List Oper} {o : Oper} {a : Act} {Q : Exit → Act → World → Prop} (hgd : o.guard = none) (s x : Operand)
    (ho : o.op = .call { callee := .builtin .append, args := #[s, x], argTypes := #[22, 22] })
    (base : Nat) (v : Value) (n : Nat) (xs : List Value) (hs : a.eval s = v) (hown : w.ownsRow base 34 7 v n xs) (gb : Nat) (cs : List Value)
    (hx : a.eval x = .slice (some ⟨gb, 0, none⟩) 1 1) (hc : ∀ q u, cs[q]? = some u → w.cell? ⟨gb, q, none⟩ = some u) (hc6 : cs.length = 7) (h1 : ∀ u ∈ cs, u.oneCell' = true) (hn : n ≤ 1048576) (hbase : base ≤ w.heap.size)
    (h : ∀ v' w', w'.ownsRow base 34 7 v' (n + 1) (xs ++ cs) → w.grownBy w' v.ownBlock → (v'.ownBlock = v.ownBlock ∨ v'.ownBlock = some w.heap.size) → wpList Try.prog ops Q rest (a.put o.dst v') w') :
    wpList Try.prog ops Q (o :: rest) a w :=
  wpList_plain hgd fun _ hQ => step_pushDo w s x ho base v n xs hs hown gb cs hx hc hc6 h1 hn hbase fun v' w' h2 h3 h5 => hQ _ _ (h v' w' h2 h3 h5)
end Go.Proofs.Ytlkkkifilgnhmaa

/- Rows of bytes, and parts of them. It proves no statement. -/








namespace Go.Proofs.Ytlkkkifilgnhmaa
open Go.RowKit
set_option linter.unusedVariables false
set_option linter.unusedSimpArgs false

theorem still_drewN {a w : World} (h : Still a w) (n : Nat) : Still a (w.drewN n) := ⟨h.os, h.tape, h.output, h.size, h.block⟩

/-- Integers that came in. -/
theorem ints_of_row {w : World} {a : Option Addr} {len cap : Nat} {zs : List Int} (h : RowIn .i64 w a len cap zs) :
    len ≤ 9223372036854775807 ∧ (∀ i, i < len → ∃ b o y, a = some ⟨b, o, none⟩ ∧ b < w.heap.size ∧ w.cell? ⟨b, o + i, none⟩ = some (.int .i64 y)) := by
  rcases h with ⟨rfl, rfl, rfl, rfl⟩ | ⟨x, rfl, hl, hm, hz, hc, hw⟩
  · exact ⟨by omega, fun i hi => by omega⟩
  · unfold maxLen at hm
    refine ⟨by omega, fun i hi => ?_⟩
    obtain ⟨b, o, sp⟩ := x
    have h00 := hc 0 (by omega)
    have hsp : sp = none := by simpa [Addr.add] using World.cell?_spot h00
    subst hsp
    have h0 := hc i (by omega)
    rw [Addr.add_lit] at h0
    exact ⟨b, o, zs.getD i 0, rfl, by simpa using World.block_lt_of_cell? w _ h0, h0⟩

theorem Reads.dropk {w : World} {B n k : Nat} {A : Option Addr} {l : List UInt8} (h : Reads w B A n l) (hk : k ≤ n) : Reads w B (A.map (·.add k)) (n - k) (l.drop k) := by
  refine ⟨by rw [List.length_drop, h.1], fun hn => ?_⟩
  obtain ⟨b, o, rfl, hb, hc⟩ := h.2 (by omega)
  refine ⟨b, o + k, by simp [Addr.add_lit], hb, fun i hi => ?_⟩
  have := hc (k + i) (by omega)
  rw [Nat.add_assoc, this]
  simp [List.getD]
theorem Reads.takek {w : World} {B n k : Nat} {A : Option Addr} {l : List UInt8} (h : Reads w B A n l) (hk : k ≤ n) : Reads w B A k (l.take k) := by
  have := h.take k
  rwa [show min n k = k by omega] at this
end Go.Proofs.Ytlkkkifilgnhmaa

/- Rows outside a block that is written. It proves no statement. -/

namespace Go.Proofs.Ytlkkkifilgnhmaa
open Go.RowKit
set_option linter.unusedVariables false

theorem grownBy_drew {w w' : World} {r : Option Nat} (h : w.grownBy w' r) : w.grownBy w'.drew r := ⟨h.os, h.tape, h.output, h.size, h.block⟩
theorem grownBy_drewN {w w' : World} {r : Option Nat} (h : w.grownBy w' r) (n : Nat) : w.grownBy (w'.drewN n) r := ⟨h.os, h.tape, h.output, h.size, h.block⟩
theorem grownBy_set (w : World) (g o : Nat) (u : Value) : w.grownBy (w.setCell ⟨g, o, none⟩ u) (some g) := ⟨rfl, rfl, rfl, by simp [World.setCell], fun k _ hk => Below.heap_setCell _ _ _ _ (fun e => hk (by rw [e]))⟩
/-- A row that reads and lies outside block g. -/
def Far (g : Nat) (A : Option Addr) (n : Nat) : Prop := ∀ ad, A = some ad → 0 < n → ad.block ≠ g
theorem Reads.grown {w w' : World} {B g n : Nat} {A : Option Addr} {l : List UInt8} (h : Reads w B A n l) (hf : Far g A n) (hg : w.grownBy w' (some g)) : Reads w' B A n l := by
  refine ⟨h.1, fun hn => ?_⟩
  obtain ⟨b, o, e, hb, hc⟩ := h.2 hn
  refine ⟨b, o, e, hb, fun i hi => ?_⟩
  have hne := hf _ e hn
  rw [hg.cell_far ⟨b, o + i, none⟩ (World.block_lt_of_cell? w _ (hc i hi)) (fun e2 => hne (Option.some.inj e2))]
  exact hc i hi
theorem still_grown {w w1 w2 : World} {g : Nat} (s : Still w w1) (gr : w1.grownBy w2 (some g)) (hg : w.heap.size ≤ g) : Still w w2 := s.grown gr s.size (fun k hk => by cases hk; exact hg)
theorem far_low {w : World} {B g n : Nat} {A : Option Addr} {l : List UInt8} (h : Reads w B A n l) (hB : B ≤ g) : Far g A n := by
  intro ad e hn
  obtain ⟨b, o, e2, hb, _⟩ := h.2 hn
  rw [e2] at e
  cases e
  show b ≠ g
  omega
theorem far_own {w : World} {base g n c : Nat} {A : Option Addr} {xs : List Value} (h : w.ownsRow base 5 1 (.slice A n c) n xs) (hg : g < base) : Far g A n := by
  intro ad e hn
  subst e
  rcases h.2 with ⟨_, h0⟩ | ⟨b, cap, cur, hv, hb, _⟩
  · omega
  · injection hv with hv1
    cases hv1
    show b ≠ g
    omega
end Go.Proofs.Ytlkkkifilgnhmaa

/- Contract: a change of names, done. It proves no statement. -/


namespace Go.Proofs.Ytlkkkifilgnhmaa
open Go.RowKit Go.Maps Go.WideMaps
set_option linter.unusedVariables false
set_option linter.unusedSimpArgs false

/-- What a change of names makes of a map. -/
def nmDo (D : DataW Unit) (s t : ByteArray) (f : Int) : DataW Unit := if f < 0 then D.del (kl s) else (D.del (kl s)).put (kl t) (fd f)
theorem box_kept {w w1 : World} {cs : Array Value} {ty : TypeId} {b : Nat} (ht : (w.alloc (.cells cs ty)).grownBy w1 (some b)) (hb : b < w.heap.size) (i : Nat) : w1.cell? ⟨w.heap.size, i, none⟩ = cs[i]? := by
  have h1 := ht.block w.heap.size (by simp) (fun e => by injection e with e; omega)
  exact cell_of_row w1 w.heap.size i cs ty (0, 0) (h1.trans (heap_alloc_new w _))
set_option maxRecDepth 100000 in
set_option maxHeartbeats 800000 in
theorem naming_do (s t : ByteArray) (f : Int) (hf : f = -1 ∨ 0 ≤ f) (b n : Nat) (D : DataW Unit) (w : World) (hown : NM w b n D) (hn : n ≤ 1048576) (hs : s.size ≤ maxLen) (ht : t.size ≤ maxLen) :
    Calls Try.prog 37 #[.agg #[.string s, .string t, pv f], .map (some b)] w fun e w' => e = .returned (.tuple #[]) ∧ NM w' b (n + 1) (nmDo D s t f) ∧ w.grownBy w' (some b) := by
  have hk1 := key_of s hs
  have hk2 := key_of t ht
  have HM := Lib.hid (show n < maxLen by unfold maxLen; omega)
  have HO := Lib.hid (fun ob => hown.alloc ob)
  have HB := Lib.hid (show b < w.heap.size from hown.lt)
  clear hown hn
  rcases hf with rfl | hf
  · have E : nmDo D s t (-1) = D.del (kl s) := by unfold nmDo; rw [if_pos (by decide)]
    rw [E, pv_nil]
    clear E
    go_enter Try.func37, Try.ntmps37
    go_wp2_with (at_delete; go_must (refine wpList_delete_own _ rfl _ _ 45 9 rfl 53 mapLaw underNames ptrElem b n D rfl (HO.out _) _ _ rfl hk1 ?_; intro w1 hown1 hturn1; have q2 : w1.cell? ⟨w.heap.size, 2, none⟩ = some (.pointer none) := box_kept hturn1.grown HB.out 2))
    go_end0
    exact ⟨rfl, hown1.mono (by omega), (World.grownBy_alloc w _ _).trans hturn1.grown⟩
  · obtain ⟨m, rfl⟩ := Int.eq_ofNat_of_zero_le hf
    have E : nmDo D s t (m : Int) = (D.del (kl s)).put (kl t) (fd (m : Int)) := by unfold nmDo; rw [if_neg (by omega)]
    rw [E, pv_at]
    clear E hf
    go_enter Try.func37, Try.ntmps37
    go_wp2_with (first
      | (at_delete; go_must (refine wpList_delete_own _ rfl _ _ 45 9 rfl 53 mapLaw underNames ptrElem b n D rfl (HO.out _) _ _ rfl hk1 ?_; intro w1 hown1 hturn1; have q2 : w1.cell? ⟨w.heap.size, 2, none⟩ = some (.pointer (some ⟨m, 0, none⟩)) := box_kept hturn1.grown HB.out 2; have q1 : w1.cell? ⟨w.heap.size, 1, none⟩ = some (.string t) := box_kept hturn1.grown HB.out 1))
      | (at_mapUpdate; go_must (refine wpList_mapUpdate_own _ rfl _ _ _ 45 rfl 9 53 mapLaw underNames ptrElem b n _ rfl hown1 HM.out _ _ (kl t) rfl rfl hk2 (fd (m : Int)) [] (ptrElem_at m) ?_; intro w2 hown2 hgrow2)))
    go_end0
    exact ⟨rfl, hown2, ((World.grownBy_alloc w _ _).trans hturn1.grown).trans hgrow2⟩
end Go.Proofs.Ytlkkkifilgnhmaa

/- Contracts: a medium that New made: New, works, step. It proves no statement. -/


namespace Go.Proofs.Ytlkkkifilgnhmaa
open Go.RowKit Go.Maps Go.WideMaps
set_option linter.unusedVariables false
set_option linter.unusedSimpArgs false

/-- A medium's block. -/
def MedB (w : World) (g : Nat) (room : Int) (bn bf : Nat) (wv : Value) (left : Int) (off : Bool) : Prop := Blk w g 48 #[.int .i64 room, .map (some bn), .map (some bf), wv, .int .i64 left, .bool off, .bool true]
theorem MedB.still {w w' : World} {g : Nat} {room : Int} {bn bf : Nat} {wv : Value} {left : Int} {off : Bool} (h : MedB w g room bn bf wv left off) (s : Still w w') : MedB w' g room bn bf wv left off := Blk.still h s
theorem isRoom_any (x : Int) (w : World) : Calls Try.prog 36 #[.int .i64 x] w fun e w' => e = .returned (.bool (decide (0 ≤ x ∧ x ≤ 16777216))) ∧ w = w' := by
  by_cases h1 : 0 ≤ x
  · by_cases h2 : x ≤ 16777216
    · rw [decide_eq_true ⟨h1, h2⟩]
      go_enter Try.func36, Try.ntmps36
      go_wp2_with fail
      go_ret
      exact ⟨rfl, rfl⟩
    · rw [decide_eq_false (fun h => h2 h.2)]
      go_enter Try.func36, Try.ntmps36
      go_wp2_with fail
      go_ret
      exact ⟨by first | rfl | (simp; omega), rfl⟩
  · rw [decide_eq_false (fun h => h1 h.1)]
    go_enter Try.func36, Try.ntmps36
    go_wp2_with fail
    go_ret
    exact ⟨by first | rfl | (simp; omega), rfl⟩
theorem new_no (x : Int) (w : World) (h : ¬ (0 ≤ x ∧ x ≤ 16777216)) : Calls Try.prog 13 #[.int .i64 x] w fun e w' => e = .returned (.tuple #[.pointer none, .int .i64 2]) ∧ w = w' := by
  have HR := Lib.hid (isRoom_any x w)
  rw [decide_eq_false h] at HR
  clear h
  go_enter Try.func13, Try.ntmps13
  go_wp2_with fail
  refine HR.out.mono ?_
  rintro e w1 ⟨rfl, rfl⟩
  go_wp2_with fail
  go_ret2
  exact ⟨rfl, rfl⟩
set_option maxRecDepth 100000 in
set_option maxHeartbeats 800000 in
theorem new_yes (x : Int) (w : World) (h : 0 ≤ x ∧ x ≤ 16777216) : Calls Try.prog 13 #[.int .i64 x] w fun e w' => ∃ g bn bf, e = .returned (.tuple #[.pointer (some ⟨g, 0, none⟩), .int .i64 0]) ∧ MedB w' g x bn bf (.slice none 0 0) (-1) false ∧ NM w' bn 0 (.map []) ∧ NM w' bf 0 (.map []) ∧ w.heap.size ≤ bn ∧ w.heap.size ≤ bf ∧ w.heap.size ≤ g ∧ bn ≠ bf ∧ Still w w' := by
  have HR := Lib.hid (isRoom_any x w)
  rw [decide_eq_true h] at HR
  have hmm := @run_makeMap Try.prog
  clear h
  go_enter Try.func13, Try.ntmps13
  go_wp2_with fail
  refine HR.out.mono ?_
  rintro e w1 ⟨rfl, rfl⟩
  go_wp2_with fail
  go_ret2
  have S1 : Still w (w.alloc (.map #[] 0)) := (Still.refl w).alloc (Nat.le_refl _) _
  have S2 : Still (w.alloc (.map #[] 0)) ((w.alloc (.map #[] 0)).alloc (.map #[] 0)) := (Still.refl _).alloc (Nat.le_refl _) _
  have e1 : (w.alloc (.map #[] 0)).heap.size = w.heap.size + 1 := by simp
  have e2 : ((w.alloc (.map #[] 0)).alloc (.map #[] 0)).heap.size = w.heap.size + 1 + 1 := by simp
  refine ⟨w.heap.size + 1 + 1, w.heap.size, w.heap.size + 1, rfl, ?_, (((World.ownsMap_made w _ _ _).alloc _).alloc _), ?_, Nat.le_refl _, by omega, by omega, by omega, (S1.trans S2).trans ((Still.refl _).alloc (Nat.le_refl _) _)⟩
  · have h := Blk.new ((w.alloc (.map #[] 0)).alloc (.map #[] 0)) 48 #[.int .i64 x, .map (some w.heap.size), .map (some (w.heap.size + 1)), .slice none 0 0, .int .i64 (-1), .bool false, .bool true]
    rw [e2] at h
    exact h
  · have h := (World.ownsMap_made (w.alloc (.map #[] 0)) Try.prog 9 ptrElem).alloc (.cells #[.int .i64 x, .map (some w.heap.size), .map (some (w.heap.size + 1)), .slice none 0 0, .int .i64 (-1), .bool false, .bool true] 48)
    rw [e1] at h
    exact h
theorem works_yes {w : World} {g : Nat} {room : Int} {bn bf : Nat} {wv : Value} {left : Int} {off : Bool} (h : MedB w g room bn bf wv left off) :
    Calls Try.prog 14 #[.pointer (some ⟨g, 0, none⟩)] w fun e w' => e = .returned (.int .i64 (if off = true then 12 else 0)) ∧ w = w' := by
  have c5 : w.cell? ⟨g, 5, none⟩ = some (.bool off) := Blk.cell h 5
  have c6 : w.cell? ⟨g, 6, none⟩ = some (.bool true) := Blk.cell h 6
  have HB := Lib.hid h
  clear h
  cases off
  · go_enter Try.func14, Try.ntmps14
    go_wp2
    go_ret
    exact ⟨rfl, rfl⟩
  · go_enter Try.func14, Try.ntmps14
    go_wp2
    go_ret
    exact ⟨rfl, rfl⟩
theorem MedB.setc {w : World} {g : Nat} {room : Int} {bn bf : Nat} {wv : Value} {left : Int} {off : Bool} (h : MedB w g room bn bf wv left off) (left' : Int) : MedB (w.setCell ⟨g, 4, none⟩ (.int .i64 left')) g room bn bf wv left' off := Blk.setc h 4 _
theorem MedB.setoff {w : World} {g : Nat} {room : Int} {bn bf : Nat} {wv : Value} {left : Int} {off : Bool} (h : MedB w g room bn bf wv left off) (off' : Bool) : MedB (w.setCell ⟨g, 5, none⟩ (.bool off')) g room bn bf wv left off' := Blk.setc h 5 _
theorem MedB.setwait {w : World} {g : Nat} {room : Int} {bn bf : Nat} {wv : Value} {left : Int} {off : Bool} (h : MedB w g room bn bf wv left off) (wv' : Value) : MedB (w.setCell ⟨g, 3, none⟩ wv') g room bn bf wv' left off := Blk.setc h 3 _
/-- What a step leaves: the counter, the power, the error. -/
def stepR (left : Int) (off : Bool) : Int × Bool × Int := if left = 0 then (left, true, 12) else if 0 < left then (left - 1, off, 0) else (left, off, 0)
theorem step_yes {w : World} {g : Nat} {room : Int} {bn bf : Nat} {wv : Value} {left : Int} {off : Bool} (h : MedB w g room bn bf wv left off) (hl : left ≤ 9223372036854775807) :
    Calls Try.prog 15 #[.pointer (some ⟨g, 0, none⟩)] w fun e w' => e = .returned (.int .i64 (stepR left off).2.2) ∧ MedB w' g room bn bf wv (stepR left off).1 (stepR left off).2.1 ∧ w.grownBy w' (some g) := by
  have c4 : w.cell? ⟨g, 4, none⟩ = some (.int .i64 left) := Blk.cell h 4
  have c5 : w.cell? ⟨g, 5, none⟩ = some (.bool off) := Blk.cell h 5
  have f4 := Blk.frozen h 4
  have f5 := Blk.frozen h 5
  by_cases h0 : left = 0
  · have E : stepR left off = (left, true, 12) := by unfold stepR; rw [if_pos h0]
    rw [E]
    have M := Lib.hid (h.setoff true)
    subst h0
    clear h E
    go_enter Try.func15, Try.ntmps15
    go_wp2
    go_ret
    exact ⟨rfl, M.out, grownBy_set _ _ _ _⟩
  · have b0 : (left == 0) = false := by simpa using h0
    by_cases h1 : 0 < left
    · have E : stepR left off = (left - 1, off, 0) := by unfold stepR; rw [if_neg h0, if_pos h1]
      rw [E]
      have M := Lib.hid (h.setc (left - 1))
      clear h E
      go_enter Try.func15, Try.ntmps15
      go_wp2
      go_ret
      exact ⟨rfl, M.out, grownBy_set _ _ _ _⟩
    · have E : stepR left off = (left, off, 0) := by unfold stepR; rw [if_neg h0, if_neg h1]
      rw [E]
      have M := Lib.hid h
      clear h E
      go_enter Try.func15, Try.ntmps15
      go_wp2
      go_ret
      exact ⟨rfl, M.out, World.grownBy.refl _ _⟩
end Go.Proofs.Ytlkkkifilgnhmaa

/- Worlds in which only some blocks have turned. It proves no statement. -/


namespace Go.Proofs.Ytlkkkifilgnhmaa
open Go.RowKit
set_option linter.unusedVariables false
set_option linter.unusedSimpArgs false

/-- From w to w' only blocks of S, and new ones, have turned. -/
structure Chg (w w' : World) (S : Nat → Prop) : Prop where
  os : w'.os = w.os
  tape : w'.tape = w.tape
  output : w'.output = w.output
  size : w.heap.size ≤ w'.heap.size
  block : ∀ k, k < w.heap.size → ¬ S k → w'.heap[k]? = w.heap[k]?
theorem Chg.refl (w : World) (S : Nat → Prop) : Chg w w S := ⟨rfl, rfl, rfl, Nat.le_refl _, fun _ _ _ => rfl⟩
theorem Chg.trans {a b c : World} {S T : Nat → Prop} (h : Chg a b S) (k : Chg b c T) (hT : ∀ x, x < a.heap.size → T x → S x) : Chg a c S :=
  ⟨k.os.trans h.os, k.tape.trans h.tape, k.output.trans h.output, Nat.le_trans h.size k.size, fun x hx hS => (k.block x (Nat.lt_of_lt_of_le hx h.size) (fun ht => hS (hT x hx ht))).trans (h.block x hx hS)⟩
theorem Chg.mono {a b : World} {S T : Nat → Prop} (h : Chg a b S) (hT : ∀ x, x < a.heap.size → S x → T x) : Chg a b T := ⟨h.os, h.tape, h.output, h.size, fun x hx hS => h.block x hx (fun hs => hS (hT x hx hs))⟩
theorem Chg.of_grown {a b : World} {r : Option Nat} (h : a.grownBy b r) {S : Nat → Prop} (hr : ∀ k, r = some k → k < a.heap.size → S k) : Chg a b S := ⟨h.os, h.tape, h.output, h.size, fun k hk hS => h.block k hk (fun e => hS (hr k e.symm hk))⟩
theorem Chg.of_still {a b : World} (h : Still a b) (S : Nat → Prop) : Chg a b S := ⟨h.os, h.tape, h.output, h.size, fun k hk _ => h.block k hk⟩
theorem Chg.of_below {a b : World} {lo : Nat} (h : Below lo a b) {S : Nat → Prop} (hS : ∀ k, lo ≤ k → k < a.heap.size → S k) : Chg a b S := ⟨h.os, h.tape, h.output, h.size, fun k hk hn => h.block k (by
  rcases Nat.lt_or_ge k lo with h1 | h1
  · exact h1
  · exact absurd (hS k h1 hk) hn)⟩
theorem Chg.below {a b : World} {S : Nat → Prop} (h : Chg a b S) {lo : Nat} (hlo : lo ≤ a.heap.size) (hS : ∀ k, S k → lo ≤ k) : Below lo a b := ⟨h.os, h.tape, h.output, h.size, fun k hk => h.block k (by omega) (fun hs => by have := hS k hs; omega)⟩
theorem Chg.still {a b w0 : World} {S : Nat → Prop} (h : Chg a b S) (s : Still w0 a) (hS : ∀ k, S k → w0.heap.size ≤ k) : Still w0 b := Below.trans s (h.below s.size hS)
theorem Chg.drew (w : World) (S : Nat → Prop) : Chg w w.drew S := ⟨rfl, rfl, rfl, Nat.le_refl _, fun _ _ _ => rfl⟩
/-- What stays. -/
theorem Chg.blk {a b : World} {S : Nat → Prop} (h : Chg a b S) {g : Nat} {t : TypeId} {cs : Array Value} (hb : Blk a g t cs) (hS : ¬ S g) : Blk b g t cs := (h.block g hb.lt hS).trans hb
theorem Chg.own {a b : World} {S : Nat → Prop} (h : Chg a b S) {base z n : Nat} {e : TypeId} {v : Value} {xs : List Value} (ho : a.ownsRow base e z v n xs) (hS : ∀ k, v.ownBlock = some k → ¬ S k) : b.ownsRow base e z v n xs := by
  refine ⟨ho.1, ?_⟩
  rcases ho.2 with h0 | ⟨g, c, cur, h1, h2, h3, h4⟩
  · exact .inl h0
  · subst h1
    exact .inr ⟨g, c, cur, rfl, h2, (h.block g (Array.getElem?_eq_some_iff.1 h3).1 (hS g rfl)).trans h3, h4⟩
theorem Chg.reads {a b : World} {S : Nat → Prop} (h : Chg a b S) {B n : Nat} {A : Option Addr} {l : List UInt8} (hr : Reads a B A n l) (hB : B ≤ a.heap.size) (hS : ∀ ad, A = some ad → ¬ S ad.block) : Reads b B A n l := by
  refine ⟨hr.1, fun hn => ?_⟩
  obtain ⟨bb, o, e, hlt, hc⟩ := hr.2 hn
  refine ⟨bb, o, e, hlt, fun i hi => ?_⟩
  exact (World.cell?_of_block (w := a) (h.block bb (by omega) (hS _ e))).trans (hc i hi)
end Go.Proofs.Ytlkkkifilgnhmaa

/- Worlds in which only some blocks have turned: maps. It proves no statement. -/


namespace Go.Proofs.Ytlkkkifilgnhmaa
open Go.RowKit Go.Maps Go.WideMaps
set_option linter.unusedVariables false
set_option linter.unusedSimpArgs false

theorem Chg.nm {a b : World} {S : Nat → Prop} (h : Chg a b S) {m n : Nat} {D : DataW Unit} (hm : NM a m n D) (hS : ¬ S m) : NM b m n D := by
  have hlt := hm.lt
  obtain ⟨es, clock, hb, F, hs, hD⟩ := hm
  exact ⟨es, clock, (h.block m hlt hS).trans hb, F, hs, hD⟩
end Go.Proofs.Ytlkkkifilgnhmaa

/- Contract: a step that changes names. It proves no statement. -/








namespace Go.Proofs.Ytlkkkifilgnhmaa
open Go.RowKit Go.Maps Go.WideMaps
set_option linter.unusedVariables false
set_option linter.unusedSimpArgs false

theorem own_ne {w : World} {base z n g : Nat} {e t : TypeId} {v : Value} {xs : List Value} {cs : Array Value} (h : w.ownsRow base e z v n xs) (hb : Blk w g t cs) (ne : e ≠ t) : v.ownBlock ≠ some g := by
  intro q
  rcases h.2 with ⟨rfl, _⟩ | ⟨g', c, cur, rfl, _, h3, _⟩
  · simp [Value.ownBlock] at q
  · have : g' = g := by simpa [Value.ownBlock] using q
    subst this
    have hb' : w.heap[g']? = some (.cells cs t (0, 0)) := hb
    rw [hb'] at h3
    simp only [Option.some.injEq, Obj.cells.injEq] at h3
    exact ne h3.2.1.symm
theorem nm_ne {w : World} {g b n : Nat} {D : DataW Unit} {t : TypeId} {cs : Array Value} (h : NM w b n D) (hb : Blk w g t cs) : b ≠ g := by
  intro q
  subst q
  obtain ⟨es, clock, h1, _⟩ := h
  have hb' : w.heap[b]? = some (.cells cs t (0, 0)) := hb
  rw [hb'] at h1
  cases h1
theorem nm_own_ne {w : World} {base z n m b : Nat} {D : DataW Unit} {e : TypeId} {v : Value} {xs : List Value} (h : NM w b m D) (ho : w.ownsRow base e z v n xs) : v.ownBlock ≠ some b := by
  intro q
  rcases ho.2 with ⟨rfl, _⟩ | ⟨g', c, cur, rfl, _, h3, _⟩
  · simp [Value.ownBlock] at q
  · have : g' = b := by simpa [Value.ownBlock] using q
    subst this
    obtain ⟨es, clock, h1, _⟩ := h
    rw [h3] at h1
    cases h1
theorem own_formV {w : World} {base n z : Nat} {e : TypeId} {v : Value} {xs : List Value} (h : w.ownsRow base e z v n xs) : ∃ A c, v = .slice A n c := by
  rcases h.2 with ⟨h, h0⟩ | ⟨g, c, cur, h, _⟩
  · exact ⟨_, _, by rw [h, h0]⟩
  · exact ⟨_, _, h⟩
def nmL (s t : ByteArray) (f : Int) : List Value := [.string s, .string t, pv f]
set_option maxRecDepth 100000 in
set_option maxHeartbeats 1600000 in
theorem name_yes {w : World} {g : Nat} {room : Int} {bn bf : Nat} {wv : Value} {left : Int} {off : Bool} (h : MedB w g room bn bf wv left off) (hl : left ≤ 9223372036854775807) (s t : ByteArray) (f : Int) (hf : f = -1 ∨ 0 ≤ f) (n k base : Nat) (D : DataW Unit) (xs : List Value)
    (hown : NM w bn n D) (hn : n ≤ 1000000) (hs : s.size ≤ maxLen) (ht : t.size ≤ maxLen) (hw : w.ownsRow base 72 3 wv k xs) (hk : k ≤ 1000000) (hbase : base ≤ w.heap.size) (he : (stepR left off).2.2 = 0) :
    Calls Try.prog 42 #[.pointer (some ⟨g, 0, none⟩), .agg #[.string s, .string t, pv f]] w fun e w' => e = .returned (.int .i64 0) ∧ ∃ wv', MedB w' g room bn bf wv' (stepR left off).1 (stepR left off).2.1 ∧ w'.ownsRow base 72 3 wv' (k + 1) (xs ++ nmL s t f) ∧ NM w' bn (n + 1) (nmDo D s t f) ∧ Chg w w' (fun x => x = g ∨ x = bn ∨ wv.ownBlock = some x) ∧ (wv'.ownBlock = wv.ownBlock ∨ ∃ j, wv'.ownBlock = some j ∧ w.heap.size ≤ j) := by
  obtain ⟨gc, hgc⟩ : ∃ gc, gc = w.heap.size := ⟨_, rfl⟩
  obtain ⟨w1, hw1⟩ : ∃ w1, w1 = w.alloc (.cells #[.string s, .string t, pv f] 72) := ⟨_, rfl⟩
  have S1 : Still w w1 := by rw [hw1]; exact (Still.refl w).alloc (Nat.le_refl _) _
  have B1 : Blk w1 gc 72 #[.string s, .string t, pv f] := by rw [hw1, hgc]; exact Blk.new _ _ _
  have M1 := h.still S1
  have ST := Lib.hid (step_yes M1 hl)
  rw [he] at ST
  obtain ⟨L2, hL2⟩ : ∃ L2, L2 = (stepR left off).1 := ⟨_, rfl⟩
  obtain ⟨O2, hO2⟩ : ∃ O2, O2 = (stepR left off).2.1 := ⟨_, rfl⟩
  rw [← hL2, ← hO2] at ST ⊢
  have hgw : g < w.heap.size := Blk.lt h
  have NE1 := Lib.hid (nm_ne hown h)
  have NE2 := Lib.hid (own_ne hw h (by decide))
  have NE3 := Lib.hid (nm_own_ne hown hw)
  have HN1 := Lib.hid ((Chg.of_still S1 (fun _ => False)).nm hown (fun h => h))
  have HR1 := Lib.hid ((Chg.of_still S1 (fun _ => False)).own hw (fun _ _ h => h))
  have HS1 := Lib.hid S1
  have HB1 := Lib.hid B1
  have HW1 := Lib.hid hw1
  have HGC := Lib.hid hgc
  have HGW := Lib.hid hgw
  have HBS := Lib.hid hbase
  have HOWN := Lib.hid (And.intro hown.lt (fun j (e : wv.ownBlock = some j) => (hw.lt j e).2))
  have HK := Lib.hid (And.intro hn hk)
  obtain ⟨p, hp⟩ : ∃ p, p = pa f := ⟨_, rfl⟩
  have hpv : pv f = .pointer p := by rw [hp]; rfl
  have HP := Lib.hid hpv
  have DO := Lib.hid (fun (W : World) (ho : NM W bn n D) => naming_do s t f hf bn n D W ho (by omega) hs ht)
  rw [hpv] at DO HW1 HB1 ⊢
  clear h hl hown hn hs ht hw hk hbase he S1 B1 M1 hw1 hgc hgw hL2 hO2 hp hpv
  go_enter Try.func42, Try.ntmps42
  go_wp2_with fail
  rw [← HW1.out, ← HGC.out]
  refine ST.out.mono ?_
  rintro e w2 ⟨rfl, m2, gr2⟩
  have S12 := Lib.hid (Chg.of_grown (S := fun x => x = g) gr2 (fun k e _ => by injection e with e; exact e.symm))
  have hgcg : gc ≠ g := by have := HGC.out; have := HGW.out; omega
  have B2 := Lib.hid (S12.out.blk HB1.out hgcg)
  have k0 : w2.cell? ⟨gc, 0, none⟩ = some (.string s) := Blk.cell B2.out 0
  have k1 : w2.cell? ⟨gc, 1, none⟩ = some (.string t) := Blk.cell B2.out 1
  have k2 : w2.cell? ⟨gc, 2, none⟩ = some (.pointer p) := Blk.cell B2.out 2
  have c1 : w2.cell? ⟨g, 1, none⟩ = some (.map (some bn)) := Blk.cell m2 1
  have M2 := Lib.hid m2
  have HG := Lib.hid hgcg
  have N2 := Lib.hid (S12.out.nm HN1.out NE1.out)
  have R2 := Lib.hid (S12.out.own HR1.out (fun k e q => NE2.out (q ▸ e)))
  clear ST m2 gr2 hgcg
  go_wp2_with fail
  go_still_tail 5, (by kernel_rfl)
  repeat still_step
  change wpList _ _ _ _ _ w2.drew
  obtain ⟨wd, hwd⟩ : ∃ wd, wd = w2.drew := ⟨_, rfl⟩
  have SD := Lib.hid (show Still w2 wd by rw [hwd]; exact (Still.refl _).drew)
  rw [← hwd]
  have DD := Lib.hid (DO.out wd ((Chg.of_still SD.out (fun _ => False)).nm N2.out (fun h => h)))
  clear hwd k0 k1 k2 c1 DO
  go_wp2_with fail
  refine DD.out.mono ?_
  rintro e w3 ⟨rfl, n3, gr3⟩
  have C3 := Lib.hid (Chg.of_grown (S := fun x => x = bn) gr3 (fun k e _ => by injection e with e; exact e.symm))
  have C2d := Lib.hid (Chg.of_still SD.out (fun _ => False))
  have B3 := Lib.hid (C3.out.blk (C2d.out.blk B2.out (fun h => h)) (fun e => by have := HGC.out; have := HOWN.out.1; omega))
  have M3 := Lib.hid (show MedB w3 g room bn bf wv L2 O2 from C3.out.blk (C2d.out.blk M2.out (fun h => h)) (fun e => NE1.out e.symm))
  have R3 := Lib.hid (C3.out.own (C2d.out.own R2.out (fun _ _ h => h)) (fun k e q => NE3.out (q ▸ e)))
  have N3 := Lib.hid n3
  have DE := Lib.hid (show Still w3 w3.drew from (Still.refl _).drew)
  obtain ⟨we, hwe⟩ : ∃ we, we = w3.drew := ⟨_, rfl⟩
  rw [← hwe] at DE
  have C3e := Lib.hid (Chg.of_still DE.out (fun _ => False))
  have Be := Lib.hid (C3e.out.blk B3.out (fun h => h))
  have Me := Lib.hid (show MedB we g room bn bf wv L2 O2 from C3e.out.blk M3.out (fun h => h))
  obtain ⟨w4, hw4⟩ : ∃ w4, w4 = we.alloc (.cells #[.string s, .string t, .pointer p] 72) := ⟨_, rfl⟩
  obtain ⟨g4, hg4⟩ : ∃ g4, g4 = we.heap.size := ⟨_, rfl⟩
  have S34 := Lib.hid (show Still w3 w4 by rw [hw4]; exact DE.out.trans ((Still.refl _).alloc (Nat.le_refl _) _))
  have B4 := Lib.hid (show Blk w4 g4 72 #[.string s, .string t, .pointer p] by rw [hw4, hg4]; exact Blk.new _ _ _)
  have C34 := Lib.hid (Chg.of_still S34.out (fun _ => False))
  have R4 := Lib.hid (C34.out.own R3.out (fun _ _ h => h))
  have M4 := Lib.hid (show MedB w4 g room bn bf wv L2 O2 from C34.out.blk M3.out (fun h => h))
  have HW4 := Lib.hid hw4
  have HG4 := Lib.hid hg4
  have SZ := Lib.hid (show w.heap.size ≤ w4.heap.size from Nat.le_trans HS1.out.size (Nat.le_trans S12.out.size (Nat.le_trans C2d.out.size (Nat.le_trans C3.out.size C34.out.size))))
  have GC4 := Lib.hid (show ∀ q u, ([.string s, .string t, .pointer p] : List Value)[q]? = some u → w4.cell? ⟨g4, q, none⟩ = some u from fun q u hq => (Blk.cell B4.out q).trans (by simpa using hq))
  have ONE := Lib.hid (show ∀ u ∈ ([.string s, .string t, .pointer p] : List Value), u.oneCell' = true by
    intro u hu
    simp only [List.mem_cons, List.not_mem_nil, or_false] at hu
    rcases hu with rfl | rfl | rfl <;> rfl)
  have HK6 := Lib.hid (show k ≤ 1048576 by have := HK.out; omega)
  have HBS4 := Lib.hid (Nat.le_trans HBS.out SZ.out)
  have FINAL := Lib.hid (show ∀ v5 w5, w5.ownsRow base 72 3 v5 (k + 1) (xs ++ [.string s, .string t, .pointer p]) → w4.grownBy w5 wv.ownBlock → (v5.ownBlock = wv.ownBlock ∨ v5.ownBlock = some w4.heap.size) → w5.cell? ⟨g, 3, none⟩ = some wv ∧ w5.frozen? ⟨g, 3, none⟩ = false ∧ (∃ wv', MedB (w5.setCell ⟨g, 3, none⟩ v5) g room bn bf wv' L2 O2 ∧ (w5.setCell ⟨g, 3, none⟩ v5).ownsRow base 72 3 wv' (k + 1) (xs ++ nmL s t f) ∧ NM (w5.setCell ⟨g, 3, none⟩ v5) bn (n + 1) (nmDo D s t f) ∧ Chg w (w5.setCell ⟨g, 3, none⟩ v5) (fun x => x = g ∨ x = bn ∨ wv.ownBlock = some x) ∧ (wv'.ownBlock = wv.ownBlock ∨ ∃ j, wv'.ownBlock = some j ∧ w.heap.size ≤ j)) by
    intro v5 w5 r5 gr5 loc5
    have C45 := Chg.of_grown (S := fun x => wv.ownBlock = some x) gr5 (fun k e _ => e)
    have M5 : MedB w5 g room bn bf wv L2 O2 := C45.blk M4.out (fun e => NE2.out e)
    have N5 : NM w5 bn (n + 1) (nmDo D s t f) := C45.nm (C34.out.nm N3.out (fun h => h)) (fun e => NE3.out e)
    have C56 := Chg.of_grown (S := fun x => x = g) (grownBy_set w5 g 3 v5) (fun k e _ => by injection e with e; exact e.symm)
    have NEV : v5.ownBlock ≠ some g := own_ne r5 M5 (by decide)
    refine ⟨Blk.cell M5 3, Blk.frozen M5 3, v5, M5.setwait v5, ?_, C56.nm N5 NE1.out, ?_, ?_⟩
    · have h := C56.own r5 (fun k e q => NEV (q ▸ e))
      unfold nmL
      rw [HP.out]
      exact h
    · have a1 := Chg.trans (S := fun x => x = g ∨ x = bn ∨ wv.ownBlock = some x) (Chg.of_still HS1.out _) S12.out (fun x _ h => .inl h)
      have a2 := Chg.trans a1 C2d.out (fun x _ h => h.elim)
      have a3 := Chg.trans a2 C3.out (fun x _ h => .inr (.inl h))
      have a4 := Chg.trans a3 C34.out (fun x _ h => h.elim)
      have a5 := Chg.trans a4 C45 (fun x _ h => .inr (.inr h))
      exact Chg.trans a5 C56 (fun x _ h => .inl h)
    · rcases loc5 with h | h
      · exact .inl h
      · exact .inr ⟨_, h, SZ.out⟩)
  have k0 : we.cell? ⟨gc, 0, none⟩ = some (.string s) := Blk.cell Be.out 0
  have k1 : we.cell? ⟨gc, 1, none⟩ = some (.string t) := Blk.cell Be.out 1
  have k2 : we.cell? ⟨gc, 2, none⟩ = some (.pointer p) := Blk.cell Be.out 2
  have c3 : we.cell? ⟨g, 3, none⟩ = some wv := Blk.cell Me.out 3
  have c4 : w4.cell? ⟨g, 3, none⟩ = some wv := Blk.cell M4.out 3
  have HWE := Lib.hid hwe
  clear n3 gr3 DD hwe hw4 hg4
  go_upto_region 5 with fail
  go_cut [5] (fun ev wx => ev = .int .i64 0 ∧ ∃ wv', MedB wx g room bn bf wv' L2 O2 ∧ wx.ownsRow base 72 3 wv' (k + 1) (xs ++ nmL s t f) ∧ NM wx bn (n + 1) (nmDo D s t f) ∧ Chg w wx (fun x => x = g ∨ x = bn ∨ wv.ownBlock = some x) ∧ (wv'.ownBlock = wv.ownBlock ∨ ∃ j, wv'.ownBlock = some j ∧ w.heap.size ≤ j))
  case first =>
    refine wp_region_any (by kernel_rfl) ?_
    change wpAny _ _ _ _ _ _ _ w3.drew
    rw [← HWE.out]
    try simp only [Act.put, List.setIfInBounds_toArray, List.set_cons_zero, List.set_cons_succ]
    refine wpAny_take (i := 0) (v := .pointer (some ⟨g, 0, none⟩)) rfl (by kernel_rfl) (by kernel_rfl) (by kernel_rfl) (fun _ _ _ h => h) (Or.inl ⟨by kernel_rfl, fun w => by go_simp⟩) ?_
    try simp only [Act.put, List.setIfInBounds_toArray, List.set_cons_zero, List.set_cons_succ]
    refine wpAny_take (i := 1) (v := .pointer (some ⟨g, 0, none⟩)) rfl (by kernel_rfl) (by kernel_rfl) (by kernel_rfl) (fun _ _ _ h => h) (Or.inl ⟨by kernel_rfl, fun w => by go_simp⟩) ?_
    try simp only [Act.put, List.setIfInBounds_toArray, List.set_cons_zero, List.set_cons_succ]
    refine wpAny_take (i := 2) (v := .pointer (some ⟨g, 0, none⟩)) rfl (by kernel_rfl) (by kernel_rfl) (by kernel_rfl) (fun _ _ _ h => h) (Or.inl ⟨by kernel_rfl, fun w => by go_simp⟩) ?_
    try simp only [Act.put, List.setIfInBounds_toArray, List.set_cons_zero, List.set_cons_succ]
    refine wpAny_take (i := 3) (v := .pointer (some ⟨g, 3, none⟩)) rfl (by kernel_rfl) (by kernel_rfl) (by kernel_rfl) (fun _ _ _ h => h) (Or.inl ⟨by kernel_rfl, fun w => by go_simp⟩) ?_
    try simp only [Act.put, List.setIfInBounds_toArray, List.set_cons_zero, List.set_cons_succ]
    refine wpAny_ready (rs := [4, 5]) (by kernel_rfl) (by simp) ?_
    refine AllReady.cons (o := ⟨some 21, .load 46 (.tmp 20), _, _, _, none⟩) rfl (fun K' hK' => ?_) (AllReady.cons (o := ⟨some 22, .load 72 (.tmp 3), _, _, _, none⟩) rfl (fun K' hK' => ?_) AllReady.nil)
    · have HK' := Lib.hid hK'
      clear hK'
      rw [if_pos (by kernel_rfl)]
      go_simp
      refine HK'.out _ _ ?_
      clear HK' K'
      try simp only [Act.put, List.setIfInBounds_toArray, List.set_cons_zero, List.set_cons_succ]
      refine wpAny_ready (rs := [5]) (by kernel_rfl) (by simp) ?_
      refine AllReady.cons (o := ⟨some 22, .load 72 (.tmp 3), _, _, _, none⟩) rfl (fun K' hK' => ?_) AllReady.nil
      have HK' := Lib.hid hK'
      clear hK'
      rw [if_pos (by kernel_rfl)]
      go_simp
      refine HK'.out _ _ ?_
      clear HK' K'
      try simp only [Act.put, List.setIfInBounds_toArray, List.set_cons_zero, List.set_cons_succ]
      refine wpAny_ready (rs := [6]) (by kernel_rfl) (by simp) ?_
      refine AllReady.cons (o := ⟨some 23, .buildSlice 46 1 #[(0, .tmp 22)], _, _, _, none⟩) rfl (fun K' hK' => ?_) AllReady.nil
      have HK' := Lib.hid hK'
      clear hK'
      rw [if_pos (by kernel_rfl)]
      with_reducible refine step_boxNm we (.tmp 22) (by kernel_rfl) s t p (by kernel_rfl) ?_
      rw [← HW4.out, ← HG4.out]
      refine HK'.out _ _ ?_
      clear HK' K'
      try simp only [Act.put, List.setIfInBounds_toArray, List.set_cons_zero, List.set_cons_succ]
      refine wpAny_ready (rs := [7]) (by kernel_rfl) (by simp) ?_
      refine AllReady.cons (o := ⟨some 24, .call { callee := .builtin .append, args := #[.tmp 21, .tmp 23], argTypes := #[46, 46] }, _, _, _, none⟩) rfl (fun K' hK' => ?_) AllReady.nil
      have HK' := Lib.hid hK'
      clear hK'
      rw [if_pos (by kernel_rfl)]
      with_reducible refine step_pushNm w4 (.tmp 21) (.tmp 23) (by kernel_rfl) base wv k xs (by kernel_rfl) R4.out g4 [.string s, .string t, .pointer p] (by kernel_rfl) GC4.out rfl ONE.out HK6.out HBS4.out ?_
      intro v5 w5 r5 gr5 loc5
      refine HK'.out _ _ ?_
      clear HK' K'
      obtain ⟨d3, f3, FIN⟩ := FINAL.out v5 w5 r5 gr5 loc5
      obtain ⟨A5, c5, rfl⟩ := own_formV r5
      clear r5 gr5 loc5
      try simp only [Act.put, List.setIfInBounds_toArray, List.set_cons_zero, List.set_cons_succ]
      refine wpAny_take (i := 8) (v := .pointer (some ⟨g, 0, none⟩)) rfl (by kernel_rfl) (by kernel_rfl) (by kernel_rfl) (fun _ _ _ h => h) (Or.inl ⟨by kernel_rfl, fun w => by go_simp⟩) ?_
      try simp only [Act.put, List.setIfInBounds_toArray, List.set_cons_zero, List.set_cons_succ]
      refine wpAny_take (i := 9) (v := .pointer (some ⟨g, 3, none⟩)) rfl (by kernel_rfl) (by kernel_rfl) (by kernel_rfl) (fun _ _ _ h => h) (Or.inl ⟨by kernel_rfl, fun w => by go_simp⟩) ?_
      try simp only [Act.put, List.setIfInBounds_toArray, List.set_cons_zero, List.set_cons_succ]
      refine wpAny_ready (rs := [10]) (by kernel_rfl) (by simp) ?_
      refine AllReady.cons (o := ⟨none, .store 46 (.tmp 26) (.tmp 24), _, _, _, none⟩) rfl (fun K' hK' => ?_) AllReady.nil
      have HK' := Lib.hid hK'
      clear hK'
      rw [if_pos (by kernel_rfl)]
      go_simp
      refine HK'.out _ _ ?_
      clear HK' K'
      try simp only [Act.put, List.setIfInBounds_toArray, List.set_cons_zero, List.set_cons_succ]
      refine wpAny_done (by kernel_rfl) ?_ _
      go_simp
      go_wp2_with fail
      go_meet
      exact ⟨rfl, FIN⟩
    · have HK' := Lib.hid hK'
      clear hK'
      rw [if_pos (by kernel_rfl)]
      go_simp
      refine HK'.out _ _ ?_
      clear HK' K'
      try simp only [Act.put, List.setIfInBounds_toArray, List.set_cons_zero, List.set_cons_succ]
      refine wpAny_ready (rs := [4, 6]) (by kernel_rfl) (by simp) ?_
      refine AllReady.cons (o := ⟨some 21, .load 46 (.tmp 20), _, _, _, none⟩) rfl (fun K' hK' => ?_) (AllReady.cons (o := ⟨some 23, .buildSlice 46 1 #[(0, .tmp 22)], _, _, _, none⟩) rfl (fun K' hK' => ?_) AllReady.nil)
      · have HK' := Lib.hid hK'
        clear hK'
        rw [if_pos (by kernel_rfl)]
        go_simp
        refine HK'.out _ _ ?_
        clear HK' K'
        try simp only [Act.put, List.setIfInBounds_toArray, List.set_cons_zero, List.set_cons_succ]
        refine wpAny_ready (rs := [6]) (by kernel_rfl) (by simp) ?_
        refine AllReady.cons (o := ⟨some 23, .buildSlice 46 1 #[(0, .tmp 22)], _, _, _, none⟩) rfl (fun K' hK' => ?_) AllReady.nil
        have HK' := Lib.hid hK'
        clear hK'
        rw [if_pos (by kernel_rfl)]
        with_reducible refine step_boxNm we (.tmp 22) (by kernel_rfl) s t p (by kernel_rfl) ?_
        rw [← HW4.out, ← HG4.out]
        refine HK'.out _ _ ?_
        clear HK' K'
        try simp only [Act.put, List.setIfInBounds_toArray, List.set_cons_zero, List.set_cons_succ]
        refine wpAny_ready (rs := [7]) (by kernel_rfl) (by simp) ?_
        refine AllReady.cons (o := ⟨some 24, .call { callee := .builtin .append, args := #[.tmp 21, .tmp 23], argTypes := #[46, 46] }, _, _, _, none⟩) rfl (fun K' hK' => ?_) AllReady.nil
        have HK' := Lib.hid hK'
        clear hK'
        rw [if_pos (by kernel_rfl)]
        with_reducible refine step_pushNm w4 (.tmp 21) (.tmp 23) (by kernel_rfl) base wv k xs (by kernel_rfl) R4.out g4 [.string s, .string t, .pointer p] (by kernel_rfl) GC4.out rfl ONE.out HK6.out HBS4.out ?_
        intro v5 w5 r5 gr5 loc5
        refine HK'.out _ _ ?_
        clear HK' K'
        obtain ⟨d3, f3, FIN⟩ := FINAL.out v5 w5 r5 gr5 loc5
        obtain ⟨A5, c5, rfl⟩ := own_formV r5
        clear r5 gr5 loc5
        try simp only [Act.put, List.setIfInBounds_toArray, List.set_cons_zero, List.set_cons_succ]
        refine wpAny_take (i := 8) (v := .pointer (some ⟨g, 0, none⟩)) rfl (by kernel_rfl) (by kernel_rfl) (by kernel_rfl) (fun _ _ _ h => h) (Or.inl ⟨by kernel_rfl, fun w => by go_simp⟩) ?_
        try simp only [Act.put, List.setIfInBounds_toArray, List.set_cons_zero, List.set_cons_succ]
        refine wpAny_take (i := 9) (v := .pointer (some ⟨g, 3, none⟩)) rfl (by kernel_rfl) (by kernel_rfl) (by kernel_rfl) (fun _ _ _ h => h) (Or.inl ⟨by kernel_rfl, fun w => by go_simp⟩) ?_
        try simp only [Act.put, List.setIfInBounds_toArray, List.set_cons_zero, List.set_cons_succ]
        refine wpAny_ready (rs := [10]) (by kernel_rfl) (by simp) ?_
        refine AllReady.cons (o := ⟨none, .store 46 (.tmp 26) (.tmp 24), _, _, _, none⟩) rfl (fun K' hK' => ?_) AllReady.nil
        have HK' := Lib.hid hK'
        clear hK'
        rw [if_pos (by kernel_rfl)]
        go_simp
        refine HK'.out _ _ ?_
        clear HK' K'
        try simp only [Act.put, List.setIfInBounds_toArray, List.set_cons_zero, List.set_cons_succ]
        refine wpAny_done (by kernel_rfl) ?_ _
        go_simp
        go_wp2_with fail
        go_meet
        exact ⟨rfl, FIN⟩
      · have HK' := Lib.hid hK'
        clear hK'
        rw [if_pos (by kernel_rfl)]
        with_reducible refine step_boxNm we (.tmp 22) (by kernel_rfl) s t p (by kernel_rfl) ?_
        rw [← HW4.out, ← HG4.out]
        refine HK'.out _ _ ?_
        clear HK' K'
        try simp only [Act.put, List.setIfInBounds_toArray, List.set_cons_zero, List.set_cons_succ]
        refine wpAny_ready (rs := [4]) (by kernel_rfl) (by simp) ?_
        refine AllReady.cons (o := ⟨some 21, .load 46 (.tmp 20), _, _, _, none⟩) rfl (fun K' hK' => ?_) AllReady.nil
        have HK' := Lib.hid hK'
        clear hK'
        rw [if_pos (by kernel_rfl)]
        go_simp
        refine HK'.out _ _ ?_
        clear HK' K'
        try simp only [Act.put, List.setIfInBounds_toArray, List.set_cons_zero, List.set_cons_succ]
        refine wpAny_ready (rs := [7]) (by kernel_rfl) (by simp) ?_
        refine AllReady.cons (o := ⟨some 24, .call { callee := .builtin .append, args := #[.tmp 21, .tmp 23], argTypes := #[46, 46] }, _, _, _, none⟩) rfl (fun K' hK' => ?_) AllReady.nil
        have HK' := Lib.hid hK'
        clear hK'
        rw [if_pos (by kernel_rfl)]
        with_reducible refine step_pushNm w4 (.tmp 21) (.tmp 23) (by kernel_rfl) base wv k xs (by kernel_rfl) R4.out g4 [.string s, .string t, .pointer p] (by kernel_rfl) GC4.out rfl ONE.out HK6.out HBS4.out ?_
        intro v5 w5 r5 gr5 loc5
        refine HK'.out _ _ ?_
        clear HK' K'
        obtain ⟨d3, f3, FIN⟩ := FINAL.out v5 w5 r5 gr5 loc5
        obtain ⟨A5, c5, rfl⟩ := own_formV r5
        clear r5 gr5 loc5
        try simp only [Act.put, List.setIfInBounds_toArray, List.set_cons_zero, List.set_cons_succ]
        refine wpAny_take (i := 8) (v := .pointer (some ⟨g, 0, none⟩)) rfl (by kernel_rfl) (by kernel_rfl) (by kernel_rfl) (fun _ _ _ h => h) (Or.inl ⟨by kernel_rfl, fun w => by go_simp⟩) ?_
        try simp only [Act.put, List.setIfInBounds_toArray, List.set_cons_zero, List.set_cons_succ]
        refine wpAny_take (i := 9) (v := .pointer (some ⟨g, 3, none⟩)) rfl (by kernel_rfl) (by kernel_rfl) (by kernel_rfl) (fun _ _ _ h => h) (Or.inl ⟨by kernel_rfl, fun w => by go_simp⟩) ?_
        try simp only [Act.put, List.setIfInBounds_toArray, List.set_cons_zero, List.set_cons_succ]
        refine wpAny_ready (rs := [10]) (by kernel_rfl) (by simp) ?_
        refine AllReady.cons (o := ⟨none, .store 46 (.tmp 26) (.tmp 24), _, _, _, none⟩) rfl (fun K' hK' => ?_) AllReady.nil
        have HK' := Lib.hid hK'
        clear hK'
        rw [if_pos (by kernel_rfl)]
        go_simp
        refine HK'.out _ _ ?_
        clear HK' K'
        try simp only [Act.put, List.setIfInBounds_toArray, List.set_cons_zero, List.set_cons_succ]
        refine wpAny_done (by kernel_rfl) ?_ _
        go_simp
        go_wp2_with fail
        go_meet
        exact ⟨rfl, FIN⟩
  case rest =>
    obtain ⟨rfl, wv', hh⟩ := hcut
    have HH := Lib.hid hh
    clear hh
    go_wp2_with fail
    go_ret
    exact ⟨rfl, wv', HH.out⟩
end Go.Proofs.Ytlkkkifilgnhmaa

/- 'append(b, c...)', told where the row lies behind it. It proves no statement. -/

namespace Go.Proofs.Ytlkkkifilgnhmaa
open Go.RowKit
set_option linter.unusedVariables false

theorem run_adds_at (w : World) (ty : TypeId) (base : Nat) (v : Value) (n : Nat) (l : List UInt8) (hown : w.ownsRow base 5 1 v n (bytesV l)) (A : Option Addr) (n' c' : Nat) (B : Nat) (l' : List UInt8)
    (hr : Reads w B A n' l') (hA : A = none → c' = 0) (hn : n + n' ≤ 140737488355328) (hbase : base ≤ w.heap.size) :
    ∃ v' w', (Builtin.append_ #[32, 32] ty #[v, .slice A n' c']).run Try.prog w = .ok v' w' ∧ w'.ownsRow base 5 1 v' (n + n') (bytesV (l ++ l')) ∧ w.grownBy w' v.ownBlock ∧ (v'.ownBlock = v.ownBlock ∨ v'.ownBlock = some w.heap.size) := by
  obtain ⟨i0, hi, hz0, hz1, hz2⟩ := info_parts Try.infoByte
  rcases A with _ | ad
  · have h0 : n' = 0 := by
      rcases Nat.eq_zero_or_pos n' with h0 | h0
      · exact h0
      · obtain ⟨_, _, e, _⟩ := hr.2 h0
        cases e
    subst h0
    have hl : l' = [] := List.eq_nil_of_length_eq_zero hr.1
    subst hl
    obtain rfl := hA rfl
    exact ⟨v, w, run_append_owned_none (P := Try.prog) w base 32 ty 5 i0 1 Try.underlying32 hi v n _ hown, by simpa using hown, World.grownBy.refl _ _, .inl rfl⟩
  · have hnews : ∀ j u, (bytesV l')[j]? = some u → w.cell? (ad.add j) = some u := by
      intro j u hu
      rcases Nat.eq_zero_or_pos n' with h0 | h0
      · subst h0
        have hl : l' = [] := List.eq_nil_of_length_eq_zero hr.1
        subst hl
        simp [bytesV] at hu
      · exact hr.news ad rfl h0 j u hu
    obtain ⟨v', w', hrun, h2, h3, _, h5⟩ := run_append_own_at (P := Try.prog) w base 32 ty 5 i0 (.int .u8 0) 1 1 Try.underlying32 hi hz0 hz1 hz2 rfl (by decide) v n _ hown ad n' c' (bytesV l') (by rw [bytesV_length, hr.1]; omega) hnews (bytesV_one _) (by unfold maxLen; omega) (by omega) hbase
    rw [← bytesV_append] at h2
    exact ⟨v', w', hrun, h2, h3, h5⟩
theorem wpList_adds_at (w : World) {ops : Array Oper} {rest : List Oper} {o : Oper} {a : Act} {Q : Exit → Act → World → Prop} (hgd : o.guard = none) (s x : Operand)
    (ho : o.op = .call { callee := .builtin .append, args := #[s, x], argTypes := #[32, 32] })
    (base : Nat) (v : Value) (n : Nat) (l : List UInt8) (hs : a.eval s = v) (hown : w.ownsRow base 5 1 v n (bytesV l)) (A : Option Addr) (n' c' : Nat) (B : Nat) (l' : List UInt8)
    (hx : a.eval x = .slice A n' c') (hr : Reads w B A n' l') (hA : A = none → c' = 0) (hn : n + n' ≤ 140737488355328) (hbase : base ≤ w.heap.size)
    (h : ∀ v' w', w'.ownsRow base 5 1 v' (n + n') (bytesV (l ++ l')) → w.grownBy w' v.ownBlock → (v'.ownBlock = v.ownBlock ∨ v'.ownBlock = some w.heap.size) → wpList Try.prog ops Q rest (a.put o.dst v') w') :
    wpList Try.prog ops Q (o :: rest) a w := by
  refine wpList_plain hgd fun K hK => ?_
  obtain ⟨v', w', hrun, h2, h3, h4⟩ := run_adds_at w o.type base v n l hown A n' c' B l' hr hA hn hbase
  unfold Oper.wp execOp
  simp only [ho, resolve, invoke, builtin, Sem.run_bind, Sem.run_pure, Result.andThen_ok, List.map_toArray, List.map_cons, List.map_nil, hs, hx, hrun]
  exact hK _ _ (h v' w' h2 h3 h4)
end Go.Proofs.Ytlkkkifilgnhmaa

/- Contracts: find, bytes.Clone, an Append's change done. It proves no statement. -/



namespace Go.Proofs.Ytlkkkifilgnhmaa
open Go.RowKit Go.Maps Go.WideMaps
set_option linter.unusedVariables false
set_option linter.unusedSimpArgs false

def findE (off : Bool) (f : Int) : Int := if off = true then 12 else if f < 0 then 9 else 0
def findV (off : Bool) (f : Int) : Value := if off = true then .pointer none else pv f
theorem look_cases {w : World} {b n : Nat} {D : DataW Unit} (hown : NM w b n D) (s : ByteArray) (hs : s.size ≤ maxLen) : look D s = -1 ∨ 0 ≤ look D s := by
  obtain ⟨v, ps, hrun, hv⟩ := hown.lookup mapLaw underNames (zeroPtr w) ptrElem_nil (key_of s hs)
  obtain ⟨f, hf, rfl, hz⟩ := ptrElem_inv hv
  have hl : look D s = f := by
    unfold look
    have := congrArg Prod.fst hz
    simp only at this
    rw [this]
    rfl
  rw [hl]
  exact hf
set_option maxRecDepth 100000 in
set_option maxHeartbeats 1600000 in
theorem find_yes {w : World} {g : Nat} {room : Int} {bn bf : Nat} {wv : Value} {left : Int} {off : Bool} (h : MedB w g room bn bf wv left off) (s : ByteArray) (n : Nat) (D : DataW Unit) (hown : NM w bn n D) (hs : s.size ≤ maxLen) :
    Calls Try.prog 43 #[.pointer (some ⟨g, 0, none⟩), .string s] w fun e w' => e = .returned (.tuple #[findV off (look D s), .int .i64 (findE off (look D s))]) ∧ w = w' := by
  have WK := Lib.hid (works_yes h)
  have c1 : w.cell? ⟨g, 1, none⟩ = some (.map (some bn)) := Blk.cell h 1
  have HO := Lib.hid hown
  have HS := Lib.hid hs
  have LC := Lib.hid (look_cases hown s hs)
  clear h hown hs
  cases off
  · have e1 : findV false (look D s) = pv (look D s) := rfl
    have e2 : findE false (look D s) = if look D s < 0 then 9 else 0 := rfl
    rw [e1, e2]
    rw [show (if false = true then (12 : Int) else 0) = 0 from rfl] at WK
    clear e1 e2
    obtain ⟨fl, hfl⟩ : ∃ fl, fl = look D s := ⟨_, rfl⟩
    rw [← hfl] at LC ⊢
    have HFL := Lib.hid hfl.symm
    clear hfl
    rcases LC.out with rfl | hlk
    all_goals (clear LC)
    · rw [pv_nil, if_pos (by decide)]
      go_enter Try.func43, Try.ntmps43
      go_wp2_with fail
      refine WK.out.mono ?_
      rintro e w2 ⟨rfl, rfl⟩
      go_wp2_with (at_lookup; go_must (refine wpList_look rfl (.tmp 16) (.tmp 17) rfl bn n D rfl HO.out s rfl HS.out ?_; intro f hf hlk; rw [HFL.out] at hlk; subst hlk; rw [pv_nil]; clear hf))
      go_ret2
      exact ⟨rfl, rfl⟩
    · obtain ⟨m, rfl⟩ := Int.eq_ofNat_of_zero_le hlk
      rw [pv_at, if_neg (by omega)]
      clear hlk
      go_enter Try.func43, Try.ntmps43
      go_wp2_with fail
      refine WK.out.mono ?_
      rintro e w2 ⟨rfl, rfl⟩
      go_wp2_with (at_lookup; go_must (refine wpList_look rfl (.tmp 16) (.tmp 17) rfl bn n D rfl HO.out s rfl HS.out ?_; intro f hf hlk; rw [HFL.out] at hlk; subst hlk; rw [pv_at]; clear hf))
      go_ret2
      exact ⟨rfl, rfl⟩
  · go_enter Try.func43, Try.ntmps43
    go_wp2_with fail
    refine WK.out.mono ?_
    rintro e w2 ⟨rfl, rfl⟩
    go_wp2_with fail
    go_ret2
    exact ⟨rfl, rfl⟩

set_option maxHeartbeats 400000 in
theorem bclone_any (A : Option Addr) (n c : Nat) (l : List UInt8) (w : World) (B : Nat) (h : Reads w B A n l) (hB : B ≤ w.heap.size) (hn : n ≤ 70368744177664) (hA : A = none → n = 0 ∧ c = 0) :
    Calls Try.prog 45 #[.slice A n c] w fun e w' => (∃ v, e = .returned v ∧ w'.ownsRow w.heap.size 5 1 v n (bytesV l)) ∧ Still w w' := by
  rcases A with _ | ad
  · obtain ⟨rfl, rfl⟩ := hA rfl
    have hl : l = [] := List.eq_nil_of_length_eq_zero h.1
    subst hl
    have hk : ∀ w : World, (binOp .eql 32 (.slice none 0 0) (.slice none 0 0)).run Try.prog w = .ok (.bool true) w := fun w => Lib.run_eql_slice_nil w _ _ none 0 0 0 0 Try.underlying32
    go_enter Try.func45, Try.ntmps45
    go_wp2
    go_ret
    exact ⟨⟨_, rfl, World.ownsRow_nil _ _ _ _⟩, Below.refl _ _⟩
  · have r1 : Reads (w.alloc (.cells #[] 5)) B (some ad) n l := h.keep fun p hp => World.cell?_alloc_lt w _ p (by omega)
    have o1 : (w.alloc (.cells #[] 5)).ownsRow w.heap.size 5 1 (.slice (some ⟨w.heap.size, 0, none⟩) 0 0) 0 (bytesV []) := World.ownsRow_made w #[] 0 (Nat.le_refl _) (by unfold maxLen; omega) rfl
    have s1 : Still w (w.alloc (.cells #[] 5)) := (Below.refl _ _).alloc (Nat.le_refl _) _
    have hk : ∀ w : World, (binOp .eql 32 (.slice (some ad) n c) (.slice none 0 0)).run Try.prog w = .ok (.bool false) w := fun w => Lib.run_eql_slice_nil w _ _ (some ad) n c 0 0 Try.underlying32
    go_enter Try.func45, Try.ntmps45
    go_wp2_with (at_builtin; go_must (refine wpList_adds _ rfl _ _ rfl w.heap.size _ 0 [] rfl o1 _ n c B l rfl r1 (fun e => by cases e) ?c1 ?c2 ?_))
    case c1 => omega
    case c2 => simp
    intro v' w' hown hg _
    have hst : Still w w' := s1.grown hg (by simp) (fun k hk => by simp [Value.ownBlock] at hk; omega)
    have hown' : w'.ownsRow w.heap.size 5 1 v' n (bytesV l) := by simpa using hown
    clear hg hown
    go_wp2_with fail
    go_ret
    exact ⟨⟨_, rfl, hown'⟩, hst⟩


set_option maxRecDepth 100000 in
set_option maxHeartbeats 1600000 in
/-- An Append's change: the bytes are laid behind a file's own. -/
theorem change_add (v : Value) (base n : Nat) (l : List UInt8) (A : Option Addr) (m c : Nat) (x : List UInt8) (w : World) (B : Nat) (hown : w.ownsRow base 5 1 v n (bytesV l)) (hbase : base ≤ w.heap.size) (hr : Reads w B A m x) (hB : B ≤ w.heap.size) (hA : A = none → c = 0) (hn : n + m ≤ 100000000) :
    Calls Try.prog 54 #[.agg #[.int .i64 n, .slice A m c], v] w fun e w' => ∃ v', e = .returned v' ∧ w'.ownsRow base 5 1 v' (n + m) (bytesV (l ++ x)) ∧ w.grownBy w' v.ownBlock ∧ (v'.ownBlock = v.ownBlock ∨ ∃ j, v'.ownBlock = some j ∧ w.heap.size ≤ j) := by
  obtain ⟨Av, cv, rfl, f1, f2, f3⟩ := own_form hown
  obtain ⟨w1, hw1⟩ : ∃ w1, w1 = w.alloc (.cells #[.int .i64 n, .slice A m c] 84) := ⟨_, rfl⟩
  obtain ⟨g1, hg1⟩ : ∃ g1, g1 = w.heap.size := ⟨_, rfl⟩
  have S1 := Lib.hid (show Still w w1.drew by rw [hw1]; exact ((Still.refl w).alloc (Nat.le_refl _) _).drew)
  have O1 := Lib.hid (show w1.drew.ownsRow base 5 1 (.slice Av n cv) n (bytesV l) from own_still hown S1.out)
  have R1 := Lib.hid (hr.still hB S1.out)
  have B1 := Lib.hid (show Blk w1 g1 84 #[.int .i64 n, .slice A m c] by rw [hw1, hg1]; exact Blk.new _ _ _)
  have k0 : w1.cell? ⟨g1, 0, none⟩ = some (.int .i64 n) := Blk.cell B1.out 0
  have k1 : w1.cell? ⟨g1, 1, none⟩ = some (.slice A m c) := Blk.cell B1.out 1
  have HW1 := Lib.hid hw1
  have HG1 := Lib.hid hg1
  have HA := Lib.hid hA
  have HBS := Lib.hid (Nat.le_trans hbase S1.out.size)
  have HN := Lib.hid hn
  have F := Lib.hid (And.intro f1 f2)
  clear hown hbase hr hB hA hw1 hg1 f3
  go_enter Try.func54, Try.ntmps54
  go_wp2_with fail
  rw [← HW1.out, ← HG1.out]
  go_still_tail 6, (by kernel_rfl)
  repeat still_step
  change wpList _ _ _ _ _ w1.drew
  go_wp2_with (at_builtin; go_must (refine wpList_adds_at w1.drew rfl (.tmp 8) (.tmp 10) rfl base (.slice Av n cv) n l rfl O1.out A m c B x rfl R1.out HA.out ?c1 HBS.out ?_))
  case c1 => have := HN.out; omega
  intro v2 w2 own2 gr2 loc2
  have OW2 := Lib.hid own2
  have GR2 := Lib.hid (show w.grownBy w2 (Value.slice Av n cv).ownBlock from ⟨gr2.os.trans S1.out.os, gr2.tape.trans S1.out.tape, gr2.output.trans S1.out.output, Nat.le_trans S1.out.size gr2.size, fun k hk hne => (gr2.block k (Nat.lt_of_lt_of_le hk S1.out.size) hne).trans (S1.out.block k hk)⟩)
  have LO2 := Lib.hid (show v2.ownBlock = (Value.slice Av n cv).ownBlock ∨ ∃ j, v2.ownBlock = some j ∧ w.heap.size ≤ j from by
    rcases loc2 with h | h
    · exact .inl h
    · exact .inr ⟨_, h, S1.out.size⟩)
  clear own2 gr2 loc2
  go_wp2_with fail
  go_ret
  exact ⟨_, rfl, OW2.out, GR2.out, LO2.out⟩
end Go.Proofs.Ytlkkkifilgnhmaa

/- Contracts: names, room, works and step of a medium. It proves no statement. -/



namespace Go.Proofs.Ytlkkkifilgnhmaa
open Go.RowKit Go.Maps Go.WideMaps
set_option linter.unusedVariables false
set_option linter.unusedSimpArgs false

theorem index_textM (s : ByteArray) (w : World) (k : Nat) (h : k < s.size) : (Instr.index 9 (.string s) (.int .i64 (k : Int))).run Try.prog w = .ok (.int .u8 ((s.data.toList.getD k 0).toNat : Int)) w := by
  rw [run_index_string w 9 s .i64 (k : Int) (by kernel_rfl), dif_pos ⟨by omega, by omega⟩]
  congr 3
  simp only [List.getD, Array.getElem?_toList]
  rw [Array.getElem?_eq_getElem (show k < s.data.size from h)]
  rfl
/-- A byte of a name. -/
def inNm (c : Nat) : Bool := decide ((97 ≤ c ∧ c ≤ 122) ∨ (48 ≤ c ∧ c ≤ 57) ∨ c = 46 ∨ c = 45)
def nmOK (l : List UInt8) : Bool := decide (1 ≤ l.length ∧ l.length ≤ 24) && l.all (fun c => inNm c.toNat)
set_option maxRecDepth 100000 in
set_option maxHeartbeats 800000 in
theorem inName_any (c : Nat) (hc : c < 256) (w : World) : Calls Try.prog 53 #[.int .u8 (c : Int)] w fun e w' => e = .returned (.bool (inNm c)) ∧ w = w' := by
  by_cases a1 : 97 ≤ c
  · by_cases a2 : c ≤ 122
    · have E := Lib.hid (show inNm c = true by unfold inNm; exact decide_eq_true (by omega))
      go_enter Try.func53, Try.ntmps53
      go_wp2_with fail
      go_ret
      exact ⟨by rw [E.out]; first | rfl | (simp; omega), rfl⟩
    · have E := Lib.hid (show inNm c = false by unfold inNm; exact decide_eq_false (by omega))
      have b1 : ((c : Int) == 46) = false := by rw [beq_eq_false_iff_ne]; omega
      have b2 : ((c : Int) == 45) = false := by rw [beq_eq_false_iff_ne]; omega
      go_enter Try.func53, Try.ntmps53
      go_wp2_with fail
      go_ret
      exact ⟨by rw [E.out]; first | rfl | (simp; omega), rfl⟩
  · by_cases a3 : 48 ≤ c
    · by_cases a4 : c ≤ 57
      · have E := Lib.hid (show inNm c = true by unfold inNm; exact decide_eq_true (by omega))
        go_enter Try.func53, Try.ntmps53
        go_wp2_with fail
        go_ret
        exact ⟨by rw [E.out]; first | rfl | (simp; omega), rfl⟩
      · have E := Lib.hid (show inNm c = false by unfold inNm; exact decide_eq_false (by omega))
        have b1 : ((c : Int) == 46) = false := by rw [beq_eq_false_iff_ne]; omega
        have b2 : ((c : Int) == 45) = false := by rw [beq_eq_false_iff_ne]; omega
        go_enter Try.func53, Try.ntmps53
        go_wp2_with fail
        go_ret
        exact ⟨by rw [E.out]; first | rfl | (simp; omega), rfl⟩
    · by_cases a5 : c = 46
      · have E := Lib.hid (show inNm c = true by unfold inNm; exact decide_eq_true (by omega))
        subst a5
        go_enter Try.func53, Try.ntmps53
        go_wp2_with fail
        go_ret
        exact ⟨by rw [E.out]; first | rfl | (simp; omega), rfl⟩
      · have b1 : ((c : Int) == 46) = false := by rw [beq_eq_false_iff_ne]; omega
        by_cases a6 : c = 45
        · have E := Lib.hid (show inNm c = true by unfold inNm; exact decide_eq_true (by omega))
          subst a6
          go_enter Try.func53, Try.ntmps53
          go_wp2_with fail
          go_ret
          exact ⟨by rw [E.out]; first | rfl | (simp; omega), rfl⟩
        · have E := Lib.hid (show inNm c = false by unfold inNm; exact decide_eq_false (by omega))
          have b2 : ((c : Int) == 45) = false := by rw [beq_eq_false_iff_ne]; omega
          go_enter Try.func53, Try.ntmps53
          go_wp2_with fail
          go_ret
          exact ⟨by rw [E.out]; first | rfl | (simp; omega), rfl⟩
set_option maxRecDepth 100000 in
set_option maxHeartbeats 800000 in
theorem isName_any (s : ByteArray) (hs : s.size ≤ 9223372036854775807) (w : World) : Calls Try.prog 41 #[.string s] w fun e w' => e = .returned (.bool (nmOK s.data.toList)) ∧ w = w' := by
  obtain ⟨l, hl⟩ : ∃ l, l = s.data.toList := ⟨_, rfl⟩
  have hix : ∀ (k : Nat) (w : World), k < s.size → (Instr.index 9 (.string s) (.int .i64 (k : Int))).run Try.prog w = .ok (.int .u8 ((l.getD k 0).toNat : Int)) w := fun k w h => by rw [hl]; exact index_textM s w k h
  have hll : l.length = s.size := by rw [hl]; simp
  rw [← hl]
  obtain ⟨n, hn⟩ : ∃ n, n = s.size := ⟨_, rfl⟩
  have HLL := Lib.hid (show l.length = n by rw [hll, hn])
  have HIX := Lib.hid (fun (k : Nat) (h : k < n) => fun w => hix k w (by omega))
  have hsz : s.size = n := hn.symm
  have hn63 : n ≤ 9223372036854775807 := by omega
  clear hl hll hix hs hn
  go_enter Try.func41, Try.ntmps41
  go_wp2_with fail
  go_loopw [6] (fun iv wr => ∃ k : Nat, k ≤ n ∧ iv = .int .i64 k ∧ wr = w ∧ Hid (∀ i, i < k → inNm (l.getD i 0).toNat = true)) (fun iv _ => n - (intOf iv).toNat)
  case atStart => exact ⟨0, Nat.zero_le _, rfl, rfl, fun i hi => by omega⟩
  case round =>
    obtain ⟨k, hk, rfl, hw, hall⟩ := hrel
    subst hw
    by_cases hlt : k < n
    · have ix := HIX.out k hlt
      have IN := Lib.hid (inName_any (l.getD k 0).toNat (l.getD k 0).toNat_lt)
      obtain ⟨c, hc⟩ : ∃ c, c = (l.getD k 0).toNat := ⟨_, rfl⟩
      rw [← hc] at ix IN
      have z1 : (k : Int) < (n : Int) := by omega
      have HLT := Lib.hid hlt
      have HCC := Lib.hid hc
      clear hc hlt
      obtain ⟨q, hq⟩ : ∃ q, q = inNm c := ⟨_, rfl⟩
      rw [← hq] at IN
      have HQ := Lib.hid hq
      clear hq
      go_wp2_with fail
      refine (IN.out _).mono ?_
      rintro e w1 ⟨rfl, rfl⟩
      cases q
      · have E := Lib.hid (show nmOK l = false by
          unfold nmOK
          rw [Bool.and_eq_false_iff]
          right
          rw [List.all_eq_false]
          have hk2 : k < l.length := by rw [HLL.out]; exact HLT.out
          refine ⟨l[k], List.getElem_mem _, ?_⟩
          have : l.getD k 0 = l[k] := by simp [List.getD, hk2]
          rw [← this, ← HCC.out, ← HQ.out]
          decide)
        go_wp2_with fail
        (try simp only [Exit.inBlock, Exit.then])
        go_ret
        exact ⟨by rw [E.out]; rfl, rfl⟩
      · go_wp2_with fail
        go_roundw
        case rel =>
          refine ⟨k + 1, by have := HLT.out; omega, by go_num, by first | rfl | trivial, fun i hi => ?_⟩
          by_cases h : i = k
          · rw [h, ← HCC.out, ← HQ.out]
          · exact hall.out i (by omega)
        case measure => simp [intOf]; have := HLT.out; omega
    · obtain rfl : k = n := by omega
      have E := Lib.hid (show nmOK l = decide (1 ≤ k ∧ k ≤ 24) by
        unfold nmOK
        rw [HLL.out]
        have : l.all (fun c => inNm c.toNat) = true := by
          rw [List.all_eq_true]
          intro x hx
          obtain ⟨i, hi, rfl⟩ := List.getElem_of_mem hx
          have := hall.out i (by rw [← HLL.out]; exact hi)
          simpa [List.getD, hi] using this
        rw [this, Bool.and_true])
      clear hall hlt
      by_cases b1 : 1 ≤ k
      · by_cases b2 : k ≤ 24
        · have E2 := Lib.hid (show nmOK l = true by rw [E.out]; exact decide_eq_true ⟨b1, b2⟩)
          go_wp2_with fail
          go_ret
          exact ⟨by rw [E2.out]; first | rfl | (simp; omega), rfl⟩
        · have E2 := Lib.hid (show nmOK l = false by rw [E.out]; exact decide_eq_false (by omega))
          go_wp2_with fail
          go_ret
          exact ⟨by rw [E2.out]; first | rfl | (simp; omega), rfl⟩
      · have E2 := Lib.hid (show nmOK l = false by rw [E.out]; exact decide_eq_false (by omega))
        go_wp2_with fail
        go_ret
        exact ⟨by rw [E2.out]; first | rfl | (simp; omega), rfl⟩
end Go.Proofs.Ytlkkkifilgnhmaa

/- Contract: Create, where it creates. It proves no statement. -/


namespace Go.Proofs.Ytlkkkifilgnhmaa
open Go.RowKit Go.Maps Go.WideMaps
set_option linter.unusedVariables false
set_option linter.unusedSimpArgs false

/-- A file's block. -/
def FileB (w : World) (gf : Nat) (a b c : Value) : Prop := Blk w gf 79 #[a, b, c]
set_option maxRecDepth 100000 in
set_option maxHeartbeats 1600000 in
theorem create_ok {w : World} {g : Nat} {room : Int} {bn bf : Nat} {wv : Value} {left : Int} (h : MedB w g room bn bf wv left false) (hl : left ≤ 9223372036854775807) (hl0 : left ≠ 0) (s : ByteArray) (n k base : Nat) (D : DataW Unit) (xs : List Value)
    (hown : NM w bn n D) (hn : n ≤ 1000000) (hs : s.size ≤ maxLen) (hw : w.ownsRow base 72 3 wv k xs) (hk : k ≤ 1000000) (hbase : base ≤ w.heap.size) (hnm : nmOK s.data.toList = true) (hlook : look D s = -1) (hsz : Maps.size D < 500) :
    Calls Try.prog 22 #[.pointer (some ⟨g, 0, none⟩), .string s] w fun e w' => e = .returned (.int .i64 0) ∧ ∃ gf wv', w.heap.size ≤ gf ∧ FileB w' gf (.slice none 0 0) (.slice none 0 0) (.slice none 0 0) ∧ MedB w' g room bn bf wv' (stepR left false).1 false ∧ w'.ownsRow base 72 3 wv' (k + 1) (xs ++ nmL ⟨#[]⟩ s gf) ∧ NM w' bn (n + 1) (nmDo D ⟨#[]⟩ s gf) ∧ Chg w w' (fun x => x = g ∨ x = bn ∨ wv.ownBlock = some x) ∧ (wv'.ownBlock = wv.ownBlock ∨ ∃ j, wv'.ownBlock = some j ∧ w.heap.size ≤ j) := by
  have hst : (stepR left false).2.2 = 0 ∧ (stepR left false).2.1 = false := by
    unfold stepR
    rw [if_neg hl0]
    split <;> exact ⟨rfl, rfl⟩
  obtain ⟨gf, hgf⟩ : ∃ gf, gf = w.heap.size := ⟨_, rfl⟩
  obtain ⟨w1, hw1⟩ : ∃ w1, w1 = w.alloc (.cells #[.slice none 0 0, .slice none 0 0, .slice none 0 0] 79) := ⟨_, rfl⟩
  have S1 : Still w w1 := by rw [hw1]; exact (Still.refl w).alloc (Nat.le_refl _) _
  have F1 : FileB w1 gf (.slice none 0 0) (.slice none 0 0) (.slice none 0 0) := by rw [hw1, hgf]; exact Blk.new _ _ _
  have C1 := Chg.of_still S1 (fun _ => False)
  have NA := Lib.hid (name_yes (h.still S1) hl ⟨#[]⟩ s (gf : Int) (.inr (by omega)) n k base D xs (C1.nm hown (fun h => h)) hn (by decide) hs (C1.own hw (fun _ _ h => h)) hk (Nat.le_trans hbase S1.size) hst.1)
  rw [hst.2, pv_at] at NA
  have WK := Lib.hid (works_yes h)
  have IN := Lib.hid (isName_any s hs w)
  rw [hnm] at IN
  have c1 : w.cell? ⟨g, 1, none⟩ = some (.map (some bn)) := Blk.cell h 1
  have HS := Lib.hid hs
  have HL := Lib.hid hlook
  have HO := Lib.hid hown
  have HF := Lib.hid F1
  have HC1 := Lib.hid C1
  have HW1 := Lib.hid hw1
  have HG := Lib.hid hgf
  have HNE := Lib.hid (And.intro (Nat.ne_of_lt (Blk.lt h)) (And.intro hown.lt (fun j (e : wv.ownBlock = some j) => (hw.lt j e).2)))
  have hsz2 : (Maps.size D : Int) < 500 := by omega
  clear h hl hl0 hown hn hs hw hk hbase hnm hlook hst S1 F1 C1 hw1 hgf hsz
  go_enter Try.func22, Try.ntmps22
  go_wp2_with fail
  refine WK.out.mono ?_
  rintro e w2 ⟨rfl, rfl⟩
  go_wp2_with fail
  refine IN.out.mono ?_
  rintro e w2 ⟨rfl, rfl⟩
  go_wp2_with (first
    | (at_lookup; go_must (refine wpList_look rfl (.tmp 20) (.tmp 21) rfl bn n D rfl HO.out s rfl HS.out ?_; intro f hf hlk; rw [HL.out] at hlk; subst hlk; rw [pv_nil]))
    | (at_len; go_must (refine wpList_len_own _ rfl _ 45 rfl 9 53 underNames ptrElem bn n D rfl HO.out ?_)))
  rw [← HW1.out, ← HG.out]
  refine NA.out.mono ?_
  rintro e w3 ⟨rfl, wv', m3, r3, n3, c3, loc3⟩
  have FIN := Lib.hid (show ∃ gf wv', w.heap.size ≤ gf ∧ FileB w3 gf (.slice none 0 0) (.slice none 0 0) (.slice none 0 0) ∧ MedB w3 g room bn bf wv' (stepR left false).1 false ∧ w3.ownsRow base 72 3 wv' (k + 1) (xs ++ nmL ⟨#[]⟩ s gf) ∧ NM w3 bn (n + 1) (nmDo D ⟨#[]⟩ s gf) ∧ Chg w w3 (fun x => x = g ∨ x = bn ∨ wv.ownBlock = some x) ∧ (wv'.ownBlock = wv.ownBlock ∨ ∃ j, wv'.ownBlock = some j ∧ w.heap.size ≤ j) by
    refine ⟨gf, wv', by rw [HG.out]; exact Nat.le_refl _, c3.blk HF.out ?_, m3, r3, n3, Chg.trans (HC1.out.mono (fun _ _ h => h.elim)) c3 (fun _ _ h => h), ?_⟩
    · rintro (h | h | h)
      · have := HG.out; have := HNE.out.1; omega
      · have := HG.out; have := HNE.out.2.1; omega
      · have := HG.out; have := HNE.out.2.2 _ h; omega
    · rcases loc3 with h | ⟨j, h, hj⟩
      · exact .inl h
      · exact .inr ⟨j, h, Nat.le_trans HC1.out.size hj⟩)
  clear m3 r3 n3 c3 loc3 NA
  go_wp2_with fail
  go_ret
  exact ⟨rfl, FIN.out⟩
end Go.Proofs.Ytlkkkifilgnhmaa
