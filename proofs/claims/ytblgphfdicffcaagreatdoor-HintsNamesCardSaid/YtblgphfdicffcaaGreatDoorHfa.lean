/- Contracts and facts, several texts in one. It proves no statement. -/
import Derived.Test.YtblgphfdicffcaaGreatDoorRows
import Derived.WalkKit
import Derived.WalkLawsBesides
import Derived.WalkSpells
import Derived.Laws.AppendOwnNone
import Derived.Maps.AppendAt
import Derived.Deep.Draws
import Derived.Deep.AppendLies
import Derived.Lib.Hide
import Derived.ProofKit
import Derived.OpenShut
import Derived.Lib.ItoaNum
import Derived.Lib.AtoiAll
import Derived.Lib.RepeatB
import Derived.Outline
import Derived.Deep.DeepMust
import Derived.Deep.QuietTactic
import Derived.BigQuiet
import Derived.RegionTactic
import Derived.ChangeAlike
import Derived.BigRegion
import Derived.Laws.BitsAllLaws

/- Words for memory that the other texts of this seat use: bytes as values, a slice that reads as bytes, worlds in which nothing that was there has turned. It proves no statement. -/











namespace Go.Proofs.YtblgphfdicffcaaGreatDoor
open Go.RowKit Go.ChangeShapes Go.WideShapes Go.ChangeAt
set_option linter.unusedVariables false
set_option linter.unusedSimpArgs false

/-- Bytes as the model's values. -/
def bytesV (l : List UInt8) : List Value := l.map (fun b => Value.int .u8 (b.toNat : Int))

theorem bytesV_length (l : List UInt8) : (bytesV l).length = l.length := by simp [bytesV]
theorem bytesV_nil : bytesV [] = [] := rfl
theorem bytesV_append (a b : List UInt8) : bytesV (a ++ b) = bytesV a ++ bytesV b := by simp [bytesV]
theorem bytesV_one (l : List UInt8) : ∀ u ∈ bytesV l, u.oneCell' = true := by
  intro u hu
  obtain ⟨_, _, rfl⟩ := List.mem_map.1 hu
  rfl
theorem bytesV_get (l : List UInt8) (i : Nat) (h : i < l.length) : (bytesV l)[i]? = some (Value.int .u8 ((l.getD i 0).toNat : Int)) := by
  simp [bytesV, h]
theorem bytesV_set (l : List UInt8) (i : Nat) (b : UInt8) : (bytesV l).set i (Value.int .u8 (b.toNat : Int)) = bytesV (l.set i b) := by
  simp [bytesV, List.map_set]
theorem bytesV_rep (n : Nat) : List.replicate n (Value.int .u8 0) = bytesV (List.replicate n 0) := by simp [bytesV]
theorem bytesV_take (l : List UInt8) (k : Nat) : bytesV (l.take k) = (bytesV l).take k := by simp [bytesV, List.map_take]
theorem bytesV_drop (l : List UInt8) (k : Nat) : bytesV (l.drop k) = (bytesV l).drop k := by simp [bytesV, List.map_drop]

/-- Nothing that was there has turned. -/
abbrev Still (w w' : World) : Prop := Below w.heap.size w w'
theorem Still.refl (w : World) : Still w w := Below.refl _ _
theorem Still.trans {a b c : World} (h : Still a b) (k : Still b c) : Still a c := Below.trans h (k.mono h.size)

/-- The slice at A, of n bytes, reads as l, below block B. -/
def Reads (w : World) (B : Nat) (A : Option Addr) (n : Nat) (l : List UInt8) : Prop :=
  l.length = n ∧ (0 < n → ∃ b o, A = some ⟨b, o, none⟩ ∧ b < B ∧ ∀ i, i < n → w.cell? ⟨b, o + i, none⟩ = some (Value.int .u8 ((l.getD i 0).toNat : Int)))

section
variable {w w' : World} {B B' n : Nat} {A : Option Addr} {l : List UInt8}
theorem Reads.len (h : Reads w B A n l) : l.length = n := h.1
theorem Reads.nil0 : Reads w B A 0 [] := ⟨rfl, fun h => absurd h (by omega)⟩
theorem Reads.at_ (h : Reads w B A n l) (hn : 0 < n) : ∃ b o, A = some ⟨b, o, none⟩ ∧ b < B ∧ ∀ i, i < n → w.cell? ⟨b, o + i, none⟩ = some (Value.int .u8 ((l.getD i 0).toNat : Int)) := h.2 hn
theorem Reads.keep (h : Reads w B A n l) (hk : ∀ p : Addr, p.block < B → w'.cell? p = w.cell? p) : Reads w' B A n l :=
  ⟨h.1, fun hn => by
    obtain ⟨b, o, e, hb, hc⟩ := h.2 hn
    exact ⟨b, o, e, hb, fun i hi => (hk _ hb).trans (hc i hi)⟩⟩
theorem Reads.more (h : Reads w B A n l) (hB : B ≤ B') : Reads w B' A n l :=
  ⟨h.1, fun hn => by
    obtain ⟨b, o, e, hb, hc⟩ := h.2 hn
    exact ⟨b, o, e, by omega, hc⟩⟩
theorem Reads.below (h : Reads w B A n l) (hb : Below B w w') : Reads w' B A n l := h.keep fun _ hp => hb.cell hp
theorem Reads.still (h : Reads w B A n l) (hB : B ≤ w.heap.size) (hb : Still w w') : Reads w' B A n l := h.below (hb.mono hB)
theorem Reads.news (h : Reads w B A n l) : ∀ ad, A = some ad → 0 < n → ∀ j u, (bytesV l)[j]? = some u → w.cell? (ad.add j) = some u := by
  intro ad hA hn j u hu
  obtain ⟨b, o, e, _, hc⟩ := h.2 hn
  rw [e] at hA
  obtain rfl := Option.some.inj hA
  have hj : j < l.length := by
    have := (List.getElem?_eq_some_iff.1 hu).1
    rwa [bytesV_length] at this
  rw [bytesV_get l j hj] at hu
  rw [Addr.add_lit]
  rw [← hu]
  exact hc j (by rw [← h.1]; exact hj)
theorem Reads.take (h : Reads w B A n l) (k : Nat) : Reads w B A (min n k) (l.take k) := by
  refine ⟨by rw [List.length_take, h.1]; omega, fun hn => ?_⟩
  obtain ⟨b, o, e, hb, hc⟩ := h.2 (by omega)
  refine ⟨b, o, e, hb, fun i hi => ?_⟩
  rw [hc i (by omega)]
  have : (l.take k).getD i 0 = l.getD i 0 := by simp [List.getD, List.getElem?_take, show i < k by omega]
  rw [this]
theorem Reads.cellAt {b o : Nat} (h : Reads w B (some ⟨b, o, none⟩) n l) (i : Nat) (hi : i < n) : w.cell? ⟨b, o + i, none⟩ = some (Value.int .u8 ((l.getD i 0).toNat : Int)) := by
  obtain ⟨b', o', e, _, hc⟩ := h.2 (by omega)
  simp only [Option.some.injEq, Addr.mk.injEq, and_true] at e
  obtain ⟨rfl, rfl⟩ := e
  exact hc i hi
/-- What the call owns reads. -/
theorem Reads.of_own {base cap : Nat} (h : w.ownsRow base 5 1 (.slice A n cap) n (bytesV l)) : Reads w w.heap.size A n l := by
  have hl : l.length = n := by have := h.1; rw [bytesV_length] at this; omega
  refine ⟨hl, fun hn => ?_⟩
  rcases h.2 with ⟨_, h0⟩ | ⟨g, c, cur, hv, _, hg, _⟩
  · omega
  · have e : A = some ⟨g, 0, none⟩ := by injection hv
    subst e
    refine ⟨g, 0, rfl, (Array.getElem?_eq_some_iff.1 hg).1, fun i hi => ?_⟩
    have := h.cellAt i (by omega)
    rw [Nat.zero_add, this, bytesV_get l i (by omega)]
end

theorem Tryz.infoByte : (Tryz.prog.info? 5).map (fun i => (i.zero, i.size, i.bytes)) = some (some (.int .u8 0), 1, 1) := by kernel_rfl

/-- The bytes of a constant text, laid as a row of its own. -/
theorem const_reads (w : World) (l : List UInt8) (fr : Nat × Nat) : Reads (w.alloc (.cells (bytesV l).toArray 5 fr)) (w.heap.size + 1) (some ⟨w.heap.size, 0, none⟩) l.length l := by
  refine ⟨rfl, fun hn => ⟨w.heap.size, 0, rfl, by omega, fun i hi => ?_⟩⟩
  have hh : (w.alloc (.cells (bytesV l).toArray 5 fr)).heap[w.heap.size]? = some (.cells (bytesV l).toArray 5 fr) := heap_alloc_new w _
  rw [Nat.zero_add, cell_of_row _ w.heap.size i _ _ fr hh]
  have := bytesV_get l i hi
  simpa using this

/-- What is told of a slice of integers that came in. -/
def RowIn (k : IntKind) (w : World) (a : Option Addr) (len cap : Nat) (zs : List Int) : Prop :=
  (a = none ∧ len = 0 ∧ cap = 0 ∧ zs = []) ∨
  ∃ x, a = some x ∧ len ≤ cap ∧ cap ≤ maxLen ∧ zs.length = cap ∧ (∀ i, i < zs.length → w.cell? (x.add i) = some (.int k (zs.getD i 0))) ∧ ∀ n ∈ zs, (Lit.int k n).wf = true
/-- Bytes that came in read. -/
theorem reads_of_row {w : World} {a : Option Addr} {len cap : Nat} {zs : List Int} (h : RowIn .u8 w a len cap zs) :
    ∃ l, Reads w w.heap.size a len l ∧ len ≤ cap ∧ cap ≤ 9223372036854775807 ∧ (a = none → len = 0 ∧ cap = 0) := by
  rcases h with ⟨rfl, rfl, rfl, rfl⟩ | ⟨x, rfl, hl, hm, hz, hc, hw⟩
  · exact ⟨[], Reads.nil0, Nat.le_refl _, by omega, fun _ => ⟨rfl, rfl⟩⟩
  · refine ⟨(zs.take len).map (fun z => UInt8.ofNat z.toNat), ⟨by simp; omega, fun hn => ?_⟩, hl, by unfold maxLen at hm; omega, fun e => by cases e⟩
    obtain ⟨b, o, sp⟩ := x
    have h0 := hc 0 (by omega)
    have hsp : sp = none := by simpa [Addr.add] using World.cell?_spot h0
    subst hsp
    refine ⟨b, o, rfl, by simpa [Addr.add] using World.block_lt_of_cell? w _ h0, fun i hi => ?_⟩
    have hi' := hc i (by omega)
    rw [Addr.add_lit] at hi'
    rw [hi']
    have hb := hw (zs.getD i 0) (by
      simp only [List.getD, List.getElem?_eq_getElem (show i < zs.length by omega), Option.getD_some]
      exact List.getElem_mem _)
    have hbb : 0 ≤ zs.getD i 0 ∧ zs.getD i 0 ≤ 255 := bounds_u8 hb
    have e : (((zs.take len).map (fun z => UInt8.ofNat z.toNat)).getD i 0).toNat = (zs.getD i 0).toNat := by
      have e1 : ((zs.take len).map (fun z => UInt8.ofNat z.toNat)).getD i 0 = UInt8.ofNat (zs.getD i 0).toNat := by
        simp [List.getD, hi, show i < zs.length by omega]
      rw [e1]
      simp only [UInt8.toNat_ofNat']
      omega
    rw [e]
    congr 2
    omega

/-- What the call owns is a slice. -/
theorem own_form {w : World} {base n : Nat} {v : Value} {xs : List Value} (h : w.ownsRow base 5 1 v n xs) :
    ∃ A c, v = .slice A n c ∧ n ≤ c ∧ c ≤ 9223372036854775807 ∧ (A = none → n = 0 ∧ c = 0) := by
  rcases h.2 with ⟨rfl, rfl⟩ | ⟨g, cap, cur, rfl, _, _, hnc, hm, _⟩
  · exact ⟨none, 0, rfl, Nat.le_refl _, by omega, fun _ => ⟨rfl, rfl⟩⟩
  · exact ⟨_, cap, rfl, hnc, by unfold maxLen at hm; omega, fun e => by cases e⟩
/-- What the call owns stays where nothing that was there turns. -/
theorem own_still {w w' : World} {base n : Nat} {v : Value} {xs : List Value} (h : w.ownsRow base 5 1 v n xs) (hs : Still w w') : w'.ownsRow base 5 1 v n xs := by
  refine h.kept (row := none) ⟨hs.os, hs.tape, hs.output, hs.size, fun k hk _ => hs.block k hk⟩ ?_
  cases v.ownBlock <;> simp

/-- 'b = append(b, e)': one byte more on a row of the call's own. -/
theorem wpList_push (w : World) {ops : Array Oper} {rest : List Oper} {o : Oper} {a : Act} {Q : Exit → Act → World → Prop} (hgd : o.guard = none) (s x : Operand)
    (ho : o.op = .call { callee := .builtin .append, args := #[s, x], argTypes := #[34, 34] })
    (base : Nat) (v : Value) (n : Nat) (l : List UInt8) (hs : a.eval s = v) (hown : w.ownsRow base 5 1 v n (bytesV l)) (e : Int) (b : UInt8)
    (hx : a.eval x = .slice (some ⟨w.heap.size, 0, none⟩) 1 1) (he : e = (b.toNat : Int)) (hn : n < 140737488355328) (hbase : base ≤ w.heap.size)
    (h : ∀ v' w', w'.ownsRow base 5 1 v' (n + 1) (bytesV (l ++ [b])) → w.grownBy w' v.ownBlock → (v' = .slice none 0 0 → False) → wpList Tryz.prog ops Q rest (a.put o.dst v') w') :
    wpList Tryz.prog ops Q (o :: rest) a (w.alloc (.cells #[.int .u8 e] 5)) := by
  obtain ⟨i0, hi, hz0, hz1, hz2⟩ := info_parts Tryz.infoByte
  subst he
  refine wpList_append_own _ hgd s x 34 ho base 5 i0 (.int .u8 0) 1 1 Tryz.underlying34 hi hz0 hz1 hz2 rfl (by decide) v n _ hs (hown.alloc _) ⟨w.heap.size, 0, none⟩ 1 1 (bytesV [b]) hx rfl ?_ (bytesV_one _) (by unfold maxLen; omega) (by omega) (by simp; omega) ?_
  · intro j u hu
    match j, hu with
    | 0, hu => simp [bytesV] at hu; subst hu; simp [Addr.add]
  · intro v' w' h2 h3 h4
    rw [← bytesV_append] at h2
    refine h v' w' h2 ⟨h3.os, h3.tape, h3.output, by have := h3.size; simp at this; omega, fun k hk hne => ?_⟩ ?_
    · rw [h3.block k (by simp; omega) hne]
      exact Below.heap_alloc w _ k hk
    · intro e
      exact absurd (h4.1 e).2 (by decide)

/-- 'append(b, c...)': bytes that lie anywhere on a row of the call's own. -/
theorem run_adds (w : World) (ty : TypeId) (base : Nat) (v : Value) (n : Nat) (l : List UInt8) (hown : w.ownsRow base 5 1 v n (bytesV l)) (A : Option Addr) (n' c' : Nat) (B : Nat) (l' : List UInt8)
    (hr : Reads w B A n' l') (hA : A = none → c' = 0) (hn : n + n' ≤ 140737488355328) (hbase : base ≤ w.heap.size) :
    ∃ v' w', (Builtin.append_ #[34, 34] ty #[v, .slice A n' c']).run Tryz.prog w = .ok v' w' ∧ w'.ownsRow base 5 1 v' (n + n') (bytesV (l ++ l')) ∧ w.grownBy w' v.ownBlock ∧ (v' = .slice none 0 0 → v = .slice none 0 0 ∧ n' = 0) := by
  obtain ⟨i0, hi, hz0, hz1, hz2⟩ := info_parts Tryz.infoByte
  rcases A with _ | ad
  · have h0 : n' = 0 := by
      rcases Nat.eq_zero_or_pos n' with h0 | h0
      · exact h0
      · obtain ⟨_, _, e, _⟩ := hr.2 h0
        cases e
    subst h0
    have hl : l' = [] := List.eq_nil_of_length_eq_zero hr.1
    subst hl
    obtain rfl := hA rfl
    exact ⟨v, w, run_append_owned_none (P := Tryz.prog) w base 34 ty 5 i0 1 Tryz.underlying34 hi v n _ hown, by simpa using hown, World.grownBy.refl _ _, fun e => ⟨e, rfl⟩⟩
  · have hnews : ∀ j u, (bytesV l')[j]? = some u → w.cell? (ad.add j) = some u := by
      intro j u hu
      rcases Nat.eq_zero_or_pos n' with h0 | h0
      · subst h0
        have hl : l' = [] := List.eq_nil_of_length_eq_zero hr.1
        subst hl
        simp [bytesV] at hu
      · exact hr.news ad rfl h0 j u hu
    obtain ⟨v', w', hrun, h2, h3, h4⟩ := run_append_own (P := Tryz.prog) w base 34 ty 5 i0 (.int .u8 0) 1 1 Tryz.underlying34 hi hz0 hz1 hz2 rfl (by decide) v n _ hown ad n' c' (bytesV l') (by rw [bytesV_length, hr.1]; omega) hnews (bytesV_one _) (by unfold maxLen; omega) (by omega) hbase
    rw [← bytesV_append] at h2
    exact ⟨v', w', hrun, h2, h3, h4.1⟩
theorem wp_adds (w : World) {o : Oper} {a : Act} {K : Act → World → Prop} {Q : Exit → Act → World → Prop} (s x : Operand)
    (ho : o.op = .call { callee := .builtin .append, args := #[s, x], argTypes := #[34, 34] })
    (base : Nat) (v : Value) (n : Nat) (l : List UInt8) (hs : a.eval s = v) (hown : w.ownsRow base 5 1 v n (bytesV l)) (A : Option Addr) (n' c' : Nat) (B : Nat) (l' : List UInt8)
    (hx : a.eval x = .slice A n' c') (hr : Reads w B A n' l') (hA : A = none → c' = 0) (hn : n + n' ≤ 140737488355328) (hbase : base ≤ w.heap.size)
    (h : ∀ v' w', w'.ownsRow base 5 1 v' (n + n') (bytesV (l ++ l')) → w.grownBy w' v.ownBlock → (v' = .slice none 0 0 → v = .slice none 0 0 ∧ n' = 0) → K (a.put o.dst v') w') : o.wp Tryz.prog a w K Q := by
  obtain ⟨v', w', hrun, h2, h3, h4⟩ := run_adds w o.type base v n l hown A n' c' B l' hr hA hn hbase
  unfold Oper.wp execOp
  simp only [ho, resolve, invoke, builtin, Sem.run_bind, Sem.run_pure, Result.andThen_ok, List.map_toArray, List.map_cons, List.map_nil, hs, hx, hrun]
  exact h v' w' h2 h3 h4
theorem wpList_adds (w : World) {ops : Array Oper} {rest : List Oper} {o : Oper} {a : Act} {Q : Exit → Act → World → Prop} (hgd : o.guard = none) (s x : Operand)
    (ho : o.op = .call { callee := .builtin .append, args := #[s, x], argTypes := #[34, 34] })
    (base : Nat) (v : Value) (n : Nat) (l : List UInt8) (hs : a.eval s = v) (hown : w.ownsRow base 5 1 v n (bytesV l)) (A : Option Addr) (n' c' : Nat) (B : Nat) (l' : List UInt8)
    (hx : a.eval x = .slice A n' c') (hr : Reads w B A n' l') (hA : A = none → c' = 0) (hn : n + n' ≤ 140737488355328) (hbase : base ≤ w.heap.size)
    (h : ∀ v' w', w'.ownsRow base 5 1 v' (n + n') (bytesV (l ++ l')) → w.grownBy w' v.ownBlock → (v' = .slice none 0 0 → v = .slice none 0 0 ∧ n' = 0) → wpList Tryz.prog ops Q rest (a.put o.dst v') w') :
    wpList Tryz.prog ops Q (o :: rest) a w :=
  wpList_plain hgd fun _ hK => wp_adds w s x ho base v n l hs hown A n' c' B l' hx hr hA hn hbase fun v' w' h2 h3 h4 => hK _ _ (h v' w' h2 h3 h4)
/-- The same at a step of a region that draws its order. -/
theorem step_adds (w : World) {ops : Array Oper} {o : Oper} {a : Act} {K : Act → World → Prop} {Q : Exit → Act → World → Prop} {E : Prop} (hgd : o.guard = none) (s x : Operand)
    (ho : o.op = .call { callee := .builtin .append, args := #[s, x], argTypes := #[34, 34] })
    (base : Nat) (v : Value) (n : Nat) (l : List UInt8) (hs : a.eval s = v) (hown : w.ownsRow base 5 1 v n (bytesV l)) (A : Option Addr) (n' c' : Nat) (B : Nat) (l' : List UInt8)
    (hx : a.eval x = .slice A n' c') (hr : Reads w B A n' l') (hA : A = none → c' = 0) (hn : n + n' ≤ 140737488355328) (hbase : base ≤ w.heap.size)
    (h : ∀ v' w', w'.ownsRow base 5 1 v' (n + n') (bytesV (l ++ l')) → w.grownBy w' v.ownBlock → (v' = .slice none 0 0 → v = .slice none 0 0 ∧ n' = 0) → K (a.put o.dst v') w') :
    if Region.wanted o (yielded ops a.tmps) = true then Oper.wp Tryz.prog o a w K Q else E := by
  have hw : Region.wanted o (yielded ops a.tmps) = true := by simp [Region.wanted, hgd]
  rw [if_pos hw]
  exact wp_adds w s x ho base v n l hs hown A n' c' B l' hx hr hA hn hbase h

/-- 'append(b, e)' at a step of a region that draws its order; the new byte lies in a box of its own. -/
theorem run_push (w : World) (ty : TypeId) (base : Nat) (v : Value) (n : Nat) (l : List UInt8) (hown : w.ownsRow base 5 1 v n (bytesV l)) (g : Nat) (b : UInt8)
    (hc : w.cell? ⟨g, 0, none⟩ = some (.int .u8 (b.toNat : Int))) (hn : n < 140737488355328) (hbase : base ≤ w.heap.size) :
    ∃ v' w', (Builtin.append_ #[34, 34] ty #[v, .slice (some ⟨g, 0, none⟩) 1 1]).run Tryz.prog w = .ok v' w' ∧ w'.ownsRow base 5 1 v' (n + 1) (bytesV (l ++ [b])) ∧ w.grownBy w' v.ownBlock ∧ (v'.ownBlock = v.ownBlock ∨ v'.ownBlock = some w.heap.size) := by
  obtain ⟨i0, hi, hz0, hz1, hz2⟩ := info_parts Tryz.infoByte
  obtain ⟨v', w', hrun, h2, h3, _, h5⟩ := run_append_own_at (P := Tryz.prog) w base 34 ty 5 i0 (.int .u8 0) 1 1 Tryz.underlying34 hi hz0 hz1 hz2 rfl (by decide) v n _ hown ⟨g, 0, none⟩ 1 1 (bytesV [b]) rfl (fun j u hu => by
    match j, hu with
    | 0, hu => simp [bytesV] at hu; subst hu; simpa [Addr.add] using hc) (bytesV_one _) (by unfold maxLen; omega) (by omega) hbase
  rw [← bytesV_append] at h2
  exact ⟨v', w', hrun, h2, h3, h5⟩
theorem step_push (w : World) {ops : Array Oper} {o : Oper} {a : Act} {K : Act → World → Prop} {Q : Exit → Act → World → Prop} {E : Prop} (hgd : o.guard = none) (s x : Operand)
    (ho : o.op = .call { callee := .builtin .append, args := #[s, x], argTypes := #[34, 34] })
    (base : Nat) (v : Value) (n : Nat) (l : List UInt8) (hs : a.eval s = v) (hown : w.ownsRow base 5 1 v n (bytesV l)) (g : Nat) (b : UInt8)
    (hx : a.eval x = .slice (some ⟨g, 0, none⟩) 1 1) (hc : w.cell? ⟨g, 0, none⟩ = some (.int .u8 (b.toNat : Int))) (hn : n < 140737488355328) (hbase : base ≤ w.heap.size)
    (h : ∀ v' w', w'.ownsRow base 5 1 v' (n + 1) (bytesV (l ++ [b])) → w.grownBy w' v.ownBlock → (v'.ownBlock = v.ownBlock ∨ v'.ownBlock = some w.heap.size) → K (a.put o.dst v') w') :
    if Region.wanted o (yielded ops a.tmps) = true then Oper.wp Tryz.prog o a w K Q else E := by
  have hw : Region.wanted o (yielded ops a.tmps) = true := by simp [Region.wanted, hgd]
  rw [if_pos hw]
  obtain ⟨v', w', hrun, h2, h3, h4⟩ := run_push w o.type base v n l hown g b hc hn hbase
  unfold Oper.wp execOp
  simp only [ho, resolve, invoke, builtin, Sem.run_bind, Sem.run_pure, Result.andThen_ok, List.map_toArray, List.map_cons, List.map_nil, hs, hx, hrun]
  exact h v' w' h2 h3 h4

end Go.Proofs.YtblgphfdicffcaaGreatDoor

/- Segments' names: eight digits, there and back. Mathematics; it proves no statement. -/




namespace Go.Proofs.YtblgphfdicffcaaGreatDoor
set_option linter.unusedVariables false
set_option linter.unusedSimpArgs false

/-- A number's last k digits. -/
def dig : Nat → Nat → List UInt8
  | 0, _ => []
  | k + 1, n => dig k (n / 10) ++ [UInt8.ofNat (48 + n % 10)]
theorem dig_length : ∀ k n, (dig k n).length = k
  | 0, _ => rfl
  | k + 1, n => by
    show (dig k (n / 10) ++ [_]).length = k + 1
    rw [List.length_append, dig_length k]
    rfl
theorem dig_front : ∀ k n, dig (k + 1) n = UInt8.ofNat (48 + n / 10 ^ k % 10) :: dig k n
  | 0, n => by simp [dig]
  | k + 1, n => by
    show dig (k + 1) (n / 10) ++ [UInt8.ofNat (48 + n % 10)] = _
    rw [dig_front k (n / 10), Nat.div_div_eq_div_mul, ← Nat.pow_succ']
    rfl
theorem dig_zero : ∀ k, dig k 0 = List.replicate k 48
  | 0 => rfl
  | k + 1 => by
    show dig k (0 / 10) ++ [UInt8.ofNat (48 + 0 % 10)] = _
    rw [Nat.zero_div, dig_zero k, List.replicate_succ']
    rfl
theorem nDigits_le : ∀ (k n : Nat), n < 10 ^ (k + 1) → Lib.nDigits n ≤ k + 1
  | 0, n, h => by rw [Lib.nDigits_small (by simpa using h)]; exact Nat.le_refl _
  | k + 1, n, h => by
    by_cases h1 : n < 10
    · rw [Lib.nDigits_small h1]; omega
    · rw [Lib.nDigits_big h1]
      have := nDigits_le k (n / 10) (by rw [Nat.pow_succ] at h; omega)
      omega
/-- A numeral, filled up with noughts. -/
theorem dig_pad : ∀ (k n : Nat), Lib.nDigits n ≤ k → List.replicate (k - (Lib.decDigits n).length) 48 ++ Lib.decDigits n = dig k n := by
  intro k
  induction k with
  | zero => intro n h; have := Lib.nDigits_pos n; omega
  | succ k ih =>
    intro n h
    show _ = dig k (n / 10) ++ [UInt8.ofNat (48 + n % 10)]
    by_cases h1 : n < 10
    · have e : Lib.decDigits n = [UInt8.ofNat (48 + n)] := by rw [Lib.decDigits, dif_pos h1]
      rw [e, Nat.div_eq_of_lt h1, dig_zero, Nat.mod_eq_of_lt h1]
      rfl
    · have e : Lib.decDigits n = Lib.decDigits (n / 10) ++ [UInt8.ofNat (48 + n % 10)] := by rw [Lib.decDigits, dif_neg h1]
      rw [Lib.nDigits_big h1] at h
      rw [e, ← ih (n / 10) (by omega), List.length_append, ← List.append_assoc]
      congr 3
      simp only [List.length_cons, List.length_nil]
      omega
theorem digit_nat (d : Nat) (h : d < 10) : (UInt8.ofNat (48 + d)).toNat = 48 + d := by
  rw [UInt8.toNat_ofNat']
  omega
/-- What digits are worth. -/
def valD (a : Nat) (l : List UInt8) : Nat := l.foldl (fun a c => a * 10 + (c.toNat - 48)) a
theorem dig_sum (a n k : Nat) : (a * 10 ^ k + n / 10 % 10 ^ k) * 10 + (48 + n % 10 - 48) = a * (10 ^ k * 10) + n % (10 ^ k * 10) := by
  rw [Nat.mul_comm (10 ^ k) 10, Nat.mod_mul, Nat.add_mul, Nat.mul_assoc, Nat.mul_comm (10 ^ k) 10, Nat.mul_comm (n / 10 % 10 ^ k) 10]
  omega
theorem valD_dig : ∀ (k n a : Nat), valD a (dig k n) = a * 10 ^ k + n % 10 ^ k
  | 0, n, a => by simp [valD, dig, Nat.mod_one]
  | k + 1, n, a => by
    show valD a (dig k (n / 10) ++ [UInt8.ofNat (48 + n % 10)]) = _
    unfold valD
    rw [List.foldl_append]
    have e := valD_dig k (n / 10) a
    unfold valD at e
    rw [e, List.foldl_cons, List.foldl_nil, digit_nat _ (by omega), Nat.pow_succ, dig_sum a n k]
theorem parse_dig : ∀ (k n a : Nat), a * 10 ^ k + 10 ^ k ≤ 1000000000000000000 → Lib.parseUint10 a (dig k n) = .ok (a * 10 ^ k + n % 10 ^ k)
  | 0, n, a, h => by simp [dig, Lib.parseUint10, Nat.mod_one]
  | k + 1, n, a, h => by
    have hp : 1 ≤ 10 ^ k := Nat.one_le_pow _ _ (by decide)
    have hd : n / 10 ^ k % 10 < 10 := Nat.mod_lt _ (by decide)
    rw [Nat.pow_succ] at h
    have h2 : (a * 10 + n / 10 ^ k % 10) * 10 ^ k + 10 ^ k ≤ 1000000000000000000 := by
      have e1 : (a * 10 + n / 10 ^ k % 10) * 10 ^ k = a * (10 ^ k * 10) + (n / 10 ^ k % 10) * 10 ^ k := by
        rw [Nat.add_mul, Nat.mul_assoc, Nat.mul_comm 10]
      have e2 : (n / 10 ^ k % 10) * 10 ^ k ≤ 9 * 10 ^ k := Nat.mul_le_mul_right _ (by omega)
      rw [e1]
      omega
    have ha : a ≤ 100000000000000000 := by
      have e3 : a * (1 * 10) ≤ a * (10 ^ k * 10) := Nat.mul_le_mul_left _ (Nat.mul_le_mul_right _ hp)
      omega
    rw [dig_front]
    unfold Lib.parseUint10
    rw [digit_nat _ hd, if_pos (by omega), if_neg (by omega), if_neg (by omega), show 48 + n / 10 ^ k % 10 - 48 = n / 10 ^ k % 10 by omega, parse_dig k n _ h2]
    congr 1
    have e1 : (a * 10 + n / 10 ^ k % 10) * 10 ^ k = a * (10 ^ k * 10) + (n / 10 ^ k % 10) * 10 ^ k := by
      rw [Nat.add_mul, Nat.mul_assoc, Nat.mul_comm 10]
    rw [e1, Nat.pow_succ, Nat.mod_mul, Nat.add_assoc, Nat.mul_comm (10 ^ k) (n / 10 ^ k % 10), Nat.add_comm (n / 10 ^ k % 10 * 10 ^ k)]
theorem atoi_dig (n : Nat) (h : n < 100000000) : Lib.atoiAll (dig 8 n) = .ok (n : Int) := by
  have hp := parse_dig 8 n 0 (by decide)
  rw [show (0 * 10 ^ 8 + n % 10 ^ 8) = n by rw [show (10 : Nat) ^ 8 = 100000000 by decide]; omega] at hp
  rw [dig_front 7] at hp ⊢
  have hd : n / 10 ^ 7 % 10 < 10 := Nat.mod_lt _ (by decide)
  have hc := digit_nat _ hd
  generalize hq : UInt8.ofNat (48 + n / 10 ^ 7 % 10) = c at hp hc
  unfold Lib.atoiAll
  dsimp only
  rw [if_neg (by omega)]
  unfold Lib.parseMag
  rw [if_neg (by simp), hp]
  dsimp only
  rw [if_neg (by omega), if_neg (by omega), if_neg (by omega)]
/-- A segment's name. -/
def sgnB (n : Nat) : List UInt8 := [115, 101, 103, 46] ++ dig 8 n
def nameS (n : Int) : ByteArray := if 0 ≤ n ∧ n < 1048576 then ⟨(sgnB n.toNat).toArray⟩ else ⟨#[]⟩
theorem sgnB_length (n : Nat) : (sgnB n).length = 12 := by unfold sgnB; rw [List.length_append, dig_length]; rfl
theorem sgnB_drop (n : Nat) : (sgnB n).drop 4 = dig 8 n := rfl
theorem val_sgnB (n : Nat) (h : n < 100000000) : valD 0 ((sgnB n).drop 4) = n := by
  rw [sgnB_drop, valD_dig, show (10 : Nat) ^ 8 = 100000000 by decide]
  omega
/-- Which segment a name is. -/
def segOf (s : List UInt8) : Option Nat := if valD 0 (s.drop 4) < 1048576 ∧ sgnB (valD 0 (s.drop 4)) = s then some (valD 0 (s.drop 4)) else none
theorem segOf_sgnB (n : Nat) (h : n < 1048576) : segOf (sgnB n) = some n := by
  unfold segOf
  rw [val_sgnB n (by omega), if_pos ⟨h, rfl⟩]
theorem segOf_some {s : List UInt8} {n : Nat} (h : segOf s = some n) : s = sgnB n ∧ n < 1048576 := by
  unfold segOf at h
  split at h
  · rename_i c
    injection h with h
    subst h
    exact ⟨c.2.symm, c.1⟩
  · cases h
theorem segOf_none {s : List UInt8} (h : segOf s = none) (n : Nat) (hn : n < 1048576) : s ≠ sgnB n := by
  intro e
  rw [e, segOf_sgnB n hn] at h
  cases h
theorem sgnB_inj {a b : Nat} (ha : a < 1048576) (hb : b < 1048576) (h : sgnB a = sgnB b) : a = b := by
  have := segOf_sgnB a ha
  rw [h, segOf_sgnB b hb] at this
  exact (Option.some.inj this).symm
theorem nameS_list (n : Int) : (nameS n).data.toList = if 0 ≤ n ∧ n < 1048576 then sgnB n.toNat else [] := by
  unfold nameS
  split <;> rfl
theorem nameS_nat {n : Nat} (h : n < 1048576) : nameS (n : Int) = ⟨(sgnB n).toArray⟩ := by
  unfold nameS
  rw [if_pos ⟨by omega, by omega⟩]
  rfl
end Go.Proofs.YtblgphfdicffcaaGreatDoor

/- The names of files of hints. Mathematics; it proves no statement. -/

namespace Go.Proofs.YtblgphfdicffcaaGreatDoor
set_option linter.unusedVariables false
set_option linter.unusedSimpArgs false

def idxF : List UInt8 := [105, 100, 120, 46]
def useF : List UInt8 := [117, 115, 101, 46]
/-- A front of four bytes, and a number in eight digits. -/
def nameF (f : List UInt8) (n : Int) : ByteArray := if 0 ≤ n ∧ n < 1048576 then ⟨(f ++ dig 8 n.toNat).toArray⟩ else ⟨#[]⟩
theorem nameF_nat (f : List UInt8) {m : Nat} (h : m < 1048576) : nameF f (m : Int) = ⟨(f ++ dig 8 m).toArray⟩ := by
  unfold nameF
  rw [if_pos (by omega)]
  rfl
theorem nameF_out (f : List UInt8) {n : Int} (h : ¬ (0 ≤ n ∧ n < 1048576)) : nameF f n = ⟨#[]⟩ := by
  unfold nameF
  rw [if_neg h]
theorem nameF_size {f : List UInt8} (hf : f.length = 4) (n : Int) : (nameF f n).size ≤ 12 := by
  unfold nameF
  split
  · show (f ++ dig 8 n.toNat).toArray.size ≤ 12
    simp [dig_length, hf]
  · exact Nat.zero_le _
end Go.Proofs.YtblgphfdicffcaaGreatDoor

/- Rows of bytes, and parts of them. It proves no statement. -/








namespace Go.Proofs.YtblgphfdicffcaaGreatDoor
open Go.RowKit
set_option linter.unusedVariables false
set_option linter.unusedSimpArgs false

theorem still_drewN {a w : World} (h : Still a w) (n : Nat) : Still a (w.drewN n) := ⟨h.os, h.tape, h.output, h.size, h.block⟩

/-- Integers that came in. -/
theorem ints_of_row {w : World} {a : Option Addr} {len cap : Nat} {zs : List Int} (h : RowIn .i64 w a len cap zs) :
    len ≤ 9223372036854775807 ∧ (∀ i, i < len → ∃ b o y, a = some ⟨b, o, none⟩ ∧ b < w.heap.size ∧ w.cell? ⟨b, o + i, none⟩ = some (.int .i64 y)) := by
  rcases h with ⟨rfl, rfl, rfl, rfl⟩ | ⟨x, rfl, hl, hm, hz, hc, hw⟩
  · exact ⟨by omega, fun i hi => by omega⟩
  · unfold maxLen at hm
    refine ⟨by omega, fun i hi => ?_⟩
    obtain ⟨b, o, sp⟩ := x
    have h00 := hc 0 (by omega)
    have hsp : sp = none := by simpa [Addr.add] using World.cell?_spot h00
    subst hsp
    have h0 := hc i (by omega)
    rw [Addr.add_lit] at h0
    exact ⟨b, o, zs.getD i 0, rfl, by simpa using World.block_lt_of_cell? w _ h0, h0⟩

theorem Reads.dropk {w : World} {B n k : Nat} {A : Option Addr} {l : List UInt8} (h : Reads w B A n l) (hk : k ≤ n) : Reads w B (A.map (·.add k)) (n - k) (l.drop k) := by
  refine ⟨by rw [List.length_drop, h.1], fun hn => ?_⟩
  obtain ⟨b, o, rfl, hb, hc⟩ := h.2 (by omega)
  refine ⟨b, o + k, by simp [Addr.add_lit], hb, fun i hi => ?_⟩
  have := hc (k + i) (by omega)
  rw [Nat.add_assoc, this]
  simp [List.getD]
theorem Reads.takek {w : World} {B n k : Nat} {A : Option Addr} {l : List UInt8} (h : Reads w B A n l) (hk : k ≤ n) : Reads w B A k (l.take k) := by
  have := h.take k
  rwa [show min n k = k by omega] at this
end Go.Proofs.YtblgphfdicffcaaGreatDoor

/- Contracts: rows of bytes copied, cut. It proves no statement. -/

namespace Go.Proofs.YtblgphfdicffcaaGreatDoor
open Go.RowKit
set_option linter.unusedVariables false
set_option linter.unusedSimpArgs false

/-- At most k bytes of a slice, k at least one. -/
theorem cut_any (A : Option Addr) (n c k : Nat) (l : List UInt8) (w : World) (B : Nat) (h : Reads w B A n l) (hc : n ≤ c) (hm : c ≤ 9223372036854775807) (hk : 1 ≤ k) :
    Calls Tryz.prog 51 #[.slice A n c, .int .i64 k] w fun e w' => e = .returned (.slice A (min n k) c) ∧ w = w' := by
  by_cases hlt : k < n
  · obtain ⟨b, o, rfl, hb, hcc⟩ := h.at_ (by omega)
    have hmin : min n k = k := by omega
    rw [hmin]
    go_enter Tryz.func51, Tryz.ntmps51
    go_wp2
    go_ret
    exact ⟨rfl, rfl⟩
  · have hmin : min n k = n := by omega
    rw [hmin]
    go_enter Tryz.func51, Tryz.ntmps51
    go_wp2
    go_ret
    exact ⟨rfl, rfl⟩

/-- A copy in memory of the call's own. -/
theorem copy_any (A : Option Addr) (n c : Nat) (l : List UInt8) (w : World) (B : Nat) (h : Reads w B A n l) (hn : n ≤ 140737488355328) (hA : A = none → n = 0 ∧ c = 0) :
    Calls Tryz.prog 50 #[.slice A n c] w fun e w' => (∃ v, e = .returned v ∧ w'.ownsRow w.heap.size 5 1 v n (bytesV l)) ∧ Still w w' := by
  go_enter Tryz.func50, Tryz.ntmps50
  go_wp2_with (at_builtin; go_must (refine wpList_adds _ rfl _ _ rfl w.heap.size _ 0 [] rfl (World.ownsRow_nil _ _ _ _) _ n c B l rfl h (fun e => (hA e).2) ?c1 ?c2 ?_))
  case c1 => omega
  case c2 => exact Nat.le_refl _
  intro v' w' hown hg _
  have hst : Still w w' := (Below.refl _ _).grown hg (Nat.le_refl _) (fun k hk => by simp [Value.ownBlock] at hk)
  have hown' : w'.ownsRow w.heap.size 5 1 v' n (bytesV l) := by simpa using hown
  clear hg hown
  go_wp2_with fail
  go_ret
  exact ⟨⟨_, rfl, hown'⟩, hst⟩

end Go.Proofs.YtblgphfdicffcaaGreatDoor

/- Contracts: rows of bytes compared. It proves no statement. -/








namespace Go.Proofs.YtblgphfdicffcaaGreatDoor
open Go.RowKit
set_option linter.unusedVariables false
set_option linter.unusedSimpArgs false

set_option maxHeartbeats 400000 in
theorem same_yes (A A' : Option Addr) (n c c' : Nat) (l : List UInt8) (w : World) (B B' : Nat) (h : Reads w B A n l) (h' : Reads w B' A' n l) (hn : n ≤ 9223372036854775807) :
    Calls Tryz.prog 18 #[.slice A n c, .slice A' n c'] w fun e w' => e = .returned (.bool true) ∧ Still w w' := by
  go_enter Tryz.func18, Tryz.ntmps18
  go_wp2_with fail
  go_loopw [5] (fun i wr => ∃ k : Nat, k ≤ n ∧ i = .int .i64 k ∧ Reads wr B A n l ∧ Reads wr B' A' n l ∧ Still w wr) (fun i _ => n - (intOf i).toNat)
  case atStart => exact ⟨0, Nat.zero_le _, rfl, h, h', Below.refl _ _⟩
  case round =>
    obtain ⟨k, hk, rfl, hr, hr', hst⟩ := hrel
    by_cases hlt : k < n
    · obtain ⟨b, o, rfl, hb, hc⟩ := hr.at_ (by omega)
      obtain ⟨b', o', rfl, hb', hc'⟩ := hr'.at_ (by omega)
      have c1 := hc k hlt
      have c2 := hc' k hlt
      clear hc hc'
      generalize (l.getD k 0).toNat = y at c1 c2
      have z1 : (0 : Int) ≤ (k : Int) := by omega
      have z2 : (k : Int) < (n : Int) := by omega
      go_wp2_with fail
      go_quiet (fail)
      go_wp2_with fail
      go_roundw
      case rel => exact ⟨k + 1, by omega, by go_num, hr, hr', still_drewN hst _⟩
      case measure => simp [intOf]; omega
    · obtain rfl : k = n := by omega
      go_wp2_with fail
      go_ret
      exact ⟨rfl, hst⟩
end Go.Proofs.YtblgphfdicffcaaGreatDoor

/- Plain facts on CRC-32: a register moved on, additive, never lost; a product in the field; sums of pieces; bursts. It names no program and proves no statement. -/

namespace Go.Proofs.YtblgphfdicffcaaGreatDoor
set_option linter.unusedVariables false
set_option linter.unusedSimpArgs false

/-- The polynomial, the highest power's coefficient lowest. -/
def crcPoly : Nat := 3988292384
/-- The register one place on. -/
def nx (x : Nat) : Nat := x / 2 ^^^ (if x % 2 = 1 then crcPoly else 0)
/-- So many places on. -/
def nxs : Nat → Nat → Nat
  | 0, x => x
  | k + 1, x => nxs k (nx x)

theorem xor_half (x y : Nat) : (x ^^^ y) / 2 = x / 2 ^^^ y / 2 := by
  apply Nat.eq_of_testBit_eq
  intro i
  simp [Nat.testBit_div_two]
theorem xor_odd (x y : Nat) : (x ^^^ y) % 2 = (x % 2 + y % 2) % 2 := by
  have h := Nat.testBit_xor x y 0
  simp only [Nat.testBit_zero] at h
  rcases Nat.mod_two_eq_zero_or_one x with a | a <;> rcases Nat.mod_two_eq_zero_or_one y with b | b <;> rcases Nat.mod_two_eq_zero_or_one (x ^^^ y) with c | c <;> simp [a, b, c] at h ⊢
theorem xor4 (a b c d : Nat) : (a ^^^ b) ^^^ (c ^^^ d) = (a ^^^ c) ^^^ (b ^^^ d) := by
  rw [Nat.xor_assoc, Nat.xor_assoc, ← Nat.xor_assoc b c d, Nat.xor_comm b c, Nat.xor_assoc c b d]
theorem nx_xor (x y : Nat) : nx (x ^^^ y) = nx x ^^^ nx y := by
  unfold nx
  rw [xor_half, xor4]
  congr 1
  rw [xor_odd]
  rcases Nat.mod_two_eq_zero_or_one x with a | a <;> rcases Nat.mod_two_eq_zero_or_one y with b | b <;> simp [a, b]
theorem nx_zero : nx 0 = 0 := rfl
theorem nxs_zero (k : Nat) : nxs k 0 = 0 := by
  induction k with
  | zero => rfl
  | succ k ih => rw [nxs, nx_zero, ih]
theorem nxs_xor (k x y : Nat) : nxs k (x ^^^ y) = nxs k x ^^^ nxs k y := by
  induction k generalizing x y with
  | zero => rfl
  | succ k ih => rw [nxs, nxs, nxs, nx_xor, ih]
theorem nxs_add (j k x : Nat) : nxs (j + k) x = nxs k (nxs j x) := by
  induction j generalizing x with
  | zero => simp [nxs]
  | succ j ih => rw [show j + 1 + k = (j + k) + 1 by omega, nxs, nxs, ih]
theorem nxs_succ (k x : Nat) : nxs (k + 1) x = nx (nxs k x) := by rw [nxs_add k 1]; rfl
theorem nx_lt (x : Nat) (h : x < 2 ^ 32) : nx x < 2 ^ 32 := by
  unfold nx
  apply Nat.xor_lt_two_pow
  · omega
  · split <;> decide
theorem nxs_lt (k x : Nat) (h : x < 2 ^ 32) : nxs k x < 2 ^ 32 := by
  induction k generalizing x with
  | zero => exact h
  | succ k ih => exact ih _ (nx_lt x h)
/-- Nothing is lost: the register is nought only where it was. -/
theorem nx_ne (x : Nat) (h : x < 2 ^ 32) (h0 : x ≠ 0) : nx x ≠ 0 := by
  unfold nx
  intro e
  split at e
  · have e2 : x / 2 = crcPoly := by
      have := congrArg (· ^^^ crcPoly) e
      simpa [Nat.xor_assoc] using this
    unfold crcPoly at e2
    omega
  · rw [Nat.xor_zero] at e
    omega
theorem nxs_ne (k x : Nat) (h : x < 2 ^ 32) (h0 : x ≠ 0) : nxs k x ≠ 0 := by
  induction k generalizing x with
  | zero => exact h0
  | succ k ih => exact ih _ (nx_lt x h) (nx_ne x h h0)
theorem nx_two (k : Nat) : nx (2 ^ (k + 1)) = 2 ^ k := by
  unfold nx
  rw [Nat.pow_succ]
  simp
theorem nxs_two (k j : Nat) : nxs k (2 ^ (k + j)) = 2 ^ j := by
  induction k generalizing j with
  | zero => simp [nxs]
  | succ k ih => rw [nxs, show k + 1 + j = (k + j) + 1 by omega, nx_two, ih]

/-- One byte more. -/
def crcByte (x : Nat) (b : UInt8) : Nat := nxs 8 (x ^^^ b.toNat)
/-- The register behind bytes. -/
def crcRun (x : Nat) (l : List UInt8) : Nat := l.foldl crcByte x
theorem crcRun_nil (x : Nat) : crcRun x [] = x := rfl
theorem crcRun_cons (x : Nat) (b : UInt8) (l : List UInt8) : crcRun x (b :: l) = crcRun (crcByte x b) l := rfl
theorem crcRun_append (x : Nat) (a b : List UInt8) : crcRun x (a ++ b) = crcRun (crcRun x a) b := by simp [crcRun]
theorem crcRun_lt (x : Nat) (l : List UInt8) (h : x < 2 ^ 32) : crcRun x l < 2 ^ 32 := by
  induction l generalizing x with
  | nil => exact h
  | cons b l ih => exact ih _ (nxs_lt _ _ (Nat.xor_lt_two_pow h (by have := b.toNat_lt; omega)))
/-- What the register was is moved on; what the bytes add hangs on them alone. -/
theorem crcRun_split (x : Nat) (l : List UInt8) : crcRun x l = nxs (8 * l.length) x ^^^ crcRun 0 l := by
  induction l generalizing x with
  | nil => simp [crcRun, nxs]
  | cons b l ih =>
    rw [crcRun_cons, crcRun_cons, ih, ih (crcByte 0 b)]
    unfold crcByte
    rw [nxs_xor, nxs_xor (8 * l.length), Nat.zero_xor, List.length_cons, show 8 * (l.length + 1) = 8 + 8 * l.length by omega, nxs_add, Nat.xor_assoc]

/-- 32 ones. -/
def ones32 : Nat := 4294967295
def crcAdd (s : Nat) (l : List UInt8) : Nat := crcRun (s ^^^ ones32) l ^^^ ones32
def crcSum (l : List UInt8) : Nat := crcAdd 0 l
def crcShift (s n : Nat) : Nat := nxs (8 * n) s
theorem crcAdd_lt (s : Nat) (l : List UInt8) (h : s < 2 ^ 32) : crcAdd s l < 2 ^ 32 :=
  Nat.xor_lt_two_pow (crcRun_lt _ _ (Nat.xor_lt_two_pow h (by decide))) (by decide)
theorem crcShift_lt (s n : Nat) (h : s < 2 ^ 32) : crcShift s n < 2 ^ 32 := nxs_lt _ _ h
theorem crcAdd_append (s : Nat) (a b : List UInt8) : crcAdd s (a ++ b) = crcAdd (crcAdd s a) b := by
  unfold crcAdd
  rw [crcRun_append]
  congr 2
  rw [Nat.xor_assoc, Nat.xor_self, Nat.xor_zero]
theorem xor_cancel (a b : Nat) : a ^^^ b ^^^ b = a := by rw [Nat.xor_assoc, Nat.xor_self, Nat.xor_zero]
theorem crcAdd_join (s : Nat) (b : List UInt8) : crcAdd s b = crcShift s b.length ^^^ crcSum b := by
  unfold crcSum crcAdd crcShift
  rw [crcRun_split, crcRun_split (0 ^^^ ones32), Nat.zero_xor, nxs_xor]
  rw [Nat.xor_assoc, Nat.xor_assoc, Nat.xor_assoc]
theorem crcAdd_diff (s : Nat) (a b : List UInt8) (h : a.length = b.length) : crcAdd s a ^^^ crcAdd s b = crcRun 0 a ^^^ crcRun 0 b := by
  unfold crcAdd
  rw [crcRun_split, crcRun_split (s ^^^ ones32) b, h, xor4, Nat.xor_self, Nat.xor_zero, xor4, Nat.xor_self, Nat.zero_xor]

/-- Two rows of bytes put to one another. -/
def xorBytes (a b : List UInt8) : List UInt8 := List.zipWith (· ^^^ ·) a b
theorem crcRun_xor (a b : List UInt8) (h : a.length = b.length) (x y : Nat) : crcRun x a ^^^ crcRun y b = crcRun (x ^^^ y) (xorBytes a b) := by
  induction a generalizing b x y with
  | nil =>
    rcases b with _ | ⟨c, b⟩
    · rfl
    · simp at h
  | cons c a ih =>
    rcases b with _ | ⟨d, b⟩
    · simp at h
    · rw [crcRun_cons, crcRun_cons, ih b (by simpa using h)]
      show _ = crcRun (crcByte (x ^^^ y) (c ^^^ d)) (xorBytes a b)
      congr 1
      unfold crcByte
      rw [← nxs_xor, UInt8.toNat_xor, xor4]

/-- A row of bytes, bit by bit: the register's way is the same. -/
theorem crcByte_bits (x b k : Nat) (hk : k ≤ 8) (hb : b < 256) : nxs (k + 1) (x ^^^ b % 2 ^ (k + 1)) = nx (nxs k (x ^^^ b % 2 ^ k) ^^^ b / 2 ^ k % 2) := by
  have e : b % 2 ^ (k + 1) = b % 2 ^ k ^^^ (b / 2 ^ k % 2) * 2 ^ k := by
    rw [Nat.pow_succ, Nat.mod_mul, Nat.mul_comm (2 ^ k)]
    apply Nat.eq_of_testBit_eq
    intro i
    have h1 : (b % 2 ^ k + b / 2 ^ k % 2 * 2 ^ k) = (b / 2 ^ k % 2 * 2 ^ k) ||| b % 2 ^ k := by
      rw [nat_join k _ _ (by simp) (Nat.mod_lt _ (Nat.two_pow_pos k)), Nat.add_comm]
    rw [h1, Nat.testBit_or, Nat.testBit_xor, Nat.testBit_mul_two_pow, Nat.testBit_mod_two_pow]
    by_cases h : i < k
    · simp [h, show ¬ k ≤ i by omega]
    · simp [h]
  rw [nxs_succ, e, ← Nat.xor_assoc, nxs_xor k _ (b / 2 ^ k % 2 * 2 ^ k)]
  congr 2
  rcases Nat.mod_two_eq_zero_or_one (b / 2 ^ k) with h | h
  · rw [h]; simp [nxs_zero]
  · rw [h, Nat.one_mul]
    have := nxs_two k 0
    simpa using this

/-- The product, coefficient by coefficient, the first k of them. -/
def prodTo (a b : Nat) : Nat → Nat
  | 0 => 0
  | k + 1 => prodTo a b k ^^^ (if a.testBit (31 - k) = true then nxs k b else 0)
theorem prodTo_lt (a b k : Nat) (hb : b < 2 ^ 32) : prodTo a b k < 2 ^ 32 := by
  induction k with
  | zero => simp [prodTo]
  | succ k ih =>
    rw [prodTo]
    refine Nat.xor_lt_two_pow ih ?_
    split
    · exact nxs_lt _ _ hb
    · exact Nat.two_pow_pos 32
theorem prodTo_xor (a a' b k : Nat) : prodTo (a ^^^ a') b k = prodTo a b k ^^^ prodTo a' b k := by
  induction k with
  | zero => simp [prodTo]
  | succ k ih =>
    rw [prodTo, prodTo, prodTo, ih, xor4, Nat.testBit_xor]
    congr 1
    cases a.testBit (31 - k) <;> cases a'.testBit (31 - k) <;> simp
theorem prodTo_xor' (a b b' k : Nat) : prodTo a (b ^^^ b') k = prodTo a b k ^^^ prodTo a b' k := by
  induction k with
  | zero => simp [prodTo]
  | succ k ih =>
    rw [prodTo, prodTo, prodTo, ih, xor4, nxs_xor]
    congr 1
    cases a.testBit (31 - k) <;> simp
theorem prodTo_nx (a b k : Nat) : prodTo a (nx b) k = nx (prodTo a b k) := by
  induction k with
  | zero => simp [prodTo, nx_zero]
  | succ k ih =>
    rw [prodTo, prodTo, ih, nx_xor]
    congr 1
    cases a.testBit (31 - k)
    · simp [nx_zero]
    · simp only [if_true]
      rw [← nxs_succ]
      rfl
theorem prodTo_nxs (a b k j : Nat) : prodTo a (nxs j b) k = nxs j (prodTo a b k) := by
  induction j generalizing b with
  | zero => rfl
  | succ j ih => rw [nxs, ih, prodTo_nx, nxs]
/-- What is additive on both sides and agrees on the powers of two agrees. -/
theorem lin_ext (f g : Nat → Nat) (hf : ∀ x y, f (x ^^^ y) = f x ^^^ f y) (hg : ∀ x y, g (x ^^^ y) = g x ^^^ g y) (m : Nat) (h : ∀ j, j < m → f (2 ^ j) = g (2 ^ j)) :
    ∀ x, x < 2 ^ m → f x = g x := by
  have f0 : f 0 = 0 := by have := hf 0 0; simpa using this
  have g0 : g 0 = 0 := by have := hg 0 0; simpa using this
  induction m with
  | zero =>
    intro x hx
    obtain rfl : x = 0 := by simpa using hx
    rw [f0, g0]
  | succ m ih =>
    intro x hx
    have e : x = x % 2 ^ m ^^^ (x / 2 ^ m) * 2 ^ m := by
      apply Nat.eq_of_testBit_eq
      intro i
      rw [Nat.testBit_xor, Nat.testBit_mul_two_pow, Nat.testBit_mod_two_pow, Nat.testBit_div_two_pow]
      by_cases hi : i < m
      · simp [hi, show ¬ m ≤ i by omega]
      · simp [hi, show i - m + m = i by omega, show m ≤ i by omega]
    have hd : x / 2 ^ m < 2 := by
      rw [Nat.pow_succ] at hx
      exact Nat.div_lt_of_lt_mul hx
    have hi := ih (fun j hj => h j (Nat.lt_succ_of_lt hj)) (x % 2 ^ m) (Nat.mod_lt _ (Nat.two_pow_pos m))
    rw [congrArg f e, congrArg g e, hf, hg, hi]
    congr 1
    generalize x / 2 ^ m = q at hd
    clear e hi
    rcases (show q = 0 ∨ q = 1 by omega) with h0 | h0
    · rw [h0, Nat.zero_mul, f0, g0]
    · rw [h0, Nat.one_mul]
      exact h m (by omega)
/-- The one, as sums have it. -/
def crcOne : Nat := 2147483648
theorem nxs_one (k : Nat) (h : k ≤ 31) : nxs k crcOne = 2 ^ (31 - k) := by
  have := nxs_two k (31 - k)
  rw [show k + (31 - k) = 31 by omega] at this
  exact this
theorem prod_one (b : Nat) : prodTo crcOne b 32 = b := by
  have h : ∀ k, prodTo crcOne b (k + 1) = b := by
    intro k
    induction k with
    | zero => simp [prodTo, crcOne, nxs, show Nat.testBit 2147483648 31 = true from by decide]
    | succ k ih =>
      rw [prodTo, ih]
      have e : crcOne.testBit (31 - (k + 1)) = false := by
        unfold crcOne
        rw [show (2147483648 : Nat) = 2 ^ 31 by rfl, Nat.testBit_two_pow]
        simp; omega
      rw [e]
      simp
  exact h 31
theorem prod_one' (a : Nat) (h : a < 2 ^ 32) : prodTo a crcOne 32 = a := by
  refine lin_ext (fun a => prodTo a crcOne 32) (fun a => a) (fun x y => prodTo_xor x y _ _) (fun _ _ => rfl) 32 (fun j hj => ?_) a h
  have e : (2 : Nat) ^ j = nxs (31 - j) crcOne := by rw [nxs_one _ (by omega), show 31 - (31 - j) = j by omega]
  show prodTo (2 ^ j) crcOne 32 = 2 ^ j
  have hk : ∀ k, k ≤ 32 → prodTo (2 ^ j) crcOne k = if 31 - j < k then 2 ^ j else 0 := by
    intro k hk
    induction k with
    | zero => simp [prodTo]
    | succ k ih =>
      rw [prodTo, ih (by omega), Nat.testBit_two_pow]
      by_cases c : 31 - j < k
      · simp [c, show 31 - j < k + 1 by omega, show ¬ j = 31 - k by omega]
      · by_cases d : 31 - j = k
        · have d2 : j = 31 - k := by omega
          rw [nxs_one k (by omega)]
          simp [d2, show 31 - (31 - k) = k by omega]
        · simp [c, show ¬ 31 - j < k + 1 by omega, show ¬ j = 31 - k by omega]
  rw [hk 32 (by omega), if_pos (by omega)]
theorem prod_poly (b : Nat) (h : b < 2 ^ 32) : prodTo crcPoly b 32 = nxs 32 b := by
  refine lin_ext (fun b => prodTo crcPoly b 32) (fun b => nxs 32 b) (fun x y => prodTo_xor' _ x y _) (fun x y => nxs_xor 32 x y) 32 (fun j hj => ?_) b h
  have e : (2 : Nat) ^ j = nxs (31 - j) crcOne := by rw [nxs_one _ (by omega), show 31 - (31 - j) = j by omega]
  show prodTo crcPoly (2 ^ j) 32 = nxs 32 (2 ^ j)
  rw [e, prodTo_nxs, prod_one' crcPoly (by decide), ← nxs_add, Nat.add_comm, nxs_add]
  congr 1
theorem prod_half (a b k : Nat) (ha : a < 2 ^ 32) (hk : k ≤ 31) : prodTo (a / 2) b (k + 1) = nx (prodTo a b k) := by
  induction k with
  | zero =>
    rw [prodTo, prodTo, prodTo]
    have e : (a / 2).testBit (31 - 0) = false := by
      rw [Nat.testBit_div_two]
      exact Nat.testBit_lt_two_pow ha
    simp [e, nx_zero]
  | succ k ih =>
    rw [prodTo, ih (by omega), prodTo, nx_xor, Nat.testBit_div_two, show 31 - (k + 1) + 1 = 31 - k by omega]
    congr 1
    cases a.testBit (31 - k)
    · simp [nx_zero]
    · simp [nxs_succ]
theorem prod_nx (a b : Nat) (ha : a < 2 ^ 32) (hb : b < 2 ^ 32) : prodTo (nx a) b 32 = nx (prodTo a b 32) := by
  have h1 : prodTo (a / 2) b 32 = nx (prodTo a b 31) := prod_half a b 31 ha (Nat.le_refl _)
  have h2 : prodTo a b 32 = prodTo a b 31 ^^^ (if a.testBit 0 = true then nxs 31 b else 0) := rfl
  rw [h2, nx_xor, ← h1]
  unfold nx
  rw [prodTo_xor]
  congr 1
  rw [Nat.testBit_zero]
  rcases Nat.mod_two_eq_zero_or_one a with h | h
  · have : ∀ k, prodTo 0 b k = 0 := by
      intro k
      induction k with
      | zero => rfl
      | succ k ih => rw [prodTo, ih]; simp
    simp [h, this]
  · simp only [h, if_true, decide_true]
    rw [prod_poly b hb]
    exact nxs_succ 31 b
theorem prod_nxs (i b : Nat) (hb : b < 2 ^ 32) : prodTo (nxs i crcOne) b 32 = nxs i b := by
  induction i with
  | zero => exact prod_one b
  | succ i ih => rw [nxs_succ, prod_nx _ _ (nxs_lt _ _ (by decide)) hb, ih, nxs_succ]
theorem prod_shift (s n : Nat) (hs : s < 2 ^ 32) : prodTo s (nxs n crcOne) 32 = nxs n s := by
  rw [prodTo_nxs, prod_one' s hs]
end Go.Proofs.YtblgphfdicffcaaGreatDoor

/- Contracts: the document's own answer for CRC-32. It proves no statement. -/



namespace Go.Proofs.YtblgphfdicffcaaGreatDoor
open Go.RowKit
set_option linter.unusedVariables false
set_option linter.unusedSimpArgs false

theorem u32_poly (x : Nat) (hx : x < 4294967296) : bits BinOp.xor IntKind.u32 (x : Int) 3988292384 = ((x ^^^ crcPoly : Nat) : Int) := u32_xor_nat x crcPoly hx (by decide)
theorem u32_ones (x : Nat) (hx : x < 4294967296) : bits BinOp.xor IntKind.u32 (x : Int) 4294967295 = ((x ^^^ ones32 : Nat) : Int) := u32_xor_nat x ones32 hx (by decide)
theorem u32_low (x : Nat) (hx : x < 4294967296) : bits BinOp.and IntKind.u32 (x : Int) 1 = ((x % 2 : Nat) : Int) := by
  have h := u32_and_nat x 1 hx (by omega)
  rw [nat_mask1] at h
  exact h
theorem u8_low (x : Nat) (hx : x < 256) : bits BinOp.and IntKind.u8 (x : Int) 1 = ((x % 2 : Nat) : Int) := by
  have h := u8_and_nat x 1 hx (by omega)
  rw [nat_mask1] at h
  exact h
theorem int_half (x : Nat) : (x : Int) / 2 = ((x / 2 : Nat) : Int) := by simp
theorem nx_odd (x : Nat) (h : x % 2 = 1) : nx x = x / 2 ^^^ crcPoly := by simp [nx, h]
theorem nx_even (x : Nat) (h : x % 2 = 0) : nx x = x / 2 := by simp [nx, h]

/-- One bit, as it is told there. -/
theorem nx_bit (x d : Nat) (hd : d = 0 ∨ d = 1) : nx (x ^^^ d) = if x % 2 = d then x / 2 else x / 2 ^^^ crcPoly := by
  unfold nx
  rw [xor_half, xor_odd]
  rcases hd with rfl | rfl <;> rcases Nat.mod_two_eq_zero_or_one x with h | h <;> simp [h]


theorem u32_xor_cast (x y : Nat) (hx : x < 4294967296) (hy : y < 4294967296) : bits BinOp.xor IntKind.u32 (x : Int) (y : Int) = ((x ^^^ y : Nat) : Int) := u32_xor_nat x y hx hy

end Go.Proofs.YtblgphfdicffcaaGreatDoor
