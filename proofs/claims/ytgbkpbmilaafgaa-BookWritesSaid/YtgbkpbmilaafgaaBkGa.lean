/- Contracts and facts, several texts in one. It proves no statement. -/
import Derived.Test.YtgbkpbmilaafgaaRows
import Derived.WalkKit
import Derived.WalkLawsBesides
import Derived.WalkSpells
import Derived.Laws.AppendOwnNone
import Derived.Maps.AppendAt
import Derived.Deep.Draws
import Derived.Deep.AppendLies
import Derived.Lib.Hide
import Derived.ProofKit
import Derived.OpenShut

/- Words for memory that the other texts of this seat use: bytes as values, a slice that reads as bytes, worlds in which nothing that was there has turned. It proves no statement. -/











namespace Go.Proofs.Ytgbkpbmilaafgaa
open Go.RowKit Go.ChangeShapes Go.WideShapes Go.ChangeAt
set_option linter.unusedVariables false
set_option linter.unusedSimpArgs false

/-- Bytes as the model's values. -/
def bytesV (l : List UInt8) : List Value := l.map (fun b => Value.int .u8 (b.toNat : Int))

theorem bytesV_length (l : List UInt8) : (bytesV l).length = l.length := by simp [bytesV]
theorem bytesV_nil : bytesV [] = [] := rfl
theorem bytesV_append (a b : List UInt8) : bytesV (a ++ b) = bytesV a ++ bytesV b := by simp [bytesV]
theorem bytesV_one (l : List UInt8) : ∀ u ∈ bytesV l, u.oneCell' = true := by
  intro u hu
  obtain ⟨_, _, rfl⟩ := List.mem_map.1 hu
  rfl
theorem bytesV_get (l : List UInt8) (i : Nat) (h : i < l.length) : (bytesV l)[i]? = some (Value.int .u8 ((l.getD i 0).toNat : Int)) := by
  simp [bytesV, h]
theorem bytesV_set (l : List UInt8) (i : Nat) (b : UInt8) : (bytesV l).set i (Value.int .u8 (b.toNat : Int)) = bytesV (l.set i b) := by
  simp [bytesV, List.map_set]
theorem bytesV_rep (n : Nat) : List.replicate n (Value.int .u8 0) = bytesV (List.replicate n 0) := by simp [bytesV]
theorem bytesV_take (l : List UInt8) (k : Nat) : bytesV (l.take k) = (bytesV l).take k := by simp [bytesV, List.map_take]
theorem bytesV_drop (l : List UInt8) (k : Nat) : bytesV (l.drop k) = (bytesV l).drop k := by simp [bytesV, List.map_drop]

/-- Nothing that was there has turned. -/
abbrev Still (w w' : World) : Prop := Below w.heap.size w w'
theorem Still.refl (w : World) : Still w w := Below.refl _ _
theorem Still.trans {a b c : World} (h : Still a b) (k : Still b c) : Still a c := Below.trans h (k.mono h.size)

/-- The slice at A, of n bytes, reads as l, below block B. -/
def Reads (w : World) (B : Nat) (A : Option Addr) (n : Nat) (l : List UInt8) : Prop :=
  l.length = n ∧ (0 < n → ∃ b o, A = some ⟨b, o, none⟩ ∧ b < B ∧ ∀ i, i < n → w.cell? ⟨b, o + i, none⟩ = some (Value.int .u8 ((l.getD i 0).toNat : Int)))

section
variable {w w' : World} {B B' n : Nat} {A : Option Addr} {l : List UInt8}
theorem Reads.len (h : Reads w B A n l) : l.length = n := h.1
theorem Reads.nil0 : Reads w B A 0 [] := ⟨rfl, fun h => absurd h (by omega)⟩
theorem Reads.at_ (h : Reads w B A n l) (hn : 0 < n) : ∃ b o, A = some ⟨b, o, none⟩ ∧ b < B ∧ ∀ i, i < n → w.cell? ⟨b, o + i, none⟩ = some (Value.int .u8 ((l.getD i 0).toNat : Int)) := h.2 hn
theorem Reads.keep (h : Reads w B A n l) (hk : ∀ p : Addr, p.block < B → w'.cell? p = w.cell? p) : Reads w' B A n l :=
  ⟨h.1, fun hn => by
    obtain ⟨b, o, e, hb, hc⟩ := h.2 hn
    exact ⟨b, o, e, hb, fun i hi => (hk _ hb).trans (hc i hi)⟩⟩
theorem Reads.more (h : Reads w B A n l) (hB : B ≤ B') : Reads w B' A n l :=
  ⟨h.1, fun hn => by
    obtain ⟨b, o, e, hb, hc⟩ := h.2 hn
    exact ⟨b, o, e, by omega, hc⟩⟩
theorem Reads.below (h : Reads w B A n l) (hb : Below B w w') : Reads w' B A n l := h.keep fun _ hp => hb.cell hp
theorem Reads.still (h : Reads w B A n l) (hB : B ≤ w.heap.size) (hb : Still w w') : Reads w' B A n l := h.below (hb.mono hB)
theorem Reads.news (h : Reads w B A n l) : ∀ ad, A = some ad → 0 < n → ∀ j u, (bytesV l)[j]? = some u → w.cell? (ad.add j) = some u := by
  intro ad hA hn j u hu
  obtain ⟨b, o, e, _, hc⟩ := h.2 hn
  rw [e] at hA
  obtain rfl := Option.some.inj hA
  have hj : j < l.length := by
    have := (List.getElem?_eq_some_iff.1 hu).1
    rwa [bytesV_length] at this
  rw [bytesV_get l j hj] at hu
  rw [Addr.add_lit]
  rw [← hu]
  exact hc j (by rw [← h.1]; exact hj)
theorem Reads.take (h : Reads w B A n l) (k : Nat) : Reads w B A (min n k) (l.take k) := by
  refine ⟨by rw [List.length_take, h.1]; omega, fun hn => ?_⟩
  obtain ⟨b, o, e, hb, hc⟩ := h.2 (by omega)
  refine ⟨b, o, e, hb, fun i hi => ?_⟩
  rw [hc i (by omega)]
  have : (l.take k).getD i 0 = l.getD i 0 := by simp [List.getD, List.getElem?_take, show i < k by omega]
  rw [this]
theorem Reads.cellAt {b o : Nat} (h : Reads w B (some ⟨b, o, none⟩) n l) (i : Nat) (hi : i < n) : w.cell? ⟨b, o + i, none⟩ = some (Value.int .u8 ((l.getD i 0).toNat : Int)) := by
  obtain ⟨b', o', e, _, hc⟩ := h.2 (by omega)
  simp only [Option.some.injEq, Addr.mk.injEq, and_true] at e
  obtain ⟨rfl, rfl⟩ := e
  exact hc i hi
/-- What the call owns reads. -/
theorem Reads.of_own {base cap : Nat} (h : w.ownsRow base 5 1 (.slice A n cap) n (bytesV l)) : Reads w w.heap.size A n l := by
  have hl : l.length = n := by have := h.1; rw [bytesV_length] at this; omega
  refine ⟨hl, fun hn => ?_⟩
  rcases h.2 with ⟨_, h0⟩ | ⟨g, c, cur, hv, _, hg, _⟩
  · omega
  · have e : A = some ⟨g, 0, none⟩ := by injection hv
    subst e
    refine ⟨g, 0, rfl, (Array.getElem?_eq_some_iff.1 hg).1, fun i hi => ?_⟩
    have := h.cellAt i (by omega)
    rw [Nat.zero_add, this, bytesV_get l i (by omega)]
end

theorem Try.infoByte : (Try.prog.info? 5).map (fun i => (i.zero, i.size, i.bytes)) = some (some (.int .u8 0), 1, 1) := by kernel_rfl

/-- The bytes of a constant text, laid as a row of its own. -/
theorem const_reads (w : World) (l : List UInt8) (fr : Nat × Nat) : Reads (w.alloc (.cells (bytesV l).toArray 5 fr)) (w.heap.size + 1) (some ⟨w.heap.size, 0, none⟩) l.length l := by
  refine ⟨rfl, fun hn => ⟨w.heap.size, 0, rfl, by omega, fun i hi => ?_⟩⟩
  have hh : (w.alloc (.cells (bytesV l).toArray 5 fr)).heap[w.heap.size]? = some (.cells (bytesV l).toArray 5 fr) := heap_alloc_new w _
  rw [Nat.zero_add, cell_of_row _ w.heap.size i _ _ fr hh]
  have := bytesV_get l i hi
  simpa using this

/-- What is told of a slice of integers that came in. -/
def RowIn (k : IntKind) (w : World) (a : Option Addr) (len cap : Nat) (zs : List Int) : Prop :=
  (a = none ∧ len = 0 ∧ cap = 0 ∧ zs = []) ∨
  ∃ x, a = some x ∧ len ≤ cap ∧ cap ≤ maxLen ∧ zs.length = cap ∧ (∀ i, i < zs.length → w.cell? (x.add i) = some (.int k (zs.getD i 0))) ∧ ∀ n ∈ zs, (Lit.int k n).wf = true
/-- Bytes that came in read. -/
theorem reads_of_row {w : World} {a : Option Addr} {len cap : Nat} {zs : List Int} (h : RowIn .u8 w a len cap zs) :
    ∃ l, Reads w w.heap.size a len l ∧ len ≤ cap ∧ cap ≤ 9223372036854775807 ∧ (a = none → len = 0 ∧ cap = 0) := by
  rcases h with ⟨rfl, rfl, rfl, rfl⟩ | ⟨x, rfl, hl, hm, hz, hc, hw⟩
  · exact ⟨[], Reads.nil0, Nat.le_refl _, by omega, fun _ => ⟨rfl, rfl⟩⟩
  · refine ⟨(zs.take len).map (fun z => UInt8.ofNat z.toNat), ⟨by simp; omega, fun hn => ?_⟩, hl, by unfold maxLen at hm; omega, fun e => by cases e⟩
    obtain ⟨b, o, sp⟩ := x
    have h0 := hc 0 (by omega)
    have hsp : sp = none := by simpa [Addr.add] using World.cell?_spot h0
    subst hsp
    refine ⟨b, o, rfl, by simpa [Addr.add] using World.block_lt_of_cell? w _ h0, fun i hi => ?_⟩
    have hi' := hc i (by omega)
    rw [Addr.add_lit] at hi'
    rw [hi']
    have hb := hw (zs.getD i 0) (by
      simp only [List.getD, List.getElem?_eq_getElem (show i < zs.length by omega), Option.getD_some]
      exact List.getElem_mem _)
    have hbb : 0 ≤ zs.getD i 0 ∧ zs.getD i 0 ≤ 255 := bounds_u8 hb
    have e : (((zs.take len).map (fun z => UInt8.ofNat z.toNat)).getD i 0).toNat = (zs.getD i 0).toNat := by
      have e1 : ((zs.take len).map (fun z => UInt8.ofNat z.toNat)).getD i 0 = UInt8.ofNat (zs.getD i 0).toNat := by
        simp [List.getD, hi, show i < zs.length by omega]
      rw [e1]
      simp only [UInt8.toNat_ofNat']
      omega
    rw [e]
    congr 2
    omega

/-- What the call owns is a slice. -/
theorem own_form {w : World} {base n : Nat} {v : Value} {xs : List Value} (h : w.ownsRow base 5 1 v n xs) :
    ∃ A c, v = .slice A n c ∧ n ≤ c ∧ c ≤ 9223372036854775807 ∧ (A = none → n = 0 ∧ c = 0) := by
  rcases h.2 with ⟨rfl, rfl⟩ | ⟨g, cap, cur, rfl, _, _, hnc, hm, _⟩
  · exact ⟨none, 0, rfl, Nat.le_refl _, by omega, fun _ => ⟨rfl, rfl⟩⟩
  · exact ⟨_, cap, rfl, hnc, by unfold maxLen at hm; omega, fun e => by cases e⟩
/-- What the call owns stays where nothing that was there turns. -/
theorem own_still {w w' : World} {base n : Nat} {v : Value} {xs : List Value} (h : w.ownsRow base 5 1 v n xs) (hs : Still w w') : w'.ownsRow base 5 1 v n xs := by
  refine h.kept (row := none) ⟨hs.os, hs.tape, hs.output, hs.size, fun k hk _ => hs.block k hk⟩ ?_
  cases v.ownBlock <;> simp

/-- 'b = append(b, e)': one byte more on a row of the call's own. -/
theorem wpList_push (w : World) {ops : Array Oper} {rest : List Oper} {o : Oper} {a : Act} {Q : Exit → Act → World → Prop} (hgd : o.guard = none) (s x : Operand)
    (ho : o.op = .call { callee := .builtin .append, args := #[s, x], argTypes := #[27, 27] })
    (base : Nat) (v : Value) (n : Nat) (l : List UInt8) (hs : a.eval s = v) (hown : w.ownsRow base 5 1 v n (bytesV l)) (e : Int) (b : UInt8)
    (hx : a.eval x = .slice (some ⟨w.heap.size, 0, none⟩) 1 1) (he : e = (b.toNat : Int)) (hn : n < 140737488355328) (hbase : base ≤ w.heap.size)
    (h : ∀ v' w', w'.ownsRow base 5 1 v' (n + 1) (bytesV (l ++ [b])) → w.grownBy w' v.ownBlock → (v' = .slice none 0 0 → False) → wpList Try.prog ops Q rest (a.put o.dst v') w') :
    wpList Try.prog ops Q (o :: rest) a (w.alloc (.cells #[.int .u8 e] 5)) := by
  obtain ⟨i0, hi, hz0, hz1, hz2⟩ := info_parts Try.infoByte
  subst he
  refine wpList_append_own _ hgd s x 27 ho base 5 i0 (.int .u8 0) 1 1 Try.underlying27 hi hz0 hz1 hz2 rfl (by decide) v n _ hs (hown.alloc _) ⟨w.heap.size, 0, none⟩ 1 1 (bytesV [b]) hx rfl ?_ (bytesV_one _) (by unfold maxLen; omega) (by omega) (by simp; omega) ?_
  · intro j u hu
    match j, hu with
    | 0, hu => simp [bytesV] at hu; subst hu; simp [Addr.add]
  · intro v' w' h2 h3 h4
    rw [← bytesV_append] at h2
    refine h v' w' h2 ⟨h3.os, h3.tape, h3.output, by have := h3.size; simp at this; omega, fun k hk hne => ?_⟩ ?_
    · rw [h3.block k (by simp; omega) hne]
      exact Below.heap_alloc w _ k hk
    · intro e
      exact absurd (h4.1 e).2 (by decide)

/-- 'append(b, c...)': bytes that lie anywhere on a row of the call's own. -/
theorem run_adds (w : World) (ty : TypeId) (base : Nat) (v : Value) (n : Nat) (l : List UInt8) (hown : w.ownsRow base 5 1 v n (bytesV l)) (A : Option Addr) (n' c' : Nat) (B : Nat) (l' : List UInt8)
    (hr : Reads w B A n' l') (hA : A = none → c' = 0) (hn : n + n' ≤ 140737488355328) (hbase : base ≤ w.heap.size) :
    ∃ v' w', (Builtin.append_ #[27, 27] ty #[v, .slice A n' c']).run Try.prog w = .ok v' w' ∧ w'.ownsRow base 5 1 v' (n + n') (bytesV (l ++ l')) ∧ w.grownBy w' v.ownBlock ∧ (v' = .slice none 0 0 → v = .slice none 0 0 ∧ n' = 0) := by
  obtain ⟨i0, hi, hz0, hz1, hz2⟩ := info_parts Try.infoByte
  rcases A with _ | ad
  · have h0 : n' = 0 := by
      rcases Nat.eq_zero_or_pos n' with h0 | h0
      · exact h0
      · obtain ⟨_, _, e, _⟩ := hr.2 h0
        cases e
    subst h0
    have hl : l' = [] := List.eq_nil_of_length_eq_zero hr.1
    subst hl
    obtain rfl := hA rfl
    exact ⟨v, w, run_append_owned_none (P := Try.prog) w base 27 ty 5 i0 1 Try.underlying27 hi v n _ hown, by simpa using hown, World.grownBy.refl _ _, fun e => ⟨e, rfl⟩⟩
  · have hnews : ∀ j u, (bytesV l')[j]? = some u → w.cell? (ad.add j) = some u := by
      intro j u hu
      rcases Nat.eq_zero_or_pos n' with h0 | h0
      · subst h0
        have hl : l' = [] := List.eq_nil_of_length_eq_zero hr.1
        subst hl
        simp [bytesV] at hu
      · exact hr.news ad rfl h0 j u hu
    obtain ⟨v', w', hrun, h2, h3, h4⟩ := run_append_own (P := Try.prog) w base 27 ty 5 i0 (.int .u8 0) 1 1 Try.underlying27 hi hz0 hz1 hz2 rfl (by decide) v n _ hown ad n' c' (bytesV l') (by rw [bytesV_length, hr.1]; omega) hnews (bytesV_one _) (by unfold maxLen; omega) (by omega) hbase
    rw [← bytesV_append] at h2
    exact ⟨v', w', hrun, h2, h3, h4.1⟩
theorem wp_adds (w : World) {o : Oper} {a : Act} {K : Act → World → Prop} {Q : Exit → Act → World → Prop} (s x : Operand)
    (ho : o.op = .call { callee := .builtin .append, args := #[s, x], argTypes := #[27, 27] })
    (base : Nat) (v : Value) (n : Nat) (l : List UInt8) (hs : a.eval s = v) (hown : w.ownsRow base 5 1 v n (bytesV l)) (A : Option Addr) (n' c' : Nat) (B : Nat) (l' : List UInt8)
    (hx : a.eval x = .slice A n' c') (hr : Reads w B A n' l') (hA : A = none → c' = 0) (hn : n + n' ≤ 140737488355328) (hbase : base ≤ w.heap.size)
    (h : ∀ v' w', w'.ownsRow base 5 1 v' (n + n') (bytesV (l ++ l')) → w.grownBy w' v.ownBlock → (v' = .slice none 0 0 → v = .slice none 0 0 ∧ n' = 0) → K (a.put o.dst v') w') : o.wp Try.prog a w K Q := by
  obtain ⟨v', w', hrun, h2, h3, h4⟩ := run_adds w o.type base v n l hown A n' c' B l' hr hA hn hbase
  unfold Oper.wp execOp
  simp only [ho, resolve, invoke, builtin, Sem.run_bind, Sem.run_pure, Result.andThen_ok, List.map_toArray, List.map_cons, List.map_nil, hs, hx, hrun]
  exact h v' w' h2 h3 h4
theorem wpList_adds (w : World) {ops : Array Oper} {rest : List Oper} {o : Oper} {a : Act} {Q : Exit → Act → World → Prop} (hgd : o.guard = none) (s x : Operand)
    (ho : o.op = .call { callee := .builtin .append, args := #[s, x], argTypes := #[27, 27] })
    (base : Nat) (v : Value) (n : Nat) (l : List UInt8) (hs : a.eval s = v) (hown : w.ownsRow base 5 1 v n (bytesV l)) (A : Option Addr) (n' c' : Nat) (B : Nat) (l' : List UInt8)
    (hx : a.eval x = .slice A n' c') (hr : Reads w B A n' l') (hA : A = none → c' = 0) (hn : n + n' ≤ 140737488355328) (hbase : base ≤ w.heap.size)
    (h : ∀ v' w', w'.ownsRow base 5 1 v' (n + n') (bytesV (l ++ l')) → w.grownBy w' v.ownBlock → (v' = .slice none 0 0 → v = .slice none 0 0 ∧ n' = 0) → wpList Try.prog ops Q rest (a.put o.dst v') w') :
    wpList Try.prog ops Q (o :: rest) a w :=
  wpList_plain hgd fun _ hK => wp_adds w s x ho base v n l hs hown A n' c' B l' hx hr hA hn hbase fun v' w' h2 h3 h4 => hK _ _ (h v' w' h2 h3 h4)
/-- The same at a step of a region that draws its order. -/
theorem step_adds (w : World) {ops : Array Oper} {o : Oper} {a : Act} {K : Act → World → Prop} {Q : Exit → Act → World → Prop} {E : Prop} (hgd : o.guard = none) (s x : Operand)
    (ho : o.op = .call { callee := .builtin .append, args := #[s, x], argTypes := #[27, 27] })
    (base : Nat) (v : Value) (n : Nat) (l : List UInt8) (hs : a.eval s = v) (hown : w.ownsRow base 5 1 v n (bytesV l)) (A : Option Addr) (n' c' : Nat) (B : Nat) (l' : List UInt8)
    (hx : a.eval x = .slice A n' c') (hr : Reads w B A n' l') (hA : A = none → c' = 0) (hn : n + n' ≤ 140737488355328) (hbase : base ≤ w.heap.size)
    (h : ∀ v' w', w'.ownsRow base 5 1 v' (n + n') (bytesV (l ++ l')) → w.grownBy w' v.ownBlock → (v' = .slice none 0 0 → v = .slice none 0 0 ∧ n' = 0) → K (a.put o.dst v') w') :
    if Region.wanted o (yielded ops a.tmps) = true then Oper.wp Try.prog o a w K Q else E := by
  have hw : Region.wanted o (yielded ops a.tmps) = true := by simp [Region.wanted, hgd]
  rw [if_pos hw]
  exact wp_adds w s x ho base v n l hs hown A n' c' B l' hx hr hA hn hbase h

/-- 'append(b, e)' at a step of a region that draws its order; the new byte lies in a box of its own. -/
theorem run_push (w : World) (ty : TypeId) (base : Nat) (v : Value) (n : Nat) (l : List UInt8) (hown : w.ownsRow base 5 1 v n (bytesV l)) (g : Nat) (b : UInt8)
    (hc : w.cell? ⟨g, 0, none⟩ = some (.int .u8 (b.toNat : Int))) (hn : n < 140737488355328) (hbase : base ≤ w.heap.size) :
    ∃ v' w', (Builtin.append_ #[27, 27] ty #[v, .slice (some ⟨g, 0, none⟩) 1 1]).run Try.prog w = .ok v' w' ∧ w'.ownsRow base 5 1 v' (n + 1) (bytesV (l ++ [b])) ∧ w.grownBy w' v.ownBlock ∧ (v'.ownBlock = v.ownBlock ∨ v'.ownBlock = some w.heap.size) := by
  obtain ⟨i0, hi, hz0, hz1, hz2⟩ := info_parts Try.infoByte
  obtain ⟨v', w', hrun, h2, h3, _, h5⟩ := run_append_own_at (P := Try.prog) w base 27 ty 5 i0 (.int .u8 0) 1 1 Try.underlying27 hi hz0 hz1 hz2 rfl (by decide) v n _ hown ⟨g, 0, none⟩ 1 1 (bytesV [b]) rfl (fun j u hu => by
    match j, hu with
    | 0, hu => simp [bytesV] at hu; subst hu; simpa [Addr.add] using hc) (bytesV_one _) (by unfold maxLen; omega) (by omega) hbase
  rw [← bytesV_append] at h2
  exact ⟨v', w', hrun, h2, h3, h5⟩
theorem step_push (w : World) {ops : Array Oper} {o : Oper} {a : Act} {K : Act → World → Prop} {Q : Exit → Act → World → Prop} {E : Prop} (hgd : o.guard = none) (s x : Operand)
    (ho : o.op = .call { callee := .builtin .append, args := #[s, x], argTypes := #[27, 27] })
    (base : Nat) (v : Value) (n : Nat) (l : List UInt8) (hs : a.eval s = v) (hown : w.ownsRow base 5 1 v n (bytesV l)) (g : Nat) (b : UInt8)
    (hx : a.eval x = .slice (some ⟨g, 0, none⟩) 1 1) (hc : w.cell? ⟨g, 0, none⟩ = some (.int .u8 (b.toNat : Int))) (hn : n < 140737488355328) (hbase : base ≤ w.heap.size)
    (h : ∀ v' w', w'.ownsRow base 5 1 v' (n + 1) (bytesV (l ++ [b])) → w.grownBy w' v.ownBlock → (v'.ownBlock = v.ownBlock ∨ v'.ownBlock = some w.heap.size) → K (a.put o.dst v') w') :
    if Region.wanted o (yielded ops a.tmps) = true then Oper.wp Try.prog o a w K Q else E := by
  have hw : Region.wanted o (yielded ops a.tmps) = true := by simp [Region.wanted, hgd]
  rw [if_pos hw]
  obtain ⟨v', w', hrun, h2, h3, h4⟩ := run_push w o.type base v n l hown g b hc hn hbase
  unfold Oper.wp execOp
  simp only [ho, resolve, invoke, builtin, Sem.run_bind, Sem.run_pure, Result.andThen_ok, List.map_toArray, List.map_cons, List.map_nil, hs, hx, hrun]
  exact h v' w' h2 h3 h4

end Go.Proofs.Ytgbkpbmilaafgaa

/- Mathematics of open addressed slots: searches, keys put and taken away. It proves no statement. -/

namespace Go.Proofs.Ytgbkpbmilaafgaa
set_option linter.unusedVariables false
set_option linter.unusedSimpArgs false

/-- A slot. -/
inductive Sl where
  | empty : Sl
  | dead : Sl
  | full : List UInt8 → List Int → Sl
def Sl.ends (k : List UInt8) : Sl → Bool
  | .empty => true
  | .dead => false
  | .full k' _ => decide (k' = k)
def Sl.pair : Sl → Option (List UInt8 × List Int)
  | .full k v => some (k, v)
  | _ => none
def Sl.isFull : Sl → Bool
  | .full _ _ => true
  | _ => false
def Sl.isDead : Sl → Bool
  | .dead => true
  | _ => false
def Sl.key : Sl → List UInt8
  | .full k _ => k
  | _ => List.replicate 32 0
def Sl.val (m : Nat) : Sl → List Int
  | .full _ v => v
  | _ => List.replicate m 0
def Sl.st : Sl → Nat
  | .empty => 0
  | .dead => 1
  | .full _ _ => 2
def fulls (S : List Sl) : List (List UInt8 × List Int) := S.filterMap Sl.pair
def keysN (S : List Sl) : Nat := S.countP Sl.isFull
def deadN (S : List Sl) : Nat := S.countP Sl.isDead
/-- Where a search begins. -/
def homeN (k : List UInt8) : Nat := (k.getD 0 0).toNat + 256 * (k.getD 1 0).toNat + 65536 * (k.getD 2 0).toNat + 16777216 * (k.getD 3 0).toNat
def pos (k : List UInt8) (n j : Nat) : Nat := (homeN k % n + j) % n
def slot (S : List Sl) (i : Nat) : Sl := S.getD i .empty
theorem slot_eq {S : List Sl} {i : Nat} (h : i < S.length) : S[i]? = some (slot S i) := by simp [slot, List.getD, h]
theorem slot_of {S : List Sl} {i : Nat} {x : Sl} (h : S[i]? = some x) : slot S i = x := by simp [slot, List.getD, h]
theorem pos_lt (k : List UInt8) {n : Nat} (j : Nat) (h : 0 < n) : pos k n j < n := Nat.mod_lt _ h
theorem pos_next (k : List UInt8) (n j : Nat) : pos k n (j + 1) = (pos k n j + 1) % n := by unfold pos; rw [Nat.mod_add_mod (homeN k % n + j), Nat.add_assoc]
theorem pos_zero (k : List UInt8) (n : Nat) : pos k n 0 = homeN k % n := by unfold pos; rw [Nat.add_zero, Nat.mod_mod]
theorem pos_inj (k : List UInt8) {n i j : Nat} (hi : i < n) (hj : j < n) (h : pos k n i = pos k n j) : i = j := by
  unfold pos at h
  have hh : homeN k % n < n := Nat.mod_lt _ (by omega)
  generalize homeN k % n = a at *
  have e1 : (a + i) % n = if a + i < n then a + i else a + i - n := by
    split
    · rename_i h1; exact Nat.mod_eq_of_lt h1
    · rename_i h1; rw [Nat.mod_eq_sub_mod (by omega)]; exact Nat.mod_eq_of_lt (by omega)
  have e2 : (a + j) % n = if a + j < n then a + j else a + j - n := by
    split
    · rename_i h1; exact Nat.mod_eq_of_lt h1
    · rename_i h1; rw [Nat.mod_eq_sub_mod (by omega)]; exact Nat.mod_eq_of_lt (by omega)
  rw [e1, e2] at h
  split at h <;> split at h <;> omega
theorem pos_surj (k : List UInt8) {n p : Nat} (hp : p < n) : ∃ i, i < n ∧ pos k n i = p := by
  have hh : homeN k % n < n := Nat.mod_lt _ (by omega)
  unfold pos
  generalize homeN k % n = a at *
  by_cases h : a ≤ p
  · exact ⟨p - a, by omega, by rw [show a + (p - a) = p by omega]; exact Nat.mod_eq_of_lt hp⟩
  · exact ⟨p + n - a, by omega, by rw [show a + (p + n - a) = p + n by omega, Nat.add_mod_right]; exact Nat.mod_eq_of_lt hp⟩

/-- A search for k ends behind j steps more. -/
structure Stop (S : List Sl) (k : List UInt8) (j : Nat) : Prop where
  lt : j < S.length
  yes : (slot S (pos k S.length j)).ends k = true
  no : ∀ i, i < j → (slot S (pos k S.length i)).ends k = false
theorem Stop.uniq {S : List Sl} {k : List UInt8} {i j : Nat} (h1 : Stop S k i) (h2 : Stop S k j) : i = j := by
  rcases Nat.lt_trichotomy i j with h | h | h
  · have := h2.no i h; rw [h1.yes] at this; cases this
  · exact h
  · have := h1.no j h; rw [h2.yes] at this; cases this
theorem least_ex (P : Nat → Bool) : ∀ n i, i < n → P i = true → ∃ j, j ≤ i ∧ P j = true ∧ ∀ i', i' < j → P i' = false := by
  intro n
  induction n with
  | zero => intro i hi; omega
  | succ n ih =>
    intro i hi hP
    by_cases h : ∃ i', i' < i ∧ P i' = true
    · obtain ⟨i', h1, h2⟩ := h
      obtain ⟨j, h3, h4, h5⟩ := ih i' (by omega) h2
      exact ⟨j, by omega, h4, h5⟩
    · refine ⟨i, Nat.le_refl _, hP, fun i' hi' => ?_⟩
      cases hc : P i' with
      | false => rfl
      | true => exact absurd ⟨i', hi', hc⟩ h
theorem empty_ex : ∀ S : List Sl, keysN S + deadN S < S.length → ∃ p, p < S.length ∧ S[p]? = some Sl.empty := by
  intro S
  induction S with
  | nil => intro h; simp at h
  | cons x r ih =>
    intro h
    cases x with
    | empty => exact ⟨0, by simp, rfl⟩
    | dead =>
      obtain ⟨p, h1, h2⟩ := ih (by simp only [keysN, deadN, List.countP_cons, List.length_cons, Sl.isFull, Sl.isDead] at h ⊢; simp at h; omega)
      exact ⟨p + 1, by simp; omega, by simpa using h2⟩
    | full k v =>
      obtain ⟨p, h1, h2⟩ := ih (by simp only [keysN, deadN, List.countP_cons, List.length_cons, Sl.isFull, Sl.isDead] at h ⊢; simp at h; omega)
      exact ⟨p + 1, by simp; omega, by simpa using h2⟩

/-- What holds in a table. -/
structure Inv (m : Nat) (S : List Sl) : Prop where
  pow : ∃ e, S.length = 8 * 2 ^ e
  probe : ∀ (p : Nat) (k : List UInt8) (v : List Int), S[p]? = some (Sl.full k v) → k.length = 32 ∧ v.length = m ∧ ∃ j, Stop S k j ∧ pos k S.length j = p
  load : 4 * (keysN S + deadN S) ≤ 3 * S.length
section
variable {m : Nat} {S : List Sl} {k : List UInt8} {v : List Int} {j : Nat}
theorem Inv.len8 (h : Inv m S) : 8 ≤ S.length := by
  obtain ⟨e, he⟩ := h.pow
  have := Nat.two_pow_pos e
  omega
theorem Inv.stop_ex (h : Inv m S) (k : List UInt8) : ∃ j, Stop S k j := by
  have h8 := h.len8
  have hl := h.load
  obtain ⟨p, hp, he⟩ := empty_ex S (by omega)
  obtain ⟨i, hi, hpi⟩ := pos_surj k hp
  obtain ⟨j, h1, h2, h3⟩ := least_ex (fun i => (slot S (pos k S.length i)).ends k) S.length i hi (by simp only [hpi, slot_of he]; rfl)
  exact ⟨j, by omega, h2, h3⟩
theorem mem_fulls {x : List UInt8 × List Int} : x ∈ fulls S ↔ ∃ p : Nat, S[p]? = some (Sl.full x.1 x.2) := by
  unfold fulls
  rw [List.mem_filterMap]
  constructor
  · rintro ⟨a, ha, hx⟩
    obtain ⟨p, hp⟩ := List.mem_iff_getElem?.1 ha
    cases a with
    | empty => cases hx
    | dead => cases hx
    | full k v => cases hx; exact ⟨p, hp⟩
  · rintro ⟨p, hp⟩
    exact ⟨_, List.mem_iff_getElem?.2 ⟨p, hp⟩, rfl⟩
theorem Inv.at_uniq (h : Inv m S) {p q : Nat} {v' : List Int} (hp : S[p]? = some (Sl.full k v)) (hq : S[q]? = some (Sl.full k v')) : p = q ∧ v = v' := by
  obtain ⟨_, _, i, hi, hpi⟩ := h.probe p k v hp
  obtain ⟨_, _, i', hi', hqi⟩ := h.probe q k v' hq
  have := hi.uniq hi'
  subst this
  have e : p = q := hpi.symm.trans hqi
  subst e
  rw [hp] at hq
  cases hq
  exact ⟨rfl, rfl⟩
theorem Inv.uniq (h : Inv m S) {v' : List Int} (hp : (k, v) ∈ fulls S) (hq : (k, v') ∈ fulls S) : v = v' := by
  obtain ⟨p, hp⟩ := mem_fulls.1 hp
  obtain ⟨q, hq⟩ := mem_fulls.1 hq
  exact (h.at_uniq hp hq).2
/-- Where a search ends there is the key, or the key is nowhere. -/
theorem Inv.find (h : Inv m S) (s : Stop S k j) : (∃ v, S[pos k S.length j]? = some (Sl.full k v)) ∨ (S[pos k S.length j]? = some Sl.empty ∧ ∀ v, (k, v) ∉ fulls S) := by
  have h8 := h.len8
  have hlt := pos_lt k j (show 0 < S.length by omega)
  have hs := slot_eq hlt
  have hy := s.yes
  cases hc : slot S (pos k S.length j) with
  | empty =>
    rw [hc] at hs
    refine .inr ⟨hs, fun v hv => ?_⟩
    obtain ⟨p, hp⟩ := mem_fulls.1 hv
    obtain ⟨_, _, i, hi, hpi⟩ := h.probe p k v hp
    have := hi.uniq s
    subst this
    rw [hpi, hp] at hs
    cases hs
  | dead => rw [hc] at hy; cases hy
  | full k' v =>
    rw [hc] at hy hs
    have e : k' = k := of_decide_eq_true hy
    subst e
    exact .inl ⟨v, hs⟩
/-- Slots of which one was given another content: searches that don't meet it in a new way go as they went. -/
theorem Stop.set {p : Nat} {x : Sl} {k' : List UInt8} (s : Stop S k' j) (hx : ∀ y, S[p]? = some y → x.ends k' = y.ends k') : Stop (S.set p x) k' j := by
  have key : ∀ q, (slot (S.set p x) q).ends k' = (slot S q).ends k' := by
    intro q
    by_cases hq : q < S.length
    · by_cases e : p = q
      · subst e
        have h1 : (S.set p x)[p]? = some x := by simp [hq]
        rw [slot_of h1]
        exact hx _ (slot_eq hq)
      · have h1 : (S.set p x)[q]? = some (slot S q) := by rw [List.getElem?_set_ne e]; exact slot_eq hq
        rw [slot_of h1]
    · have h1 : (S.set p x)[q]? = none := by simp; omega
      have h2 : S[q]? = none := by simp; omega
      simp [slot, List.getD, h1, h2]
  exact ⟨by simpa using s.lt, by rw [List.length_set, key]; exact s.yes, fun i hi => by rw [List.length_set, key]; exact s.no i hi⟩
/-- .. or meet it on their way. -/
theorem Stop.set_dead {p : Nat} {k' : List UInt8} {kk : List UInt8} {vv : List Int} (s : Stop S k' j) (hp : S[p]? = some (Sl.full kk vv)) (hne : kk ≠ k') : Stop (S.set p .dead) k' j :=
  s.set fun y hy => by rw [hp] at hy; cases hy; simp [Sl.ends, hne]
theorem Stop.set_full {p : Nat} {k' : List UInt8} {kk : List UInt8} {vv : List Int} (s : Stop S k' j) (hp : S[p]? = some Sl.empty) (hne : pos k' S.length j ≠ p) (h0 : 0 < S.length) : Stop (S.set p (.full kk vv)) k' j := by
  have key : ∀ i, i ≤ j → pos k' S.length i ≠ p → slot (S.set p (.full kk vv)) (pos k' S.length i) = slot S (pos k' S.length i) := by
    intro i _ hi
    have h1 : (S.set p (Sl.full kk vv))[pos k' S.length i]? = some (slot S (pos k' S.length i)) := by
      rw [List.getElem?_set_ne (fun e => hi e.symm)]; exact slot_eq (pos_lt _ _ h0)
    exact slot_of h1
  refine ⟨by simpa using s.lt, by rw [List.length_set, key j (Nat.le_refl _) hne]; exact s.yes, fun i hi => ?_⟩
  have hne2 : pos k' S.length i ≠ p := by
    intro e
    have := s.no i hi
    rw [e, slot_of hp] at this
    cases this
  rw [List.length_set, key i (by omega) hne2]
  exact s.no i hi
theorem keysN_set {p : Nat} {x y : Sl} (h : S[p]? = some y) : keysN (S.set p x) + (if y.isFull then 1 else 0) = keysN S + (if x.isFull then 1 else 0) := by
  obtain ⟨hp, hy⟩ := List.getElem?_eq_some_iff.1 h
  unfold keysN
  rw [List.countP_set (h := hp), hy]
  have : y.isFull = true → 0 < S.countP Sl.isFull := fun hf => List.countP_pos_iff.2 ⟨y, List.mem_of_getElem? h, hf⟩
  split <;> rename_i hh <;> split <;> simp_all <;> omega
theorem deadN_set {p : Nat} {x y : Sl} (h : S[p]? = some y) : deadN (S.set p x) + (if y.isDead then 1 else 0) = deadN S + (if x.isDead then 1 else 0) := by
  obtain ⟨hp, hy⟩ := List.getElem?_eq_some_iff.1 h
  unfold deadN
  rw [List.countP_set (h := hp), hy]
  have : y.isDead = true → 0 < S.countP Sl.isDead := fun hf => List.countP_pos_iff.2 ⟨y, List.mem_of_getElem? h, hf⟩
  split <;> rename_i hh <;> split <;> simp_all <;> omega
theorem mem_set {p : Nat} {x y : Sl} (h : S[p]? = some y) (z : List UInt8 × List Int) : z ∈ fulls (S.set p x) ↔ x = Sl.full z.1 z.2 ∨ ∃ q : Nat, q ≠ p ∧ S[q]? = some (Sl.full z.1 z.2) := by
  obtain ⟨hp, hy⟩ := List.getElem?_eq_some_iff.1 h
  rw [mem_fulls]
  constructor
  · rintro ⟨q, hq⟩
    by_cases e : p = q
    · subst e
      rw [List.getElem?_set_self hp] at hq
      cases hq
      exact .inl rfl
    · rw [List.getElem?_set_ne e] at hq
      exact .inr ⟨q, fun e' => e e'.symm, hq⟩
  · rintro (rfl | ⟨q, hne, hq⟩)
    · exact ⟨p, by rw [List.getElem?_set_self hp]⟩
    · exact ⟨q, by rw [List.getElem?_set_ne (fun e => hne e.symm)]; exact hq⟩
/-- Another value under a key that is there. -/
theorem Inv.over (h : Inv m S) {p : Nat} {v' : List Int} (hp : S[p]? = some (Sl.full k v)) (hv : v'.length = m) :
    Inv m (S.set p (.full k v')) ∧ keysN (S.set p (.full k v')) = keysN S ∧ deadN (S.set p (.full k v')) = deadN S ∧ ∀ z, z ∈ fulls (S.set p (.full k v')) ↔ (z = (k, v') ∨ (z ∈ fulls S ∧ z.1 ≠ k)) := by
  have hk := keysN_set (x := .full k v') hp
  have hd := deadN_set (x := .full k v') hp
  simp [Sl.isFull, Sl.isDead] at hk hd
  have hlt := (List.getElem?_eq_some_iff.1 hp).1
  refine ⟨⟨by simpa using h.pow, ?_, by simp only [hk, hd, List.length_set]; exact h.load⟩, hk, hd, ?_⟩
  · intro q k2 v2 hq
    by_cases e : p = q
    · subst e
      rw [List.getElem?_set_self hlt] at hq
      cases hq
      obtain ⟨a, _, j, hj, hpj⟩ := h.probe p k v hp
      exact ⟨a, hv, j, hj.set (fun y hy => by rw [hp] at hy; cases hy; rfl), by rw [List.length_set]; exact hpj⟩
    · rw [List.getElem?_set_ne e] at hq
      obtain ⟨a, b, j, hj, hpj⟩ := h.probe q k2 v2 hq
      exact ⟨a, b, j, hj.set (fun y hy => by rw [hp] at hy; cases hy; rfl), by rw [List.length_set]; exact hpj⟩
  · intro z
    rw [mem_set hp]
    constructor
    · rintro (e | ⟨q, hne, hq⟩)
      · cases e; exact .inl rfl
      · refine .inr ⟨mem_fulls.2 ⟨q, hq⟩, fun e => hne ?_⟩
        rw [e] at hq
        exact (h.at_uniq hq hp).1
    · rintro (rfl | ⟨hz, hne⟩)
      · exact .inl rfl
      · obtain ⟨q, hq⟩ := mem_fulls.1 hz
        refine .inr ⟨q, fun e => hne ?_, hq⟩
        rw [e, hp] at hq
        cases hq; rfl
/-- A key more. -/
theorem Inv.more (h : Inv m S) {j : Nat} (s : Stop S k j) (hp : S[pos k S.length j]? = some Sl.empty) (hk32 : k.length = 32) (hv : v.length = m) (hl : 4 * (keysN S + 1 + deadN S) ≤ 3 * S.length) :
    Inv m (S.set (pos k S.length j) (.full k v)) ∧ keysN (S.set (pos k S.length j) (.full k v)) = keysN S + 1 ∧ deadN (S.set (pos k S.length j) (.full k v)) = deadN S ∧ ∀ z, z ∈ fulls (S.set (pos k S.length j) (.full k v)) ↔ (z = (k, v) ∨ z ∈ fulls S) := by
  have hk := keysN_set (x := .full k v) hp
  have hd := deadN_set (x := .full k v) hp
  simp [Sl.isFull, Sl.isDead] at hk hd
  have h8 := h.len8
  have hlt := (List.getElem?_eq_some_iff.1 hp).1
  refine ⟨⟨by simpa using h.pow, ?_, by simp only [hk, hd, List.length_set]; omega⟩, hk, hd, ?_⟩
  · intro q k2 v2 hq
    by_cases e : pos k S.length j = q
    · rw [← e, List.getElem?_set_self hlt] at hq
      cases hq
      refine ⟨hk32, hv, j, ⟨by simpa using s.lt, ?_, fun i hi => ?_⟩, by rw [List.length_set]; exact e⟩
      · rw [List.length_set]
        have h1 : (S.set (pos k S.length j) (Sl.full k v))[pos k S.length j]? = some (.full k v) := List.getElem?_set_self hlt
        rw [slot_of h1]
        simp [Sl.ends]
      · rw [List.length_set]
        have hne : pos k S.length j ≠ pos k S.length i := fun e' => by
          have := pos_inj k s.lt (by have := s.lt; omega) e'
          omega
        have h1 : (S.set (pos k S.length j) (Sl.full k v))[pos k S.length i]? = some (slot S (pos k S.length i)) := by
          rw [List.getElem?_set_ne hne]; exact slot_eq (pos_lt _ _ (by omega))
        rw [slot_of h1]
        exact s.no i hi
    · rw [List.getElem?_set_ne e] at hq
      obtain ⟨a, b, j2, hj, hpj⟩ := h.probe q k2 v2 hq
      exact ⟨a, b, j2, hj.set_full hp (by rw [hpj]; exact fun e' => e e'.symm) (by omega), by rw [List.length_set]; exact hpj⟩
  · intro z
    rw [mem_set hp]
    constructor
    · rintro (e | ⟨q, hne, hq⟩)
      · cases e; exact .inl rfl
      · exact .inr (mem_fulls.2 ⟨q, hq⟩)
    · rintro (rfl | hz)
      · exact .inl rfl
      · obtain ⟨q, hq⟩ := mem_fulls.1 hz
        refine .inr ⟨q, fun e => ?_, hq⟩
        rw [e, hp] at hq
        cases hq
/-- A key taken away. -/
theorem Inv.less (h : Inv m S) {p : Nat} (hp : S[p]? = some (Sl.full k v)) :
    Inv m (S.set p .dead) ∧ keysN (S.set p .dead) + 1 = keysN S ∧ deadN (S.set p .dead) = deadN S + 1 ∧ ∀ z, z ∈ fulls (S.set p .dead) ↔ (z ∈ fulls S ∧ z.1 ≠ k) := by
  have hk := keysN_set (x := .dead) hp
  have hd := deadN_set (x := .dead) hp
  simp [Sl.isFull, Sl.isDead] at hk hd
  have hlt := (List.getElem?_eq_some_iff.1 hp).1
  have hl := h.load
  refine ⟨⟨by simpa using h.pow, ?_, by simp only [hd, List.length_set]; omega⟩, hk, hd, ?_⟩
  · intro q k2 v2 hq
    by_cases e : p = q
    · subst e
      rw [List.getElem?_set_self hlt] at hq
      cases hq
    · rw [List.getElem?_set_ne e] at hq
      obtain ⟨a, b, j, hj, hpj⟩ := h.probe q k2 v2 hq
      refine ⟨a, b, j, hj.set_dead hp (fun e2 => e ?_), by rw [List.length_set]; exact hpj⟩
      subst e2
      exact (h.at_uniq hp hq).1
  · intro z
    rw [mem_set hp]
    constructor
    · rintro (e | ⟨q, hne, hq⟩)
      · cases e
      · refine ⟨mem_fulls.2 ⟨q, hq⟩, fun e => hne ?_⟩
        rw [e] at hq
        exact (h.at_uniq hq hp).1
    · rintro ⟨hz, hne⟩
      obtain ⟨q, hq⟩ := mem_fulls.1 hz
      refine .inr ⟨q, fun e => hne ?_, hq⟩
      rw [e, hp] at hq
      cases hq; rfl
end
/-- Slots that nothing was put into. -/
theorem rep_get {n p : Nat} {x : Sl} (h : (List.replicate n Sl.empty)[p]? = some x) : x = .empty := by
  rw [List.getElem?_replicate] at h
  split at h
  · cases h; rfl
  · cases h
theorem keysN_rep (n : Nat) : keysN (List.replicate n .empty) = 0 := by simp [keysN, List.countP_replicate, Sl.isFull]
theorem deadN_rep (n : Nat) : deadN (List.replicate n .empty) = 0 := by simp [deadN, List.countP_replicate, Sl.isDead]
theorem fulls_rep (n : Nat) : fulls (List.replicate n .empty) = [] := by
  apply List.eq_nil_iff_forall_not_mem.2
  intro z hz
  obtain ⟨p, hp⟩ := mem_fulls.1 hz
  cases rep_get hp
theorem Inv.rep (m e : Nat) : Inv m (List.replicate (8 * 2 ^ e) .empty) :=
  ⟨⟨e, by simp⟩, fun p k v hp => (by cases rep_get hp), by rw [keysN_rep, deadN_rep]; omega⟩
/-- How far a search goes. -/
theorem nodup_le {l r : List Nat} (h : l.Nodup) (hs : ∀ x ∈ l, x ∈ r) : l.length ≤ r.length := by
  induction l generalizing r with
  | nil => simp
  | cons a l ih =>
    obtain ⟨h1, h2⟩ := List.nodup_cons.1 h
    have ha := hs a (by simp)
    have := ih (r := r.erase a) h2 (fun x hx => (List.mem_erase_of_ne (fun e => h1 (by rw [← e]; exact hx))).2 (hs x (by simp [hx])))
    rw [List.length_erase_of_mem ha] at this
    have := List.length_pos_of_mem ha
    simp
    omega
theorem inUse_count : ∀ (S : List Sl), S.countP (fun x => x.isFull || x.isDead) = keysN S + deadN S := by
  intro S
  induction S with
  | nil => rfl
  | cons x r ih =>
    unfold keysN deadN at *
    rw [List.countP_cons, List.countP_cons, List.countP_cons, ih]
    cases x <;> simp [Sl.isFull, Sl.isDead] <;> omega
theorem countP_idx (P : Sl → Bool) : ∀ (S : List Sl), ((List.range S.length).filter fun i => P (slot S i)).length = S.countP P := by
  intro S
  rw [← List.countP_eq_length_filter]
  have h1 : S = (List.range S.length).map (slot S) := by
    refine List.ext_getElem? fun i => ?_
    rw [List.getElem?_map]
    by_cases h : i < S.length
    · rw [slot_eq h, List.getElem?_range h]; rfl
    · rw [List.getElem?_eq_none (by omega), List.getElem?_eq_none (by simp; omega)]; rfl
  conv => rhs; rw [h1]
  rw [List.countP_map]
  rfl
theorem Stop.steps {S : List Sl} {k : List UInt8} {j : Nat} (s : Stop S k j) : j ≤ keysN S + deadN S := by
  have h0 : 0 < S.length := by have := s.lt; omega
  have h1 : ((List.range j).map (pos k S.length)).length ≤ ((List.range S.length).filter fun i => (fun x : Sl => x.isFull || x.isDead) (slot S i)).length := by
    refine nodup_le ?_ ?_
    · rw [List.nodup_iff_pairwise_ne, List.pairwise_map]
      refine List.Pairwise.imp_of_mem ?_ (List.nodup_iff_pairwise_ne.1 List.nodup_range)
      intro a b ha hb hne e
      have := s.lt
      simp at ha hb
      exact hne (pos_inj k (by omega) (by omega) e)
    · intro x hx
      obtain ⟨i, hi, rfl⟩ := List.mem_map.1 hx
      simp at hi
      refine List.mem_filter.2 ⟨by simp; exact pos_lt _ _ h0, ?_⟩
      have := s.no i hi
      cases hc : slot S (pos k S.length i) with
      | empty => rw [hc] at this; cases this
      | dead => rfl
      | full a b => rfl
  have h2 := Nat.le_trans h1 (Nat.le_of_eq ((countP_idx (fun x : Sl => x.isFull || x.isDead) S).trans (inUse_count S)))
  simpa using h2
end Go.Proofs.Ytgbkpbmilaafgaa
