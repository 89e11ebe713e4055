/- Contracts and facts, several texts in one. It proves no statement. -/
import Derived.Test.YtfneloobfidckaaGreatDoorSf09
import Derived.Test.YtfneloobfidckaaGreatDoorSf06
import Derived.Test.YtfneloobfidckaaGreatDoorSf34
import Derived.Test.YtfneloobfidckaaGreatDoorSf25
import Derived.Deep.MidRow
import Derived.Laws.IdiomCopy
import Derived.Test.YtfneloobfidckaaGreatDoorSf26
import Derived.Deep.RegionHeld

/- Numbers that came in, as rows that read. It proves no statement. -/


namespace Go.Proofs.YtfneloobfidckaaGreatDoor
open Go.RowKit Go.Maps Go.WideMaps
set_option linter.unusedVariables false
set_option linter.unusedSimpArgs false

theorem readsI_of_row {w : World} {a : Option Addr} {len cap : Nat} {zs : List Int} (h : RowIn .i64 w a len cap zs) : ∃ ys, ReadsI w (fun b => b < w.heap.size) a len ys ∧ len ≤ cap ∧ cap ≤ 9223372036854775807 ∧ (a = none → len = 0 ∧ cap = 0) := by
  rcases h with ⟨rfl, rfl, rfl, rfl⟩ | ⟨x, rfl, hl, hm, hz, hc, hw⟩
  · exact ⟨[], ⟨rfl, fun h => absurd h (by omega)⟩, by omega, by omega, fun _ => ⟨rfl, rfl⟩⟩
  · refine ⟨zs.take len, ⟨by simp; omega, fun hn => ?_⟩, hl, by unfold maxLen at hm; omega, fun e => by cases e⟩
    obtain ⟨b, o, sp⟩ := x
    have h0 := hc 0 (by omega)
    have hsp : sp = none := by simpa [Addr.add] using World.cell?_spot h0
    subst hsp
    have hbl : b < w.heap.size := by simpa [Addr.add] using World.block_lt_of_cell? w _ h0
    refine ⟨b, o, rfl, hbl, hbl, fun i hi => ?_⟩
    have hi' := hc i (by omega)
    rw [Addr.add_lit] at hi'
    rw [hi']
    simp [List.getD, hi, show i < zs.length by omega]
theorem ReadsI.front {w : World} {B : Nat → Prop} {n k : Nat} {A : Option Addr} {zs : List Int} (h : ReadsI w B A n zs) (hk : k ≤ n) : ReadsI w B A k (zs.take k) := by
  refine ⟨by rw [List.length_take, h.1]; omega, fun hk0 => ?_⟩
  obtain ⟨b, o, e, hb, hbl, hc⟩ := h.2 (by omega)
  refine ⟨b, o, e, hb, hbl, fun i hi => ?_⟩
  rw [hc i (by omega)]
  have hz := h.1
  simp [List.getD, List.getElem?_take, hi]
end Go.Proofs.YtfneloobfidckaaGreatDoor

/- Calls upon a log, as they lie in memory. It proves no statement. -/





namespace Go.Proofs.YtfneloobfidckaaGreatDoor
open Go.RowKit Go.Maps
set_option linter.unusedVariables false
set_option linter.unusedSimpArgs false

theorem rangeAt_append {w : World} {b o : Nat} {xs ys : List Value} : w.rangeAt b o (xs ++ ys) ↔ w.rangeAt b o xs ∧ w.rangeAt b (o + xs.length) ys := by
  constructor
  · intro h
    refine ⟨fun j v hj => h j v ?_, fun j v hj => ?_⟩
    · rw [List.getElem?_append_left (List.getElem?_eq_some_iff.1 hj).1]; exact hj
    · have := h (xs.length + j) v (by rw [List.getElem?_append_right (by omega), Nat.add_sub_cancel_left]; exact hj)
      rw [← Nat.add_assoc] at this
      exact this
  · rintro ⟨h1, h2⟩ j v hj
    by_cases hl : j < xs.length
    · rw [List.getElem?_append_left hl] at hj
      exact h1 j v hj
    · rw [List.getElem?_append_right (by omega)] at hj
      have := h2 (j - xs.length) v hj
      rw [show o + xs.length + (j - xs.length) = o + j by omega] at this
      exact this
theorem rangeAt_cons {w : World} {b o : Nat} {x : Value} {ys : List Value} : w.rangeAt b o (x :: ys) ↔ w.cell? ⟨b, o, none⟩ = some x ∧ w.rangeAt b (o + 1) ys := by
  rw [show x :: ys = [x] ++ ys from rfl, rangeAt_append]
  refine and_congr ⟨fun h => h 0 x rfl, fun h j v hj => ?_⟩ Iff.rfl
  match j, hj with
  | 0, hj => simp only [List.getElem?_cons_zero, Option.some.injEq] at hj; subst hj; exact h
  | j + 1, hj => simp at hj
theorem rangeAt_still {w w' : World} {b o : Nat} {xs : List Value} (h : w.rangeAt b o xs) (s : Still w w') : w'.rangeAt b o xs := fun j v hj => by
  have h1 := h j v hj
  exact (s.cell (World.block_lt_of_cell? w _ h1)).trans h1
theorem rangeAt_blk {w : World} {g : Nat} {ty : TypeId} {l : List Value} (h : Blk w g ty l.toArray) : w.rangeAt g 0 l := fun j v hj => by
  rw [Nat.zero_add]
  exact (Blk.cell h j).trans (by simpa using hj)
theorem there_blk {w : World} {g n : Nat} {ty : TypeId} {l : List Value} (h : Blk w g ty l.toArray) (hn : l.length = n) : w.there g 0 n := fun j hj => by
  rw [Nat.zero_add]
  refine ⟨?_, Blk.frozen h j⟩
  rw [Blk.cell h j, List.getElem?_toArray, List.getElem?_eq_getElem (by omega)]
  rfl
theorem there_sub {w : World} {g n o m : Nat} (h : w.there g 0 n) (hm : o + m ≤ n) : w.there g o m := fun j hj => by
  have := h (o + j) (by omega)
  rw [Nat.zero_add] at this
  exact this
/-- A call upon a log: its kind, an entry, a number, a place, numbers. -/
structure C14 where
  k : Int
  t : Int
  K : List UInt8
  D : List UInt8
  nn : Int
  pa : Int
  pb : Int
  pc : Int
  l : List Int
/-- Its cells. -/
def d14T (x : C14) (v2 : Value) : List Value := [.int .i64 x.nn, .int .i64 x.pa, .int .i64 x.pb, .int .i64 x.pc, v2]
def d14L (x : C14) (v v2 : Value) : List Value := .int .i64 x.k :: (entL x.t x.K v ++ d14T x v2)
theorem entL_len0 (t : Int) (K : List UInt8) (v : Value) (h : K.length = 32) : (entL t K v).length = 34 := by have := entV_size t K v h; simpa [entV] using this
theorem d14L_len (x : C14) (v v2 : Value) (h : x.K.length = 32) : (d14L x v v2).length = 40 := by
  unfold d14L d14T
  rw [List.length_cons, List.length_append, entL_len0 _ _ _ h]
  rfl
theorem d14L_one (x : C14) (v v2 : Value) (h : v.oneCell' = true) (h2 : v2.oneCell' = true) : ∀ u ∈ d14L x v v2, u.oneCell' = true := by
  intro u hu
  rcases List.mem_cons.1 hu with rfl | hu
  · rfl
  · rcases List.mem_append.1 hu with hu | hu
    · exact (Array.all_eq_true_iff_forall_mem.1 (entV_one x.t x.K v h)) u (by unfold entV; simpa using hu)
    · unfold d14T at hu
      simp only [List.mem_cons, List.not_mem_nil, or_false] at hu
      rcases hu with rfl | rfl | rfl | rfl | rfl
      · rfl
      · rfl
      · rfl
      · rfl
      · exact h2
/-- The parts of a call in memory. -/
theorem d14_parts {w : World} {b o : Nat} {x : C14} {v v2 : Value} (hK : x.K.length = 32) : w.rangeAt b o (d14L x v v2) ↔ w.cell? ⟨b, o, none⟩ = some (.int .i64 x.k) ∧ w.rangeAt b (o + 1) (entL x.t x.K v) ∧ w.cell? ⟨b, o + 35, none⟩ = some (.int .i64 x.nn) ∧ w.rangeAt b (o + 36) [.int .i64 x.pa, .int .i64 x.pb, .int .i64 x.pc] ∧ w.cell? ⟨b, o + 39, none⟩ = some v2 := by
  unfold d14L d14T
  rw [rangeAt_cons, rangeAt_append, entL_len0 _ _ _ hK, rangeAt_cons, show [Value.int .i64 x.pa, .int .i64 x.pb, .int .i64 x.pc, v2] = [Value.int .i64 x.pa, .int .i64 x.pb, .int .i64 x.pc] ++ [v2] from rfl, rangeAt_append]
  rw [show ([v2] : List Value) = v2 :: [] from rfl, rangeAt_cons (ys := [])]
  constructor
  · rintro ⟨h1, h2, h3, h4, h5, _⟩
    exact ⟨h1, h2, h3, h4, h5⟩
  · rintro ⟨h1, h2, h3, h4, h5⟩
    exact ⟨h1, h2, h3, h4, h5, fun j v hj => by simp at hj⟩
/-- A call that came in. -/
structure D14Row (W : World) (B b p : Nat) (x : C14) (A : Option Addr) (n c : Nat) (A2 : Option Addr) (n2 c2 : Nat) : Prop where
  key : x.K.length = 32
  at_ : W.rangeAt b p (d14L x (.slice A n c) (.slice A2 n2 c2))
  rd : Reads W B A n x.D
  le : n ≤ c ∧ c ≤ 9223372036854775807
  nil : A = none → n = 0 ∧ c = 0
  rd2 : ReadsI W (fun b => b < B) A2 n2 x.l
  le2 : n2 ≤ c2 ∧ c2 ≤ 9223372036854775807
  nr : x.nn ≤ 9223372036854775807
def D14In (W : World) (B : Nat) (A : Option Addr) (L : List C14) : Prop := ∀ (i : Nat) (x : C14), L[i]? = some x → ∃ b o A1 n c A2 n2 c2, A = some ⟨b, o, none⟩ ∧ D14Row W B b (o + i * 40) x A1 n c A2 n2 c2
theorem D14Row.still {W W' : World} {B b p : Nat} {x : C14} {A : Option Addr} {n c : Nat} {A2 : Option Addr} {n2 c2 : Nat} (h : D14Row W B b p x A n c A2 n2 c2) (hB : B ≤ W.heap.size) (s : Still W W') : D14Row W' B b p x A n c A2 n2 c2 :=
  ⟨h.key, rangeAt_still h.at_ s, h.rd.still hB s, h.le, h.nil, h.rd2.chg (Chg.of_still s (fun _ => False)) (fun _ _ h => h), h.le2, h.nr⟩
/-- A call, cut. -/
def cut14 (x : C14) : C14 := { x with D := x.D.take 300, l := x.l.take 60 }
/-- A row of calls that were cut: each with a row of its own for its data; its numbers lie where they came in. -/
def HasD14 (W : World) (base B : Nat) (X : List C14) (xs : List Value) : Prop := xs.length = 40 * X.length ∧ ∀ (i : Nat) (x : C14), X[i]? = some x → ∃ A n c A2 n2 c2, x.K.length = 32 ∧ (∀ q, q < 40 → xs[i * 40 + q]? = (d14L x (.slice A n c) (.slice A2 n2 c2))[q]?) ∧ W.ownsRow base 5 1 (.slice A n c) n (bytesV x.D) ∧ n ≤ 300 ∧ ReadsI W (fun b => b < B) A2 n2 x.l ∧ n2 ≤ c2 ∧ c2 ≤ 9223372036854775807 ∧ x.nn ≤ 9223372036854775807
theorem HasD14.keep {W W' : World} {base B : Nat} {X : List C14} {xs : List Value} {S : Nat → Prop} (h : HasD14 W base B X xs) (c : Chg W W' S) (hS : ∀ b, b < B → ¬ S b) (hR : ∀ v n l, W.ownsRow base 5 1 v n (bytesV l) → W'.ownsRow base 5 1 v n (bytesV l)) : HasD14 W' base B X xs :=
  ⟨h.1, fun i x hx => by
    obtain ⟨A, n, cc, A2, n2, c2, h0, h1, h2, h3, h4, h5⟩ := h.2 i x hx
    exact ⟨A, n, cc, A2, n2, c2, h0, h1, hR _ _ _ h2, h3, h4.chg c hS, h5⟩⟩
theorem HasD14.nil {W : World} {base B : Nat} : HasD14 W base B [] [] := ⟨rfl, fun i x hx => by simp at hx⟩
theorem HasD14.snoc {W : World} {base B : Nat} {X : List C14} {xs : List Value} (h : HasD14 W base B X xs) (x : C14) (A : Option Addr) (n c : Nat) (A2 : Option Addr) (n2 c2 : Nat) (h0 : x.K.length = 32) (h2 : W.ownsRow base 5 1 (.slice A n c) n (bytesV x.D)) (h3 : n ≤ 300) (h4 : ReadsI W (fun b => b < B) A2 n2 x.l) (h5 : n2 ≤ c2) (h6 : c2 ≤ 9223372036854775807) (h9 : x.nn ≤ 9223372036854775807) :
    HasD14 W base B (X ++ [x]) (xs ++ d14L x (.slice A n c) (.slice A2 n2 c2)) := by
  refine ⟨by rw [List.length_append, List.length_append, h.1, d14L_len _ _ _ h0]; simp; omega, fun i y hy => ?_⟩
  by_cases hi : i < X.length
  · rw [List.getElem?_append_left hi] at hy
    obtain ⟨A', n', c', A2', n2', c2', k0, k1, k2⟩ := h.2 i y hy
    refine ⟨A', n', c', A2', n2', c2', k0, fun q hq => ?_, k2⟩
    rw [List.getElem?_append_left (by rw [h.1]; omega)]
    exact k1 q hq
  · have hl : i < (X ++ [x]).length := (List.getElem?_eq_some_iff.1 hy).1
    have hie : i = X.length := by simp at hl; omega
    subst hie
    have : y = x := by simpa using hy.symm
    subst this
    refine ⟨A, n, c, A2, n2, c2, h0, fun q hq => ?_, h2, h3, h4, h5, h6, h9⟩
    rw [List.getElem?_append_right (by rw [h.1]; omega), h.1]
    congr 1
    omega
/-- One call of the row. -/
theorem HasD14.at_ {W W0 : World} {base B B0 : Nat} {X : List C14} {xs : List Value} {gl N c : Nat} (h : HasD14 W0 B0 B X xs) (ho : W.ownsRow base 47 40 (.slice (some ⟨gl, 0, none⟩) N c) N xs) {i : Nat} {x : C14} (hx : X[i]? = some x) (hi : i < N) :
    ∃ A n c A2 n2 c2, x.K.length = 32 ∧ W.rangeAt gl (i * 40) (d14L x (.slice A n c) (.slice A2 n2 c2)) ∧ W0.ownsRow B0 5 1 (.slice A n c) n (bytesV x.D) ∧ n ≤ 300 ∧ ReadsI W0 (fun b => b < B) A2 n2 x.l ∧ n2 ≤ c2 ∧ c2 ≤ 9223372036854775807 ∧ x.nn ≤ 9223372036854775807 := by
  obtain ⟨A, n, c, A2, n2, c2, h0, h1, h2, h3, h4, h5, h6, h7⟩ := h.2 i x hx
  refine ⟨A, n, c, A2, n2, c2, h0, fun q u hq => ?_, h2, h3, h4, h5, h6, h7⟩
  have hq40 : q < 40 := by rw [← d14L_len x (.slice A n c) (.slice A2 n2 c2) h0]; exact (List.getElem?_eq_some_iff.1 hq).1
  rw [ho.cellAt (i * 40 + q) (by omega), h1 q hq40]
  exact hq
theorem info14 : (Tryz.prog.info? 47).map (fun i => (i.zero, i.size, i.bytes)) = some (some (.agg (d14L ⟨0, 0, List.replicate 32 0, [], 0, 0, 0, 0, []⟩ (.slice none 0 0) (.slice none 0 0)).toArray), 40, 128) := by kernel_rfl
theorem size14 : (Tryz.prog.info? 47).map (·.size) = some 40 := by kernel_rfl
theorem zero14 : (Tryz.prog.info? 47).map (fun i => (i.zero, i.size)) = some (some (.agg (d14L ⟨0, 0, List.replicate 32 0, [], 0, 0, 0, 0, []⟩ (.slice none 0 0) (.slice none 0 0)).toArray), 40) := by kernel_rfl
end Go.Proofs.YtfneloobfidckaaGreatDoor

/- The document's own few entries: one of them. It proves no statement. -/



namespace Go.Proofs.YtfneloobfidckaaGreatDoor
open Go.RowKit
set_option linter.unusedVariables false
set_option linter.unusedSimpArgs false

theorem Tryz.infoEnt : (Tryz.prog.info? 44).map (fun i => (i.zero, i.size, i.bytes)) = some (some (.agg (entV 0 (List.replicate 32 0) (.slice none 0 0))), 34, 64) := by kernel_rfl
theorem list32 (K : List UInt8) (h : K.length = 32) : ∃ k0 k1 k2 k3 k4 k5 k6 k7 k8 k9 k10 k11 k12 k13 k14 k15 k16 k17 k18 k19 k20 k21 k22 k23 k24 k25 k26 k27 k28 k29 k30 k31, K = [k0, k1, k2, k3, k4, k5, k6, k7, k8, k9, k10, k11, k12, k13, k14, k15, k16, k17, k18, k19, k20, k21, k22, k23, k24, k25, k26, k27, k28, k29, k30, k31] := by
  match K, h with
  | [k0, k1, k2, k3, k4, k5, k6, k7, k8, k9, k10, k11, k12, k13, k14, k15, k16, k17, k18, k19, k20, k21, k22, k23, k24, k25, k26, k27, k28, k29, k30, k31], _ => exact ⟨k0, k1, k2, k3, k4, k5, k6, k7, k8, k9, k10, k11, k12, k13, k14, k15, k16, k17, k18, k19, k20, k21, k22, k23, k24, k25, k26, k27, k28, k29, k30, k31, rfl⟩
set_option maxRecDepth 100000 in
theorem built_ent (t : Int) (K : List UInt8) (hK : K.length = 32) (v : Value) (hv : ∃ A n c, v = .slice A n c) : Tryz.prog.built 44 [(0, .int .i64 t), (1, .agg (bytesV K).toArray), (2, v)] = some (entV t K v) := by
  obtain ⟨k0, k1, k2, k3, k4, k5, k6, k7, k8, k9, k10, k11, k12, k13, k14, k15, k16, k17, k18, k19, k20, k21, k22, k23, k24, k25, k26, k27, k28, k29, k30, k31, rfl⟩ := list32 K hK
  obtain ⟨A, n, c, rfl⟩ := hv
  kernel_rfl
set_option maxRecDepth 100000 in
theorem fill_ent (t : Int) (K : List UInt8) (hK : K.length = 32) (v : Value) (hv : ∃ A n c, v = .slice A n c) :
    Instr.fill (fun i => some (i * 34, 34)) ((Array.range (1 * 34)).map ((Value.agg (entV 0 (List.replicate 32 0) (.slice none 0 0))).cells[· % (Value.agg (entV 0 (List.replicate 32 0) (.slice none 0 0))).cells.size]!)) [(0, .agg (entV t K v))] = some (entV t K v) := by
  obtain ⟨k0, k1, k2, k3, k4, k5, k6, k7, k8, k9, k10, k11, k12, k13, k14, k15, k16, k17, k18, k19, k20, k21, k22, k23, k24, k25, k26, k27, k28, k29, k30, k31, rfl⟩ := list32 K hK
  obtain ⟨A, n, c, rfl⟩ := hv
  kernel_rfl
/-- '[]Entry{x}', one operation. -/
theorem step_boxE (w : World) {o : Oper} {a : Act} {K' : Act → World → Prop} {Q : Exit → Act → World → Prop} (x : Operand)
    (ho : o.op = .buildSlice 75 1 #[(0, x)]) (t : Int) (K : List UInt8) (hK : K.length = 32) (v : Value) (hv : ∃ A n c, v = .slice A n c) (hx : a.eval x = .agg (entV t K v))
    (h : K' (a.put o.dst (.slice (some ⟨w.heap.size, 0, none⟩) 1 1)) (w.alloc (.cells (entV t K v) 44))) : o.wp Tryz.prog a w K' Q := by
  obtain ⟨i0, hi, hz0, hz1, hz2⟩ := info_parts Tryz.infoEnt
  refine wp_buildSlice 75 44 1 #[(0, x)] ho (entV t K v) i0 _ Tryz.underlying75 hi hz0 (by rw [hz1]; decide) (by rw [hz1]; decide) ?_ h
  rw [hz1]
  simp only [List.map_toArray, List.map_cons, List.map_nil, hx]
  exact fill_ent t K hK v hv
theorem wpList_boxE (w : World) {ops : Array Oper} {rest : List Oper} {o : Oper} {a : Act} {Q : Exit → Act → World → Prop} (hgd : o.guard = none) (x : Operand)
    (ho : o.op = .buildSlice 75 1 #[(0, x)]) (t : Int) (K : List UInt8) (hK : K.length = 32) (v : Value) (hv : ∃ A n c, v = .slice A n c) (hx : a.eval x = .agg (entV t K v))
    (h : wpList Tryz.prog ops Q rest (a.put o.dst (.slice (some ⟨w.heap.size, 0, none⟩) 1 1)) (w.alloc (.cells (entV t K v) 44))) : wpList Tryz.prog ops Q (o :: rest) a w :=
  wpList_plain hgd fun _ hQ => step_boxE w x ho t K hK v hv hx (hQ _ _ h)
theorem run_buildE (ρ : Operand → Value) (o : Oper) (x y z : Operand) (ho : o.op = .build 44 #[(0, x), (1, y), (2, z)]) (t : Int) (K : List UInt8) (hK : K.length = 32) (v : Value) (hv : ∃ A n c, v = .slice A n c)
    (hx : ρ x = .int .i64 t) (hy : ρ y = .agg (bytesV K).toArray) (hz : ρ z = v) (W : World) : (execOp ρ o).run Tryz.prog W = .ok (.value (.agg (entV t K v))) W := by
  have hb := run_build (P := Tryz.prog) W 44 _ _ (built_ent t K hK v hv)
  unfold execOp
  simp only [ho, Sem.run_bind, List.map_toArray, List.map_cons, List.map_nil, hx, hy, hz, hb, Result.andThen_ok]
  rfl
/-- 'append(out, x)', one operation. -/
theorem step_pushE (w : World) {o : Oper} {a : Act} {K : Act → World → Prop} {Q : Exit → Act → World → Prop} (s x : Operand)
    (ho : o.op = .call { callee := .builtin .append, args := #[s, x], argTypes := #[75, 75] })
    (base : Nat) (v : Value) (n : Nat) (xs : List Value) (hs : a.eval s = v) (hown : w.ownsRow base 44 34 v n xs) (gb : Nat) (cs : List Value)
    (hx : a.eval x = .slice (some ⟨gb, 0, none⟩) 1 1) (hc : ∀ q u, cs[q]? = some u → w.cell? ⟨gb, q, none⟩ = some u) (hc6 : cs.length = 34) (h1 : ∀ u ∈ cs, u.oneCell' = true) (hn : n ≤ 1048576) (hbase : base ≤ w.heap.size)
    (h : ∀ v' w', w'.ownsRow base 44 34 v' (n + 1) (xs ++ cs) → w.grownBy w' v.ownBlock → (v'.ownBlock = v.ownBlock ∨ v'.ownBlock = some w.heap.size) → K (a.put o.dst v') w') :
    o.wp Tryz.prog a w K Q := by
  obtain ⟨i0, hi, hz0, hz1, hz2⟩ := info_parts Tryz.infoEnt
  obtain ⟨v', w', hrun, h2, h3, _, h5⟩ := run_append_own_at (P := Tryz.prog) w base 75 o.type 44 i0 _ 34 64 Tryz.underlying75 hi hz0 hz1 hz2 rfl (by decide) v n xs hown ⟨gb, 0, none⟩ 1 1 cs (by rw [hc6]) (fun j u hu => by
    rw [Addr.add_mid, Nat.zero_add]; exact hc j u hu) h1 (by unfold maxLen; omega) (by omega) hbase
  unfold Oper.wp execOp
  simp only [ho, resolve, invoke, builtin, Sem.run_bind, Sem.run_pure, Result.andThen_ok, List.map_toArray, List.map_cons, List.map_nil, hs, hx, hrun]
  exact h v' w' h2 h3 h5
theorem grown_still0 {w w' : World} {r : Option Nat} (b : Still w w') : w.grownBy w' r := ⟨b.os, b.tape, b.output, b.size, fun k hk _ => b.block k hk⟩
theorem entL_len (t : Int) (K : List UInt8) (v : Value) (h : K.length = 32) : (entL t K v).length = 34 := by have := entV_size t K v h; simpa [entV] using this
theorem entL_one (t : Int) (K : List UInt8) (v : Value) (h : v.oneCell' = true) : ∀ u ∈ entL t K v, u.oneCell' = true := by
  have h1 := entV_one t K v h
  intro u hu
  exact (Array.all_eq_true_iff_forall_mem.1 h1) u (by unfold entV; simpa using hu)

set_option maxRecDepth 100000 in
set_option maxHeartbeats 6400000 in
theorem few1_any (gl : Nat) (t : Int) (K D : List UInt8) (A : Option Addr) (n c L : Nat) (w : World) (B : Nat) (hK : K.length = 32) (hl : EntB w gl t K (.slice A n c)) (hr : Reads w B A n D) (hB : B ≤ w.heap.size) (hc : n ≤ c) (hcm : c ≤ 9223372036854775807) (hA : A = none → n = 0 ∧ c = 0) (hL : 1 ≤ L) (hL2 : L ≤ 1048576) :
    Calls Tryz.prog 45 #[.slice (some ⟨gl, 0, none⟩) 1 1, .int .i64 1, .int .i64 (L : Int)] w fun e w' => (∃ ov v', e = .returned ov ∧ w'.ownsRow w.heap.size 44 34 ov 1 (entL t K v') ∧ w'.ownsRow w.heap.size 5 1 v' (D.take L).length (bytesV (D.take L))) ∧ Still w w' := by
  obtain ⟨m, hm⟩ : ∃ m, m = min n L := ⟨_, rfl⟩
  have hml : (D.take L).length = m := by rw [List.length_take, hr.1, hm]; omega
  rw [hml]
  have RT := Lib.hid (show Reads w B A m (D.take L) by rw [hm]; exact hr.take L)
  have CUT := Lib.hid (fun W (s : Still w W) => show Calls Tryz.prog 118 #[.slice A n c, .int .i64 (L : Int)] W fun e w' => e = .returned (.slice A m c) ∧ W = w' from by rw [hm]; exact cut_any A n c L D W _ (hr.still hB s) hc hcm hL)
  have CP := Lib.hid (fun W (s : Still w W) => copy_any A m c (D.take L) W _ (RT.out.still hB s) (by omega) (fun e => ⟨by have := (hA e).1; omega, (hA e).2⟩))
  have EB := Lib.hid hl
  have HK := Lib.hid hK
  have SOK := Lib.hid (show ∀ W, Still w W → W.cell? ⟨gl, 0, none⟩ = some (.int .i64 t) ∧ W.rangeAt gl 1 (bytesV K) ∧ W.cell? ⟨gl, 33, none⟩ = some (.slice A n c) from fun W s => ⟨(EB.out.still s).tag, (EB.out.still s).key, (EB.out.still s).data hK⟩)
  clear hm hml hr hB hc hcm hA hL hL2 hl hK
  go_enter Tryz.func45, Tryz.ntmps45
  go_wp2_with fail
  go_loopw [7, 8] (fun ov iv wr => ∃ j : Nat, j ≤ 1 ∧ iv = .int .i64 j ∧ ((j = 0 ∧ ov = .slice none 0 0 ∧ wr = w) ∨ (j = 1 ∧ Hid (∃ v', wr.ownsRow w.heap.size 44 34 ov 1 (entL t K v') ∧ wr.ownsRow w.heap.size 5 1 v' m (bytesV (D.take L)) ∧ Still w wr)))) (fun _ iv _ => 1 - (intOf iv).toNat)
  case atStart => exact ⟨0, by omega, rfl, .inl ⟨rfl, rfl, rfl⟩⟩
  case round =>
    obtain ⟨j, hj, rfl, hcase⟩ := hrel
    rcases hcase with ⟨rfl, rfl, hw⟩ | ⟨rfl, hin⟩
    · have hw' := hw.symm
      subst hw'
      clear hw
      have i0 : (((0 : Nat) : Int)) = 0 := rfl
      go_upto_region 5 with fail
      refine wp_region_held_drew (S := fun W => W.cell? ⟨gl, 0, none⟩ = some (.int .i64 t) ∧ W.rangeAt gl 1 (bytesV K) ∧ W.cell? ⟨gl, 33, none⟩ = some (.slice A n c)) (by kernel_rfl) (SOK.out _ ((Still.refl _).drew)) (fun hHeld => ?_)
      obtain ⟨wa, hwa⟩ : ∃ wa, wa = w.drew := ⟨_, rfl⟩
      have SA := Lib.hid (show Still w wa by rw [hwa]; exact (Still.refl _).drew)
      try rw [← hwa] at hHeld
      rw [← hwa]
      clear hwa
      try simp only [Act.put, List.setIfInBounds_toArray, List.set_cons_zero, List.set_cons_succ]
      refine wpAnyH_take (i := 0) (v := .slice none 0 0) rfl (by kernel_rfl) (by kernel_rfl) (by kernel_rfl) (fun _ _ _ h => h) (Or.inl ⟨by kernel_rfl, fun w hS => by obtain ⟨h0, h1, h2⟩ := hS; go_simp⟩) (by assumption) ?_
      try simp only [Act.put, List.setIfInBounds_toArray, List.set_cons_zero, List.set_cons_succ]
      refine wpAnyH_take (i := 1) (v := .slice (some ⟨gl, 0, none⟩) 1 1) rfl (by kernel_rfl) (by kernel_rfl) (by kernel_rfl) (fun _ _ _ h => h) (Or.inl ⟨by kernel_rfl, fun w hS => by obtain ⟨h0, h1, h2⟩ := hS; go_simp⟩) (by assumption) ?_
      try simp only [Act.put, List.setIfInBounds_toArray, List.set_cons_zero, List.set_cons_succ]
      refine wpAnyH_take (i := 2) (v := .int .i64 0) rfl (by kernel_rfl) (by kernel_rfl) (by kernel_rfl) (fun _ _ _ h => h) (Or.inl ⟨by kernel_rfl, fun w hS => by obtain ⟨h0, h1, h2⟩ := hS; go_simp⟩) (by assumption) ?_
      try simp only [Act.put, List.setIfInBounds_toArray, List.set_cons_zero, List.set_cons_succ]
      refine wpAnyH_take (i := 3) (v := .pointer (some ⟨gl, 0, none⟩)) rfl (by kernel_rfl) (by kernel_rfl) (by kernel_rfl) (fun _ _ _ h => h) (Or.inl ⟨by kernel_rfl, fun w hS => by obtain ⟨h0, h1, h2⟩ := hS; go_simp⟩) (by assumption) ?_
      try simp only [Act.put, List.setIfInBounds_toArray, List.set_cons_zero, List.set_cons_succ]
      refine wpAnyH_take (i := 4) (v := .pointer (some ⟨gl, 0, none⟩)) rfl (by kernel_rfl) (by kernel_rfl) (by kernel_rfl) (fun _ _ _ h => h) (Or.inl ⟨by kernel_rfl, fun w hS => by obtain ⟨h0, h1, h2⟩ := hS; go_simp⟩) (by assumption) ?_
      try simp only [Act.put, List.setIfInBounds_toArray, List.set_cons_zero, List.set_cons_succ]
      refine wpAnyH_take (i := 5) (v := .int .i64 t) rfl (by kernel_rfl) (by kernel_rfl) (by kernel_rfl) (fun _ _ _ h => h) (Or.inl ⟨by kernel_rfl, fun w hS => by obtain ⟨h0, h1, h2⟩ := hS; go_simp⟩) (by assumption) ?_
      try simp only [Act.put, List.setIfInBounds_toArray, List.set_cons_zero, List.set_cons_succ]
      refine wpAnyH_take (i := 6) (v := .slice (some ⟨gl, 0, none⟩) 1 1) rfl (by kernel_rfl) (by kernel_rfl) (by kernel_rfl) (fun _ _ _ h => h) (Or.inl ⟨by kernel_rfl, fun w hS => by obtain ⟨h0, h1, h2⟩ := hS; go_simp⟩) (by assumption) ?_
      try simp only [Act.put, List.setIfInBounds_toArray, List.set_cons_zero, List.set_cons_succ]
      refine wpAnyH_take (i := 7) (v := .int .i64 0) rfl (by kernel_rfl) (by kernel_rfl) (by kernel_rfl) (fun _ _ _ h => h) (Or.inl ⟨by kernel_rfl, fun w hS => by obtain ⟨h0, h1, h2⟩ := hS; go_simp⟩) (by assumption) ?_
      try simp only [Act.put, List.setIfInBounds_toArray, List.set_cons_zero, List.set_cons_succ]
      refine wpAnyH_take (i := 8) (v := .pointer (some ⟨gl, 0, none⟩)) rfl (by kernel_rfl) (by kernel_rfl) (by kernel_rfl) (fun _ _ _ h => h) (Or.inl ⟨by kernel_rfl, fun w hS => by obtain ⟨h0, h1, h2⟩ := hS; go_simp⟩) (by assumption) ?_
      try simp only [Act.put, List.setIfInBounds_toArray, List.set_cons_zero, List.set_cons_succ]
      refine wpAnyH_take (i := 9) (v := .pointer (some ⟨gl, 1, none⟩)) rfl (by kernel_rfl) (by kernel_rfl) (by kernel_rfl) (fun _ _ _ h => h) (Or.inl ⟨by kernel_rfl, fun w hS => by obtain ⟨h0, h1, h2⟩ := hS; go_simp⟩) (by assumption) ?_
      try simp only [Act.put, List.setIfInBounds_toArray, List.set_cons_zero, List.set_cons_succ]
      refine wpAnyH_take (i := 10) (oi := ⟨some 30, .load 41 (.tmp 29), _, _, _, none⟩) (v := .agg (bytesV K).toArray) rfl (by kernel_rfl) (by kernel_rfl) (by kernel_rfl) (fun _ _ _ h => h) ?hy10 (by assumption) ?_
      case hy10 =>
        refine yieldsIf_load_mid ?hw 41 (.tmp 29) ?ho gl 1 ?hx (bytesV K) _ (fun w h => h.2.1) under32 rfl (by rw [size32, bytesV_length, HK.out])
        case hw => kernel_rfl
        case ho => rfl
        case hx => kernel_rfl
      try simp only [Act.put, List.setIfInBounds_toArray, List.set_cons_zero, List.set_cons_succ]
      refine wpAnyH_take (i := 11) (oi := ⟨some 31, .move (.tmp 0), _, _, _, none⟩) (v := .slice (some ⟨gl, 0, none⟩) 1 1) rfl (by kernel_rfl) (by kernel_rfl) (by kernel_rfl) (fun _ _ _ h => h) (Or.inl ⟨by kernel_rfl, fun w hS => by obtain ⟨h0, h1, h2⟩ := hS; go_simp⟩) (by assumption) ?_
      try simp only [Act.put, List.setIfInBounds_toArray, List.set_cons_zero, List.set_cons_succ]
      refine wpAnyH_take (i := 12) (oi := ⟨some 32, .move (.tmp 8), _, _, _, none⟩) (v := .int .i64 0) rfl (by kernel_rfl) (by kernel_rfl) (by kernel_rfl) (fun _ _ _ h => h) (Or.inl ⟨by kernel_rfl, fun w hS => by obtain ⟨h0, h1, h2⟩ := hS; go_simp⟩) (by assumption) ?_
      try simp only [Act.put, List.setIfInBounds_toArray, List.set_cons_zero, List.set_cons_succ]
      refine wpAnyH_take (i := 13) (oi := ⟨some 33, .indexAddr 75 (.tmp 31) (.tmp 32), _, _, _, none⟩) (v := .pointer (some ⟨gl, 0, none⟩)) rfl (by kernel_rfl) (by kernel_rfl) (by kernel_rfl) (fun _ _ _ h => h) (Or.inl ⟨by kernel_rfl, fun w hS => by obtain ⟨h0, h1, h2⟩ := hS; go_simp⟩) (by assumption) ?_
      try simp only [Act.put, List.setIfInBounds_toArray, List.set_cons_zero, List.set_cons_succ]
      refine wpAnyH_take (i := 14) (oi := ⟨some 34, .fieldAddr 44 (.tmp 33) 2, _, _, _, none⟩) (v := .pointer (some ⟨gl, 33, none⟩)) rfl (by kernel_rfl) (by kernel_rfl) (by kernel_rfl) (fun _ _ _ h => h) (Or.inl ⟨by kernel_rfl, fun w hS => by obtain ⟨h0, h1, h2⟩ := hS; go_simp⟩) (by assumption) ?_
      try simp only [Act.put, List.setIfInBounds_toArray, List.set_cons_zero, List.set_cons_succ]
      refine wpAnyH_take (i := 15) (oi := ⟨some 35, .load 42 (.tmp 34), _, _, _, none⟩) (v := .slice A n c) rfl (by kernel_rfl) (by kernel_rfl) (by kernel_rfl) (fun _ _ _ h => h) (Or.inl ⟨by kernel_rfl, fun w hS => by obtain ⟨h0, h1, h2⟩ := hS; go_simp⟩) (by assumption) ?_
      try simp only [Act.put, List.setIfInBounds_toArray, List.set_cons_zero, List.set_cons_succ]
      refine wpAnyH_take (i := 16) (oi := ⟨some 36, .move (.tmp 2), _, _, _, none⟩) (v := .int .i64 (L : Int)) rfl (by kernel_rfl) (by kernel_rfl) (by kernel_rfl) (fun _ _ _ h => h) (Or.inl ⟨by kernel_rfl, fun w hS => by obtain ⟨h0, h1, h2⟩ := hS; go_simp⟩) (by assumption) ?_
      try simp only [Act.put, List.setIfInBounds_toArray, List.set_cons_zero, List.set_cons_succ]
      refine wpAnyH_ready (rs := [17]) (by kernel_rfl) (by simp) ?_
      refine AllReadyH.cons (o := ⟨some 37, .call { callee := .value (.func 118), args := #[.tmp 35, .tmp 36], argTypes := #[42, 3] }, _, _, _, none⟩) rfl (fun K' hK' => ?_) AllReadyH.nil
      go_simp
      go_wp2_with (go_at_call 118; refine (CUT.out _ SA.out).mono ?_; rintro e w1 ⟨rfl, rfl⟩)
      refine hK'.out _ _ (SOK.out _ SA.out) (fun hHeld => ?_)
      clear hK' K'
      try simp only [Act.put, List.setIfInBounds_toArray, List.set_cons_zero, List.set_cons_succ]
      refine wpAnyH_ready (rs := [18]) (by kernel_rfl) (by simp) ?_
      refine AllReadyH.cons (o := ⟨some 38, .call { callee := .value (.func 108), args := #[.tmp 37], argTypes := #[42] }, _, _, _, none⟩) rfl (fun K' hK' => ?_) AllReadyH.nil
      go_simp
      go_wp2_with (go_at_call 108; refine (CP.out _ SA.out).mono ?_; rintro e w2 ⟨⟨v2, rfl, own2⟩, s2⟩; have S2 := Lib.hid (SA.out.trans s2))
      obtain ⟨A2, c2, rfl, f1, f2, f3⟩ := own_form own2
      have O2 := Lib.hid own2
      have ZA := Lib.hid (show w.heap.size ≤ wa.heap.size from SA.out.size)
      clear own2 f1 f2 f3 s2
      refine hK'.out _ _ (SOK.out _ S2.out) (fun hHeld => ?_)
      clear hK' K'
      try simp only [Act.put, List.setIfInBounds_toArray, List.set_cons_zero, List.set_cons_succ]
      refine wpAnyH_take (i := 19) (oi := ⟨some 39, .build 44 #[(0, .tmp 25), (1, .tmp 30), (2, .tmp 38)], _, _, _, none⟩) (v := .agg (entV t K (.slice A2 m c2))) rfl (by kernel_rfl) (by kernel_rfl) (by kernel_rfl) (fun _ _ _ h => h) ?hb19 (by assumption) ?_
      case hb19 =>
        refine Or.inl ⟨by kernel_rfl, fun W hS => ?_⟩
        exact run_buildE _ _ (.tmp 25) (.tmp 30) (.tmp 38) rfl t K HK.out (.slice A2 m c2) ⟨_, _, _, rfl⟩ (by kernel_rfl) (by kernel_rfl) (by kernel_rfl) W
      try simp only [Act.put, List.setIfInBounds_toArray, List.set_cons_zero, List.set_cons_succ]
      refine wpAnyH_ready (rs := [20]) (by kernel_rfl) (by simp) ?_
      refine AllReadyH.cons (o := ⟨some 40, .buildSlice 75 1 #[(0, .tmp 39)], _, _, _, none⟩) rfl (fun K' hK' => ?_) AllReadyH.nil
      rw [if_pos (by kernel_rfl)]
      with_reducible refine step_boxE w2 (.tmp 39) (by kernel_rfl) t K HK.out (.slice A2 m c2) ⟨_, _, _, rfl⟩ (by kernel_rfl) ?_
      obtain ⟨w3, hw3⟩ : ∃ w3, w3 = w2.alloc (.cells (entV t K (.slice A2 m c2)) 44) := ⟨_, rfl⟩
      obtain ⟨gx, hgx⟩ : ∃ gx, gx = w2.heap.size := ⟨_, rfl⟩
      have S23 := Lib.hid (show Still w2 w3 by rw [hw3]; exact (Still.refl _).alloc (Nat.le_refl _) _)
      have B3 := Lib.hid (show Blk w3 gx 44 (entV t K (.slice A2 m c2)) by rw [hw3, hgx]; exact Blk.new _ _ _)
      have S3 := Lib.hid (Still.trans S2.out S23.out)
      rw [← hw3, ← hgx]
      clear hw3 hgx
      refine hK'.out _ _ (SOK.out _ S3.out) (fun hHeld => ?_)
      clear hK' K'
      try simp only [Act.put, List.setIfInBounds_toArray, List.set_cons_zero, List.set_cons_succ]
      refine wpAnyH_ready (rs := [21]) (by kernel_rfl) (by simp) ?_
      refine AllReadyH.cons (o := ⟨some 41, .call { callee := .builtin .append, args := #[.tmp 20, .tmp 40], argTypes := #[75, 75] }, _, _, _, none⟩) rfl (fun K' hK' => ?_) AllReadyH.nil
      rw [if_pos (by kernel_rfl)]
      have kq1 := World.ownsRow_nil w3 w.heap.size 44 34
      have kq2 : ∀ q u, (entL t K (.slice A2 m c2))[q]? = some u → w3.cell? ⟨gx, q, none⟩ = some u := fun q u hq => (B3.out.cell q).trans (by unfold entV; rw [List.getElem?_toArray]; exact hq)
      have kq3 := entL_len t K (.slice A2 m c2) HK.out
      have kq4 := entL_one t K (.slice A2 m c2) rfl
      have kq5 : w.heap.size ≤ w3.heap.size := S3.out.size
      with_reducible refine step_pushE w3 (.tmp 20) (.tmp 40) (by kernel_rfl) w.heap.size (.slice none 0 0) 0 [] (by kernel_rfl) kq1 gx (entL t K (.slice A2 m c2)) (by kernel_rfl) kq2 kq3 kq4 (by decide) kq5 ?_
      intro v4 w4 own4 gr4 loc4
      have FIN := Lib.hid (show ∃ v', w4.ownsRow w.heap.size 44 34 v4 1 (entL t K v') ∧ w4.ownsRow w.heap.size 5 1 v' m (bytesV (D.take L)) ∧ Still w w4 from by
        have s34 : Still w3 w4 := (Below.refl _ _).grown gr4 (Nat.le_refl _) (fun k hk => by cases hk)
        refine ⟨.slice A2 m c2, by simpa using own4, ?_, Still.trans S3.out s34⟩
        exact own_rebase0 ((O2.out.kept (row := none) (grown_still0 (Still.trans S23.out s34)) (by
          cases h : (Value.slice A2 m c2).ownBlock with
          | none => exact .inl rfl
          | some k => exact .inr (fun e => by cases e)))) ZA.out)
      have SF := Lib.hid (SOK.out w4 (by obtain ⟨_, _, _, h⟩ := FIN.out; exact h))
      clear own4 gr4 loc4 kq1 kq2 kq3 kq4 kq5 B3 S23 O2 S2 S3
      refine hK'.out _ _ SF.out (fun hHeld => ?_)
      clear hK' K'
      try simp only [Act.put, List.setIfInBounds_toArray, List.set_cons_zero, List.set_cons_succ]
      refine wpAnyH_take (i := 22) (oi := ⟨some 7, .assign (.tmp 41), _, _, _, none⟩) (v := v4) rfl (by kernel_rfl) (by kernel_rfl) (by kernel_rfl) (fun _ _ _ h => h) (Or.inl ⟨by kernel_rfl, fun w hS => by go_simp⟩) (by assumption) ?_
      try simp only [Act.put, List.setIfInBounds_toArray, List.set_cons_zero, List.set_cons_succ]
      refine wpAnyH_done (by kernel_rfl) ?_ _
      go_wp2_with fail
      go_roundw
      case rel => exact ⟨1, by omega, by go_num, .inr ⟨rfl, FIN.out⟩⟩
      case measure => simp [intOf]
    · obtain ⟨v', h1, h2, h3⟩ := hin.out
      have O1 := Lib.hid h1
      have O2 := Lib.hid h2
      have S3 := Lib.hid h3
      clear h1 h2 h3 hin
      go_wp2_with fail
      go_ret
      exact ⟨⟨_, v', rfl, O1.out, O2.out⟩, S3.out⟩
end Go.Proofs.YtfneloobfidckaaGreatDoor
