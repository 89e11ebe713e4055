/- Contracts and facts, several texts in one. It proves no statement. -/
import Derived.Test.YtmpnehhndhepgaaDoorPackGc
import Derived.Test.YtmpnehhndhepgaaDoorPackGd
import Derived.Deep.RegionHeld3

/- Rows of keys that grow, and reading keys and values ahead. It proves no statement. -/


namespace Go.Proofs.YtmpnehhndhepgaaDoor
open Go.RowKit
set_option linter.unusedVariables false
set_option linter.unusedSimpArgs false

/-- What was read ahead of what is still to be read. -/
def preM (ak : List (List UInt8)) (al : List Tr) (z : Int × (List (List UInt8) × List Tr) × List UInt8) : Int × (List (List UInt8) × List Tr) × List UInt8 :=
  if z.1 ≠ 0 then (z.1, ([], []), []) else (0, (ak ++ z.2.1.1, al ++ z.2.1.2), z.2.2)
theorem preM_step (dec : List UInt8 → Int × Tr × List UInt8) (ak : List (List UInt8)) (al : List Tr) (m : Nat) (last : Option (List UInt8)) (l : List UInt8) :
    preM ak al (decM dec (m + 1) last l) = if (keD l).1 ≠ 0 then ((keD l).1, ([], []), []) else if ordB last (keD l).2.1 = true then (4, ([], []), [])
      else if (dec (keD l).2.2).1 ≠ 0 then ((dec (keD l).2.2).1, ([], []), [])
      else preM (ak ++ [(keD l).2.1]) (al ++ [(dec (keD l).2.2).2.1]) (decM dec m (some (keD l).2.1) (dec (keD l).2.2).2.2) := by
  rw [decM_succ]
  by_cases h : (keD l).1 ≠ 0
  · rw [if_pos h, if_pos h]
    unfold preM
    rw [if_pos h]
  rw [if_neg h, if_neg h]
  by_cases ho : ordB last (keD l).2.1 = true
  · rw [if_pos ho, if_pos ho]
    unfold preM
    rw [if_pos (show (4 : Int) ≠ 0 by decide)]
  rw [if_neg ho, if_neg ho]
  by_cases hd : (dec (keD l).2.2).1 ≠ 0
  · rw [if_pos hd, if_pos hd]
    unfold preM
    rw [if_pos hd]
  rw [if_neg hd, if_neg hd]
  by_cases h2 : (decM dec m (some (keD l).2.1) (dec (keD l).2.2).2.2).1 ≠ 0
  · rw [if_pos h2]
    unfold preM
    rw [if_pos h2, if_pos h2]
  · rw [if_neg h2]
    unfold preM
    rw [if_neg h2, if_neg (show ¬ (0 : Int) ≠ 0 by decide)]
    simp
theorem preM_zero (dec : List UInt8 → Int × Tr × List UInt8) (ak : List (List UInt8)) (al : List Tr) (last : Option (List UInt8)) (l : List UInt8) : preM ak al (decM dec 0 last l) = (0, (ak, al), l) := by
  unfold decM preM
  simp
theorem preM_nil (dec : List UInt8 → Int × Tr × List UInt8) (n : Nat) (l : List UInt8) : preM [] [] (decM dec n none l) = decM dec n none l := by
  cases n with
  | zero => rfl
  | succ n =>
    rw [preM_step, decM_succ]
    by_cases h : (keD l).1 ≠ 0
    · rw [if_pos h, if_pos h]
    rw [if_neg h, if_neg h]
    by_cases ho : ordB none (keD l).2.1 = true
    · rw [if_pos ho, if_pos ho]
    rw [if_neg ho, if_neg ho]
    by_cases hd : (dec (keD l).2.2).1 ≠ 0
    · rw [if_pos hd, if_pos hd]
    rw [if_neg hd, if_neg hd]
    unfold preM
    rfl

theorem Tryd.infoString : (Tryd.prog.info? 9).map (fun i => (i.zero, i.size, i.bytes)) = some (some (.string ⟨#[]⟩), 1, 16) := by kernel_rfl

/-- 'keys = append(keys, key)': one text more on a row of the call's own. -/
theorem wpList_pushS (w : World) {ops : Array Oper} {rest : List Oper} {o : Oper} {a : Act} {Q : Exit → Act → World → Prop} (hgd : o.guard = none) (s x : Operand)
    (ho : o.op = .call { callee := .builtin .append, args := #[s, x], argTypes := #[23, 23] })
    (base : Nat) (v : Value) (n : Nat) (xs : List Value) (hs : a.eval s = v) (hown : w.ownsRow base 9 1 v n xs) (gb : Nat) (u : ByteArray)
    (hx : a.eval x = .slice (some ⟨gb, 0, none⟩) 1 1) (hc : w.cell? ⟨gb, 0, none⟩ = some (.string u)) (hn : n ≤ 1048576) (hbase : base ≤ w.heap.size)
    (h : ∀ v' w', w'.ownsRow base 9 1 v' (n + 1) (xs ++ [.string u]) → w.grownBy w' v.ownBlock → (v'.ownBlock = v.ownBlock ∨ v'.ownBlock = some w.heap.size) → wpList Tryd.prog ops Q rest (a.put o.dst v') w') :
    wpList Tryd.prog ops Q (o :: rest) a w := by
  obtain ⟨i0, hi, hz0, hz1, hz2⟩ := info_parts Tryd.infoString
  refine wpList_plain hgd fun _ hK => ?_
  obtain ⟨v', w', hrun, h2, h3, _, h5⟩ := run_append_own_at (P := Tryd.prog) w base 23 o.type 9 i0 (.string ⟨#[]⟩) 1 16 Tryd.underlying23 hi hz0 hz1 hz2 rfl (by decide) v n xs hown ⟨gb, 0, none⟩ 1 1 [.string u] (by rfl) (fun j y hy => by
    rcases j with _ | j
    · simp only [List.getElem?_cons_zero, Option.some.injEq] at hy
      subst hy
      rw [Addr.add_mid, Nat.zero_add]; exact hc
    · simp at hy) (by intro y hy; simp only [List.mem_singleton] at hy; subst hy; rfl) (by unfold maxLen; omega) (by omega) hbase
  unfold Oper.wp execOp
  simp only [ho, resolve, invoke, builtin, Sem.run_bind, Sem.run_pure, Result.andThen_ok, List.map_toArray, List.map_cons, List.map_nil, hs, hx, hrun]
  exact hK _ _ (h v' w' h2 h3 h5)
/-- A row of the call's own as a row of keys. -/
theorem keysOf {w : World} {P : Nat → Prop} {base g' : Nat} {cap n : Nat} {ks : List (List UInt8)} (hk : ks.length = n) (own : w.ownsRow base 9 1 (.slice (some ⟨g', 0, none⟩) n cap) n (ks.map fun k => .string (mkS k))) (j : Nat) (hj : j < ks.length) :
    w.cell? ⟨g', 0 + j, none⟩ = some (.string ((ks.map mkS).getD j ByteArray.empty)) := by
  rw [Nat.zero_add]
  refine (own.cellAt j (by omega)).trans ?_
  simp [List.getD, hj]
end Go.Proofs.YtmpnehhndhepgaaDoor

/- What holds in the midst of one statement that appends to two rows. It proves no statement. -/


namespace Go.Proofs.YtmpnehhndhepgaaDoor
open Go.RowKit
set_option linter.unusedVariables false
set_option linter.unusedSimpArgs false

/-- Two rows of the call's own, one of keys, one of values; a value behind them; a reader; a box. -/
structure MidJ (w1 : World) (lo B h g gx : Nat) (lr : List UInt8) (tr : Tr) (cs : List Value) (W : World) (kv : Value) (nk : Nat) (ks : List Value) (lv : Value) (nv : Nat) (xs : List Value) (al : List Tr) : Prop where
  ownk : W.ownsRow w1.heap.size 9 1 kv nk ks
  ownl : W.ownsRow w1.heap.size 26 6 lv nv xs
  ne : ∀ b, kv.ownBlock = some b → lv.ownBlock ≠ some b
  row : HasR W (fun b => w1.heap.size ≤ b ∧ lv.ownBlock ≠ some b ∧ kv.ownBlock ≠ some b) al xs
  val : HasP W (fun b => w1.heap.size ≤ b ∧ lv.ownBlock ≠ some b ∧ kv.ownBlock ≠ some b) tr cs.toArray
  rd : Rd W lo B h g lr 0
  gr : w1.grownBy W (some g)
  box : Blk W gx 26 cs.toArray
  bk : kv.ownBlock ≠ some gx
  bl : lv.ownBlock ≠ some gx
  hB : B ≤ w1.heap.size
  hg : g < B

theorem mid_start {w1 wr w2 w3 w4 : World} {lo B h g gx : Nat} {lr : List UInt8} {tr : Tr} {cs : List Value} {kv : Value} {nk : Nat} {ks : List Value} {lv : Value} {nv : Nat} {xs : List Value} {al : List Tr}
    (ownk : wr.ownsRow w1.heap.size 9 1 kv nk ks) (ownl : wr.ownsRow w1.heap.size 26 6 lv nv xs) (ne : ∀ b, kv.ownBlock = some b → lv.ownBlock ≠ some b)
    (row : HasR wr (fun b => w1.heap.size ≤ b ∧ lv.ownBlock ≠ some b ∧ kv.ownBlock ≠ some b) al xs) (gr1 : w1.grownBy wr (some g)) (gr2 : wr.grownBy w2 (some g)) (gr3 : w2.grownBy w3 (some g))
    (val : HasP w3 (fun b => w2.heap.size ≤ b) tr cs.toArray) (rd : Rd w3 lo B h g lr 0) (s4 : Still w3 w4) (box : Blk w4 gx 26 cs.toArray) (hgx : gx = w3.heap.size) (hB : B ≤ w1.heap.size) (hg : g < B) :
    MidJ w1 lo B h g gx lr tr cs w4 kv nk ks lv nv xs al := by
  have z1 := gr1.size
  have z2 := gr2.size
  have z3 := gr3.size
  have z4 := s4.size
  have gr : wr.grownBy w4 (some g) := grown_trans gr2 (grown_trans gr3 (grown_of_still s4))
  have ok : ∀ b, kv.ownBlock = some b → w1.heap.size ≤ b ∧ b < wr.heap.size := fun b e => ownk.lt b e
  have ol : ∀ b, lv.ownBlock = some b → w1.heap.size ≤ b ∧ b < wr.heap.size := fun b e => ownl.lt b e
  exact
  { ownk := ownk.kept gr (.inr fun e => by have h1 := (ok g e).1; omega)
    ownl := ownl.kept gr (.inr fun e => by have h1 := (ol g e).1; omega)
    ne := ne
    row := HasR.keep (fun b hb hl => gr.block b hl (fun e => by have := Option.some.inj e; have := hb.1; omega)) gr.size (fun _ hb _ => hb) _ _ row
    val := HasP.keep (fun b hb hl => s4.block b hl) s4.size (fun b hb hl => ⟨by omega, fun e => by have := (ol b e).2; omega, fun e => by have := (ok b e).2; omega⟩) _ _ val
    rd := rd.still s4
    gr := grown_trans gr1 gr
    box := box
    bk := fun e => by have := (ok gx e).2; omega
    bl := fun e => by have := (ol gx e).2; omega
    hB := hB
    hg := hg }
section
variable {w1 : World} {lo B h g gx : Nat} {lr : List UInt8} {tr : Tr} {cs : List Value} {W W' : World} {kv : Value} {nk : Nat} {ks : List Value} {lv : Value} {nv : Nat} {xs : List Value} {al : List Tr}

theorem MidJ.still (J : MidJ w1 lo B h g gx lr tr cs W kv nk ks lv nv xs al) (s : Still W W') : MidJ w1 lo B h g gx lr tr cs W' kv nk ks lv nv xs al :=
  { ownk := J.ownk.kept (grown_of_still (r := some g) s) (.inr fun e => by have h1 := J.ownk.lt g e; have h2 := J.hB; have h3 := J.hg; omega)
    ownl := J.ownl.kept (grown_of_still (r := some g) s) (.inr fun e => by have h1 := J.ownl.lt g e; have h2 := J.hB; have h3 := J.hg; omega)
    ne := J.ne
    row := HasR.keep (fun b _ hl => s.block b hl) s.size (fun _ hb _ => hb) _ _ J.row
    val := HasP.keep (fun b _ hl => s.block b hl) s.size (fun _ hb _ => hb) _ _ J.val
    rd := J.rd.still s
    gr := grown_trans J.gr (grown_of_still s)
    box := J.box.still s
    bk := J.bk
    bl := J.bl
    hB := J.hB
    hg := J.hg }

theorem MidJ.pushK (J : MidJ w1 lo B h g gx lr tr cs W kv nk ks lv nv xs al) {v' : Value} {u : Value} (own : W'.ownsRow w1.heap.size 9 1 v' (nk + 1) (ks ++ [u])) (gr : W.grownBy W' kv.ownBlock) (loc : v'.ownBlock = kv.ownBlock ∨ v'.ownBlock = some W.heap.size) :
    MidJ w1 lo B h g gx lr tr cs W' v' (nk + 1) (ks ++ [u]) lv nv xs al := by
  have old : ∀ b, kv.ownBlock = some b → w1.heap.size ≤ b ∧ b < W.heap.size := fun b e => J.ownk.lt b e
  have oldl : ∀ b, lv.ownBlock = some b → w1.heap.size ≤ b ∧ b < W.heap.size := fun b e => J.ownl.lt b e
  have new : ∀ b, v'.ownBlock = some b → kv.ownBlock = some b ∨ b = W.heap.size := fun b e => by
    rcases loc with h | h
    · exact .inl (h ▸ e)
    · rw [h] at e; exact .inr (Option.some.inj e).symm
  have q : ∀ b, (w1.heap.size ≤ b ∧ lv.ownBlock ≠ some b ∧ kv.ownBlock ≠ some b) → b < W.heap.size → (w1.heap.size ≤ b ∧ lv.ownBlock ≠ some b ∧ v'.ownBlock ≠ some b) := fun b hb hl => ⟨hb.1, hb.2.1, fun e => by
    rcases new b e with h | h
    · exact hb.2.2 h
    · omega⟩
  have k : ∀ b, (w1.heap.size ≤ b ∧ lv.ownBlock ≠ some b ∧ kv.ownBlock ≠ some b) → b < W.heap.size → W'.heap[b]? = W.heap[b]? := fun b hb hl => gr.block b hl fun e => hb.2.2 e.symm
  exact
  { ownk := own
    ownl := J.ownl.kept gr (by
      rcases hl : lv.ownBlock with _ | b
      · exact .inl rfl
      · exact .inr fun e => J.ne b e.symm hl)
    ne := fun b e1 e2 => by
      rcases new b e1 with h | h
      · exact J.ne b h e2
      · have := (oldl b e2).2; omega
    row := HasR.keep k gr.size q _ _ J.row
    val := HasP.keep k gr.size q _ _ J.val
    rd := J.rd.below ((Below.refl _ _).grown gr (by have h1 := J.hB; have h2 := J.gr.size; omega) (fun b e => by have h1 := (old b e).1; have h2 := J.hB; omega))
    gr := ⟨gr.os.trans J.gr.os, gr.tape.trans J.gr.tape, gr.output.trans J.gr.output, Nat.le_trans J.gr.size gr.size, fun b hb hne => (gr.block b (by have := J.gr.size; omega) (fun e => by have := (old b e.symm).1; omega)).trans (J.gr.block b hb hne)⟩
    box := (gr.block gx J.box.lt (fun e => J.bk e.symm)).trans J.box
    bk := fun e => by
      rcases new gx e with h | h
      · exact J.bk h
      · have := J.box.lt; omega
    bl := J.bl
    hB := J.hB
    hg := J.hg }

theorem MidJ.pushV (J : MidJ w1 lo B h g gx lr tr cs W kv nk ks lv nv xs al) (h6 : cs.length = 6) {v' : Value} (own : W'.ownsRow w1.heap.size 26 6 v' (nv + 1) (xs ++ cs)) (gr : W.grownBy W' lv.ownBlock) (loc : v'.ownBlock = lv.ownBlock ∨ v'.ownBlock = some W.heap.size) :
    MidJ w1 lo B h g gx lr tr cs W' kv nk ks v' (nv + 1) (xs ++ cs) (al ++ [tr]) := by
  have old : ∀ b, lv.ownBlock = some b → w1.heap.size ≤ b ∧ b < W.heap.size := fun b e => J.ownl.lt b e
  have oldk : ∀ b, kv.ownBlock = some b → w1.heap.size ≤ b ∧ b < W.heap.size := fun b e => J.ownk.lt b e
  have new : ∀ b, v'.ownBlock = some b → lv.ownBlock = some b ∨ b = W.heap.size := fun b e => by
    rcases loc with h | h
    · exact .inl (h ▸ e)
    · rw [h] at e; exact .inr (Option.some.inj e).symm
  have q : ∀ b, (w1.heap.size ≤ b ∧ lv.ownBlock ≠ some b ∧ kv.ownBlock ≠ some b) → b < W.heap.size → (w1.heap.size ≤ b ∧ v'.ownBlock ≠ some b ∧ kv.ownBlock ≠ some b) := fun b hb hl => ⟨hb.1, fun e => by
    rcases new b e with h | h
    · exact hb.2.1 h
    · omega, hb.2.2⟩
  have k : ∀ b, (w1.heap.size ≤ b ∧ lv.ownBlock ≠ some b ∧ kv.ownBlock ≠ some b) → b < W.heap.size → W'.heap[b]? = W.heap[b]? := fun b hb hl => gr.block b hl fun e => hb.2.1 e.symm
  have val := HasP.keep k gr.size q _ _ J.val
  exact
  { ownk := J.ownk.kept gr (by
      rcases hl : kv.ownBlock with _ | b
      · exact .inl rfl
      · exact .inr fun e => J.ne b hl e.symm)
    ownl := own
    ne := fun b e1 e2 => by
      rcases new b e2 with h | h
      · exact J.ne b e1 h
      · have := (oldk b e1).2; omega
    row := HasR.snoc val h6 _ _ (HasR.keep k gr.size q _ _ J.row)
    val := val
    rd := J.rd.below ((Below.refl _ _).grown gr (by have h1 := J.hB; have h2 := J.gr.size; omega) (fun b e => by have h1 := (old b e).1; have h2 := J.hB; omega))
    gr := ⟨gr.os.trans J.gr.os, gr.tape.trans J.gr.tape, gr.output.trans J.gr.output, Nat.le_trans J.gr.size gr.size, fun b hb hne => (gr.block b (by have := J.gr.size; omega) (fun e => by have := (old b e.symm).1; omega)).trans (J.gr.block b hb hne)⟩
    box := (gr.block gx J.box.lt (fun e => J.bl e.symm)).trans J.box
    bk := J.bk
    bl := fun e => by
      rcases new gx e with h | h
      · exact J.bl h
      · have := J.box.lt; omega
    hB := J.hB
    hg := J.hg }

/-- A row that was laid for one element stands till it is read. -/
structure Laid (W : World) (b : Nat) (t : TypeId) (cs : Array Value) (kv lv : Value) : Prop where
  blk : Blk W b t cs
  nk : kv.ownBlock ≠ some b
  nl : lv.ownBlock ≠ some b
theorem Laid.still {b : Nat} {t : TypeId} {us : Array Value} (L : Laid W b t us kv lv) (s : Still W W') : Laid W' b t us kv lv := ⟨L.blk.still s, L.nk, L.nl⟩
theorem Laid.pushK {b : Nat} {t : TypeId} {us : Array Value} {v' : Value} (L : Laid W b t us kv lv) (gr : W.grownBy W' kv.ownBlock) (loc : v'.ownBlock = kv.ownBlock ∨ v'.ownBlock = some W.heap.size) : Laid W' b t us v' lv :=
  ⟨(gr.block b L.blk.lt (fun e => L.nk e.symm)).trans L.blk, fun e => by
    rcases loc with h | h
    · exact L.nk (h ▸ e)
    · rw [h] at e; have := Option.some.inj e; have := L.blk.lt; omega, L.nl⟩
theorem Laid.pushV {b : Nat} {t : TypeId} {us : Array Value} {v' : Value} (L : Laid W b t us kv lv) (gr : W.grownBy W' lv.ownBlock) (loc : v'.ownBlock = lv.ownBlock ∨ v'.ownBlock = some W.heap.size) : Laid W' b t us kv v' :=
  ⟨(gr.block b L.blk.lt (fun e => L.nl e.symm)).trans L.blk, L.nk, fun e => by
    rcases loc with h | h
    · exact L.nl (h ▸ e)
    · rw [h] at e; have := Option.some.inj e; have := L.blk.lt; omega⟩
theorem MidJ.laid (J : MidJ w1 lo B h g gx lr tr cs W kv nk ks lv nv xs al) (t : TypeId) (us : Array Value) : Laid (W.alloc (.cells us t)) W.heap.size t us kv lv :=
  ⟨Blk.new _ _ _, fun e => by have := (J.ownk.lt _ e).2; omega, fun e => by have := (J.ownl.lt _ e).2; omega⟩
end

/-- 'append(l, v)', one operation. -/
theorem step_pushV (w : World) {o : Oper} {a : Act} {K : Act → World → Prop} {Q : Exit → Act → World → Prop} (s x : Operand)
    (ho : o.op = .call { callee := .builtin .append, args := #[s, x], argTypes := #[24, 24] })
    (base : Nat) (v : Value) (n : Nat) (xs : List Value) (hs : a.eval s = v) (hown : w.ownsRow base 26 6 v n xs) (gb : Nat) (cs : List Value)
    (hx : a.eval x = .slice (some ⟨gb, 0, none⟩) 1 1) (hc : ∀ j u, cs[j]? = some u → w.cell? ⟨gb, j, none⟩ = some u) (hc6 : cs.length = 6) (h1 : ∀ u ∈ cs, u.oneCell' = true) (hn : n ≤ 1048576) (hbase : base ≤ w.heap.size)
    (h : ∀ v' w', w'.ownsRow base 26 6 v' (n + 1) (xs ++ cs) → w.grownBy w' v.ownBlock → (v'.ownBlock = v.ownBlock ∨ v'.ownBlock = some w.heap.size) → K (a.put o.dst v') w') :
    o.wp Tryd.prog a w K Q := by
  obtain ⟨i0, hi, hz0, hz1, hz2⟩ := info_parts Tryd.infoValue
  obtain ⟨v', w', hrun, h2, h3, _, h5⟩ := run_append_own_at (P := Tryd.prog) w base 24 o.type 26 i0 (.agg cellsZ) 6 104 Tryd.underlying24 hi hz0 hz1 hz2 rfl (by decide) v n xs hown ⟨gb, 0, none⟩ 1 1 cs (by rw [hc6]) (fun j u hu => by
    rw [Addr.add_mid, Nat.zero_add]; exact hc j u hu) h1 (by unfold maxLen; omega) (by omega) hbase
  unfold Oper.wp execOp
  simp only [ho, resolve, invoke, builtin, Sem.run_bind, Sem.run_pure, Result.andThen_ok, List.map_toArray, List.map_cons, List.map_nil, hs, hx, hrun]
  exact h v' w' h2 h3 h5
/-- 'append(keys, key)', one operation. -/
theorem step_pushS (w : World) {o : Oper} {a : Act} {K : Act → World → Prop} {Q : Exit → Act → World → Prop} (s x : Operand)
    (ho : o.op = .call { callee := .builtin .append, args := #[s, x], argTypes := #[23, 23] })
    (base : Nat) (v : Value) (n : Nat) (xs : List Value) (hs : a.eval s = v) (hown : w.ownsRow base 9 1 v n xs) (gb : Nat) (u : ByteArray)
    (hx : a.eval x = .slice (some ⟨gb, 0, none⟩) 1 1) (hc : w.cell? ⟨gb, 0, none⟩ = some (.string u)) (hn : n ≤ 1048576) (hbase : base ≤ w.heap.size)
    (h : ∀ v' w', w'.ownsRow base 9 1 v' (n + 1) (xs ++ [.string u]) → w.grownBy w' v.ownBlock → (v'.ownBlock = v.ownBlock ∨ v'.ownBlock = some w.heap.size) → K (a.put o.dst v') w') :
    o.wp Tryd.prog a w K Q := by
  obtain ⟨i0, hi, hz0, hz1, hz2⟩ := info_parts Tryd.infoString
  obtain ⟨v', w', hrun, h2, h3, _, h5⟩ := run_append_own_at (P := Tryd.prog) w base 23 o.type 9 i0 (.string ⟨#[]⟩) 1 16 Tryd.underlying23 hi hz0 hz1 hz2 rfl (by decide) v n xs hown ⟨gb, 0, none⟩ 1 1 [.string u] (by rfl) (fun j y hy => by
    rcases j with _ | j
    · simp only [List.getElem?_cons_zero, Option.some.injEq] at hy
      subst hy
      rw [Addr.add_mid, Nat.zero_add]; exact hc
    · simp at hy) (by intro y hy; simp only [List.mem_singleton] at hy; subst hy; rfl) (by unfold maxLen; omega) (by omega) hbase
  unfold Oper.wp execOp
  simp only [ho, resolve, invoke, builtin, Sem.run_bind, Sem.run_pure, Result.andThen_ok, List.map_toArray, List.map_cons, List.map_nil, hs, hx, hrun]
  exact h v' w' h2 h3 h5

theorem step_boxV (w : World) {o : Oper} {a : Act} {K : Act → World → Prop} {Q : Exit → Act → World → Prop} (x : Operand)
    (ho : o.op = .buildSlice 24 1 #[(0, x)]) (cs : List Value) (h6 : cs.length = 6) (hx : a.eval x = .agg cs.toArray)
    (h : K (a.put o.dst (.slice (some ⟨w.heap.size, 0, none⟩) 1 1)) (w.alloc (.cells cs.toArray 26))) : o.wp Tryd.prog a w K Q := by
  obtain ⟨i0, hi, hz0, hz1, hz2⟩ := info_parts Tryd.infoValue
  refine wp_buildSlice 24 26 1 #[(0, x)] ho cs.toArray i0 (.agg cellsZ) Tryd.underlying24 hi hz0 (by rw [hz1]; decide) (by rw [hz1]; decide) ?_ h
  rw [hz1]
  simp only [List.map_toArray, List.map_cons, List.map_nil, hx]
  match cs, h6 with
  | [a, b, c, d, e, f], _ =>
    simp [Instr.fill, Value.cells, cellsZ, Array.range_succ, show Array.range 0 = #[] from by simp [Array.range]]
theorem step_boxS (w : World) {o : Oper} {a : Act} {K : Act → World → Prop} {Q : Exit → Act → World → Prop} (x : Operand)
    (ho : o.op = .buildSlice 23 1 #[(0, x)]) (u : ByteArray) (hx : a.eval x = .string u)
    (h : K (a.put o.dst (.slice (some ⟨w.heap.size, 0, none⟩) 1 1)) (w.alloc (.cells #[.string u] 9))) : o.wp Tryd.prog a w K Q := by
  obtain ⟨i0, hi, hz0, hz1, hz2⟩ := info_parts Tryd.infoString
  refine wp_buildSlice 23 9 1 #[(0, x)] ho #[.string u] i0 (.string ⟨#[]⟩) Tryd.underlying23 hi hz0 (by rw [hz1]; decide) (by rw [hz1]; decide) ?_ h
  rw [hz1]
  simp only [List.map_toArray, List.map_cons, List.map_nil, hx]
  simp [Instr.fill, Value.cells, Array.range_succ, show Array.range 0 = #[] from by simp [Array.range]]
end Go.Proofs.YtmpnehhndhepgaaDoor

/- Contract: keys and values read, whatever bytes there are. It proves no statement. -/

namespace Go.Proofs.YtmpnehhndhepgaaDoor
open Go.RowKit
set_option linter.unusedVariables false
set_option linter.unusedSimpArgs false

/-- A map behind a tag: the error, the keys and the values, what is left. -/
def maD (f t : Nat) (l : List UInt8) : Int × (List (List UInt8) × List Tr) × List UInt8 := if (szD 7 t l).1 ≠ 0 then ((szD 7 t l).1, ([], []), []) else decM (decV f) (szD 7 t l).2.1 none (szD 7 t l).2.2

theorem txD_len (t : UInt8) (l b r : List UInt8) (hk : kd t.toNat = 5) (h : txD t.toNat l = (0, b, r)) : b.length ≤ 65535 := by
  have hbd := szD_bd 5 t.toNat l (tagOf_kd 5 t.toNat (by omega) (by omega) t.toNat_lt hk)
  unfold txD at h
  generalize szD 5 t.toNat l = z at h hbd
  split at h
  · rename_i h1; simp only [Prod.mk.injEq] at h; exact absurd h.1 h1
  split at h
  · simp at h
  simp only [Prod.mk.injEq, true_and] at h
  rw [← h.1, List.length_take]
  omega
theorem keD_len (l b r : List UInt8) (h : keD l = (0, b, r)) : b.length ≤ 65535 := by
  rcases l with _ | ⟨t, l⟩
  · have h' : (3 : Int) = 0 := congrArg Prod.fst h
    exact absurd h' (by decide)
  rw [keD_cons] at h
  split at h
  · rename_i hk; exact txD_len t l b r hk h
  · simp at h
theorem box_range {w : World} {gx : Nat} {t : TypeId} {cs : List Value} (b : Blk w gx t cs.toArray) : w.rangeAt gx 0 cs := fun j v hj => by
  rw [Nat.zero_add]
  exact (b.cell j).trans (by simpa using hj)
theorem still_new (w : World) (o : Obj) : Still w (w.alloc o) := (Still.refl w).alloc (Nat.le_refl _) o
theorem keysP_own {w : World} {base n : Nat} {v : Value} {ak : List (List UInt8)} (hn : ak.length = n) (own : w.ownsRow base 9 1 v n (ak.map fun k => .string (mkS k))) (hl : ∀ k ∈ ak, k.length ≤ 65535) (Q : Nat → Prop) (hQ : ∀ b, base ≤ b → Q b) :
    ∃ A c, v = .slice A ak.length c ∧ KeysP w Q A (ak.map mkS) := by
  have hs : ∀ s ∈ ak.map mkS, s.size ≤ 1048576 := by
    intro s hs
    obtain ⟨k, hk, rfl⟩ := List.mem_map.1 hs
    have h1 := hl k hk
    have h2 : (mkS k).size = k.length := by simp [mkS, ByteArray.size]
    omega
  rcases own.2 with ⟨hv, h0⟩ | ⟨g', cap, cur, hv, hlo, hgb, _⟩
  · have hz : ak.length = 0 := by omega
    exact ⟨none, 0, by rw [hv, hz], hs, fun h => absurd h (by rw [List.length_map, hz]; omega)⟩
  · refine ⟨some ⟨g', 0, none⟩, cap, by rw [hv, hn], hs, fun _ => ⟨g', 0, rfl, hQ _ hlo, (Array.getElem?_eq_some_iff.1 hgb).1, fun j hj => ?_⟩⟩
    rw [hv] at own
    exact keysOf (P := fun _ => True) hn own j (by simpa using hj)
theorem valsP_own {w : World} {base n : Nat} {v : Value} {al : List Tr} {xs : List Value} {P : Nat → Prop} (hn : al.length = n) (own : w.ownsRow base 26 6 v n xs) (hR : HasR w P al xs) (Q : Nat → Prop) (hP : ∀ b, P b → Q b) :
    ∃ A c, v = .slice A al.length c ∧ (0 < al.length → ∃ g' o, A = some ⟨g', o, none⟩ ∧ base ≤ g' ∧ g' < w.heap.size ∧ HasLP w Q g' o al) := by
  have hQ := HasR.keep (w := w) (w' := w) (Q := Q) (fun _ _ _ => rfl) (Nat.le_refl _) (fun b hb _ => hP b hb) _ _ hR
  rcases own.2 with ⟨hv, h0⟩ | ⟨g', cap, cur, hv, hlo, hgb, _⟩
  · have hz : al.length = 0 := by omega
    exact ⟨none, 0, by rw [hv, hz], fun h => absurd h (by omega)⟩
  · refine ⟨some ⟨g', 0, none⟩, cap, by rw [hv, hn], fun _ => ⟨g', 0, rfl, hlo, (Array.getElem?_eq_some_iff.1 hgb).1, ?_⟩⟩
    rw [hv] at own
    exact HasR.toL _ _ 0 hQ fun i v hi => by
      rw [Nat.zero_add]
      have hl := own.1
      have hil := (List.getElem?_eq_some_iff.1 hi).1
      exact (own.cellAt i (by omega)).trans hi

set_option maxRecDepth 100000 in
set_option maxHeartbeats 3200000 in
theorem rrows_any (f : Nat) (hf : f ≤ 16) (OK : RdOK f) {w : World} {lo B h g : Nat} {l : List UInt8} (r : Rd w lo B h g l 0) (T : Sizes w) (hgl : 0 < lo) (t : Nat) (ht : TagOf 7 t) :
    Calls Tryd.prog 55 #[.pointer (some ⟨h, 0, none⟩), .int .u8 (t : Int), .int .i64 (16 - (f : Int))] w fun e w' =>
      (∃ u v, e = .returned (.tuple #[u, v, .int .i64 (maD f t l).1]) ∧ u.oneCell' = true ∧ v.oneCell' = true ∧ ((maD f t l).1 = 0 →
        (∃ Ak ck A c, u = .slice Ak (maD f t l).2.1.1.length ck ∧ v = .slice A (maD f t l).2.1.2.length c ∧ (maD f t l).2.1.1.length = (maD f t l).2.1.2.length ∧ (maD f t l).2.1.2.length < 65536 ∧
          KeysP w' (fun b => w.heap.size ≤ b) Ak ((maD f t l).2.1.1.map mkS) ∧
          (0 < (maD f t l).2.1.2.length → ∃ g' o, A = some ⟨g', o, none⟩ ∧ w.heap.size ≤ g' ∧ g' < w'.heap.size ∧ HasLP w' (fun b => w.heap.size ≤ b) g' o (maD f t l).2.1.2)) ∧ Rd w' lo B h g (maD f t l).2.2 0)) ∧ w.grownBy w' (some g) := by
  have SZ := Lib.hid (rsize_any r T hgl 7 t (by omega) (by omega) ht)
  have SZ' : Hid (Calls Tryd.prog 70 #[.pointer (some ⟨h, 0, none⟩), .int .i64 7, .int .u8 (t : Int)] w fun e w' => (∃ n0 : Int, e = .returned (.tuple #[.int .i64 n0, .int .i64 (szD 7 t l).1]) ∧ ((szD 7 t l).1 = 0 → n0 = ((szD 7 t l).2.1 : Int) ∧ Rd w' lo B h g (szD 7 t l).2.2 0)) ∧ w.grownBy w' (some g)) := SZ
  clear SZ
  have HT : Hid (∀ w', w.grownBy w' (some g) → Sizes w') := Lib.hid fun w' gr => T.grown gr (by have := r.low; omega)
  have HLOW := Lib.hid r.low
  have hbd := szD_bd 7 t l ht
  have e : maD f t l = if (szD 7 t l).1 ≠ 0 then ((szD 7 t l).1, ([], []), []) else decM (decV f) (szD 7 t l).2.1 none (szD 7 t l).2.2 := rfl
  obtain ⟨D, hD⟩ : ∃ D, D = maD f t l := ⟨_, rfl⟩
  rw [← hD] at e ⊢
  generalize szD 7 t l = z at *
  obtain ⟨er, n, L⟩ := z
  simp only at SZ' e hbd
  have HE := Lib.hid e
  have HBD := Lib.hid hbd
  obtain ⟨dp, hdp⟩ : ∃ dp : Int, dp = 16 - (f : Int) := ⟨_, rfl⟩
  obtain ⟨dq, hdq⟩ : ∃ dq : Int, dq = 17 - (f : Int) := ⟨_, rfl⟩
  have e1 : dp + 1 = dq := by omega
  have e2 : IntKind.i64.wrap (dp + 1) = dq := by rw [IntKind.wrap_i64]; omega
  have e3 : IntKind.i64.wrap dq = dq := by rw [IntKind.wrap_i64]; omega
  have OK' := Lib.hid OK
  unfold RdOK at OK'
  rw [← hdq] at OK'
  rw [← hdp]
  obtain ⟨dec, hdec⟩ : ∃ dec, dec = decV f := ⟨_, rfl⟩
  rw [← hdec] at OK' HE
  have HGL := Lib.hid hgl
  clear e r T ht hD hbd hdp hdq OK hdec hf hgl
  by_cases hz : er = 0
  · subst hz
    have e4 : D = decM dec n none L := by rw [HE.out, if_neg (by decide)]
    have HE2 := Lib.hid e4
    have d3 : (n : Int) ≤ 65535 := by have := HBD.out; omega
    clear e4 HE
    go_enter Tryd.func55, Tryd.ntmps55
    go_wp2_with fail
    refine SZ'.out.mono ?_
    rintro e w1 ⟨⟨n0, rfl, hn0⟩, gr1⟩
    obtain ⟨rfl, r1⟩ := hn0 (by trivial)
    have R1 := Lib.hid r1
    have GR := Lib.hid gr1
    clear r1 gr1 SZ' hn0
    go_wp2_with fail
    go_loopw [11, 12, 26] (fun kv lv iv wr => ∃ j : Nat, j ≤ n ∧ iv = .int .i64 j ∧ Hid (∃ ak al xs lj, ak.length = j ∧ al.length = j ∧ (∀ k ∈ ak, k.length ≤ 65535) ∧ wr.ownsRow w1.heap.size 9 1 kv j (ak.map fun k => .string (mkS k)) ∧ wr.ownsRow w1.heap.size 26 6 lv j xs ∧ (∀ b, kv.ownBlock = some b → lv.ownBlock ≠ some b) ∧ HasR wr (fun b => w1.heap.size ≤ b ∧ lv.ownBlock ≠ some b ∧ kv.ownBlock ≠ some b) al xs ∧ Rd wr lo B h g lj 0 ∧ w1.grownBy wr (some g) ∧ D = preM ak al (decM dec (n - j) ak.getLast? lj))) (fun _ _ iv _ => n - (intOf iv).toNat)
    case atStart => exact ⟨0, by omega, rfl, [], [], [], L, rfl, rfl, fun k h => by simp at h, World.ownsRow_nil _ _ _ _, World.ownsRow_nil _ _ _ _, fun b h => by simp [Value.ownBlock] at h, rfl, R1.out, World.grownBy.refl _ _, by rw [HE2.out, Nat.sub_zero]; exact (preM_nil _ _ _).symm⟩
    case round =>
      obtain ⟨j, hj, rfl, ak, al, xs, lj, hak, hal, hkl, ownk, own, hne, hR, rj, grj, hDj⟩ := hrel
      by_cases hlt : j < n
      · have d1 : (j : Int) < (n : Int) := by omega
        have d2 : (0 : Int) ≤ (j : Int) := by omega
        have KY := Lib.hid (rkey_any rj (HT.out _ (grown_trans GR.out grj)) HGL.out)
        have OWK := Lib.hid ownk
        have OWN := Lib.hid own
        have HNE := Lib.hid hne
        have HR := Lib.hid hR
        have GRJ := Lib.hid grj
        have HDJ := Lib.hid hDj
        have HAK := Lib.hid hak
        have HKL := Lib.hid hkl
        have HAL := Lib.hid hal
        have HLT := Lib.hid hlt
        have hst : D = if (keD lj).1 ≠ 0 then ((keD lj).1, ([], []), []) else if ordB ak.getLast? (keD lj).2.1 = true then (4, ([], []), [])
            else if (dec (keD lj).2.2).1 ≠ 0 then ((dec (keD lj).2.2).1, ([], []), [])
            else preM (ak ++ [(keD lj).2.1]) (al ++ [(dec (keD lj).2.2).2.1]) (decM dec (n - (j + 1)) (some (keD lj).2.1) (dec (keD lj).2.2).2.2) := by
          rw [hDj, show n - j = (n - (j + 1)) + 1 by omega, preM_step]
        clear ownk own hne hR grj hDj hak hal hkl hlt rj hj
        have hkb : (keD lj).1 = 0 → (keD lj).2.1.length ≤ 65535 := fun h => keD_len lj _ (keD lj).2.2 (by rw [← h])
        generalize keD lj = E at KY hst hkb
        obtain ⟨ek, key, l1⟩ := E
        simp only at KY hst hkb
        have HKB0 := Lib.hid hkb
        clear hkb
        have HST := Lib.hid hst
        clear hst
        go_wp2_with fail
        refine KY.out.mono ?_
        rintro e w2 ⟨⟨ks, rfl, hok⟩, gr2⟩
        have GR2 := Lib.hid gr2
        have HOK := Lib.hid hok
        clear hok gr2 KY
        by_cases h0 : ek = 0
        · subst h0
          obtain ⟨rfl, r2⟩ := HOK.out (by trivial)
          have R2 := Lib.hid r2
          have HKB : Hid (key.length ≤ 65535) := Lib.hid (HKB0.out rfl)
          clear r2
          by_cases hz : j = 0
          · subst hz
            obtain ⟨A0, c0, hv⟩ : ∃ A c, u11 = .slice A 0 c := by
              rcases OWK.out.2 with ⟨hv, _⟩ | ⟨g', cap, cur, hv, _⟩
              · exact ⟨_, _, hv⟩
              · exact ⟨_, _, hv⟩
            subst hv
            have HNO : Hid (¬ ordB ak.getLast? key = true) := Lib.hid (by
              rw [List.length_eq_zero_iff.1 HAK.out]; unfold ordB; simp)
            have hst2 : D = if (dec l1).1 ≠ 0 then ((dec l1).1, ([], []), []) else preM (ak ++ [key]) (al ++ [(dec l1).2.1]) (decM dec (n - (0 + 1)) (some key) (dec l1).2.2) := by
              rw [HST.out, if_neg (by decide), if_neg HNO.out]
            have VL := Lib.hid (OK'.out w2 lo B h g l1 R2.out (HT.out _ (grown_trans GR.out (grown_trans GRJ.out GR2.out))) HGL.out)
            generalize dec l1 = E2 at VL hst2
            obtain ⟨er, tr, lr⟩ := E2
            simp only at VL hst2
            have HST2 := Lib.hid hst2
            clear hst2 HST
            go_wp2_with fail
            refine VL.out.mono ?_
            rintro e w3 ⟨⟨cs, rfl, hc6, hall, hok⟩, gr3⟩
            obtain ⟨gx, hgx⟩ : ∃ gx, gx = w3.heap.size := ⟨_, rfl⟩
            have ALL := Lib.hid hall
            have C6 := Lib.hid hc6
            have HOK3 := Lib.hid hok
            have GR3 := Lib.hid gr3
            have BS := build1 cs hc6
            clear hall hok gr3 VL
            go_upto_region 14 with (first
              | (guard_target =~ wpList _ _ _ (Oper.mk none (Op.store _ _ _) _ _ _ _ :: _) _ _; go_must (refine wpList_store_rowTo rfl 26 (.tmp 15) (.tmp 58) rfl rfl w3.heap.size cs.toArray rfl rfl 26 _ (heap_alloc_new w3 _) (by rw [sizeValue]; simp [C6.out]) (by simp [C6.out]) ALL.out ?_)))
            obtain ⟨w4, hw4⟩ : ∃ w4, w4 = (w3.alloc (.cells #[.int .i64 0, .int .i64 0, .slice none 0 0, .string ⟨#[]⟩, .slice none 0 0, .slice none 0 0] 26)).setRow w3.heap.size cs.toArray := ⟨_, rfl⟩
            have s4 : Still w3 w4 := by rw [hw4]; exact below_setRow ((Still.refl w3).alloc (Nat.le_refl _) _) (Nat.le_refl _) _
            have bx : Blk w4 gx 26 cs.toArray := by rw [hw4, hgx]; exact setRow_heap _ _ _ _ _ _ (heap_alloc_new w3 _)
            rw [← hw4, ← hgx]
            have S4 := Lib.hid s4
            have BX := Lib.hid bx
            have HGX := Lib.hid hgx
            clear hw4 s4 bx hgx
            by_cases h0 : er = 0
            · subst h0
              obtain ⟨hv3, r3⟩ := HOK3.out (by trivial)
              have RR3 := Lib.hid r3
              have HV3 := Lib.hid hv3
              clear hv3 r3
              have JJ := Lib.hid (mid_start OWK.out OWN.out HNE.out HR.out GRJ.out GR2.out GR3.out HV3.out RR3.out S4.out BX.out HGX.out (by have := HLOW.out; have := GR.out.size; omega) (by have := HLOW.out; omega))
              obtain ⟨ks, hks⟩ : ∃ ks, ks = ak.map fun k => Value.string (mkS k) := ⟨_, rfl⟩
              rw [← hks] at JJ
              have HKS := Lib.hid hks
              clear hks
              have HJ : Hid (0 ≤ 1048576) := Lib.hid (by have := HLT.out; have := HBD.out; omega)
              have FIN := Lib.hid (show ∀ (wx : World) (s11 s12 : Value), MidJ w1 lo B h g gx lr tr cs wx s11 (0 + 1) (ks ++ [.string ⟨key.toArray⟩]) s12 (0 + 1) (xs ++ cs) (al ++ [tr]) → ∃ ak al xs lj, ak.length = 0 + 1 ∧ al.length = 0 + 1 ∧ (∀ k ∈ ak, k.length ≤ 65535) ∧ wx.ownsRow w1.heap.size 9 1 s11 (0 + 1) (ak.map fun k => .string (mkS k)) ∧ wx.ownsRow w1.heap.size 26 6 s12 (0 + 1) xs ∧ (∀ b, s11.ownBlock = some b → s12.ownBlock ≠ some b) ∧ HasR wx (fun b => w1.heap.size ≤ b ∧ s12.ownBlock ≠ some b ∧ s11.ownBlock ≠ some b) al xs ∧ Rd wx lo B h g lj 0 ∧ w1.grownBy wx (some g) ∧ D = preM ak al (decM dec (n - (0 + 1)) ak.getLast? lj) from fun wx s11 s12 JC =>
                ⟨ak ++ [key], al ++ [tr], xs ++ cs, lr, by rw [List.length_append, HAK.out]; rfl, by rw [List.length_append, HAL.out]; rfl, fun k hk => by
                    rcases List.mem_append.1 hk with hk | hk
                    · exact HKL.out k hk
                    · rw [List.mem_singleton.1 hk]; exact HKB.out,
                  by have := JC.ownk; rw [HKS.out] at this; rw [List.map_append]; exact this, JC.ownl, JC.ne, JC.row, JC.rd, JC.gr, by
                    rw [List.getLast?_append, List.getLast?_singleton]
                    exact HST2.out⟩)
              go_upto_region 16 with fail
              refine wp_region_held_drew (S := fun w' => w'.rangeAt gx 0 cs) (by kernel_rfl) ?_ (fun hHeld => ?_)
              · exact box_range (JJ.out.box.still ((Still.refl _).drew))
              have J0 := Lib.hid (JJ.out.still ((Still.refl _).drew))
              obtain ⟨wa, hwa⟩ : ∃ wa, wa = w4.drew := ⟨_, rfl⟩
              rw [← hwa] at hHeld J0 ⊢
              clear hwa
              try simp only [Act.put, List.setIfInBounds_toArray, List.set_cons_zero, List.set_cons_succ]
              refine wpAnyH_take (i := 0) (v := .slice A0 0 c0) rfl (by kernel_rfl) (by kernel_rfl) (by kernel_rfl) (fun _ _ _ h => h) (Or.inl ⟨by kernel_rfl, fun w _ => by go_simp⟩) (by assumption) ?_
              simp only [Act.put, List.setIfInBounds_toArray, List.set_cons_zero, List.set_cons_succ]
              refine wpAnyH_take (i := 1) (v := .string ⟨key.toArray⟩) rfl (by kernel_rfl) (by kernel_rfl) (by kernel_rfl) (fun _ _ _ h => h) (Or.inl ⟨by kernel_rfl, fun w _ => by go_simp⟩) (by assumption) ?_
              simp only [Act.put, List.setIfInBounds_toArray, List.set_cons_zero, List.set_cons_succ]
              refine wpAnyH_take (i := 4) (v := u12) rfl (by kernel_rfl) (by kernel_rfl) (by kernel_rfl) (fun _ _ _ h => h) (Or.inl ⟨by kernel_rfl, fun w _ => by go_simp⟩) (by assumption) ?_
              simp only [Act.put, List.setIfInBounds_toArray, List.set_cons_zero, List.set_cons_succ]
              refine wpAnyH_take (i := 5) (v := .agg cs.toArray) rfl (by kernel_rfl) (by kernel_rfl) (by kernel_rfl) (fun _ _ _ h => h) ?hy5 (by assumption) ?_
              case hy5 =>
                refine yieldsIf_load_mid ?hw5 26 (.tmp 15) ?ho5 gx 0 ?hx5 cs _ (fun w h => h) (Tryd.underlying26) ?hd5 (by rw [sizeValue]; simp [C6.out])
                case hw5 => kernel_rfl
                case ho5 => rfl
                case hx5 => kernel_rfl
                case hd5 => rfl
              simp only [Act.put, List.setIfInBounds_toArray, List.set_cons_zero, List.set_cons_succ]
              refine wpAnyH_ready (rs := [2, 6]) (by kernel_rfl) (by simp) ?_
              refine AllReadyH.cons rfl (fun K hK => ?_) (AllReadyH.cons rfl (fun K hK => ?_) AllReadyH.nil)
              · skip
                rw [if_pos (by kernel_rfl)]
                refine step_boxS wa (.tmp 64) (by kernel_rfl) ⟨key.toArray⟩ (by kernel_rfl) ?_
                have J1 := Lib.hid (J0.out.still (still_new wa (.cells #[.string ⟨key.toArray⟩] 9)))
                have LK1 := Lib.hid (J0.out.laid 9 #[.string ⟨key.toArray⟩])
                obtain ⟨bk, hbk⟩ : ∃ bk, bk = wa.heap.size := ⟨_, rfl⟩
                rw [← hbk] at LK1 ⊢
                obtain ⟨wz1, hwz1⟩ : ∃ W, W = wa.alloc (.cells #[.string ⟨key.toArray⟩] 9) := ⟨_, rfl⟩
                rw [← hwz1] at J1 LK1 ⊢
                clear hwz1 hbk
                refine hK.out _ _ (box_range J1.out.box) (fun hHeld => ?_)
                clear hK K
                try simp only [Act.put, List.setIfInBounds_toArray, List.set_cons_zero, List.set_cons_succ]
                refine wpAnyH_ready (rs := [3, 6]) (by kernel_rfl) (by simp) ?_
                refine AllReadyH.cons rfl (fun K hK => ?_) (AllReadyH.cons rfl (fun K hK => ?_) AllReadyH.nil)
                · skip
                  rw [if_pos (by kernel_rfl)]
                  refine step_pushS wz1 (.tmp 63) (.tmp 65) (by kernel_rfl) w1.heap.size (.slice A0 0 c0) 0 ks (by kernel_rfl) J1.out.ownk bk ⟨key.toArray⟩ (by kernel_rfl) (LK1.out.blk.cell 0) HJ.out J1.out.gr.size ?_
                  intro vk wz2 own2 gr2 loc2
                  have J2 := Lib.hid (J1.out.pushK own2 gr2 loc2)
                  clear own2 gr2 loc2
                  refine hK.out _ _ (box_range J2.out.box) (fun hHeld => ?_)
                  clear hK K
                  try simp only [Act.put, List.setIfInBounds_toArray, List.set_cons_zero, List.set_cons_succ]
                  refine wpAnyH_ready (rs := [6]) (by kernel_rfl) (by simp) ?_
                  refine AllReadyH.cons rfl (fun K hK => ?_) AllReadyH.nil
                  rw [if_pos (by kernel_rfl)]
                  refine step_boxV wz2 (.tmp 68) (by kernel_rfl) cs C6.out (by kernel_rfl) ?_
                  have J3 := Lib.hid (J2.out.still (still_new wz2 (.cells cs.toArray 26)))
                  have LV3 := Lib.hid (J2.out.laid 26 cs.toArray)
                  obtain ⟨bv, hbv⟩ : ∃ bv, bv = wz2.heap.size := ⟨_, rfl⟩
                  rw [← hbv] at LV3 ⊢
                  obtain ⟨wz3, hwz3⟩ : ∃ W, W = wz2.alloc (.cells cs.toArray 26) := ⟨_, rfl⟩
                  rw [← hwz3] at J3 LV3 ⊢
                  clear hwz3 hbv
                  refine hK.out _ _ (box_range J3.out.box) (fun hHeld => ?_)
                  clear hK K
                  try simp only [Act.put, List.setIfInBounds_toArray, List.set_cons_zero, List.set_cons_succ]
                  refine wpAnyH_ready (rs := [7]) (by kernel_rfl) (by simp) ?_
                  refine AllReadyH.cons rfl (fun K hK => ?_) AllReadyH.nil
                  rw [if_pos (by kernel_rfl)]
                  refine step_pushV wz3 (.tmp 67) (.tmp 69) (by kernel_rfl) w1.heap.size (u12) 0 xs (by kernel_rfl) J3.out.ownl bv cs (by kernel_rfl) (fun q u hq => (LV3.out.blk.cell q).trans (by simpa using hq)) C6.out (fun u hu => (Array.all_eq_true_iff_forall_mem.1 ALL.out) u (by simpa using hu)) HJ.out J3.out.gr.size ?_
                  intro vv wz4 own4 gr4 loc4
                  have J4 := Lib.hid (J3.out.pushV C6.out own4 gr4 loc4)
                  clear own4 gr4 loc4
                  refine hK.out _ _ (box_range J4.out.box) (fun hHeld => ?_)
                  clear hK K
                  try simp only [Act.put, List.setIfInBounds_toArray, List.set_cons_zero, List.set_cons_succ]
                  refine wpAnyH_take (i := 8) (v := vk) rfl (by kernel_rfl) (by kernel_rfl) (by kernel_rfl) (fun _ _ _ h => h) (Or.inl ⟨by kernel_rfl, fun w _ => by go_simp⟩) (by assumption) ?_
                  simp only [Act.put, List.setIfInBounds_toArray, List.set_cons_zero, List.set_cons_succ]
                  refine wpAnyH_take (i := 9) (v := vv) rfl (by kernel_rfl) (by kernel_rfl) (by kernel_rfl) (fun _ _ _ h => h) (Or.inl ⟨by kernel_rfl, fun w _ => by go_simp⟩) (by assumption) ?_
                  simp only [Act.put, List.setIfInBounds_toArray, List.set_cons_zero, List.set_cons_succ]
                  refine wpAnyH_done (by kernel_rfl) ?_ _
                  have ACC := Lib.hid (FIN.out _ _ _ J4.out)
                  clear J4 FIN hHeld
                  go_wp2_with fail
                  go_roundw
                  case rel => exact ⟨0 + 1, by have := HLT.out; omega, by go_num, ACC.out⟩
                  case measure => simp [intOf]; have := HLT.out; omega
                · skip
                  rw [if_pos (by kernel_rfl)]
                  refine step_boxV wz1 (.tmp 68) (by kernel_rfl) cs C6.out (by kernel_rfl) ?_
                  have J2 := Lib.hid (J1.out.still (still_new wz1 (.cells cs.toArray 26)))
                  have LV2 := Lib.hid (J1.out.laid 26 cs.toArray)
                  have LK2 := Lib.hid (LK1.out.still (still_new wz1 (.cells cs.toArray 26)))
                  obtain ⟨bv, hbv⟩ : ∃ bv, bv = wz1.heap.size := ⟨_, rfl⟩
                  rw [← hbv] at LV2 ⊢
                  obtain ⟨wz2, hwz2⟩ : ∃ W, W = wz1.alloc (.cells cs.toArray 26) := ⟨_, rfl⟩
                  rw [← hwz2] at J2 LV2 LK2 ⊢
                  clear hwz2 hbv
                  refine hK.out _ _ (box_range J2.out.box) (fun hHeld => ?_)
                  clear hK K
                  try simp only [Act.put, List.setIfInBounds_toArray, List.set_cons_zero, List.set_cons_succ]
                  refine wpAnyH_ready (rs := [3]) (by kernel_rfl) (by simp) ?_
                  refine AllReadyH.cons rfl (fun K hK => ?_) AllReadyH.nil
                  rw [if_pos (by kernel_rfl)]
                  refine step_pushS wz2 (.tmp 63) (.tmp 65) (by kernel_rfl) w1.heap.size (.slice A0 0 c0) 0 ks (by kernel_rfl) J2.out.ownk bk ⟨key.toArray⟩ (by kernel_rfl) (LK2.out.blk.cell 0) HJ.out J2.out.gr.size ?_
                  intro vk wz3 own3 gr3 loc3
                  have J3 := Lib.hid (J2.out.pushK own3 gr3 loc3)
                  have LV3 := Lib.hid (LV2.out.pushK gr3 loc3)
                  clear own3 gr3 loc3
                  refine hK.out _ _ (box_range J3.out.box) (fun hHeld => ?_)
                  clear hK K
                  try simp only [Act.put, List.setIfInBounds_toArray, List.set_cons_zero, List.set_cons_succ]
                  refine wpAnyH_ready (rs := [7]) (by kernel_rfl) (by simp) ?_
                  refine AllReadyH.cons rfl (fun K hK => ?_) AllReadyH.nil
                  rw [if_pos (by kernel_rfl)]
                  refine step_pushV wz3 (.tmp 67) (.tmp 69) (by kernel_rfl) w1.heap.size (u12) 0 xs (by kernel_rfl) J3.out.ownl bv cs (by kernel_rfl) (fun q u hq => (LV3.out.blk.cell q).trans (by simpa using hq)) C6.out (fun u hu => (Array.all_eq_true_iff_forall_mem.1 ALL.out) u (by simpa using hu)) HJ.out J3.out.gr.size ?_
                  intro vv wz4 own4 gr4 loc4
                  have J4 := Lib.hid (J3.out.pushV C6.out own4 gr4 loc4)
                  clear own4 gr4 loc4
                  refine hK.out _ _ (box_range J4.out.box) (fun hHeld => ?_)
                  clear hK K
                  try simp only [Act.put, List.setIfInBounds_toArray, List.set_cons_zero, List.set_cons_succ]
                  refine wpAnyH_take (i := 8) (v := vk) rfl (by kernel_rfl) (by kernel_rfl) (by kernel_rfl) (fun _ _ _ h => h) (Or.inl ⟨by kernel_rfl, fun w _ => by go_simp⟩) (by assumption) ?_
                  simp only [Act.put, List.setIfInBounds_toArray, List.set_cons_zero, List.set_cons_succ]
                  refine wpAnyH_take (i := 9) (v := vv) rfl (by kernel_rfl) (by kernel_rfl) (by kernel_rfl) (fun _ _ _ h => h) (Or.inl ⟨by kernel_rfl, fun w _ => by go_simp⟩) (by assumption) ?_
                  simp only [Act.put, List.setIfInBounds_toArray, List.set_cons_zero, List.set_cons_succ]
                  refine wpAnyH_done (by kernel_rfl) ?_ _
                  have ACC := Lib.hid (FIN.out _ _ _ J4.out)
                  clear J4 FIN hHeld
                  go_wp2_with fail
                  go_roundw
                  case rel => exact ⟨0 + 1, by have := HLT.out; omega, by go_num, ACC.out⟩
                  case measure => simp [intOf]; have := HLT.out; omega
              · skip
                rw [if_pos (by kernel_rfl)]
                refine step_boxV wa (.tmp 68) (by kernel_rfl) cs C6.out (by kernel_rfl) ?_
                have J1 := Lib.hid (J0.out.still (still_new wa (.cells cs.toArray 26)))
                have LV1 := Lib.hid (J0.out.laid 26 cs.toArray)
                obtain ⟨bv, hbv⟩ : ∃ bv, bv = wa.heap.size := ⟨_, rfl⟩
                rw [← hbv] at LV1 ⊢
                obtain ⟨wz1, hwz1⟩ : ∃ W, W = wa.alloc (.cells cs.toArray 26) := ⟨_, rfl⟩
                rw [← hwz1] at J1 LV1 ⊢
                clear hwz1 hbv
                refine hK.out _ _ (box_range J1.out.box) (fun hHeld => ?_)
                clear hK K
                try simp only [Act.put, List.setIfInBounds_toArray, List.set_cons_zero, List.set_cons_succ]
                refine wpAnyH_ready (rs := [2]) (by kernel_rfl) (by simp) ?_
                refine AllReadyH.cons rfl (fun K hK => ?_) AllReadyH.nil
                rw [if_pos (by kernel_rfl)]
                refine step_boxS wz1 (.tmp 64) (by kernel_rfl) ⟨key.toArray⟩ (by kernel_rfl) ?_
                have J2 := Lib.hid (J1.out.still (still_new wz1 (.cells #[.string ⟨key.toArray⟩] 9)))
                have LK2 := Lib.hid (J1.out.laid 9 #[.string ⟨key.toArray⟩])
                have LV2 := Lib.hid (LV1.out.still (still_new wz1 (.cells #[.string ⟨key.toArray⟩] 9)))
                obtain ⟨bk, hbk⟩ : ∃ bk, bk = wz1.heap.size := ⟨_, rfl⟩
                rw [← hbk] at LK2 ⊢
                obtain ⟨wz2, hwz2⟩ : ∃ W, W = wz1.alloc (.cells #[.string ⟨key.toArray⟩] 9) := ⟨_, rfl⟩
                rw [← hwz2] at J2 LK2 LV2 ⊢
                clear hwz2 hbk
                refine hK.out _ _ (box_range J2.out.box) (fun hHeld => ?_)
                clear hK K
                try simp only [Act.put, List.setIfInBounds_toArray, List.set_cons_zero, List.set_cons_succ]
                refine wpAnyH_ready (rs := [3]) (by kernel_rfl) (by simp) ?_
                refine AllReadyH.cons rfl (fun K hK => ?_) AllReadyH.nil
                rw [if_pos (by kernel_rfl)]
                refine step_pushS wz2 (.tmp 63) (.tmp 65) (by kernel_rfl) w1.heap.size (.slice A0 0 c0) 0 ks (by kernel_rfl) J2.out.ownk bk ⟨key.toArray⟩ (by kernel_rfl) (LK2.out.blk.cell 0) HJ.out J2.out.gr.size ?_
                intro vk wz3 own3 gr3 loc3
                have J3 := Lib.hid (J2.out.pushK own3 gr3 loc3)
                have LV3 := Lib.hid (LV2.out.pushK gr3 loc3)
                clear own3 gr3 loc3
                refine hK.out _ _ (box_range J3.out.box) (fun hHeld => ?_)
                clear hK K
                try simp only [Act.put, List.setIfInBounds_toArray, List.set_cons_zero, List.set_cons_succ]
                refine wpAnyH_ready (rs := [7]) (by kernel_rfl) (by simp) ?_
                refine AllReadyH.cons rfl (fun K hK => ?_) AllReadyH.nil
                rw [if_pos (by kernel_rfl)]
                refine step_pushV wz3 (.tmp 67) (.tmp 69) (by kernel_rfl) w1.heap.size (u12) 0 xs (by kernel_rfl) J3.out.ownl bv cs (by kernel_rfl) (fun q u hq => (LV3.out.blk.cell q).trans (by simpa using hq)) C6.out (fun u hu => (Array.all_eq_true_iff_forall_mem.1 ALL.out) u (by simpa using hu)) HJ.out J3.out.gr.size ?_
                intro vv wz4 own4 gr4 loc4
                have J4 := Lib.hid (J3.out.pushV C6.out own4 gr4 loc4)
                clear own4 gr4 loc4
                refine hK.out _ _ (box_range J4.out.box) (fun hHeld => ?_)
                clear hK K
                try simp only [Act.put, List.setIfInBounds_toArray, List.set_cons_zero, List.set_cons_succ]
                refine wpAnyH_take (i := 8) (v := vk) rfl (by kernel_rfl) (by kernel_rfl) (by kernel_rfl) (fun _ _ _ h => h) (Or.inl ⟨by kernel_rfl, fun w _ => by go_simp⟩) (by assumption) ?_
                simp only [Act.put, List.setIfInBounds_toArray, List.set_cons_zero, List.set_cons_succ]
                refine wpAnyH_take (i := 9) (v := vv) rfl (by kernel_rfl) (by kernel_rfl) (by kernel_rfl) (fun _ _ _ h => h) (Or.inl ⟨by kernel_rfl, fun w _ => by go_simp⟩) (by assumption) ?_
                simp only [Act.put, List.setIfInBounds_toArray, List.set_cons_zero, List.set_cons_succ]
                refine wpAnyH_done (by kernel_rfl) ?_ _
                have ACC := Lib.hid (FIN.out _ _ _ J4.out)
                clear J4 FIN hHeld
                go_wp2_with fail
                go_roundw
                case rel => exact ⟨0 + 1, by have := HLT.out; omega, by go_num, ACC.out⟩
                case measure => simp [intOf]; have := HLT.out; omega
            · have d5 : (er != 0) = true := by simpa using h0
              have HDE := Lib.hid (show D = (er, ([], []), []) by rw [HST2.out, if_pos h0])
              have H0 := Lib.hid h0
              clear h0
              go_wp2_with fail
              (try simp only [Exit.inBlock, Exit.then])
              go_ret3
              rw [HDE.out]
              exact ⟨⟨_, _, rfl, rfl, rfl, fun h => absurd h H0.out⟩, grown_trans GR.out (grown_trans GRJ.out (grown_trans GR2.out (grown_trans GR3.out (grown_of_still S4.out))))⟩
          · rcases OWK.out.2 with ⟨hv, hn0⟩ | ⟨gk, cap, cur, hv, hlo, hgb, _⟩
            · exact absurd hn0 hz
            have own2 : w2.ownsRow w1.heap.size 9 1 u11 j (ak.map fun k => .string (mkS k)) := OWK.out.kept GR2.out (.inr (fun e => by have h1 := OWK.out.lt g e; have h2 := HLOW.out; have h3 := GR.out.size; omega))
            have hcap := own2
            rw [hv] at hcap
            have cl := keysOf (P := fun _ => True) HAK.out hcap (j - 1) (by have := HAK.out; omega)
            rw [Nat.zero_add] at cl
            obtain ⟨i0, hi0⟩ : ∃ i0, i0 = j - 1 := ⟨_, rfl⟩
            rw [← hi0] at cl
            have e0 : (j : Int) - 1 = (i0 : Int) := by omega
            have e5 : IntKind.i64.wrap ((j : Int) - 1) = (i0 : Int) := by rw [IntKind.wrap_i64]; have := HLT.out; omega
            have e6 : IntKind.i64.wrap (i0 : Int) = (i0 : Int) := by rw [IntKind.wrap_i64]; omega
            have d7 : (0 : Int) < (j : Int) := by omega
            have d8 : (0 : Int) ≤ (i0 : Int) := by omega
            have d9 : (i0 : Int) < (j : Int) := by omega
            obtain ⟨p, hp⟩ : ∃ p, p = (ak.map mkS).getD i0 ByteArray.empty := ⟨_, rfl⟩
            rw [← hp] at cl
            have HP := Lib.hid hp
            have HI0 := Lib.hid hi0
            have OWK2 := Lib.hid own2
            have HV := Lib.hid hv
            obtain ⟨b, hb⟩ : ∃ b : ByteArray, b = ⟨key.toArray⟩ := ⟨_, rfl⟩
            have HB := Lib.hid hb
            obtain ⟨q, hq⟩ : ∃ q, q = Op.bytesLess p.toList b.toList := ⟨_, rfl⟩
            have hq' := hq.symm
            have HQ := Lib.hid hq
            rw [← hb]
            subst hv
            clear hq hb hp hi0 own2 hcap hgb hlo
            have hz' : ¬ ((j : Int) = 0) := by omega
            have HLAST : Hid (ak.getLast? = some ((ak.getD i0 []))) := Lib.hid (by
              have h1 := HAK.out; have h2 := HI0.out
              rw [List.getLast?_eq_getElem?, List.getD_eq_getElem?_getD, show ak.length - 1 = i0 by omega]
              rw [List.getElem?_eq_getElem (by omega)]; rfl)
            have HPL : Hid (p.toList = ak.getD i0 []) := Lib.hid (by
              have h1 := HAK.out; have h2 := HI0.out
              rw [HP.out, ByteArray.toList_eq]
              simp [List.getD, show i0 < ak.length by omega, mkS])
            have HBL : Hid (b.toList = key) := Lib.hid (by rw [HB.out, ByteArray.toList_eq])
            have HORD : Hid (ordB ak.getLast? key = !q) := Lib.hid (by rw [HLAST.out, HQ.out, HPL.out, HBL.out]; rfl)
            cases q
            · have HDE := Lib.hid (show D = (4, ([], []), []) by rw [HST.out, if_neg (by decide), if_pos (by rw [HORD.out]; rfl)])
              go_wp2_with fail
              (try simp only [Exit.inBlock, Exit.then])
              go_ret3
              rw [HDE.out]
              exact ⟨⟨_, _, rfl, rfl, rfl, fun h => absurd h (show ¬ (4 : Int) = 0 by decide)⟩, grown_trans GR.out (grown_trans GRJ.out GR2.out)⟩
            · have HNO : Hid (¬ ordB ak.getLast? key = true) := Lib.hid (by rw [HORD.out]; decide)
              have hst2 : D = if (dec l1).1 ≠ 0 then ((dec l1).1, ([], []), []) else preM (ak ++ [key]) (al ++ [(dec l1).2.1]) (decM dec (n - (j + 1)) (some key) (dec l1).2.2) := by
                rw [HST.out, if_neg (by decide), if_neg HNO.out]
              have VL := Lib.hid (OK'.out w2 lo B h g l1 R2.out (HT.out _ (grown_trans GR.out (grown_trans GRJ.out GR2.out))) HGL.out)
              generalize dec l1 = E2 at VL hst2
              obtain ⟨er, tr, lr⟩ := E2
              simp only at VL hst2
              have HST2 := Lib.hid hst2
              clear hst2 HST
              go_wp2_with fail
              refine VL.out.mono ?_
              rintro e w3 ⟨⟨cs, rfl, hc6, hall, hok⟩, gr3⟩
              obtain ⟨gx, hgx⟩ : ∃ gx, gx = w3.heap.size := ⟨_, rfl⟩
              have ALL := Lib.hid hall
              have C6 := Lib.hid hc6
              have HOK3 := Lib.hid hok
              have GR3 := Lib.hid gr3
              have BS := build1 cs hc6
              clear hall hok gr3 VL
              go_upto_region 14 with (first
                | (guard_target =~ wpList _ _ _ (Oper.mk none (Op.store _ _ _) _ _ _ _ :: _) _ _; go_must (refine wpList_store_rowTo rfl 26 (.tmp 15) (.tmp 58) rfl rfl w3.heap.size cs.toArray rfl rfl 26 _ (heap_alloc_new w3 _) (by rw [sizeValue]; simp [C6.out]) (by simp [C6.out]) ALL.out ?_)))
              obtain ⟨w4, hw4⟩ : ∃ w4, w4 = (w3.alloc (.cells #[.int .i64 0, .int .i64 0, .slice none 0 0, .string ⟨#[]⟩, .slice none 0 0, .slice none 0 0] 26)).setRow w3.heap.size cs.toArray := ⟨_, rfl⟩
              have s4 : Still w3 w4 := by rw [hw4]; exact below_setRow ((Still.refl w3).alloc (Nat.le_refl _) _) (Nat.le_refl _) _
              have bx : Blk w4 gx 26 cs.toArray := by rw [hw4, hgx]; exact setRow_heap _ _ _ _ _ _ (heap_alloc_new w3 _)
              rw [← hw4, ← hgx]
              have S4 := Lib.hid s4
              have BX := Lib.hid bx
              have HGX := Lib.hid hgx
              clear hw4 s4 bx hgx
              by_cases h0 : er = 0
              · subst h0
                obtain ⟨hv3, r3⟩ := HOK3.out (by trivial)
                have RR3 := Lib.hid r3
                have HV3 := Lib.hid hv3
                clear hv3 r3
                have JJ := Lib.hid (mid_start OWK.out OWN.out HNE.out HR.out GRJ.out GR2.out GR3.out HV3.out RR3.out S4.out BX.out HGX.out (by have := HLOW.out; have := GR.out.size; omega) (by have := HLOW.out; omega))
                obtain ⟨ks, hks⟩ : ∃ ks, ks = ak.map fun k => Value.string (mkS k) := ⟨_, rfl⟩
                rw [← hks] at JJ
                have HKS := Lib.hid hks
                clear hks
                have HJ : Hid (j ≤ 1048576) := Lib.hid (by have := HLT.out; have := HBD.out; omega)
                have FIN := Lib.hid (show ∀ (wx : World) (s11 s12 : Value), MidJ w1 lo B h g gx lr tr cs wx s11 (j + 1) (ks ++ [.string b]) s12 (j + 1) (xs ++ cs) (al ++ [tr]) → ∃ ak al xs lj, ak.length = j + 1 ∧ al.length = j + 1 ∧ (∀ k ∈ ak, k.length ≤ 65535) ∧ wx.ownsRow w1.heap.size 9 1 s11 (j + 1) (ak.map fun k => .string (mkS k)) ∧ wx.ownsRow w1.heap.size 26 6 s12 (j + 1) xs ∧ (∀ b, s11.ownBlock = some b → s12.ownBlock ≠ some b) ∧ HasR wx (fun b => w1.heap.size ≤ b ∧ s12.ownBlock ≠ some b ∧ s11.ownBlock ≠ some b) al xs ∧ Rd wx lo B h g lj 0 ∧ w1.grownBy wx (some g) ∧ D = preM ak al (decM dec (n - (j + 1)) ak.getLast? lj) from fun wx s11 s12 JC =>
                  ⟨ak ++ [key], al ++ [tr], xs ++ cs, lr, by rw [List.length_append, HAK.out]; rfl, by rw [List.length_append, HAL.out]; rfl, fun k hk => by
                      rcases List.mem_append.1 hk with hk | hk
                      · exact HKL.out k hk
                      · rw [List.mem_singleton.1 hk]; exact HKB.out,
                    by have := JC.ownk; rw [HKS.out, HB.out] at this; rw [List.map_append]; exact this, JC.ownl, JC.ne, JC.row, JC.rd, JC.gr, by
                      rw [List.getLast?_append, List.getLast?_singleton]
                      exact HST2.out⟩)
                go_upto_region 16 with fail
                refine wp_region_held_drew (S := fun w' => w'.rangeAt gx 0 cs) (by kernel_rfl) ?_ (fun hHeld => ?_)
                · exact box_range (JJ.out.box.still ((Still.refl _).drew))
                have J0 := Lib.hid (JJ.out.still ((Still.refl _).drew))
                obtain ⟨wa, hwa⟩ : ∃ wa, wa = w4.drew := ⟨_, rfl⟩
                rw [← hwa] at hHeld J0 ⊢
                clear hwa
                try simp only [Act.put, List.setIfInBounds_toArray, List.set_cons_zero, List.set_cons_succ]
                refine wpAnyH_take (i := 0) (v := .slice (some ⟨gk, 0, none⟩) j cap) rfl (by kernel_rfl) (by kernel_rfl) (by kernel_rfl) (fun _ _ _ h => h) (Or.inl ⟨by kernel_rfl, fun w _ => by go_simp⟩) (by assumption) ?_
                simp only [Act.put, List.setIfInBounds_toArray, List.set_cons_zero, List.set_cons_succ]
                refine wpAnyH_take (i := 1) (v := .string b) rfl (by kernel_rfl) (by kernel_rfl) (by kernel_rfl) (fun _ _ _ h => h) (Or.inl ⟨by kernel_rfl, fun w _ => by go_simp⟩) (by assumption) ?_
                simp only [Act.put, List.setIfInBounds_toArray, List.set_cons_zero, List.set_cons_succ]
                refine wpAnyH_take (i := 4) (v := u12) rfl (by kernel_rfl) (by kernel_rfl) (by kernel_rfl) (fun _ _ _ h => h) (Or.inl ⟨by kernel_rfl, fun w _ => by go_simp⟩) (by assumption) ?_
                simp only [Act.put, List.setIfInBounds_toArray, List.set_cons_zero, List.set_cons_succ]
                refine wpAnyH_take (i := 5) (v := .agg cs.toArray) rfl (by kernel_rfl) (by kernel_rfl) (by kernel_rfl) (fun _ _ _ h => h) ?hy5 (by assumption) ?_
                case hy5 =>
                  refine yieldsIf_load_mid ?hw5 26 (.tmp 15) ?ho5 gx 0 ?hx5 cs _ (fun w h => h) (Tryd.underlying26) ?hd5 (by rw [sizeValue]; simp [C6.out])
                  case hw5 => kernel_rfl
                  case ho5 => rfl
                  case hx5 => kernel_rfl
                  case hd5 => rfl
                simp only [Act.put, List.setIfInBounds_toArray, List.set_cons_zero, List.set_cons_succ]
                refine wpAnyH_ready (rs := [2, 6]) (by kernel_rfl) (by simp) ?_
                refine AllReadyH.cons rfl (fun K hK => ?_) (AllReadyH.cons rfl (fun K hK => ?_) AllReadyH.nil)
                · skip
                  rw [if_pos (by kernel_rfl)]
                  refine step_boxS wa (.tmp 64) (by kernel_rfl) b (by kernel_rfl) ?_
                  have J1 := Lib.hid (J0.out.still (still_new wa (.cells #[.string b] 9)))
                  have LK1 := Lib.hid (J0.out.laid 9 #[.string b])
                  obtain ⟨bk, hbk⟩ : ∃ bk, bk = wa.heap.size := ⟨_, rfl⟩
                  rw [← hbk] at LK1 ⊢
                  obtain ⟨wz1, hwz1⟩ : ∃ W, W = wa.alloc (.cells #[.string b] 9) := ⟨_, rfl⟩
                  rw [← hwz1] at J1 LK1 ⊢
                  clear hwz1 hbk
                  refine hK.out _ _ (box_range J1.out.box) (fun hHeld => ?_)
                  clear hK K
                  try simp only [Act.put, List.setIfInBounds_toArray, List.set_cons_zero, List.set_cons_succ]
                  refine wpAnyH_ready (rs := [3, 6]) (by kernel_rfl) (by simp) ?_
                  refine AllReadyH.cons rfl (fun K hK => ?_) (AllReadyH.cons rfl (fun K hK => ?_) AllReadyH.nil)
                  · skip
                    rw [if_pos (by kernel_rfl)]
                    refine step_pushS wz1 (.tmp 63) (.tmp 65) (by kernel_rfl) w1.heap.size (.slice (some ⟨gk, 0, none⟩) j cap) j ks (by kernel_rfl) J1.out.ownk bk b (by kernel_rfl) (LK1.out.blk.cell 0) HJ.out J1.out.gr.size ?_
                    intro vk wz2 own2 gr2 loc2
                    have J2 := Lib.hid (J1.out.pushK own2 gr2 loc2)
                    clear own2 gr2 loc2
                    refine hK.out _ _ (box_range J2.out.box) (fun hHeld => ?_)
                    clear hK K
                    try simp only [Act.put, List.setIfInBounds_toArray, List.set_cons_zero, List.set_cons_succ]
                    refine wpAnyH_ready (rs := [6]) (by kernel_rfl) (by simp) ?_
                    refine AllReadyH.cons rfl (fun K hK => ?_) AllReadyH.nil
                    rw [if_pos (by kernel_rfl)]
                    refine step_boxV wz2 (.tmp 68) (by kernel_rfl) cs C6.out (by kernel_rfl) ?_
                    have J3 := Lib.hid (J2.out.still (still_new wz2 (.cells cs.toArray 26)))
                    have LV3 := Lib.hid (J2.out.laid 26 cs.toArray)
                    obtain ⟨bv, hbv⟩ : ∃ bv, bv = wz2.heap.size := ⟨_, rfl⟩
                    rw [← hbv] at LV3 ⊢
                    obtain ⟨wz3, hwz3⟩ : ∃ W, W = wz2.alloc (.cells cs.toArray 26) := ⟨_, rfl⟩
                    rw [← hwz3] at J3 LV3 ⊢
                    clear hwz3 hbv
                    refine hK.out _ _ (box_range J3.out.box) (fun hHeld => ?_)
                    clear hK K
                    try simp only [Act.put, List.setIfInBounds_toArray, List.set_cons_zero, List.set_cons_succ]
                    refine wpAnyH_ready (rs := [7]) (by kernel_rfl) (by simp) ?_
                    refine AllReadyH.cons rfl (fun K hK => ?_) AllReadyH.nil
                    rw [if_pos (by kernel_rfl)]
                    refine step_pushV wz3 (.tmp 67) (.tmp 69) (by kernel_rfl) w1.heap.size (u12) j xs (by kernel_rfl) J3.out.ownl bv cs (by kernel_rfl) (fun q u hq => (LV3.out.blk.cell q).trans (by simpa using hq)) C6.out (fun u hu => (Array.all_eq_true_iff_forall_mem.1 ALL.out) u (by simpa using hu)) HJ.out J3.out.gr.size ?_
                    intro vv wz4 own4 gr4 loc4
                    have J4 := Lib.hid (J3.out.pushV C6.out own4 gr4 loc4)
                    clear own4 gr4 loc4
                    refine hK.out _ _ (box_range J4.out.box) (fun hHeld => ?_)
                    clear hK K
                    try simp only [Act.put, List.setIfInBounds_toArray, List.set_cons_zero, List.set_cons_succ]
                    refine wpAnyH_take (i := 8) (v := vk) rfl (by kernel_rfl) (by kernel_rfl) (by kernel_rfl) (fun _ _ _ h => h) (Or.inl ⟨by kernel_rfl, fun w _ => by go_simp⟩) (by assumption) ?_
                    simp only [Act.put, List.setIfInBounds_toArray, List.set_cons_zero, List.set_cons_succ]
                    refine wpAnyH_take (i := 9) (v := vv) rfl (by kernel_rfl) (by kernel_rfl) (by kernel_rfl) (fun _ _ _ h => h) (Or.inl ⟨by kernel_rfl, fun w _ => by go_simp⟩) (by assumption) ?_
                    simp only [Act.put, List.setIfInBounds_toArray, List.set_cons_zero, List.set_cons_succ]
                    refine wpAnyH_done (by kernel_rfl) ?_ _
                    have ACC := Lib.hid (FIN.out _ _ _ J4.out)
                    clear J4 FIN hHeld
                    go_wp2_with fail
                    go_roundw
                    case rel => exact ⟨j + 1, by have := HLT.out; omega, by go_num, ACC.out⟩
                    case measure => simp [intOf]; have := HLT.out; omega
                  · skip
                    rw [if_pos (by kernel_rfl)]
                    refine step_boxV wz1 (.tmp 68) (by kernel_rfl) cs C6.out (by kernel_rfl) ?_
                    have J2 := Lib.hid (J1.out.still (still_new wz1 (.cells cs.toArray 26)))
                    have LV2 := Lib.hid (J1.out.laid 26 cs.toArray)
                    have LK2 := Lib.hid (LK1.out.still (still_new wz1 (.cells cs.toArray 26)))
                    obtain ⟨bv, hbv⟩ : ∃ bv, bv = wz1.heap.size := ⟨_, rfl⟩
                    rw [← hbv] at LV2 ⊢
                    obtain ⟨wz2, hwz2⟩ : ∃ W, W = wz1.alloc (.cells cs.toArray 26) := ⟨_, rfl⟩
                    rw [← hwz2] at J2 LV2 LK2 ⊢
                    clear hwz2 hbv
                    refine hK.out _ _ (box_range J2.out.box) (fun hHeld => ?_)
                    clear hK K
                    try simp only [Act.put, List.setIfInBounds_toArray, List.set_cons_zero, List.set_cons_succ]
                    refine wpAnyH_ready (rs := [3]) (by kernel_rfl) (by simp) ?_
                    refine AllReadyH.cons rfl (fun K hK => ?_) AllReadyH.nil
                    rw [if_pos (by kernel_rfl)]
                    refine step_pushS wz2 (.tmp 63) (.tmp 65) (by kernel_rfl) w1.heap.size (.slice (some ⟨gk, 0, none⟩) j cap) j ks (by kernel_rfl) J2.out.ownk bk b (by kernel_rfl) (LK2.out.blk.cell 0) HJ.out J2.out.gr.size ?_
                    intro vk wz3 own3 gr3 loc3
                    have J3 := Lib.hid (J2.out.pushK own3 gr3 loc3)
                    have LV3 := Lib.hid (LV2.out.pushK gr3 loc3)
                    clear own3 gr3 loc3
                    refine hK.out _ _ (box_range J3.out.box) (fun hHeld => ?_)
                    clear hK K
                    try simp only [Act.put, List.setIfInBounds_toArray, List.set_cons_zero, List.set_cons_succ]
                    refine wpAnyH_ready (rs := [7]) (by kernel_rfl) (by simp) ?_
                    refine AllReadyH.cons rfl (fun K hK => ?_) AllReadyH.nil
                    rw [if_pos (by kernel_rfl)]
                    refine step_pushV wz3 (.tmp 67) (.tmp 69) (by kernel_rfl) w1.heap.size (u12) j xs (by kernel_rfl) J3.out.ownl bv cs (by kernel_rfl) (fun q u hq => (LV3.out.blk.cell q).trans (by simpa using hq)) C6.out (fun u hu => (Array.all_eq_true_iff_forall_mem.1 ALL.out) u (by simpa using hu)) HJ.out J3.out.gr.size ?_
                    intro vv wz4 own4 gr4 loc4
                    have J4 := Lib.hid (J3.out.pushV C6.out own4 gr4 loc4)
                    clear own4 gr4 loc4
                    refine hK.out _ _ (box_range J4.out.box) (fun hHeld => ?_)
                    clear hK K
                    try simp only [Act.put, List.setIfInBounds_toArray, List.set_cons_zero, List.set_cons_succ]
                    refine wpAnyH_take (i := 8) (v := vk) rfl (by kernel_rfl) (by kernel_rfl) (by kernel_rfl) (fun _ _ _ h => h) (Or.inl ⟨by kernel_rfl, fun w _ => by go_simp⟩) (by assumption) ?_
                    simp only [Act.put, List.setIfInBounds_toArray, List.set_cons_zero, List.set_cons_succ]
                    refine wpAnyH_take (i := 9) (v := vv) rfl (by kernel_rfl) (by kernel_rfl) (by kernel_rfl) (fun _ _ _ h => h) (Or.inl ⟨by kernel_rfl, fun w _ => by go_simp⟩) (by assumption) ?_
                    simp only [Act.put, List.setIfInBounds_toArray, List.set_cons_zero, List.set_cons_succ]
                    refine wpAnyH_done (by kernel_rfl) ?_ _
                    have ACC := Lib.hid (FIN.out _ _ _ J4.out)
                    clear J4 FIN hHeld
                    go_wp2_with fail
                    go_roundw
                    case rel => exact ⟨j + 1, by have := HLT.out; omega, by go_num, ACC.out⟩
                    case measure => simp [intOf]; have := HLT.out; omega
                · skip
                  rw [if_pos (by kernel_rfl)]
                  refine step_boxV wa (.tmp 68) (by kernel_rfl) cs C6.out (by kernel_rfl) ?_
                  have J1 := Lib.hid (J0.out.still (still_new wa (.cells cs.toArray 26)))
                  have LV1 := Lib.hid (J0.out.laid 26 cs.toArray)
                  obtain ⟨bv, hbv⟩ : ∃ bv, bv = wa.heap.size := ⟨_, rfl⟩
                  rw [← hbv] at LV1 ⊢
                  obtain ⟨wz1, hwz1⟩ : ∃ W, W = wa.alloc (.cells cs.toArray 26) := ⟨_, rfl⟩
                  rw [← hwz1] at J1 LV1 ⊢
                  clear hwz1 hbv
                  refine hK.out _ _ (box_range J1.out.box) (fun hHeld => ?_)
                  clear hK K
                  try simp only [Act.put, List.setIfInBounds_toArray, List.set_cons_zero, List.set_cons_succ]
                  refine wpAnyH_ready (rs := [2]) (by kernel_rfl) (by simp) ?_
                  refine AllReadyH.cons rfl (fun K hK => ?_) AllReadyH.nil
                  rw [if_pos (by kernel_rfl)]
                  refine step_boxS wz1 (.tmp 64) (by kernel_rfl) b (by kernel_rfl) ?_
                  have J2 := Lib.hid (J1.out.still (still_new wz1 (.cells #[.string b] 9)))
                  have LK2 := Lib.hid (J1.out.laid 9 #[.string b])
                  have LV2 := Lib.hid (LV1.out.still (still_new wz1 (.cells #[.string b] 9)))
                  obtain ⟨bk, hbk⟩ : ∃ bk, bk = wz1.heap.size := ⟨_, rfl⟩
                  rw [← hbk] at LK2 ⊢
                  obtain ⟨wz2, hwz2⟩ : ∃ W, W = wz1.alloc (.cells #[.string b] 9) := ⟨_, rfl⟩
                  rw [← hwz2] at J2 LK2 LV2 ⊢
                  clear hwz2 hbk
                  refine hK.out _ _ (box_range J2.out.box) (fun hHeld => ?_)
                  clear hK K
                  try simp only [Act.put, List.setIfInBounds_toArray, List.set_cons_zero, List.set_cons_succ]
                  refine wpAnyH_ready (rs := [3]) (by kernel_rfl) (by simp) ?_
                  refine AllReadyH.cons rfl (fun K hK => ?_) AllReadyH.nil
                  rw [if_pos (by kernel_rfl)]
                  refine step_pushS wz2 (.tmp 63) (.tmp 65) (by kernel_rfl) w1.heap.size (.slice (some ⟨gk, 0, none⟩) j cap) j ks (by kernel_rfl) J2.out.ownk bk b (by kernel_rfl) (LK2.out.blk.cell 0) HJ.out J2.out.gr.size ?_
                  intro vk wz3 own3 gr3 loc3
                  have J3 := Lib.hid (J2.out.pushK own3 gr3 loc3)
                  have LV3 := Lib.hid (LV2.out.pushK gr3 loc3)
                  clear own3 gr3 loc3
                  refine hK.out _ _ (box_range J3.out.box) (fun hHeld => ?_)
                  clear hK K
                  try simp only [Act.put, List.setIfInBounds_toArray, List.set_cons_zero, List.set_cons_succ]
                  refine wpAnyH_ready (rs := [7]) (by kernel_rfl) (by simp) ?_
                  refine AllReadyH.cons rfl (fun K hK => ?_) AllReadyH.nil
                  rw [if_pos (by kernel_rfl)]
                  refine step_pushV wz3 (.tmp 67) (.tmp 69) (by kernel_rfl) w1.heap.size (u12) j xs (by kernel_rfl) J3.out.ownl bv cs (by kernel_rfl) (fun q u hq => (LV3.out.blk.cell q).trans (by simpa using hq)) C6.out (fun u hu => (Array.all_eq_true_iff_forall_mem.1 ALL.out) u (by simpa using hu)) HJ.out J3.out.gr.size ?_
                  intro vv wz4 own4 gr4 loc4
                  have J4 := Lib.hid (J3.out.pushV C6.out own4 gr4 loc4)
                  clear own4 gr4 loc4
                  refine hK.out _ _ (box_range J4.out.box) (fun hHeld => ?_)
                  clear hK K
                  try simp only [Act.put, List.setIfInBounds_toArray, List.set_cons_zero, List.set_cons_succ]
                  refine wpAnyH_take (i := 8) (v := vk) rfl (by kernel_rfl) (by kernel_rfl) (by kernel_rfl) (fun _ _ _ h => h) (Or.inl ⟨by kernel_rfl, fun w _ => by go_simp⟩) (by assumption) ?_
                  simp only [Act.put, List.setIfInBounds_toArray, List.set_cons_zero, List.set_cons_succ]
                  refine wpAnyH_take (i := 9) (v := vv) rfl (by kernel_rfl) (by kernel_rfl) (by kernel_rfl) (fun _ _ _ h => h) (Or.inl ⟨by kernel_rfl, fun w _ => by go_simp⟩) (by assumption) ?_
                  simp only [Act.put, List.setIfInBounds_toArray, List.set_cons_zero, List.set_cons_succ]
                  refine wpAnyH_done (by kernel_rfl) ?_ _
                  have ACC := Lib.hid (FIN.out _ _ _ J4.out)
                  clear J4 FIN hHeld
                  go_wp2_with fail
                  go_roundw
                  case rel => exact ⟨j + 1, by have := HLT.out; omega, by go_num, ACC.out⟩
                  case measure => simp [intOf]; have := HLT.out; omega
              · have d5 : (er != 0) = true := by simpa using h0
                have HDE := Lib.hid (show D = (er, ([], []), []) by rw [HST2.out, if_pos h0])
                have H0 := Lib.hid h0
                clear h0
                go_wp2_with fail
                (try simp only [Exit.inBlock, Exit.then])
                go_ret3
                rw [HDE.out]
                exact ⟨⟨_, _, rfl, rfl, rfl, fun h => absurd h H0.out⟩, grown_trans GR.out (grown_trans GRJ.out (grown_trans GR2.out (grown_trans GR3.out (grown_of_still S4.out))))⟩
        · have d5 : (ek == 0) = false := by simpa using h0
          have d6 : (ek != 0) = true := by simpa using h0
          have HDE := Lib.hid (show D = (ek, ([], []), []) by rw [HST.out, if_pos h0])
          have H0 := Lib.hid h0
          clear h0
          go_wp2_with fail
          (try simp only [Exit.inBlock, Exit.then])
          go_ret3
          rw [HDE.out]
          exact ⟨⟨_, _, rfl, rfl, rfl, fun h => absurd h H0.out⟩, grown_trans GR.out (grown_trans GRJ.out GR2.out)⟩
      · obtain rfl : j = n := by omega
        have hD : D = (0, (ak, al), lj) := by rw [hDj, Nat.sub_self, preM_zero]
        have HD := Lib.hid hD
        have OWK := Lib.hid ownk
        have OWN := Lib.hid own
        have HR := Lib.hid hR
        have RJ := Lib.hid rj
        have GRJ := Lib.hid grj
        have HAK := Lib.hid hak
        have HKL := Lib.hid hkl
        have HAL := Lib.hid hal
        clear hD ownk own hR rj grj hak hal hkl hDj hlt hne
        go_wp2_with fail
        go_ret3
        rw [HD.out]
        have hsz : w.heap.size ≤ w1.heap.size := GR.out.size
        obtain ⟨Ak, ck, hk1, hk2⟩ := keysP_own HAK.out OWK.out HKL.out (fun b => w.heap.size ≤ b) (fun b hb => by omega)
        obtain ⟨Al, cl, hl1, hl2⟩ := valsP_own HAL.out OWN.out HR.out (fun b => w.heap.size ≤ b) (fun b hb => by have := hb.1; omega)
        refine ⟨⟨_, _, rfl, by rw [hk1]; rfl, by rw [hl1]; rfl, fun _ => ⟨⟨Ak, ck, Al, cl, hk1, hl1, by rw [HAK.out, HAL.out], by rw [HAL.out]; exact HBD.out, hk2, fun h => ?_⟩, RJ.out⟩⟩, grown_trans GR.out GRJ.out⟩
        obtain ⟨g', o, q1, q2, q3, q4⟩ := hl2 h
        exact ⟨g', o, q1, by omega, q3, q4⟩
  · have e4 : D = (er, ([], []), []) := by rw [HE.out, if_pos hz]
    have HE2 := Lib.hid e4
    have HZ := Lib.hid hz
    have hz' : (er != 0) = true := by simpa using hz
    clear e4 HE hz
    go_enter Tryd.func55, Tryd.ntmps55
    go_wp2_with fail
    refine SZ'.out.mono ?_
    rintro e w1 ⟨⟨n0, rfl, hn0⟩, gr1⟩
    have GR := Lib.hid gr1
    clear gr1 SZ' hn0
    go_wp2_with fail
    (try simp only [Exit.inBlock, Exit.then])
    go_ret3
    rw [HE2.out]
    exact ⟨⟨_, _, rfl, rfl, rfl, fun h => absurd h HZ.out⟩, GR.out⟩
end Go.Proofs.YtmpnehhndhepgaaDoor

/- Contracts: a value read, by kinds, whatever bytes there are. It proves no statement. -/


namespace Go.Proofs.YtmpnehhndhepgaaDoor
open Go.RowKit
set_option linter.unusedVariables false
set_option linter.unusedSimpArgs false

theorem storeVar_cell (P : Program) (e : TypeId) (hi : (P.info? e).map (·.size) = some 1) (a : Addr) (v o : Value) (hv : v.oneCell' = true) (w : World) (hc : w.cell? a = some o) (hf : w.frozen? a = false) :
    (storeVar e a v).run P w = .ok () (w.setCell a v) := by
  have h1 : v.cells = #[v] := by cases v <;> first | rfl | simp [Value.oneCell'] at hv
  cases hq : P.info? e with
  | none => simp [hq] at hi
  | some i =>
    have hs : i.size = 1 := by simpa [hq] using hi
    simp [storeVar, h1, sizeOf, typeInfo, hq, hs, storeCells, run_store P _ _ v _ hv, Addr.add_zero', hc, hf, Result.andThen]
/-- One cell is stored, whatever stands in it. -/
theorem wpList_store_cell {P : Program} {ops : Array Oper} {rest : List Oper} {op : Oper} {a : Act} {w : World} {Q : Exit → Act → World → Prop} (hgd : op.guard = none) (ty : TypeId) (x y : Operand) (ho : op.op = .store ty x y) (hd : op.dst = none)
    (b i : Nat) (v old : Value) (hx : a.eval x = .pointer (some ⟨b, i, none⟩)) (hy : a.eval y = v) (hv : v.oneCell' = true) (hi : (P.info? ty).map (·.size) = some 1) (hc : w.cell? ⟨b, i, none⟩ = some old) (hf : w.frozen? ⟨b, i, none⟩ = false)
    (h : wpList P ops Q rest a (w.setCell ⟨b, i, none⟩ v)) : wpList P ops Q (op :: rest) a w :=
  wpList_plain hgd fun _ hK => by
    unfold Oper.wp execOp
    simp only [ho, hx, hy, Instr.storeAt, Instr.sureAddr, Sem.run_bind, Sem.run_pure, Result.andThen_ok, storeVar_cell P ty hi ⟨b, i, none⟩ v old hv w hc hf]
    exact hK _ _ (by rw [hd]; exact h)

set_option maxRecDepth 100000 in
set_option maxHeartbeats 3200000 in
theorem rvalue_num {w : World} {lo B h g : Nat} {l rest : List UInt8} (deep er : Int) (GOOD : World → World → Value → Prop) (t : UInt8) (hkd : kd t.toNat = 3) (hd : deep ≤ 16) (r : Rd w lo B h g (t :: l) 0) (T : Sizes w) (hgl : 0 < lo)
    (C : ∀ w2, Rd w2 lo B h g l 0 → Sizes w2 → Calls Tryd.prog 51 #[.pointer (some ⟨h, 0, none⟩), .int .u8 (t.toNat : Int)] w2 fun e w3 => (∃ v1 : Value, e = .returned (.tuple #[v1, .int .i64 er]) ∧ v1.oneCell' = true ∧ (er = 0 → GOOD w2 w3 v1 ∧ Rd w3 lo B h g rest 0)) ∧ w2.grownBy w3 (some g)) :
    Calls Tryd.prog 29 #[.pointer (some ⟨h, 0, none⟩), .int .i64 deep] w fun e w' => (∃ (v1 : Value) (wm wn : World), e = .returned (.tuple #[.agg #[.int .i64 3, v1, .slice none 0 0, .string ⟨#[]⟩, .slice none 0 0, .slice none 0 0], .int .i64 er]) ∧ v1.oneCell' = true ∧ (er = 0 → w.heap.size ≤ wm.heap.size ∧ GOOD wm wn v1 ∧ wn.heap.size ≤ w'.heap.size ∧ (∀ b, wm.heap.size ≤ b → b < wn.heap.size → w'.heap[b]? = wn.heap[b]?) ∧ Rd w' lo B h g rest 0)) ∧ w.grownBy w' (some g) := by
  obtain ⟨wA, hA⟩ : ∃ wA, wA = w.alloc (.cells cellsZ 26) := ⟨_, rfl⟩
  have sA : Still w wA := by rw [hA]; exact (Still.refl w).alloc (Nat.le_refl _) _
  have bA : Blk wA w.heap.size 26 cellsZ := by rw [hA]; exact Blk.new _ _ _
  have rA := r.still sA
  have hlow := r.low
  have TG := tag_yes t (l := l) rA
  have KD := Lib.hid (fun w => kindOf_any t.toNat w)
  rw [hkd] at KD
  have NUM := Lib.hid C
  have HT : Hid (∀ w', w.grownBy w' (some g) → Sizes w') := Lib.hid fun w' gr => T.grown gr (by omega)
  obtain ⟨y, hy⟩ : ∃ y, y = t.toNat := ⟨_, rfl⟩
  rw [← hy] at TG KD NUM
  have d1 : ¬ 16 < deep := by omega
  have TT := Lib.hid TG
  have GA := Lib.hid (grown_of_still (r := some g) sA)
  have BA := Lib.hid bA
  have HA := Lib.hid hA
  have LOW := Lib.hid hlow
  obtain ⟨fs, hu⟩ := underValue
  have HU := Lib.hid hu
  clear hA sA bA rA hlow TG hkd hy r hd hu C T hgl
  go_enter Tryd.func29, Tryd.ntmps29
  go_upto_region 1 with fail
  rw [show (w.alloc (.cells #[.int .i64 0, .int .i64 0, .slice none 0 0, .string ⟨#[]⟩, .slice none 0 0, .slice none 0 0] 26)) = wA from HA.out.symm]
  go_wp2_with fail
  refine TT.out.mono ?_
  rintro e w1 ⟨rfl, r1, gr1⟩
  have G1 := Lib.hid (grown_trans GA.out gr1)
  have B1 : Hid (Blk w1 w.heap.size 26 cellsZ) := Lib.hid ((gr1.block _ BA.out.lt (fun e => by have := LOW.out; cases e; omega)).trans BA.out)
  have R1 := Lib.hid r1
  clear gr1 r1 TT GA BA HA
  go_wp2_with fail
  refine (KD.out _).mono ?_
  rintro e w2 ⟨rfl, rfl⟩
  obtain ⟨v, hv⟩ : ∃ v, v = w1.heap.size := ⟨_, rfl⟩
  obtain ⟨w2, hw2⟩ : ∃ w2, w2 = w1.alloc (.cells #[.int .i64 3, .int .i64 0, .slice none 0 0, .string ⟨#[]⟩, .slice none 0 0, .slice none 0 0] 26) := ⟨_, rfl⟩
  have s2 : Still w1 w2 := by rw [hw2]; exact (Still.refl w1).alloc (Nat.le_refl _) _
  have bv2 : Blk w2 v 26 #[.int .i64 3, .int .i64 0, .slice none 0 0, .string ⟨#[]⟩, .slice none 0 0, .slice none 0 0] := by rw [hw2, hv]; exact Blk.new _ _ _
  have R2 := Lib.hid (R1.out.still s2)
  have G2 := Lib.hid (grown_trans G1.out (grown_of_still s2))
  have B2 := Lib.hid (B1.out.still s2)
  have V2 := Lib.hid (show w.heap.size < v ∧ g < v from ⟨by have := B1.out.lt; omega, by have := R1.out.low.2; omega⟩)
  have k0 : w2.cell? ⟨v, 0, none⟩ = some (.int .i64 3) := bv2.cell 0
  have BV2 := Lib.hid bv2
  have HW2 := Lib.hid hw2
  have HV := Lib.hid hv
  clear s2 bv2 hw2 hv
  go_upto_region 7 with fail
  rw [← HW2.out, ← HV.out]
  clear HW2 HV R1 G1 B1
  have NM := Lib.hid (NUM.out w2 R2.out (HT.out _ G2.out))
  clear NUM KD HT
  go_wp2_with fail
  refine NM.out.mono ?_
  rintro e w3 ⟨⟨v1, rfl, ho_v1, hok⟩, gr3⟩
  have BV3 : Blk w3 v 26 #[.int .i64 3, .int .i64 0, .slice none 0 0, .string ⟨#[]⟩, .slice none 0 0, .slice none 0 0] := (gr3.block _ BV2.out.lt (fun e => by have := V2.out; cases e; omega)).trans BV2.out
  have B3 : Blk w3 w.heap.size 26 cellsZ := (gr3.block _ B2.out.lt (fun e => by have := LOW.out; cases e; omega)).trans B2.out
  have G3 := grown_trans G2.out gr3
  have HOK := Lib.hid hok
  have GR3 := Lib.hid gr3
  have c1 : w3.cell? ⟨v, 1, none⟩ = some (.int .i64 0) := BV3.cell 1
  have f1 : w3.frozen? ⟨v, 1, none⟩ = false := BV3.frozen 1
  obtain ⟨w4, hw4⟩ : ∃ W, W = w3.setCell ⟨v, 1, none⟩ v1 := ⟨_, rfl⟩
  have bw4 : Blk w4 v 26 #[.int .i64 3, v1, .slice none 0 0, .string ⟨#[]⟩, .slice none 0 0, .slice none 0 0] := by rw [hw4]; exact BV3.setc 1 _
  have zw4 : Blk w4 w.heap.size 26 cellsZ := by rw [hw4]; exact B3.far (by have := V2.out; simp only; omega) _
  have gw4 : w.grownBy w4 (some g) := by rw [hw4]; exact grown_set G3 (by have := V2.out; omega) _
  have C1 := Lib.hid c1
  have F1 := Lib.hid f1
  have HOv1 := Lib.hid ho_v1
  have HWw4 := Lib.hid hw4
  have hsz : w4.heap.size = w3.heap.size := by rw [HWw4.out]; simp [World.setCell]
  have hbl : ∀ b, v ≠ b → w4.heap[b]? = w3.heap[b]? := fun b hb => by
    rw [HWw4.out]
    exact Below.heap_setCell _ _ _ b (by simp only; omega)
  have HR4 : Hid (∀ l', Rd w3 lo B h g l' 0 → Rd w4 lo B h g l' 0) := Lib.hid fun l' q => by rw [HWw4.out]; exact q.set (by have := V2.out; have := LOW.out; omega) _
  have BV4 := Lib.hid bw4
  have B4 := Lib.hid zw4
  have G4 := Lib.hid gw4
  have HSZ := Lib.hid hsz
  have HBL := Lib.hid hbl
  have V2B := Lib.hid BV2.out.lt
  clear hsz hbl BV3 B3 G3 gr3 NM hok
  clear c1 f1 ho_v1 hw4 bw4 zw4 gw4
  go_upto_region 20 with (first
    | (guard_target =~ wpList _ _ _ (Oper.mk none (Op.store _ _ _) _ _ _ _ :: _) _ _; go_must (refine wpList_store_cell rfl 2 (.tmp 36) (.tmp 34) rfl rfl v 1 v1 _ rfl rfl HOv1.out (by kernel_rfl) (C1.out) (F1.out) ?_)))
  rw [← HWw4.out]
  refine wp_region_lit ?_
  refine wpList_load_row rfl 26 (.tmp 8) rfl v rfl _ _ _ _ BV4.out HU.out rfl (by rw [sizeValue]; rfl) ?_
  have ALL : Hid (#[.int .i64 3, v1, .slice none 0 0, .string ⟨#[]⟩, .slice none 0 0, .slice none 0 0].all (·.oneCell') = true) := Lib.hid (by
    rw [Array.all_eq_true_iff_forall_mem]
    intro u hu
    simp only [List.mem_toArray, List.mem_cons, List.not_mem_nil, or_false] at hu
    rcases hu with rfl | rfl | rfl | rfl | rfl | rfl <;> first | rfl | exact HOv1.out)
  go_wp2_with (guard_target =~ wpList _ _ _ (Oper.mk none (Op.store _ _ _) _ _ _ _ :: _) _ _; go_must (refine wpList_store_rowTo rfl 26 (.tmp 4) (.tmp 77) rfl rfl w.heap.size #[.int .i64 3, v1, .slice none 0 0, .string ⟨#[]⟩, .slice none 0 0, .slice none 0 0] rfl rfl 26 _ B4.out (by rw [sizeValue]; rfl) rfl ALL.out ?_))
  refine bodyPost_ret (results_val2 rfl _ _ w.heap.size #[.int .i64 3, v1, .slice none 0 0, .string ⟨#[]⟩, .slice none 0 0, .slice none 0 0] rfl (setRow_heap w4 _ _ _ _ _ B4.out) rfl _ rfl) rfl ?_
  refine ⟨⟨v1, w2, w3, rfl, HOv1.out, fun h0 => ?_⟩, grown_row G4.out (Nat.le_refl _) _⟩
  obtain ⟨hg, hrd⟩ := HOK.out h0
  refine ⟨by have := V2.out; have := V2B.out; omega, hg, ?_, fun b h1 h2 => ?_, (HR4.out _ hrd).below (below_setRow (Below.refl _ _) LOW.out.2.2.1 _)⟩
  · have := HSZ.out
    have h2 : (w4.setRow w.heap.size #[.int .i64 3, v1, .slice none 0 0, .string ⟨#[]⟩, .slice none 0 0, .slice none 0 0]).heap.size = w4.heap.size := by simp [World.setRow]
    omega
  · rw [setRow_other w4 w.heap.size b #[.int .i64 3, v1, .slice none 0 0, .string ⟨#[]⟩, .slice none 0 0, .slice none 0 0] (by have := V2.out; have := V2B.out; omega)]
    exact HBL.out b (by have := V2B.out; omega)

set_option maxRecDepth 100000 in
set_option maxHeartbeats 3200000 in
theorem rvalue_no {w : World} {lo B h g : Nat} {l : List UInt8} (deep : Int) (t : UInt8) (hkd : kd t.toNat = (-1)) (hd : deep ≤ 16) (r : Rd w lo B h g (t :: l) 0) :
    Calls Tryd.prog 29 #[.pointer (some ⟨h, 0, none⟩), .int .i64 deep] w fun e w' => e = .returned (.tuple #[.agg #[.int .i64 (-1), .int .i64 0, .slice none 0 0, .string ⟨#[]⟩, .slice none 0 0, .slice none 0 0], .int .i64 4]) ∧ Rd w' lo B h g l 0 ∧ w.grownBy w' (some g) := by
  obtain ⟨wA, hA⟩ : ∃ wA, wA = w.alloc (.cells cellsZ 26) := ⟨_, rfl⟩
  have sA : Still w wA := by rw [hA]; exact (Still.refl w).alloc (Nat.le_refl _) _
  have bA : Blk wA w.heap.size 26 cellsZ := by rw [hA]; exact Blk.new _ _ _
  have rA := r.still sA
  have hlow := r.low
  have TG := tag_yes t (l := l) rA
  have KD := Lib.hid (fun w => kindOf_any t.toNat w)
  rw [hkd] at KD
  obtain ⟨y, hy⟩ : ∃ y, y = t.toNat := ⟨_, rfl⟩
  rw [← hy] at TG KD
  have d1 : ¬ 16 < deep := by omega
  have TT := Lib.hid TG
  have GA := Lib.hid (grown_of_still (r := some g) sA)
  have BA := Lib.hid bA
  have HA := Lib.hid hA
  have LOW := Lib.hid hlow
  obtain ⟨fs, hu⟩ := underValue
  have HU := Lib.hid hu
  clear hA sA bA rA hlow TG hkd hy r hd hu
  go_enter Tryd.func29, Tryd.ntmps29
  go_upto_region 1 with fail
  rw [show (w.alloc (.cells #[.int .i64 0, .int .i64 0, .slice none 0 0, .string ⟨#[]⟩, .slice none 0 0, .slice none 0 0] 26)) = wA from HA.out.symm]
  go_wp2_with fail
  refine TT.out.mono ?_
  rintro e w1 ⟨rfl, r1, gr1⟩
  have G1 := Lib.hid (grown_trans GA.out gr1)
  have B1 : Hid (Blk w1 w.heap.size 26 cellsZ) := Lib.hid ((gr1.block _ BA.out.lt (fun e => by have := LOW.out; cases e; omega)).trans BA.out)
  have R1 := Lib.hid r1
  clear gr1 r1 TT GA BA HA
  go_wp2_with fail
  refine (KD.out _).mono ?_
  rintro e w2 ⟨rfl, rfl⟩
  obtain ⟨v, hv⟩ : ∃ v, v = w1.heap.size := ⟨_, rfl⟩
  obtain ⟨w2, hw2⟩ : ∃ w2, w2 = w1.alloc (.cells #[.int .i64 (-1), .int .i64 0, .slice none 0 0, .string ⟨#[]⟩, .slice none 0 0, .slice none 0 0] 26) := ⟨_, rfl⟩
  have s2 : Still w1 w2 := by rw [hw2]; exact (Still.refl w1).alloc (Nat.le_refl _) _
  have bv2 : Blk w2 v 26 #[.int .i64 (-1), .int .i64 0, .slice none 0 0, .string ⟨#[]⟩, .slice none 0 0, .slice none 0 0] := by rw [hw2, hv]; exact Blk.new _ _ _
  have R2 := Lib.hid (R1.out.still s2)
  have G2 := Lib.hid (grown_trans G1.out (grown_of_still s2))
  have B2 := Lib.hid (B1.out.still s2)
  have V2 := Lib.hid (show w.heap.size < v ∧ g < v from ⟨by have := B1.out.lt; omega, by have := R1.out.low.2; omega⟩)
  have k0 : w2.cell? ⟨v, 0, none⟩ = some (.int .i64 (-1)) := bv2.cell 0
  have BV2 := Lib.hid bv2
  have HW2 := Lib.hid hw2
  have HV := Lib.hid hv
  clear s2 bv2 hw2 hv
  go_upto_region 7 with fail
  rw [← HW2.out, ← HV.out]
  clear HW2 HV R1 G1 B1
  go_upto_region 20 with fail
  refine wp_region_lit ?_
  refine wpList_load_row rfl 26 (.tmp 8) rfl v rfl _ _ _ _ BV2.out HU.out rfl (by rw [sizeValue]; rfl) ?_
  go_wp2_with (guard_target =~ wpList _ _ _ (Oper.mk none (Op.store _ _ _) _ _ _ _ :: _) _ _; go_must (refine wpList_store_rowTo rfl 26 (.tmp 4) (.tmp 77) rfl rfl w.heap.size #[.int .i64 (-1), .int .i64 0, .slice none 0 0, .string ⟨#[]⟩, .slice none 0 0, .slice none 0 0] rfl rfl 26 _ B2.out (by rw [sizeValue]; rfl) rfl (by kernel_rfl) ?_))
  refine bodyPost_ret (results_val2 rfl _ _ w.heap.size #[.int .i64 (-1), .int .i64 0, .slice none 0 0, .string ⟨#[]⟩, .slice none 0 0, .slice none 0 0] rfl (setRow_heap w2 _ _ _ _ _ B2.out) rfl _ rfl) rfl ?_
  exact ⟨rfl, R2.out.below (below_setRow (Below.refl _ _) LOW.out.2.2.1 _), grown_row G2.out (Nat.le_refl _) _⟩

end Go.Proofs.YtmpnehhndhepgaaDoor

/- Contracts: a value read, by kinds, whatever bytes there are. It proves no statement. -/

namespace Go.Proofs.YtmpnehhndhepgaaDoor
open Go.RowKit
set_option linter.unusedVariables false
set_option linter.unusedSimpArgs false

set_option maxRecDepth 100000 in
set_option maxHeartbeats 3200000 in
theorem rvalue_bytes {w : World} {lo B h g : Nat} {l rest : List UInt8} (deep er : Int) (GOOD : World → World → Value → Prop) (t : UInt8) (hkd : kd t.toNat = 4) (hd : deep ≤ 16) (r : Rd w lo B h g (t :: l) 0) (T : Sizes w) (hgl : 0 < lo)
    (C : ∀ w2, Rd w2 lo B h g l 0 → Sizes w2 → Calls Tryd.prog 52 #[.pointer (some ⟨h, 0, none⟩), .int .u8 (t.toNat : Int)] w2 fun e w3 => (∃ v1 : Value, e = .returned (.tuple #[v1, .int .i64 er]) ∧ v1.oneCell' = true ∧ (er = 0 → GOOD w2 w3 v1 ∧ Rd w3 lo B h g rest 0)) ∧ w2.grownBy w3 (some g)) :
    Calls Tryd.prog 29 #[.pointer (some ⟨h, 0, none⟩), .int .i64 deep] w fun e w' => (∃ (v1 : Value) (wm wn : World), e = .returned (.tuple #[.agg #[.int .i64 4, .int .i64 0, v1, .string ⟨#[]⟩, .slice none 0 0, .slice none 0 0], .int .i64 er]) ∧ v1.oneCell' = true ∧ (er = 0 → w.heap.size ≤ wm.heap.size ∧ GOOD wm wn v1 ∧ wn.heap.size ≤ w'.heap.size ∧ (∀ b, wm.heap.size ≤ b → b < wn.heap.size → w'.heap[b]? = wn.heap[b]?) ∧ Rd w' lo B h g rest 0)) ∧ w.grownBy w' (some g) := by
  obtain ⟨wA, hA⟩ : ∃ wA, wA = w.alloc (.cells cellsZ 26) := ⟨_, rfl⟩
  have sA : Still w wA := by rw [hA]; exact (Still.refl w).alloc (Nat.le_refl _) _
  have bA : Blk wA w.heap.size 26 cellsZ := by rw [hA]; exact Blk.new _ _ _
  have rA := r.still sA
  have hlow := r.low
  have TG := tag_yes t (l := l) rA
  have KD := Lib.hid (fun w => kindOf_any t.toNat w)
  rw [hkd] at KD
  have NUM := Lib.hid C
  have HT : Hid (∀ w', w.grownBy w' (some g) → Sizes w') := Lib.hid fun w' gr => T.grown gr (by omega)
  obtain ⟨y, hy⟩ : ∃ y, y = t.toNat := ⟨_, rfl⟩
  rw [← hy] at TG KD NUM
  have d1 : ¬ 16 < deep := by omega
  have TT := Lib.hid TG
  have GA := Lib.hid (grown_of_still (r := some g) sA)
  have BA := Lib.hid bA
  have HA := Lib.hid hA
  have LOW := Lib.hid hlow
  obtain ⟨fs, hu⟩ := underValue
  have HU := Lib.hid hu
  clear hA sA bA rA hlow TG hkd hy r hd hu C T hgl
  go_enter Tryd.func29, Tryd.ntmps29
  go_upto_region 1 with fail
  rw [show (w.alloc (.cells #[.int .i64 0, .int .i64 0, .slice none 0 0, .string ⟨#[]⟩, .slice none 0 0, .slice none 0 0] 26)) = wA from HA.out.symm]
  go_wp2_with fail
  refine TT.out.mono ?_
  rintro e w1 ⟨rfl, r1, gr1⟩
  have G1 := Lib.hid (grown_trans GA.out gr1)
  have B1 : Hid (Blk w1 w.heap.size 26 cellsZ) := Lib.hid ((gr1.block _ BA.out.lt (fun e => by have := LOW.out; cases e; omega)).trans BA.out)
  have R1 := Lib.hid r1
  clear gr1 r1 TT GA BA HA
  go_wp2_with fail
  refine (KD.out _).mono ?_
  rintro e w2 ⟨rfl, rfl⟩
  obtain ⟨v, hv⟩ : ∃ v, v = w1.heap.size := ⟨_, rfl⟩
  obtain ⟨w2, hw2⟩ : ∃ w2, w2 = w1.alloc (.cells #[.int .i64 4, .int .i64 0, .slice none 0 0, .string ⟨#[]⟩, .slice none 0 0, .slice none 0 0] 26) := ⟨_, rfl⟩
  have s2 : Still w1 w2 := by rw [hw2]; exact (Still.refl w1).alloc (Nat.le_refl _) _
  have bv2 : Blk w2 v 26 #[.int .i64 4, .int .i64 0, .slice none 0 0, .string ⟨#[]⟩, .slice none 0 0, .slice none 0 0] := by rw [hw2, hv]; exact Blk.new _ _ _
  have R2 := Lib.hid (R1.out.still s2)
  have G2 := Lib.hid (grown_trans G1.out (grown_of_still s2))
  have B2 := Lib.hid (B1.out.still s2)
  have V2 := Lib.hid (show w.heap.size < v ∧ g < v from ⟨by have := B1.out.lt; omega, by have := R1.out.low.2; omega⟩)
  have k0 : w2.cell? ⟨v, 0, none⟩ = some (.int .i64 4) := bv2.cell 0
  have BV2 := Lib.hid bv2
  have HW2 := Lib.hid hw2
  have HV := Lib.hid hv
  clear s2 bv2 hw2 hv
  go_upto_region 7 with fail
  rw [← HW2.out, ← HV.out]
  clear HW2 HV R1 G1 B1
  have NM := Lib.hid (NUM.out w2 R2.out (HT.out _ G2.out))
  clear NUM KD HT
  go_wp2_with fail
  refine NM.out.mono ?_
  rintro e w3 ⟨⟨v1, rfl, ho_v1, hok⟩, gr3⟩
  have BV3 : Blk w3 v 26 #[.int .i64 4, .int .i64 0, .slice none 0 0, .string ⟨#[]⟩, .slice none 0 0, .slice none 0 0] := (gr3.block _ BV2.out.lt (fun e => by have := V2.out; cases e; omega)).trans BV2.out
  have B3 : Blk w3 w.heap.size 26 cellsZ := (gr3.block _ B2.out.lt (fun e => by have := LOW.out; cases e; omega)).trans B2.out
  have G3 := grown_trans G2.out gr3
  have HOK := Lib.hid hok
  have GR3 := Lib.hid gr3
  have c2 : w3.cell? ⟨v, 2, none⟩ = some (.slice none 0 0) := BV3.cell 2
  have f2 : w3.frozen? ⟨v, 2, none⟩ = false := BV3.frozen 2
  obtain ⟨w4, hw4⟩ : ∃ W, W = w3.setCell ⟨v, 2, none⟩ v1 := ⟨_, rfl⟩
  have bw4 : Blk w4 v 26 #[.int .i64 4, .int .i64 0, v1, .string ⟨#[]⟩, .slice none 0 0, .slice none 0 0] := by rw [hw4]; exact BV3.setc 2 _
  have zw4 : Blk w4 w.heap.size 26 cellsZ := by rw [hw4]; exact B3.far (by have := V2.out; simp only; omega) _
  have gw4 : w.grownBy w4 (some g) := by rw [hw4]; exact grown_set G3 (by have := V2.out; omega) _
  have C2 := Lib.hid c2
  have F2 := Lib.hid f2
  have HOv1 := Lib.hid ho_v1
  have HWw4 := Lib.hid hw4
  have hsz : w4.heap.size = w3.heap.size := by rw [HWw4.out]; simp [World.setCell]
  have hbl : ∀ b, v ≠ b → w4.heap[b]? = w3.heap[b]? := fun b hb => by
    rw [HWw4.out]
    exact Below.heap_setCell _ _ _ b (by simp only; omega)
  have HR4 : Hid (∀ l', Rd w3 lo B h g l' 0 → Rd w4 lo B h g l' 0) := Lib.hid fun l' q => by rw [HWw4.out]; exact q.set (by have := V2.out; have := LOW.out; omega) _
  have BV4 := Lib.hid bw4
  have B4 := Lib.hid zw4
  have G4 := Lib.hid gw4
  have HSZ := Lib.hid hsz
  have HBL := Lib.hid hbl
  have V2B := Lib.hid BV2.out.lt
  clear hsz hbl BV3 B3 G3 gr3 NM hok
  clear c2 f2 ho_v1 hw4 bw4 zw4 gw4
  go_upto_region 20 with (first
    | (guard_target =~ wpList _ _ _ (Oper.mk none (Op.store _ _ _) _ _ _ _ :: _) _ _; go_must (refine wpList_store_cell rfl 22 (.tmp 45) (.tmp 43) rfl rfl v 2 v1 _ rfl rfl HOv1.out (by kernel_rfl) (C2.out) (F2.out) ?_)))
  rw [← HWw4.out]
  refine wp_region_lit ?_
  refine wpList_load_row rfl 26 (.tmp 8) rfl v rfl _ _ _ _ BV4.out HU.out rfl (by rw [sizeValue]; rfl) ?_
  have ALL : Hid (#[.int .i64 4, .int .i64 0, v1, .string ⟨#[]⟩, .slice none 0 0, .slice none 0 0].all (·.oneCell') = true) := Lib.hid (by
    rw [Array.all_eq_true_iff_forall_mem]
    intro u hu
    simp only [List.mem_toArray, List.mem_cons, List.not_mem_nil, or_false] at hu
    rcases hu with rfl | rfl | rfl | rfl | rfl | rfl <;> first | rfl | exact HOv1.out)
  go_wp2_with (guard_target =~ wpList _ _ _ (Oper.mk none (Op.store _ _ _) _ _ _ _ :: _) _ _; go_must (refine wpList_store_rowTo rfl 26 (.tmp 4) (.tmp 77) rfl rfl w.heap.size #[.int .i64 4, .int .i64 0, v1, .string ⟨#[]⟩, .slice none 0 0, .slice none 0 0] rfl rfl 26 _ B4.out (by rw [sizeValue]; rfl) rfl ALL.out ?_))
  refine bodyPost_ret (results_val2 rfl _ _ w.heap.size #[.int .i64 4, .int .i64 0, v1, .string ⟨#[]⟩, .slice none 0 0, .slice none 0 0] rfl (setRow_heap w4 _ _ _ _ _ B4.out) rfl _ rfl) rfl ?_
  refine ⟨⟨v1, w2, w3, rfl, HOv1.out, fun h0 => ?_⟩, grown_row G4.out (Nat.le_refl _) _⟩
  obtain ⟨hg, hrd⟩ := HOK.out h0
  refine ⟨by have := V2.out; have := V2B.out; omega, hg, ?_, fun b h1 h2 => ?_, (HR4.out _ hrd).below (below_setRow (Below.refl _ _) LOW.out.2.2.1 _)⟩
  · have := HSZ.out
    have h2 : (w4.setRow w.heap.size #[.int .i64 4, .int .i64 0, v1, .string ⟨#[]⟩, .slice none 0 0, .slice none 0 0]).heap.size = w4.heap.size := by simp [World.setRow]
    omega
  · rw [setRow_other w4 w.heap.size b #[.int .i64 4, .int .i64 0, v1, .string ⟨#[]⟩, .slice none 0 0, .slice none 0 0] (by have := V2.out; have := V2B.out; omega)]
    exact HBL.out b (by have := V2B.out; omega)

set_option maxRecDepth 100000 in
set_option maxHeartbeats 3200000 in
theorem rvalue_text {w : World} {lo B h g : Nat} {l rest : List UInt8} (deep er : Int) (GOOD : World → World → Value → Prop) (t : UInt8) (hkd : kd t.toNat = 5) (hd : deep ≤ 16) (r : Rd w lo B h g (t :: l) 0) (T : Sizes w) (hgl : 0 < lo)
    (C : ∀ w2, Rd w2 lo B h g l 0 → Sizes w2 → Calls Tryd.prog 53 #[.pointer (some ⟨h, 0, none⟩), .int .u8 (t.toNat : Int)] w2 fun e w3 => (∃ v1 : Value, e = .returned (.tuple #[v1, .int .i64 er]) ∧ v1.oneCell' = true ∧ (er = 0 → GOOD w2 w3 v1 ∧ Rd w3 lo B h g rest 0)) ∧ w2.grownBy w3 (some g)) :
    Calls Tryd.prog 29 #[.pointer (some ⟨h, 0, none⟩), .int .i64 deep] w fun e w' => (∃ (v1 : Value) (wm wn : World), e = .returned (.tuple #[.agg #[.int .i64 5, .int .i64 0, .slice none 0 0, v1, .slice none 0 0, .slice none 0 0], .int .i64 er]) ∧ v1.oneCell' = true ∧ (er = 0 → w.heap.size ≤ wm.heap.size ∧ GOOD wm wn v1 ∧ wn.heap.size ≤ w'.heap.size ∧ (∀ b, wm.heap.size ≤ b → b < wn.heap.size → w'.heap[b]? = wn.heap[b]?) ∧ Rd w' lo B h g rest 0)) ∧ w.grownBy w' (some g) := by
  obtain ⟨wA, hA⟩ : ∃ wA, wA = w.alloc (.cells cellsZ 26) := ⟨_, rfl⟩
  have sA : Still w wA := by rw [hA]; exact (Still.refl w).alloc (Nat.le_refl _) _
  have bA : Blk wA w.heap.size 26 cellsZ := by rw [hA]; exact Blk.new _ _ _
  have rA := r.still sA
  have hlow := r.low
  have TG := tag_yes t (l := l) rA
  have KD := Lib.hid (fun w => kindOf_any t.toNat w)
  rw [hkd] at KD
  have NUM := Lib.hid C
  have HT : Hid (∀ w', w.grownBy w' (some g) → Sizes w') := Lib.hid fun w' gr => T.grown gr (by omega)
  obtain ⟨y, hy⟩ : ∃ y, y = t.toNat := ⟨_, rfl⟩
  rw [← hy] at TG KD NUM
  have d1 : ¬ 16 < deep := by omega
  have TT := Lib.hid TG
  have GA := Lib.hid (grown_of_still (r := some g) sA)
  have BA := Lib.hid bA
  have HA := Lib.hid hA
  have LOW := Lib.hid hlow
  obtain ⟨fs, hu⟩ := underValue
  have HU := Lib.hid hu
  clear hA sA bA rA hlow TG hkd hy r hd hu C T hgl
  go_enter Tryd.func29, Tryd.ntmps29
  go_upto_region 1 with fail
  rw [show (w.alloc (.cells #[.int .i64 0, .int .i64 0, .slice none 0 0, .string ⟨#[]⟩, .slice none 0 0, .slice none 0 0] 26)) = wA from HA.out.symm]
  go_wp2_with fail
  refine TT.out.mono ?_
  rintro e w1 ⟨rfl, r1, gr1⟩
  have G1 := Lib.hid (grown_trans GA.out gr1)
  have B1 : Hid (Blk w1 w.heap.size 26 cellsZ) := Lib.hid ((gr1.block _ BA.out.lt (fun e => by have := LOW.out; cases e; omega)).trans BA.out)
  have R1 := Lib.hid r1
  clear gr1 r1 TT GA BA HA
  go_wp2_with fail
  refine (KD.out _).mono ?_
  rintro e w2 ⟨rfl, rfl⟩
  obtain ⟨v, hv⟩ : ∃ v, v = w1.heap.size := ⟨_, rfl⟩
  obtain ⟨w2, hw2⟩ : ∃ w2, w2 = w1.alloc (.cells #[.int .i64 5, .int .i64 0, .slice none 0 0, .string ⟨#[]⟩, .slice none 0 0, .slice none 0 0] 26) := ⟨_, rfl⟩
  have s2 : Still w1 w2 := by rw [hw2]; exact (Still.refl w1).alloc (Nat.le_refl _) _
  have bv2 : Blk w2 v 26 #[.int .i64 5, .int .i64 0, .slice none 0 0, .string ⟨#[]⟩, .slice none 0 0, .slice none 0 0] := by rw [hw2, hv]; exact Blk.new _ _ _
  have R2 := Lib.hid (R1.out.still s2)
  have G2 := Lib.hid (grown_trans G1.out (grown_of_still s2))
  have B2 := Lib.hid (B1.out.still s2)
  have V2 := Lib.hid (show w.heap.size < v ∧ g < v from ⟨by have := B1.out.lt; omega, by have := R1.out.low.2; omega⟩)
  have k0 : w2.cell? ⟨v, 0, none⟩ = some (.int .i64 5) := bv2.cell 0
  have BV2 := Lib.hid bv2
  have HW2 := Lib.hid hw2
  have HV := Lib.hid hv
  clear s2 bv2 hw2 hv
  go_upto_region 7 with fail
  rw [← HW2.out, ← HV.out]
  clear HW2 HV R1 G1 B1
  have NM := Lib.hid (NUM.out w2 R2.out (HT.out _ G2.out))
  clear NUM KD HT
  go_wp2_with fail
  refine NM.out.mono ?_
  rintro e w3 ⟨⟨v1, rfl, ho_v1, hok⟩, gr3⟩
  have BV3 : Blk w3 v 26 #[.int .i64 5, .int .i64 0, .slice none 0 0, .string ⟨#[]⟩, .slice none 0 0, .slice none 0 0] := (gr3.block _ BV2.out.lt (fun e => by have := V2.out; cases e; omega)).trans BV2.out
  have B3 : Blk w3 w.heap.size 26 cellsZ := (gr3.block _ B2.out.lt (fun e => by have := LOW.out; cases e; omega)).trans B2.out
  have G3 := grown_trans G2.out gr3
  have HOK := Lib.hid hok
  have GR3 := Lib.hid gr3
  have c3 : w3.cell? ⟨v, 3, none⟩ = some (.string ⟨#[]⟩) := BV3.cell 3
  have f3 : w3.frozen? ⟨v, 3, none⟩ = false := BV3.frozen 3
  obtain ⟨w4, hw4⟩ : ∃ W, W = w3.setCell ⟨v, 3, none⟩ v1 := ⟨_, rfl⟩
  have bw4 : Blk w4 v 26 #[.int .i64 5, .int .i64 0, .slice none 0 0, v1, .slice none 0 0, .slice none 0 0] := by rw [hw4]; exact BV3.setc 3 _
  have zw4 : Blk w4 w.heap.size 26 cellsZ := by rw [hw4]; exact B3.far (by have := V2.out; simp only; omega) _
  have gw4 : w.grownBy w4 (some g) := by rw [hw4]; exact grown_set G3 (by have := V2.out; omega) _
  have C3 := Lib.hid c3
  have F3 := Lib.hid f3
  have HOv1 := Lib.hid ho_v1
  have HWw4 := Lib.hid hw4
  have hsz : w4.heap.size = w3.heap.size := by rw [HWw4.out]; simp [World.setCell]
  have hbl : ∀ b, v ≠ b → w4.heap[b]? = w3.heap[b]? := fun b hb => by
    rw [HWw4.out]
    exact Below.heap_setCell _ _ _ b (by simp only; omega)
  have HR4 : Hid (∀ l', Rd w3 lo B h g l' 0 → Rd w4 lo B h g l' 0) := Lib.hid fun l' q => by rw [HWw4.out]; exact q.set (by have := V2.out; have := LOW.out; omega) _
  have BV4 := Lib.hid bw4
  have B4 := Lib.hid zw4
  have G4 := Lib.hid gw4
  have HSZ := Lib.hid hsz
  have HBL := Lib.hid hbl
  have V2B := Lib.hid BV2.out.lt
  clear hsz hbl BV3 B3 G3 gr3 NM hok
  clear c3 f3 ho_v1 hw4 bw4 zw4 gw4
  go_upto_region 20 with (first
    | (guard_target =~ wpList _ _ _ (Oper.mk none (Op.store _ _ _) _ _ _ _ :: _) _ _; go_must (refine wpList_store_cell rfl 9 (.tmp 54) (.tmp 52) rfl rfl v 3 v1 _ rfl rfl HOv1.out (by kernel_rfl) (C3.out) (F3.out) ?_)))
  rw [← HWw4.out]
  refine wp_region_lit ?_
  refine wpList_load_row rfl 26 (.tmp 8) rfl v rfl _ _ _ _ BV4.out HU.out rfl (by rw [sizeValue]; rfl) ?_
  have ALL : Hid (#[.int .i64 5, .int .i64 0, .slice none 0 0, v1, .slice none 0 0, .slice none 0 0].all (·.oneCell') = true) := Lib.hid (by
    rw [Array.all_eq_true_iff_forall_mem]
    intro u hu
    simp only [List.mem_toArray, List.mem_cons, List.not_mem_nil, or_false] at hu
    rcases hu with rfl | rfl | rfl | rfl | rfl | rfl <;> first | rfl | exact HOv1.out)
  go_wp2_with (guard_target =~ wpList _ _ _ (Oper.mk none (Op.store _ _ _) _ _ _ _ :: _) _ _; go_must (refine wpList_store_rowTo rfl 26 (.tmp 4) (.tmp 77) rfl rfl w.heap.size #[.int .i64 5, .int .i64 0, .slice none 0 0, v1, .slice none 0 0, .slice none 0 0] rfl rfl 26 _ B4.out (by rw [sizeValue]; rfl) rfl ALL.out ?_))
  refine bodyPost_ret (results_val2 rfl _ _ w.heap.size #[.int .i64 5, .int .i64 0, .slice none 0 0, v1, .slice none 0 0, .slice none 0 0] rfl (setRow_heap w4 _ _ _ _ _ B4.out) rfl _ rfl) rfl ?_
  refine ⟨⟨v1, w2, w3, rfl, HOv1.out, fun h0 => ?_⟩, grown_row G4.out (Nat.le_refl _) _⟩
  obtain ⟨hg, hrd⟩ := HOK.out h0
  refine ⟨by have := V2.out; have := V2B.out; omega, hg, ?_, fun b h1 h2 => ?_, (HR4.out _ hrd).below (below_setRow (Below.refl _ _) LOW.out.2.2.1 _)⟩
  · have := HSZ.out
    have h2 : (w4.setRow w.heap.size #[.int .i64 5, .int .i64 0, .slice none 0 0, v1, .slice none 0 0, .slice none 0 0]).heap.size = w4.heap.size := by simp [World.setRow]
    omega
  · rw [setRow_other w4 w.heap.size b #[.int .i64 5, .int .i64 0, .slice none 0 0, v1, .slice none 0 0, .slice none 0 0] (by have := V2.out; have := V2B.out; omega)]
    exact HBL.out b (by have := V2B.out; omega)

set_option maxRecDepth 100000 in
set_option maxHeartbeats 3200000 in
theorem rvalue_list {w : World} {lo B h g : Nat} {l rest : List UInt8} (deep er : Int) (GOOD : World → World → Value → Prop) (t : UInt8) (hkd : kd t.toNat = 6) (hd : deep ≤ 16) (r : Rd w lo B h g (t :: l) 0) (T : Sizes w) (hgl : 0 < lo)
    (C : ∀ w2, Rd w2 lo B h g l 0 → Sizes w2 → Calls Tryd.prog 54 #[.pointer (some ⟨h, 0, none⟩), .int .u8 (t.toNat : Int), .int .i64 deep] w2 fun e w3 => (∃ v1 : Value, e = .returned (.tuple #[v1, .int .i64 er]) ∧ v1.oneCell' = true ∧ (er = 0 → GOOD w2 w3 v1 ∧ Rd w3 lo B h g rest 0)) ∧ w2.grownBy w3 (some g)) :
    Calls Tryd.prog 29 #[.pointer (some ⟨h, 0, none⟩), .int .i64 deep] w fun e w' => (∃ (v1 : Value) (wm wn : World), e = .returned (.tuple #[.agg #[.int .i64 6, .int .i64 0, .slice none 0 0, .string ⟨#[]⟩, .slice none 0 0, v1], .int .i64 er]) ∧ v1.oneCell' = true ∧ (er = 0 → w.heap.size ≤ wm.heap.size ∧ GOOD wm wn v1 ∧ wn.heap.size ≤ w'.heap.size ∧ (∀ b, wm.heap.size ≤ b → b < wn.heap.size → w'.heap[b]? = wn.heap[b]?) ∧ Rd w' lo B h g rest 0)) ∧ w.grownBy w' (some g) := by
  obtain ⟨wA, hA⟩ : ∃ wA, wA = w.alloc (.cells cellsZ 26) := ⟨_, rfl⟩
  have sA : Still w wA := by rw [hA]; exact (Still.refl w).alloc (Nat.le_refl _) _
  have bA : Blk wA w.heap.size 26 cellsZ := by rw [hA]; exact Blk.new _ _ _
  have rA := r.still sA
  have hlow := r.low
  have TG := tag_yes t (l := l) rA
  have KD := Lib.hid (fun w => kindOf_any t.toNat w)
  rw [hkd] at KD
  have NUM := Lib.hid C
  have HT : Hid (∀ w', w.grownBy w' (some g) → Sizes w') := Lib.hid fun w' gr => T.grown gr (by omega)
  obtain ⟨y, hy⟩ : ∃ y, y = t.toNat := ⟨_, rfl⟩
  rw [← hy] at TG KD NUM
  have d1 : ¬ 16 < deep := by omega
  have TT := Lib.hid TG
  have GA := Lib.hid (grown_of_still (r := some g) sA)
  have BA := Lib.hid bA
  have HA := Lib.hid hA
  have LOW := Lib.hid hlow
  obtain ⟨fs, hu⟩ := underValue
  have HU := Lib.hid hu
  clear hA sA bA rA hlow TG hkd hy r hd hu C T hgl
  go_enter Tryd.func29, Tryd.ntmps29
  go_upto_region 1 with fail
  rw [show (w.alloc (.cells #[.int .i64 0, .int .i64 0, .slice none 0 0, .string ⟨#[]⟩, .slice none 0 0, .slice none 0 0] 26)) = wA from HA.out.symm]
  go_wp2_with fail
  refine TT.out.mono ?_
  rintro e w1 ⟨rfl, r1, gr1⟩
  have G1 := Lib.hid (grown_trans GA.out gr1)
  have B1 : Hid (Blk w1 w.heap.size 26 cellsZ) := Lib.hid ((gr1.block _ BA.out.lt (fun e => by have := LOW.out; cases e; omega)).trans BA.out)
  have R1 := Lib.hid r1
  clear gr1 r1 TT GA BA HA
  go_wp2_with fail
  refine (KD.out _).mono ?_
  rintro e w2 ⟨rfl, rfl⟩
  obtain ⟨v, hv⟩ : ∃ v, v = w1.heap.size := ⟨_, rfl⟩
  obtain ⟨w2, hw2⟩ : ∃ w2, w2 = w1.alloc (.cells #[.int .i64 6, .int .i64 0, .slice none 0 0, .string ⟨#[]⟩, .slice none 0 0, .slice none 0 0] 26) := ⟨_, rfl⟩
  have s2 : Still w1 w2 := by rw [hw2]; exact (Still.refl w1).alloc (Nat.le_refl _) _
  have bv2 : Blk w2 v 26 #[.int .i64 6, .int .i64 0, .slice none 0 0, .string ⟨#[]⟩, .slice none 0 0, .slice none 0 0] := by rw [hw2, hv]; exact Blk.new _ _ _
  have R2 := Lib.hid (R1.out.still s2)
  have G2 := Lib.hid (grown_trans G1.out (grown_of_still s2))
  have B2 := Lib.hid (B1.out.still s2)
  have V2 := Lib.hid (show w.heap.size < v ∧ g < v from ⟨by have := B1.out.lt; omega, by have := R1.out.low.2; omega⟩)
  have k0 : w2.cell? ⟨v, 0, none⟩ = some (.int .i64 6) := bv2.cell 0
  have BV2 := Lib.hid bv2
  have HW2 := Lib.hid hw2
  have HV := Lib.hid hv
  clear s2 bv2 hw2 hv
  go_upto_region 7 with fail
  rw [← HW2.out, ← HV.out]
  clear HW2 HV R1 G1 B1
  have NM := Lib.hid (NUM.out w2 R2.out (HT.out _ G2.out))
  clear NUM KD HT
  go_wp2_with fail
  refine NM.out.mono ?_
  rintro e w3 ⟨⟨v1, rfl, ho_v1, hok⟩, gr3⟩
  have BV3 : Blk w3 v 26 #[.int .i64 6, .int .i64 0, .slice none 0 0, .string ⟨#[]⟩, .slice none 0 0, .slice none 0 0] := (gr3.block _ BV2.out.lt (fun e => by have := V2.out; cases e; omega)).trans BV2.out
  have B3 : Blk w3 w.heap.size 26 cellsZ := (gr3.block _ B2.out.lt (fun e => by have := LOW.out; cases e; omega)).trans B2.out
  have G3 := grown_trans G2.out gr3
  have HOK := Lib.hid hok
  have GR3 := Lib.hid gr3
  have c5 : w3.cell? ⟨v, 5, none⟩ = some (.slice none 0 0) := BV3.cell 5
  have f5 : w3.frozen? ⟨v, 5, none⟩ = false := BV3.frozen 5
  obtain ⟨w4, hw4⟩ : ∃ W, W = w3.setCell ⟨v, 5, none⟩ v1 := ⟨_, rfl⟩
  have bw4 : Blk w4 v 26 #[.int .i64 6, .int .i64 0, .slice none 0 0, .string ⟨#[]⟩, .slice none 0 0, v1] := by rw [hw4]; exact BV3.setc 5 _
  have zw4 : Blk w4 w.heap.size 26 cellsZ := by rw [hw4]; exact B3.far (by have := V2.out; simp only; omega) _
  have gw4 : w.grownBy w4 (some g) := by rw [hw4]; exact grown_set G3 (by have := V2.out; omega) _
  have C5 := Lib.hid c5
  have F5 := Lib.hid f5
  have HOv1 := Lib.hid ho_v1
  have HWw4 := Lib.hid hw4
  have hsz : w4.heap.size = w3.heap.size := by rw [HWw4.out]; simp [World.setCell]
  have hbl : ∀ b, v ≠ b → w4.heap[b]? = w3.heap[b]? := fun b hb => by
    rw [HWw4.out]
    exact Below.heap_setCell _ _ _ b (by simp only; omega)
  have HR4 : Hid (∀ l', Rd w3 lo B h g l' 0 → Rd w4 lo B h g l' 0) := Lib.hid fun l' q => by rw [HWw4.out]; exact q.set (by have := V2.out; have := LOW.out; omega) _
  have BV4 := Lib.hid bw4
  have B4 := Lib.hid zw4
  have G4 := Lib.hid gw4
  have HSZ := Lib.hid hsz
  have HBL := Lib.hid hbl
  have V2B := Lib.hid BV2.out.lt
  clear hsz hbl BV3 B3 G3 gr3 NM hok
  clear c5 f5 ho_v1 hw4 bw4 zw4 gw4
  go_upto_region 20 with (first
    | (guard_target =~ wpList _ _ _ (Oper.mk none (Op.store _ _ _) _ _ _ _ :: _) _ _; go_must (refine wpList_store_cell rfl 24 (.tmp 64) (.tmp 62) rfl rfl v 5 v1 _ rfl rfl HOv1.out (by kernel_rfl) (C5.out) (F5.out) ?_)))
  rw [← HWw4.out]
  refine wp_region_lit ?_
  refine wpList_load_row rfl 26 (.tmp 8) rfl v rfl _ _ _ _ BV4.out HU.out rfl (by rw [sizeValue]; rfl) ?_
  have ALL : Hid (#[.int .i64 6, .int .i64 0, .slice none 0 0, .string ⟨#[]⟩, .slice none 0 0, v1].all (·.oneCell') = true) := Lib.hid (by
    rw [Array.all_eq_true_iff_forall_mem]
    intro u hu
    simp only [List.mem_toArray, List.mem_cons, List.not_mem_nil, or_false] at hu
    rcases hu with rfl | rfl | rfl | rfl | rfl | rfl <;> first | rfl | exact HOv1.out)
  go_wp2_with (guard_target =~ wpList _ _ _ (Oper.mk none (Op.store _ _ _) _ _ _ _ :: _) _ _; go_must (refine wpList_store_rowTo rfl 26 (.tmp 4) (.tmp 77) rfl rfl w.heap.size #[.int .i64 6, .int .i64 0, .slice none 0 0, .string ⟨#[]⟩, .slice none 0 0, v1] rfl rfl 26 _ B4.out (by rw [sizeValue]; rfl) rfl ALL.out ?_))
  refine bodyPost_ret (results_val2 rfl _ _ w.heap.size #[.int .i64 6, .int .i64 0, .slice none 0 0, .string ⟨#[]⟩, .slice none 0 0, v1] rfl (setRow_heap w4 _ _ _ _ _ B4.out) rfl _ rfl) rfl ?_
  refine ⟨⟨v1, w2, w3, rfl, HOv1.out, fun h0 => ?_⟩, grown_row G4.out (Nat.le_refl _) _⟩
  obtain ⟨hg, hrd⟩ := HOK.out h0
  refine ⟨by have := V2.out; have := V2B.out; omega, hg, ?_, fun b h1 h2 => ?_, (HR4.out _ hrd).below (below_setRow (Below.refl _ _) LOW.out.2.2.1 _)⟩
  · have := HSZ.out
    have h2 : (w4.setRow w.heap.size #[.int .i64 6, .int .i64 0, .slice none 0 0, .string ⟨#[]⟩, .slice none 0 0, v1]).heap.size = w4.heap.size := by simp [World.setRow]
    omega
  · rw [setRow_other w4 w.heap.size b #[.int .i64 6, .int .i64 0, .slice none 0 0, .string ⟨#[]⟩, .slice none 0 0, v1] (by have := V2.out; have := V2B.out; omega)]
    exact HBL.out b (by have := V2B.out; omega)

end Go.Proofs.YtmpnehhndhepgaaDoor

/- Contracts: a value read, by kinds, whatever bytes there are. It proves no statement. -/

namespace Go.Proofs.YtmpnehhndhepgaaDoor
open Go.RowKit
set_option linter.unusedVariables false
set_option linter.unusedSimpArgs false

set_option maxRecDepth 100000 in
set_option maxHeartbeats 3200000 in
theorem rvalue_rows {w : World} {lo B h g : Nat} {l rest : List UInt8} (deep er : Int) (GOOD : World → World → Value → Value → Prop) (t : UInt8) (hkd : kd t.toNat = 7) (hd : deep ≤ 16) (r : Rd w lo B h g (t :: l) 0) (T : Sizes w) (hgl : 0 < lo)
    (C : ∀ w2, Rd w2 lo B h g l 0 → Sizes w2 → Calls Tryd.prog 55 #[.pointer (some ⟨h, 0, none⟩), .int .u8 (t.toNat : Int), .int .i64 deep] w2 fun e w3 => (∃ v1 v2 : Value, e = .returned (.tuple #[v1, v2, .int .i64 er]) ∧ v1.oneCell' = true ∧ v2.oneCell' = true ∧ (er = 0 → GOOD w2 w3 v1 v2 ∧ Rd w3 lo B h g rest 0)) ∧ w2.grownBy w3 (some g)) :
    Calls Tryd.prog 29 #[.pointer (some ⟨h, 0, none⟩), .int .i64 deep] w fun e w' => (∃ (v1 v2 : Value) (wm wn : World), e = .returned (.tuple #[.agg #[.int .i64 7, .int .i64 0, .slice none 0 0, .string ⟨#[]⟩, v1, v2], .int .i64 er]) ∧ v1.oneCell' = true ∧ v2.oneCell' = true ∧ (er = 0 → w.heap.size ≤ wm.heap.size ∧ GOOD wm wn v1 v2 ∧ wn.heap.size ≤ w'.heap.size ∧ (∀ b, wm.heap.size ≤ b → b < wn.heap.size → w'.heap[b]? = wn.heap[b]?) ∧ Rd w' lo B h g rest 0)) ∧ w.grownBy w' (some g) := by
  obtain ⟨wA, hA⟩ : ∃ wA, wA = w.alloc (.cells cellsZ 26) := ⟨_, rfl⟩
  have sA : Still w wA := by rw [hA]; exact (Still.refl w).alloc (Nat.le_refl _) _
  have bA : Blk wA w.heap.size 26 cellsZ := by rw [hA]; exact Blk.new _ _ _
  have rA := r.still sA
  have hlow := r.low
  have TG := tag_yes t (l := l) rA
  have KD := Lib.hid (fun w => kindOf_any t.toNat w)
  rw [hkd] at KD
  have NUM := Lib.hid C
  have HT : Hid (∀ w', w.grownBy w' (some g) → Sizes w') := Lib.hid fun w' gr => T.grown gr (by omega)
  obtain ⟨y, hy⟩ : ∃ y, y = t.toNat := ⟨_, rfl⟩
  rw [← hy] at TG KD NUM
  have d1 : ¬ 16 < deep := by omega
  have TT := Lib.hid TG
  have GA := Lib.hid (grown_of_still (r := some g) sA)
  have BA := Lib.hid bA
  have HA := Lib.hid hA
  have LOW := Lib.hid hlow
  obtain ⟨fs, hu⟩ := underValue
  have HU := Lib.hid hu
  clear hA sA bA rA hlow TG hkd hy r hd hu C T hgl
  go_enter Tryd.func29, Tryd.ntmps29
  go_upto_region 1 with fail
  rw [show (w.alloc (.cells #[.int .i64 0, .int .i64 0, .slice none 0 0, .string ⟨#[]⟩, .slice none 0 0, .slice none 0 0] 26)) = wA from HA.out.symm]
  go_wp2_with fail
  refine TT.out.mono ?_
  rintro e w1 ⟨rfl, r1, gr1⟩
  have G1 := Lib.hid (grown_trans GA.out gr1)
  have B1 : Hid (Blk w1 w.heap.size 26 cellsZ) := Lib.hid ((gr1.block _ BA.out.lt (fun e => by have := LOW.out; cases e; omega)).trans BA.out)
  have R1 := Lib.hid r1
  clear gr1 r1 TT GA BA HA
  go_wp2_with fail
  refine (KD.out _).mono ?_
  rintro e w2 ⟨rfl, rfl⟩
  obtain ⟨v, hv⟩ : ∃ v, v = w1.heap.size := ⟨_, rfl⟩
  obtain ⟨w2, hw2⟩ : ∃ w2, w2 = w1.alloc (.cells #[.int .i64 7, .int .i64 0, .slice none 0 0, .string ⟨#[]⟩, .slice none 0 0, .slice none 0 0] 26) := ⟨_, rfl⟩
  have s2 : Still w1 w2 := by rw [hw2]; exact (Still.refl w1).alloc (Nat.le_refl _) _
  have bv2 : Blk w2 v 26 #[.int .i64 7, .int .i64 0, .slice none 0 0, .string ⟨#[]⟩, .slice none 0 0, .slice none 0 0] := by rw [hw2, hv]; exact Blk.new _ _ _
  have R2 := Lib.hid (R1.out.still s2)
  have G2 := Lib.hid (grown_trans G1.out (grown_of_still s2))
  have B2 := Lib.hid (B1.out.still s2)
  have V2 := Lib.hid (show w.heap.size < v ∧ g < v from ⟨by have := B1.out.lt; omega, by have := R1.out.low.2; omega⟩)
  have k0 : w2.cell? ⟨v, 0, none⟩ = some (.int .i64 7) := bv2.cell 0
  have BV2 := Lib.hid bv2
  have HW2 := Lib.hid hw2
  have HV := Lib.hid hv
  clear s2 bv2 hw2 hv
  go_upto_region 7 with fail
  rw [← HW2.out, ← HV.out]
  clear HW2 HV R1 G1 B1
  have NM := Lib.hid (NUM.out w2 R2.out (HT.out _ G2.out))
  clear NUM KD HT
  go_wp2_with fail
  refine NM.out.mono ?_
  rintro e w3 ⟨⟨v1, v2, rfl, ho_v1, ho_v2, hok⟩, gr3⟩
  have BV3 : Blk w3 v 26 #[.int .i64 7, .int .i64 0, .slice none 0 0, .string ⟨#[]⟩, .slice none 0 0, .slice none 0 0] := (gr3.block _ BV2.out.lt (fun e => by have := V2.out; cases e; omega)).trans BV2.out
  have B3 : Blk w3 w.heap.size 26 cellsZ := (gr3.block _ B2.out.lt (fun e => by have := LOW.out; cases e; omega)).trans B2.out
  have G3 := grown_trans G2.out gr3
  have HOK := Lib.hid hok
  have GR3 := Lib.hid gr3
  have c4 : w3.cell? ⟨v, 4, none⟩ = some (.slice none 0 0) := BV3.cell 4
  have f4 : w3.frozen? ⟨v, 4, none⟩ = false := BV3.frozen 4
  obtain ⟨w30, hw30⟩ : ∃ W, W = w3.setCell ⟨v, 4, none⟩ v1 := ⟨_, rfl⟩
  have bw30 : Blk w30 v 26 #[.int .i64 7, .int .i64 0, .slice none 0 0, .string ⟨#[]⟩, v1, .slice none 0 0] := by rw [hw30]; exact BV3.setc 4 _
  have zw30 : Blk w30 w.heap.size 26 cellsZ := by rw [hw30]; exact B3.far (by have := V2.out; simp only; omega) _
  have gw30 : w.grownBy w30 (some g) := by rw [hw30]; exact grown_set G3 (by have := V2.out; omega) _
  have c5 : w30.cell? ⟨v, 5, none⟩ = some (.slice none 0 0) := bw30.cell 5
  have f5 : w30.frozen? ⟨v, 5, none⟩ = false := bw30.frozen 5
  obtain ⟨w4, hw4⟩ : ∃ W, W = w30.setCell ⟨v, 5, none⟩ v2 := ⟨_, rfl⟩
  have bw4 : Blk w4 v 26 #[.int .i64 7, .int .i64 0, .slice none 0 0, .string ⟨#[]⟩, v1, v2] := by rw [hw4]; exact bw30.setc 5 _
  have zw4 : Blk w4 w.heap.size 26 cellsZ := by rw [hw4]; exact zw30.far (by have := V2.out; simp only; omega) _
  have gw4 : w.grownBy w4 (some g) := by rw [hw4]; exact grown_set gw30 (by have := V2.out; omega) _
  have C4 := Lib.hid c4
  have F4 := Lib.hid f4
  have HOv1 := Lib.hid ho_v1
  have HWw30 := Lib.hid hw30
  have C5 := Lib.hid c5
  have F5 := Lib.hid f5
  have HOv2 := Lib.hid ho_v2
  have HWw4 := Lib.hid hw4
  have hsz : w4.heap.size = w3.heap.size := by rw [HWw4.out, HWw30.out]; simp [World.setCell]
  have hbl : ∀ b, v ≠ b → w4.heap[b]? = w3.heap[b]? := fun b hb => by
    rw [HWw4.out, HWw30.out]
    exact (Below.heap_setCell _ _ _ b (by simp only; omega)).trans (Below.heap_setCell _ _ _ b (by simp only; omega))
  have HR4 : Hid (∀ l', Rd w3 lo B h g l' 0 → Rd w4 lo B h g l' 0) := Lib.hid fun l' q => by rw [HWw4.out, HWw30.out]; exact (q.set (by have := V2.out; have := LOW.out; omega) _).set (by have := V2.out; have := LOW.out; omega) _
  have BV4 := Lib.hid bw4
  have B4 := Lib.hid zw4
  have G4 := Lib.hid gw4
  have HSZ := Lib.hid hsz
  have HBL := Lib.hid hbl
  have V2B := Lib.hid BV2.out.lt
  clear hsz hbl BV3 B3 G3 gr3 NM hok
  clear c4 f4 ho_v1 hw30 bw30 zw30 gw30
  clear c5 f5 ho_v2 hw4 bw4 zw4 gw4
  go_upto_region 20 with (first
    | (guard_target =~ wpList _ _ _ (Oper.mk none (Op.store _ (Operand.tmp 75) _) _ _ _ _ :: _) _ _; go_must (refine wpList_store_cell rfl 23 (.tmp 75) (.tmp 72) rfl rfl v 4 v1 _ rfl rfl HOv1.out (by kernel_rfl) (C4.out) (F4.out) ?_))
    | (guard_target =~ wpList _ _ _ (Oper.mk none (Op.store _ (Operand.tmp 76) _) _ _ _ _ :: _) _ _; go_must (rw [← HWw30.out]; refine wpList_store_cell rfl 24 (.tmp 76) (.tmp 73) rfl rfl v 5 v2 _ rfl rfl HOv2.out (by kernel_rfl) (C5.out) (F5.out) ?_)))
  rw [← HWw4.out]
  refine wp_region_lit ?_
  refine wpList_load_row rfl 26 (.tmp 8) rfl v rfl _ _ _ _ BV4.out HU.out rfl (by rw [sizeValue]; rfl) ?_
  have ALL : Hid (#[.int .i64 7, .int .i64 0, .slice none 0 0, .string ⟨#[]⟩, v1, v2].all (·.oneCell') = true) := Lib.hid (by
    rw [Array.all_eq_true_iff_forall_mem]
    intro u hu
    simp only [List.mem_toArray, List.mem_cons, List.not_mem_nil, or_false] at hu
    rcases hu with rfl | rfl | rfl | rfl | rfl | rfl <;> first | rfl | exact HOv1.out | exact HOv2.out)
  go_wp2_with (guard_target =~ wpList _ _ _ (Oper.mk none (Op.store _ _ _) _ _ _ _ :: _) _ _; go_must (refine wpList_store_rowTo rfl 26 (.tmp 4) (.tmp 77) rfl rfl w.heap.size #[.int .i64 7, .int .i64 0, .slice none 0 0, .string ⟨#[]⟩, v1, v2] rfl rfl 26 _ B4.out (by rw [sizeValue]; rfl) rfl ALL.out ?_))
  refine bodyPost_ret (results_val2 rfl _ _ w.heap.size #[.int .i64 7, .int .i64 0, .slice none 0 0, .string ⟨#[]⟩, v1, v2] rfl (setRow_heap w4 _ _ _ _ _ B4.out) rfl _ rfl) rfl ?_
  refine ⟨⟨v1, v2, w2, w3, rfl, HOv1.out, HOv2.out, fun h0 => ?_⟩, grown_row G4.out (Nat.le_refl _) _⟩
  obtain ⟨hg, hrd⟩ := HOK.out h0
  refine ⟨by have := V2.out; have := V2B.out; omega, hg, ?_, fun b h1 h2 => ?_, (HR4.out _ hrd).below (below_setRow (Below.refl _ _) LOW.out.2.2.1 _)⟩
  · have := HSZ.out
    have h2 : (w4.setRow w.heap.size #[.int .i64 7, .int .i64 0, .slice none 0 0, .string ⟨#[]⟩, v1, v2]).heap.size = w4.heap.size := by simp [World.setRow]
    omega
  · rw [setRow_other w4 w.heap.size b #[.int .i64 7, .int .i64 0, .slice none 0 0, .string ⟨#[]⟩, v1, v2] (by have := V2.out; have := V2B.out; omega)]
    exact HBL.out b (by have := V2B.out; omega)

set_option maxRecDepth 100000 in
set_option maxHeartbeats 3200000 in
theorem rvalue_k0 {w : World} {lo B h g : Nat} {l : List UInt8} (deep : Int) (t : UInt8) (hkd : kd t.toNat = 0) (hd : deep ≤ 16) (r : Rd w lo B h g (t :: l) 0) :
    Calls Tryd.prog 29 #[.pointer (some ⟨h, 0, none⟩), .int .i64 deep] w fun e w' => e = .returned (.tuple #[.agg #[.int .i64 0, .int .i64 0, .slice none 0 0, .string ⟨#[]⟩, .slice none 0 0, .slice none 0 0], .int .i64 0]) ∧ Rd w' lo B h g l 0 ∧ w.grownBy w' (some g) := by
  obtain ⟨wA, hA⟩ : ∃ wA, wA = w.alloc (.cells cellsZ 26) := ⟨_, rfl⟩
  have sA : Still w wA := by rw [hA]; exact (Still.refl w).alloc (Nat.le_refl _) _
  have bA : Blk wA w.heap.size 26 cellsZ := by rw [hA]; exact Blk.new _ _ _
  have rA := r.still sA
  have hlow := r.low
  have TG := tag_yes t (l := l) rA
  have KD := Lib.hid (fun w => kindOf_any t.toNat w)
  rw [hkd] at KD
  obtain ⟨y, hy⟩ : ∃ y, y = t.toNat := ⟨_, rfl⟩
  rw [← hy] at TG KD
  have d1 : ¬ 16 < deep := by omega
  have TT := Lib.hid TG
  have GA := Lib.hid (grown_of_still (r := some g) sA)
  have BA := Lib.hid bA
  have HA := Lib.hid hA
  have LOW := Lib.hid hlow
  obtain ⟨fs, hu⟩ := underValue
  have HU := Lib.hid hu
  clear hA sA bA rA hlow TG hkd hy r hd hu
  go_enter Tryd.func29, Tryd.ntmps29
  go_upto_region 1 with fail
  rw [show (w.alloc (.cells #[.int .i64 0, .int .i64 0, .slice none 0 0, .string ⟨#[]⟩, .slice none 0 0, .slice none 0 0] 26)) = wA from HA.out.symm]
  go_wp2_with fail
  refine TT.out.mono ?_
  rintro e w1 ⟨rfl, r1, gr1⟩
  have G1 := Lib.hid (grown_trans GA.out gr1)
  have B1 : Hid (Blk w1 w.heap.size 26 cellsZ) := Lib.hid ((gr1.block _ BA.out.lt (fun e => by have := LOW.out; cases e; omega)).trans BA.out)
  have R1 := Lib.hid r1
  clear gr1 r1 TT GA BA HA
  go_wp2_with fail
  refine (KD.out _).mono ?_
  rintro e w2 ⟨rfl, rfl⟩
  obtain ⟨v, hv⟩ : ∃ v, v = w1.heap.size := ⟨_, rfl⟩
  obtain ⟨w2, hw2⟩ : ∃ w2, w2 = w1.alloc (.cells #[.int .i64 0, .int .i64 0, .slice none 0 0, .string ⟨#[]⟩, .slice none 0 0, .slice none 0 0] 26) := ⟨_, rfl⟩
  have s2 : Still w1 w2 := by rw [hw2]; exact (Still.refl w1).alloc (Nat.le_refl _) _
  have bv2 : Blk w2 v 26 #[.int .i64 0, .int .i64 0, .slice none 0 0, .string ⟨#[]⟩, .slice none 0 0, .slice none 0 0] := by rw [hw2, hv]; exact Blk.new _ _ _
  have R2 := Lib.hid (R1.out.still s2)
  have G2 := Lib.hid (grown_trans G1.out (grown_of_still s2))
  have B2 := Lib.hid (B1.out.still s2)
  have V2 := Lib.hid (show w.heap.size < v ∧ g < v from ⟨by have := B1.out.lt; omega, by have := R1.out.low.2; omega⟩)
  have k0 : w2.cell? ⟨v, 0, none⟩ = some (.int .i64 0) := bv2.cell 0
  have BV2 := Lib.hid bv2
  have HW2 := Lib.hid hw2
  have HV := Lib.hid hv
  clear s2 bv2 hw2 hv
  go_upto_region 7 with fail
  rw [← HW2.out, ← HV.out]
  clear HW2 HV R1 G1 B1
  go_upto_region 20 with fail
  refine wp_region_lit ?_
  refine wpList_load_row rfl 26 (.tmp 8) rfl v rfl _ _ _ _ BV2.out HU.out rfl (by rw [sizeValue]; rfl) ?_
  go_wp2_with (guard_target =~ wpList _ _ _ (Oper.mk none (Op.store _ _ _) _ _ _ _ :: _) _ _; go_must (refine wpList_store_rowTo rfl 26 (.tmp 4) (.tmp 77) rfl rfl w.heap.size #[.int .i64 0, .int .i64 0, .slice none 0 0, .string ⟨#[]⟩, .slice none 0 0, .slice none 0 0] rfl rfl 26 _ B2.out (by rw [sizeValue]; rfl) rfl (by kernel_rfl) ?_))
  refine bodyPost_ret (results_val2 rfl _ _ w.heap.size #[.int .i64 0, .int .i64 0, .slice none 0 0, .string ⟨#[]⟩, .slice none 0 0, .slice none 0 0] rfl (setRow_heap w2 _ _ _ _ _ B2.out) rfl _ rfl) rfl ?_
  exact ⟨rfl, R2.out.below (below_setRow (Below.refl _ _) LOW.out.2.2.1 _), grown_row G2.out (Nat.le_refl _) _⟩

set_option maxRecDepth 100000 in
set_option maxHeartbeats 3200000 in
theorem rvalue_k1 {w : World} {lo B h g : Nat} {l : List UInt8} (deep : Int) (t : UInt8) (hkd : kd t.toNat = 1) (hd : deep ≤ 16) (r : Rd w lo B h g (t :: l) 0) :
    Calls Tryd.prog 29 #[.pointer (some ⟨h, 0, none⟩), .int .i64 deep] w fun e w' => e = .returned (.tuple #[.agg #[.int .i64 1, .int .i64 0, .slice none 0 0, .string ⟨#[]⟩, .slice none 0 0, .slice none 0 0], .int .i64 0]) ∧ Rd w' lo B h g l 0 ∧ w.grownBy w' (some g) := by
  obtain ⟨wA, hA⟩ : ∃ wA, wA = w.alloc (.cells cellsZ 26) := ⟨_, rfl⟩
  have sA : Still w wA := by rw [hA]; exact (Still.refl w).alloc (Nat.le_refl _) _
  have bA : Blk wA w.heap.size 26 cellsZ := by rw [hA]; exact Blk.new _ _ _
  have rA := r.still sA
  have hlow := r.low
  have TG := tag_yes t (l := l) rA
  have KD := Lib.hid (fun w => kindOf_any t.toNat w)
  rw [hkd] at KD
  obtain ⟨y, hy⟩ : ∃ y, y = t.toNat := ⟨_, rfl⟩
  rw [← hy] at TG KD
  have d1 : ¬ 16 < deep := by omega
  have TT := Lib.hid TG
  have GA := Lib.hid (grown_of_still (r := some g) sA)
  have BA := Lib.hid bA
  have HA := Lib.hid hA
  have LOW := Lib.hid hlow
  obtain ⟨fs, hu⟩ := underValue
  have HU := Lib.hid hu
  clear hA sA bA rA hlow TG hkd hy r hd hu
  go_enter Tryd.func29, Tryd.ntmps29
  go_upto_region 1 with fail
  rw [show (w.alloc (.cells #[.int .i64 0, .int .i64 0, .slice none 0 0, .string ⟨#[]⟩, .slice none 0 0, .slice none 0 0] 26)) = wA from HA.out.symm]
  go_wp2_with fail
  refine TT.out.mono ?_
  rintro e w1 ⟨rfl, r1, gr1⟩
  have G1 := Lib.hid (grown_trans GA.out gr1)
  have B1 : Hid (Blk w1 w.heap.size 26 cellsZ) := Lib.hid ((gr1.block _ BA.out.lt (fun e => by have := LOW.out; cases e; omega)).trans BA.out)
  have R1 := Lib.hid r1
  clear gr1 r1 TT GA BA HA
  go_wp2_with fail
  refine (KD.out _).mono ?_
  rintro e w2 ⟨rfl, rfl⟩
  obtain ⟨v, hv⟩ : ∃ v, v = w1.heap.size := ⟨_, rfl⟩
  obtain ⟨w2, hw2⟩ : ∃ w2, w2 = w1.alloc (.cells #[.int .i64 1, .int .i64 0, .slice none 0 0, .string ⟨#[]⟩, .slice none 0 0, .slice none 0 0] 26) := ⟨_, rfl⟩
  have s2 : Still w1 w2 := by rw [hw2]; exact (Still.refl w1).alloc (Nat.le_refl _) _
  have bv2 : Blk w2 v 26 #[.int .i64 1, .int .i64 0, .slice none 0 0, .string ⟨#[]⟩, .slice none 0 0, .slice none 0 0] := by rw [hw2, hv]; exact Blk.new _ _ _
  have R2 := Lib.hid (R1.out.still s2)
  have G2 := Lib.hid (grown_trans G1.out (grown_of_still s2))
  have B2 := Lib.hid (B1.out.still s2)
  have V2 := Lib.hid (show w.heap.size < v ∧ g < v from ⟨by have := B1.out.lt; omega, by have := R1.out.low.2; omega⟩)
  have k0 : w2.cell? ⟨v, 0, none⟩ = some (.int .i64 1) := bv2.cell 0
  have BV2 := Lib.hid bv2
  have HW2 := Lib.hid hw2
  have HV := Lib.hid hv
  clear s2 bv2 hw2 hv
  go_upto_region 7 with fail
  rw [← HW2.out, ← HV.out]
  clear HW2 HV R1 G1 B1
  go_upto_region 20 with fail
  refine wp_region_lit ?_
  refine wpList_load_row rfl 26 (.tmp 8) rfl v rfl _ _ _ _ BV2.out HU.out rfl (by rw [sizeValue]; rfl) ?_
  go_wp2_with (guard_target =~ wpList _ _ _ (Oper.mk none (Op.store _ _ _) _ _ _ _ :: _) _ _; go_must (refine wpList_store_rowTo rfl 26 (.tmp 4) (.tmp 77) rfl rfl w.heap.size #[.int .i64 1, .int .i64 0, .slice none 0 0, .string ⟨#[]⟩, .slice none 0 0, .slice none 0 0] rfl rfl 26 _ B2.out (by rw [sizeValue]; rfl) rfl (by kernel_rfl) ?_))
  refine bodyPost_ret (results_val2 rfl _ _ w.heap.size #[.int .i64 1, .int .i64 0, .slice none 0 0, .string ⟨#[]⟩, .slice none 0 0, .slice none 0 0] rfl (setRow_heap w2 _ _ _ _ _ B2.out) rfl _ rfl) rfl ?_
  exact ⟨rfl, R2.out.below (below_setRow (Below.refl _ _) LOW.out.2.2.1 _), grown_row G2.out (Nat.le_refl _) _⟩

set_option maxRecDepth 100000 in
set_option maxHeartbeats 3200000 in
theorem rvalue_k2 {w : World} {lo B h g : Nat} {l : List UInt8} (deep : Int) (t : UInt8) (hkd : kd t.toNat = 2) (hd : deep ≤ 16) (r : Rd w lo B h g (t :: l) 0) :
    Calls Tryd.prog 29 #[.pointer (some ⟨h, 0, none⟩), .int .i64 deep] w fun e w' => e = .returned (.tuple #[.agg #[.int .i64 2, .int .i64 0, .slice none 0 0, .string ⟨#[]⟩, .slice none 0 0, .slice none 0 0], .int .i64 0]) ∧ Rd w' lo B h g l 0 ∧ w.grownBy w' (some g) := by
  obtain ⟨wA, hA⟩ : ∃ wA, wA = w.alloc (.cells cellsZ 26) := ⟨_, rfl⟩
  have sA : Still w wA := by rw [hA]; exact (Still.refl w).alloc (Nat.le_refl _) _
  have bA : Blk wA w.heap.size 26 cellsZ := by rw [hA]; exact Blk.new _ _ _
  have rA := r.still sA
  have hlow := r.low
  have TG := tag_yes t (l := l) rA
  have KD := Lib.hid (fun w => kindOf_any t.toNat w)
  rw [hkd] at KD
  obtain ⟨y, hy⟩ : ∃ y, y = t.toNat := ⟨_, rfl⟩
  rw [← hy] at TG KD
  have d1 : ¬ 16 < deep := by omega
  have TT := Lib.hid TG
  have GA := Lib.hid (grown_of_still (r := some g) sA)
  have BA := Lib.hid bA
  have HA := Lib.hid hA
  have LOW := Lib.hid hlow
  obtain ⟨fs, hu⟩ := underValue
  have HU := Lib.hid hu
  clear hA sA bA rA hlow TG hkd hy r hd hu
  go_enter Tryd.func29, Tryd.ntmps29
  go_upto_region 1 with fail
  rw [show (w.alloc (.cells #[.int .i64 0, .int .i64 0, .slice none 0 0, .string ⟨#[]⟩, .slice none 0 0, .slice none 0 0] 26)) = wA from HA.out.symm]
  go_wp2_with fail
  refine TT.out.mono ?_
  rintro e w1 ⟨rfl, r1, gr1⟩
  have G1 := Lib.hid (grown_trans GA.out gr1)
  have B1 : Hid (Blk w1 w.heap.size 26 cellsZ) := Lib.hid ((gr1.block _ BA.out.lt (fun e => by have := LOW.out; cases e; omega)).trans BA.out)
  have R1 := Lib.hid r1
  clear gr1 r1 TT GA BA HA
  go_wp2_with fail
  refine (KD.out _).mono ?_
  rintro e w2 ⟨rfl, rfl⟩
  obtain ⟨v, hv⟩ : ∃ v, v = w1.heap.size := ⟨_, rfl⟩
  obtain ⟨w2, hw2⟩ : ∃ w2, w2 = w1.alloc (.cells #[.int .i64 2, .int .i64 0, .slice none 0 0, .string ⟨#[]⟩, .slice none 0 0, .slice none 0 0] 26) := ⟨_, rfl⟩
  have s2 : Still w1 w2 := by rw [hw2]; exact (Still.refl w1).alloc (Nat.le_refl _) _
  have bv2 : Blk w2 v 26 #[.int .i64 2, .int .i64 0, .slice none 0 0, .string ⟨#[]⟩, .slice none 0 0, .slice none 0 0] := by rw [hw2, hv]; exact Blk.new _ _ _
  have R2 := Lib.hid (R1.out.still s2)
  have G2 := Lib.hid (grown_trans G1.out (grown_of_still s2))
  have B2 := Lib.hid (B1.out.still s2)
  have V2 := Lib.hid (show w.heap.size < v ∧ g < v from ⟨by have := B1.out.lt; omega, by have := R1.out.low.2; omega⟩)
  have k0 : w2.cell? ⟨v, 0, none⟩ = some (.int .i64 2) := bv2.cell 0
  have BV2 := Lib.hid bv2
  have HW2 := Lib.hid hw2
  have HV := Lib.hid hv
  clear s2 bv2 hw2 hv
  go_upto_region 7 with fail
  rw [← HW2.out, ← HV.out]
  clear HW2 HV R1 G1 B1
  go_upto_region 20 with fail
  refine wp_region_lit ?_
  refine wpList_load_row rfl 26 (.tmp 8) rfl v rfl _ _ _ _ BV2.out HU.out rfl (by rw [sizeValue]; rfl) ?_
  go_wp2_with (guard_target =~ wpList _ _ _ (Oper.mk none (Op.store _ _ _) _ _ _ _ :: _) _ _; go_must (refine wpList_store_rowTo rfl 26 (.tmp 4) (.tmp 77) rfl rfl w.heap.size #[.int .i64 2, .int .i64 0, .slice none 0 0, .string ⟨#[]⟩, .slice none 0 0, .slice none 0 0] rfl rfl 26 _ B2.out (by rw [sizeValue]; rfl) rfl (by kernel_rfl) ?_))
  refine bodyPost_ret (results_val2 rfl _ _ w.heap.size #[.int .i64 2, .int .i64 0, .slice none 0 0, .string ⟨#[]⟩, .slice none 0 0, .slice none 0 0] rfl (setRow_heap w2 _ _ _ _ _ B2.out) rfl _ rfl) rfl ?_
  exact ⟨rfl, R2.out.below (below_setRow (Below.refl _ _) LOW.out.2.2.1 _), grown_row G2.out (Nat.le_refl _) _⟩

end Go.Proofs.YtmpnehhndhepgaaDoor

/- Contract: a value read, whatever bytes there are. It proves no statement. -/


namespace Go.Proofs.YtmpnehhndhepgaaDoor
open Go.RowKit
set_option linter.unusedVariables false
set_option linter.unusedSimpArgs false

set_option maxRecDepth 100000 in
set_option maxHeartbeats 1600000 in
theorem rvalue_end {w : World} {lo B h g : Nat} (deep : Int) (r : Rd w lo B h g [] 0) :
    Calls Tryd.prog 29 #[.pointer (some ⟨h, 0, none⟩), .int .i64 deep] w fun e w' => e = .returned (.tuple #[.agg cellsZ, .int .i64 3]) ∧ w.grownBy w' (some g) := by
  obtain ⟨wA, hA⟩ : ∃ wA, wA = w.alloc (.cells cellsZ 26) := ⟨_, rfl⟩
  have sA : Still w wA := by rw [hA]; exact (Still.refl w).alloc (Nat.le_refl _) _
  have bA : Blk wA w.heap.size 26 cellsZ := by rw [hA]; exact Blk.new _ _ _
  have rA := r.still sA
  have hlow := r.low
  have TT := Lib.hid (tag_no rA)
  have GA := Lib.hid (grown_of_still (r := some g) sA)
  have BA := Lib.hid bA
  have HA := Lib.hid hA
  have LOW := Lib.hid hlow
  clear hA sA bA rA hlow r
  go_enter Tryd.func29, Tryd.ntmps29
  go_upto_region 1 with fail
  rw [show (w.alloc (.cells #[.int .i64 0, .int .i64 0, .slice none 0 0, .string ⟨#[]⟩, .slice none 0 0, .slice none 0 0] 26)) = wA from HA.out.symm]
  go_wp2_with fail
  refine TT.out.mono ?_
  rintro e w1 ⟨rfl, r1, gr1⟩
  have G1 := Lib.hid (grown_trans GA.out gr1)
  have B1 : Hid (Blk w1 w.heap.size 26 cellsZ) := Lib.hid ((gr1.block _ BA.out.lt (fun e => by have := LOW.out; cases e; omega)).trans BA.out)
  clear gr1 r1 TT GA BA HA
  go_wp2_with (guard_target =~ wpList _ _ _ (Oper.mk none (Op.store _ _ _) _ _ _ _ :: _) _ _; go_must (refine wpList_store_rowTo rfl 26 (.tmp 4) (.tmp 16) rfl rfl w.heap.size cellsZ rfl rfl 26 _ B1.out (by rw [sizeValue]; rfl) rfl (by kernel_rfl) ?_))
  refine bodyPost_ret (results_val2 rfl _ _ w.heap.size cellsZ rfl (setRow_heap w1 _ _ _ _ _ B1.out) rfl _ rfl) rfl ?_
  exact ⟨rfl, grown_row G1.out (Nat.le_refl _) _⟩

set_option maxRecDepth 100000 in
set_option maxHeartbeats 1600000 in
theorem rvalue_deep {w : World} {lo B h g : Nat} {l : List UInt8} (deep : Int) (hd : 16 < deep) (t : UInt8) (r : Rd w lo B h g (t :: l) 0) :
    Calls Tryd.prog 29 #[.pointer (some ⟨h, 0, none⟩), .int .i64 deep] w fun e w' => e = .returned (.tuple #[.agg cellsZ, .int .i64 4]) ∧ w.grownBy w' (some g) := by
  obtain ⟨wA, hA⟩ : ∃ wA, wA = w.alloc (.cells cellsZ 26) := ⟨_, rfl⟩
  have sA : Still w wA := by rw [hA]; exact (Still.refl w).alloc (Nat.le_refl _) _
  have bA : Blk wA w.heap.size 26 cellsZ := by rw [hA]; exact Blk.new _ _ _
  have rA := r.still sA
  have hlow := r.low
  have TG := tag_yes t (l := l) rA
  obtain ⟨y, hy⟩ : ∃ y, y = t.toNat := ⟨_, rfl⟩
  rw [← hy] at TG
  have TT := Lib.hid TG
  have GA := Lib.hid (grown_of_still (r := some g) sA)
  have BA := Lib.hid bA
  have HA := Lib.hid hA
  have LOW := Lib.hid hlow
  clear hA sA bA rA hlow TG hy r
  go_enter Tryd.func29, Tryd.ntmps29
  go_upto_region 1 with fail
  rw [show (w.alloc (.cells #[.int .i64 0, .int .i64 0, .slice none 0 0, .string ⟨#[]⟩, .slice none 0 0, .slice none 0 0] 26)) = wA from HA.out.symm]
  go_wp2_with fail
  refine TT.out.mono ?_
  rintro e w1 ⟨rfl, r1, gr1⟩
  have G1 := Lib.hid (grown_trans GA.out gr1)
  have B1 : Hid (Blk w1 w.heap.size 26 cellsZ) := Lib.hid ((gr1.block _ BA.out.lt (fun e => by have := LOW.out; cases e; omega)).trans BA.out)
  clear gr1 r1 TT GA BA HA
  go_wp2_with (guard_target =~ wpList _ _ _ (Oper.mk none (Op.store _ _ _) _ _ _ _ :: _) _ _; go_must (refine wpList_store_rowTo rfl 26 (.tmp 4) (.tmp 20) rfl rfl w.heap.size cellsZ rfl rfl 26 _ B1.out (by rw [sizeValue]; rfl) rfl (by kernel_rfl) ?_))
  refine bodyPost_ret (results_val2 rfl _ _ w.heap.size cellsZ rfl (setRow_heap w1 _ _ _ _ _ B1.out) rfl _ rfl) rfl ?_
  exact ⟨rfl, grown_row G1.out (Nat.le_refl _) _⟩

theorem kd_cases (t : Nat) : kd t = -1 ∨ kd t = 3 ∨ kd t = 4 ∨ kd t = 5 ∨ kd t = 6 ∨ kd t = 7 ∨ kd t = 0 ∨ kd t = 1 ∨ kd t = 2 := by
  unfold kd
  repeat' split
  all_goals omega
theorem nuD_bd (t : Nat) (l : List UInt8) (ht : t < 256) : -9223372036854775808 ≤ (nuD t l).2.1 ∧ (nuD t l).2.1 ≤ 9223372036854775807 := by
  unfold nuD
  by_cases hb : bh t = 0
  · rw [if_pos hb]
    simp only
    have : (-128 : Int) ≤ IntKind.i8.wrap (t : Int) ∧ IntKind.i8.wrap (t : Int) ≤ 127 := by simp [IntKind.wrap, IntKind.bits, IntKind.signed]; omega
    omega
  rw [if_neg hb]
  by_cases hs : l.length < bh t
  · rw [if_pos hs]; simp
  rw [if_neg hs]
  exact decK_bd _ _ _ (by have := bh_cases t; omega)
/-- A value of one kind alone: nothing that it leads to. -/
theorem hasP_flat {w : World} {P : Nat → Prop} (k i : Int) (s : ByteArray) (hk : 0 ≤ k ∧ k ≤ 7) (hi : -9223372036854775808 ≤ i ∧ i ≤ 9223372036854775807) (hs : s.size ≤ 1048576) :
    HasP w P (.mk k i [] s [] []) #[.int .i64 k, .int .i64 i, .slice none 0 0, .string s, .slice none 0 0, .slice none 0 0] := by
  unfold HasP
  exact ⟨none, 0, 0, none, 0, none, 0, rfl, by omega, hi, ⟨⟨rfl, fun h => absurd h (by omega)⟩, by omega, fun _ => rfl⟩, hs, ⟨⟨fun s h => by simp at h, fun h => absurd h (by simp)⟩, by simp⟩, by simp, fun h => absurd h (by simp)⟩

set_option maxHeartbeats 1600000 in
theorem rdOK : ∀ f, f ≤ 17 → RdOK f := by
  intro f
  induction f with
  | zero =>
    intro _ w lo B h g l r T hgl
    rcases l with _ | ⟨t, l⟩
    · refine (rvalue_end _ r).mono ?_
      rintro e w' ⟨rfl, gr⟩
      exact ⟨⟨_, rfl, rfl, by decide +kernel, fun h => absurd h (by unfold decV; decide)⟩, gr⟩
    · refine (rvalue_deep _ (by omega) t r).mono ?_
      rintro e w' ⟨rfl, gr⟩
      exact ⟨⟨_, rfl, rfl, by decide +kernel, fun h => absurd h (by unfold decV; decide)⟩, gr⟩
  | succ f ih =>
    intro hf w lo B h g l r T hgl
    have OK := ih (by omega)
    rcases l with _ | ⟨t, l⟩
    · refine (rvalue_end _ r).mono ?_
      rintro e w' ⟨rfl, gr⟩
      exact ⟨⟨_, rfl, rfl, by decide +kernel, fun h => absurd h (by unfold decV; decide)⟩, gr⟩
    have ht := t.toNat_lt
    have hd : (17 : Int) - ((f + 1 : Nat) : Int) = 16 - (f : Int) := by omega
    rw [hd]
    have hdl : (16 : Int) - (f : Int) ≤ 16 := by omega
    rcases kd_cases t.toNat with hk | hk | hk | hk | hk | hk | hk | hk | hk
    · refine (rvalue_no _ t hk hdl r).mono ?_
      rintro e w' ⟨rfl, r', gr⟩
      have hD : decV (f + 1) (t :: l) = (4, trZ, []) := by unfold decV; rw [if_pos hk]
      rw [hD]
      exact ⟨⟨_, rfl, rfl, by decide +kernel, fun h => absurd h (by decide)⟩, gr⟩
    · have hD : decV (f + 1) (t :: l) = ((nuD t.toNat l).1, .mk 3 (nuD t.toNat l).2.1 [] ByteArray.empty [] [], (nuD t.toNat l).2.2) := by
        unfold decV; rw [if_neg (by omega), if_pos hk]
      rw [hD]
      refine (rvalue_num _ (nuD t.toNat l).1 (rest := (nuD t.toNat l).2.2) (fun _ _ v => v = .int .i64 (nuD t.toNat l).2.1) t hk hdl r T hgl fun w2 r2 T2 => (rnum_any r2 t.toNat ht hk).mono ?_).mono ?_
      · rintro e w3 ⟨⟨x0, rfl, hx⟩, gr⟩
        exact ⟨⟨_, rfl, rfl, fun h => ⟨by rw [(hx h).1], (hx h).2⟩⟩, gr⟩
      · rintro e w' ⟨⟨v1, wm, wn, rfl, ho, hok⟩, gr⟩
        refine ⟨⟨[.int .i64 3, v1, .slice none 0 0, .string ⟨#[]⟩, .slice none 0 0, .slice none 0 0], rfl, rfl, ?_, fun h => ?_⟩, gr⟩
        · rw [Array.all_eq_true_iff_forall_mem]
          intro u hu
          simp only [List.mem_toArray, List.mem_cons, List.not_mem_nil, or_false] at hu
          rcases hu with rfl | rfl | rfl | rfl | rfl | rfl <;> first | rfl | exact ho
        · obtain ⟨_, rfl, _, _, r'⟩ := hok h
          exact ⟨hasP_flat 3 _ _ (by omega) (nuD_bd _ _ ht) (by decide), r'⟩
    · have hD : decV (f + 1) (t :: l) = ((byD t.toNat l).1, .mk 4 0 (byD t.toNat l).2.1 ByteArray.empty [] [], (byD t.toNat l).2.2) := by
        unfold decV; rw [if_neg (by omega), if_neg (by omega), if_pos hk]
      rw [hD]
      refine (rvalue_bytes _ (byD t.toNat l).1 (rest := (byD t.toNat l).2.2) (fun wm wn v => wn.ownsRow wm.heap.size 5 1 v (byD t.toNat l).2.1.length (bytesV (byD t.toNat l).2.1) ∧ (byD t.toNat l).2.1.length < 65536) t hk hdl r T hgl fun w2 r2 T2 => (rbytes_any r2 T2 hgl t.toNat (tagOf_kd 4 _ (by omega) (by omega) ht hk)).mono ?_).mono ?_
      · rintro e w3 ⟨⟨v, rfl, ho, hx⟩, gr⟩
        exact ⟨⟨_, rfl, ho, fun h => ⟨⟨(hx h).1, (hx h).2.1⟩, (hx h).2.2⟩⟩, gr⟩
      · rintro e w' ⟨⟨v1, wm, wn, rfl, ho, hok⟩, gr⟩
        refine ⟨⟨[.int .i64 4, .int .i64 0, v1, .string ⟨#[]⟩, .slice none 0 0, .slice none 0 0], rfl, rfl, ?_, fun h => ?_⟩, gr⟩
        · rw [Array.all_eq_true_iff_forall_mem]
          intro u hu
          simp only [List.mem_toArray, List.mem_cons, List.not_mem_nil, or_false] at hu
          rcases hu with rfl | rfl | rfl | rfl | rfl | rfl <;> first | rfl | exact ho
        · obtain ⟨hw, ⟨own, hlen⟩, hz, hb, r'⟩ := hok h
          obtain ⟨A, c, rfl, _, _, hA⟩ := own_form own
          refine ⟨?_, r'⟩
          unfold HasP
          refine ⟨A, _, c, none, 0, none, 0, rfl, by omega, by omega, ⟨⟨rfl, fun hn => ?_⟩, by omega, fun e => (hA e).2⟩, by decide, ⟨⟨fun s h => by simp at h, fun h => absurd h (by simp)⟩, by simp⟩, by simp, fun h => absurd h (by simp)⟩
          obtain ⟨b, o, e, hlt, hc⟩ := (Reads.of_own own).2 hn
          have hlo : wm.heap.size ≤ b := (own.lt b (by rw [e]; rfl)).1
          exact ⟨b, o, e, by omega, by omega, fun i hi => (World.cell?_of_block (w := wn) (a := ⟨b, o + i, none⟩) (hb b hlo hlt)).trans (hc i hi)⟩
    · have hD : decV (f + 1) (t :: l) = ((txD t.toNat l).1, .mk 5 0 [] ⟨(txD t.toNat l).2.1.toArray⟩ [] [], (txD t.toNat l).2.2) := by
        unfold decV; rw [if_neg (by omega), if_neg (by omega), if_neg (by omega), if_pos hk]
      rw [hD]
      have htl : (txD t.toNat l).2.1.length ≤ 65535 := by
        have hbd := szD_bd 5 t.toNat l (tagOf_kd 5 t.toNat (by omega) (by omega) ht hk)
        unfold txD
        split
        · simp
        split
        · simp
        · simp only [List.length_take]; omega
      refine (rvalue_text _ (txD t.toNat l).1 (rest := (txD t.toNat l).2.2) (fun _ _ v => v = .string ⟨(txD t.toNat l).2.1.toArray⟩) t hk hdl r T hgl fun w2 r2 T2 => (rtext_any r2 T2 hgl t.toNat (tagOf_kd 5 _ (by omega) (by omega) ht hk)).mono ?_).mono ?_
      · rintro e w3 ⟨⟨s, rfl, hx⟩, gr⟩
        exact ⟨⟨_, rfl, rfl, fun h => ⟨by rw [(hx h).1], (hx h).2⟩⟩, gr⟩
      · rintro e w' ⟨⟨v1, wm, wn, rfl, ho, hok⟩, gr⟩
        refine ⟨⟨[.int .i64 5, .int .i64 0, .slice none 0 0, v1, .slice none 0 0, .slice none 0 0], rfl, rfl, ?_, fun h => ?_⟩, gr⟩
        · rw [Array.all_eq_true_iff_forall_mem]
          intro u hu
          simp only [List.mem_toArray, List.mem_cons, List.not_mem_nil, or_false] at hu
          rcases hu with rfl | rfl | rfl | rfl | rfl | rfl <;> first | rfl | exact ho
        · obtain ⟨_, rfl, _, _, r'⟩ := hok h
          exact ⟨hasP_flat 5 0 _ (by omega) (by omega) (by simp [ByteArray.size]; omega), r'⟩
    · have hD : decV (f + 1) (t :: l) = ((liD f t.toNat l).1, .mk 6 0 [] ByteArray.empty [] (liD f t.toNat l).2.1, (liD f t.toNat l).2.2) ∨ ((decV (f + 1) (t :: l)).1 ≠ 0 ∧ (decV (f + 1) (t :: l)).1 = (liD f t.toNat l).1) := by
        unfold decV liD
        rw [if_neg (by omega), if_neg (by omega), if_neg (by omega), if_neg (by omega), if_pos hk]
        by_cases hz : (szD 6 t.toNat l).1 ≠ 0
        · rw [if_pos hz, if_pos hz]; exact .inr ⟨hz, rfl⟩
        · rw [if_neg hz, if_neg hz]; exact .inl rfl
      have h1 : (decV (f + 1) (t :: l)).1 = (liD f t.toNat l).1 := by
        rcases hD with hD | hD
        · rw [hD]
        · exact hD.2
      rw [h1]
      refine (rvalue_list _ (liD f t.toNat l).1 (rest := (liD f t.toNat l).2.2) (fun wm wn v => ∃ A c, v = .slice A (liD f t.toNat l).2.1.length c ∧ (liD f t.toNat l).2.1.length < 65536 ∧ (0 < (liD f t.toNat l).2.1.length → ∃ g' o, A = some ⟨g', o, none⟩ ∧ wm.heap.size ≤ g' ∧ g' < wn.heap.size ∧ HasLP wn (fun b => wm.heap.size ≤ b) g' o (liD f t.toNat l).2.1)) t hk hdl r T hgl fun w2 r2 T2 => (rlist_any f (by omega) OK r2 T2 hgl t.toNat (tagOf_kd 6 _ (by omega) (by omega) ht hk)).mono ?_).mono ?_
      · rintro e w3 ⟨⟨v, rfl, ho, hx⟩, gr⟩
        exact ⟨⟨_, rfl, ho, hx⟩, gr⟩
      · rintro e w' ⟨⟨v1, wm, wn, rfl, ho, hok⟩, gr⟩
        refine ⟨⟨[.int .i64 6, .int .i64 0, .slice none 0 0, .string ⟨#[]⟩, .slice none 0 0, v1], rfl, rfl, ?_, fun h => ?_⟩, gr⟩
        · rw [Array.all_eq_true_iff_forall_mem]
          intro u hu
          simp only [List.mem_toArray, List.mem_cons, List.not_mem_nil, or_false] at hu
          rcases hu with rfl | rfl | rfl | rfl | rfl | rfl <;> first | rfl | exact ho
        · rcases hD with hD | hD
          · rw [hD]
            obtain ⟨hw, ⟨A, c, rfl, hlen, hL⟩, hz, hb, r'⟩ := hok h
            refine ⟨?_, r'⟩
            unfold HasP
            refine ⟨none, 0, 0, none, 0, A, c, rfl, by omega, by omega, ⟨⟨rfl, fun h => absurd h (by omega)⟩, by omega, fun _ => rfl⟩, by decide, ⟨⟨fun s h => by simp at h, fun h => absurd h (by simp)⟩, by simp⟩, by omega, fun hn => ?_⟩
            obtain ⟨g', o, e, h1, h2, h3⟩ := hL hn
            exact ⟨g', o, e, by omega, by omega, HasLP.keep (fun b hp hlt => hb b hp hlt) hz (fun b hp _ => by omega) g' h1 h2 _ _ h3⟩
          · exact absurd (h1.trans h) hD.1
    · have hD : decV (f + 1) (t :: l) = ((maD f t.toNat l).1, .mk 7 0 [] ByteArray.empty ((maD f t.toNat l).2.1.1.map mkS) (maD f t.toNat l).2.1.2, (maD f t.toNat l).2.2) ∨ ((decV (f + 1) (t :: l)).1 ≠ 0 ∧ (decV (f + 1) (t :: l)).1 = (maD f t.toNat l).1) := by
        unfold decV maD
        rw [if_neg (by omega), if_neg (by omega), if_neg (by omega), if_neg (by omega), if_neg (by omega), if_pos hk]
        by_cases hz : (szD 7 t.toNat l).1 ≠ 0
        · rw [if_pos hz, if_pos hz]; exact .inr ⟨hz, rfl⟩
        · rw [if_neg hz, if_neg hz]; exact .inl rfl
      have h1 : (decV (f + 1) (t :: l)).1 = (maD f t.toNat l).1 := by
        rcases hD with hD | hD
        · rw [hD]
        · exact hD.2
      rw [h1]
      refine (rvalue_rows _ (maD f t.toNat l).1 (rest := (maD f t.toNat l).2.2) (fun wm wn u v => ∃ Ak ck A c, u = .slice Ak (maD f t.toNat l).2.1.1.length ck ∧ v = .slice A (maD f t.toNat l).2.1.2.length c ∧ (maD f t.toNat l).2.1.1.length = (maD f t.toNat l).2.1.2.length ∧ (maD f t.toNat l).2.1.2.length < 65536 ∧ KeysP wn (fun b => wm.heap.size ≤ b) Ak ((maD f t.toNat l).2.1.1.map mkS) ∧ (0 < (maD f t.toNat l).2.1.2.length → ∃ g' o, A = some ⟨g', o, none⟩ ∧ wm.heap.size ≤ g' ∧ g' < wn.heap.size ∧ HasLP wn (fun b => wm.heap.size ≤ b) g' o (maD f t.toNat l).2.1.2)) t hk hdl r T hgl fun w2 r2 T2 => (rrows_any f (by omega) OK r2 T2 hgl t.toNat (tagOf_kd 7 _ (by omega) (by omega) ht hk)).mono ?_).mono ?_
      · rintro e w3 ⟨⟨u, v, rfl, hu, hv, hx⟩, gr⟩
        exact ⟨⟨_, _, rfl, hu, hv, hx⟩, gr⟩
      · rintro e w' ⟨⟨v1, v2, wm, wn, rfl, ho1, ho2, hok⟩, gr⟩
        refine ⟨⟨[.int .i64 7, .int .i64 0, .slice none 0 0, .string ⟨#[]⟩, v1, v2], rfl, rfl, ?_, fun h => ?_⟩, gr⟩
        · rw [Array.all_eq_true_iff_forall_mem]
          intro u hu
          simp only [List.mem_toArray, List.mem_cons, List.not_mem_nil, or_false] at hu
          rcases hu with rfl | rfl | rfl | rfl | rfl | rfl <;> first | rfl | exact ho1 | exact ho2
        · rcases hD with hD | hD
          · rw [hD]
            obtain ⟨hw, ⟨Ak, ck, A, c, rfl, rfl, hkl, hlen, hK, hL⟩, hz, hb, r'⟩ := hok h
            refine ⟨?_, r'⟩
            unfold HasP
            refine ⟨none, 0, 0, Ak, ck, A, c, by rw [List.length_map]; rfl, by omega, by omega, ⟨⟨rfl, fun h => absurd h (by omega)⟩, by omega, fun _ => rfl⟩, by decide, ⟨⟨hK.1, fun hn => ?_⟩, by rw [List.length_map]; omega⟩, by omega, fun hn => ?_⟩
            · obtain ⟨g', o, e, h1, h2, h3⟩ := hK.2 hn
              exact ⟨g', o, e, by omega, by omega, fun j hj => (World.cell?_of_block (w := wn) (a := ⟨g', o + j, none⟩) (hb g' h1 h2)).trans (h3 j hj)⟩
            · obtain ⟨g', o, e, h1, h2, h3⟩ := hL hn
              exact ⟨g', o, e, by omega, by omega, HasLP.keep (fun b hp hlt => hb b hp hlt) hz (fun b hp _ => by omega) g' h1 h2 _ _ h3⟩
          · exact absurd (h1.trans h) hD.1
    all_goals
      have hD : decV (f + 1) (t :: l) = (0, .mk (kd t.toNat) 0 [] ByteArray.empty [] [], l) := by
        unfold decV; rw [if_neg (by omega), if_neg (by omega), if_neg (by omega), if_neg (by omega), if_neg (by omega), if_neg (by omega)]
      rw [hD, hk]
    · refine (rvalue_k0 _ t hk hdl r).mono ?_
      rintro e w' ⟨rfl, r', gr⟩
      exact ⟨⟨[.int .i64 0, .int .i64 0, .slice none 0 0, .string ⟨#[]⟩, .slice none 0 0, .slice none 0 0], rfl, rfl, by decide +kernel, fun _ => ⟨hasP_flat 0 0 _ (by omega) (by omega) (by decide), r'⟩⟩, gr⟩
    · refine (rvalue_k1 _ t hk hdl r).mono ?_
      rintro e w' ⟨rfl, r', gr⟩
      exact ⟨⟨[.int .i64 1, .int .i64 0, .slice none 0 0, .string ⟨#[]⟩, .slice none 0 0, .slice none 0 0], rfl, rfl, by decide +kernel, fun _ => ⟨hasP_flat 1 0 _ (by omega) (by omega) (by decide), r'⟩⟩, gr⟩
    · refine (rvalue_k2 _ t hk hdl r).mono ?_
      rintro e w' ⟨rfl, r', gr⟩
      exact ⟨⟨[.int .i64 2, .int .i64 0, .slice none 0 0, .string ⟨#[]⟩, .slice none 0 0, .slice none 0 0], rfl, rfl, by decide +kernel, fun _ => ⟨hasP_flat 2 0 _ (by omega) (by omega) (by decide), r'⟩⟩, gr⟩
end Go.Proofs.YtmpnehhndhepgaaDoor

/- Contract: Decode of whatever bytes. It proves no statement. -/


namespace Go.Proofs.YtmpnehhndhepgaaDoor
open Go.RowKit
set_option linter.unusedVariables false
set_option linter.unusedSimpArgs false

/-- Decoding: the error, and the value. -/
def decB (b : List UInt8) : Int × Tr := if 65536 < b.length then (5, trZ) else if (decV 16 b).1 ≠ 0 then ((decV 16 b).1, trZ) else if (decV 16 b).2.2 ≠ [] then (6, trZ) else (0, (decV 16 b).2.1)
theorem hasP_zero {w : World} {P : Nat → Prop} : HasP w P trZ cellsZ := hasP_flat 0 0 _ (by omega) (by omega) (by decide)

set_option maxRecDepth 100000 in
set_option maxHeartbeats 3200000 in
theorem decode_any (A : Option Addr) (n c : Nat) (l : List UInt8) (w : World) (B : Nat) (hr : Reads w B A n l) (hB : B ≤ w.heap.size) (hn : n ≤ 70368744177664) (hA : A = none → n = 0 ∧ c = 0) (T : Sizes w) (hgl : 0 < w.heap.size) :
    Calls Tryd.prog 17 #[.slice A n c] w fun e w' => (∃ cs : List Value, e = .returned (.tuple #[.agg cs.toArray, .int .i64 (decB l).1]) ∧ cs.length = 6 ∧ cs.toArray.all (·.oneCell') = true ∧ HasP w' (fun b => w.heap.size ≤ b) (decB l).2 cs.toArray) ∧ Still w w' := by
  obtain ⟨D, hD⟩ : ∃ D, D = decB l := ⟨_, rfl⟩
  rw [← hD]
  have hlen := hr.1
  unfold decB at hD
  obtain ⟨wA, hA'⟩ : ∃ wA, wA = w.alloc (.cells cellsZ 26) := ⟨_, rfl⟩
  have sA : Still w wA := by rw [hA']; exact (Still.refl w).alloc (Nat.le_refl _) _
  have bA : Blk wA w.heap.size 26 cellsZ := by rw [hA']; exact Blk.new _ _ _
  by_cases hbig : 65536 < n
  · have HDE := Lib.hid (show D = (5, trZ) by rw [hD, if_pos (by omega)])
    have SA := Lib.hid sA
    have BA := Lib.hid bA
    have HA := Lib.hid hA'
    have d1 : (65536 : Int) < (n : Int) := by omega
    clear hA' sA bA hD hr hA hB hn T hgl hlen hbig
    go_enter Tryd.func17, Tryd.ntmps17
    go_upto_region 1 with fail
    rw [show (w.alloc (.cells #[.int .i64 0, .int .i64 0, .slice none 0 0, .string ⟨#[]⟩, .slice none 0 0, .slice none 0 0] 26)) = wA from HA.out.symm]
    go_wp2_with (guard_target =~ wpList _ _ _ (Oper.mk none (Op.store _ _ _) _ _ _ _ :: _) _ _; go_must (refine wpList_store_rowTo rfl 26 (.tmp 2) (.tmp 10) rfl rfl w.heap.size cellsZ rfl rfl 26 _ BA.out (by rw [sizeValue]; rfl) rfl (by kernel_rfl) ?_))
    refine bodyPost_ret (results_val2 rfl _ _ w.heap.size cellsZ rfl (setRow_heap wA _ _ _ _ _ BA.out) rfl _ rfl) rfl ?_
    rw [HDE.out]
    exact ⟨⟨_, rfl, rfl, by decide +kernel, hasP_zero⟩, below_setRow SA.out (Nat.le_refl _) _⟩
  have OP := Lib.hid (open_any A n c _ wA B (hr.still hB sA) (Nat.le_trans hB sA.size) (by omega) hA)
  have OK := Lib.hid (rdOK 16 (by omega))
  unfold RdOK at OK
  obtain ⟨dec, hdec⟩ : ∃ dec, dec = decV 16 := ⟨_, rfl⟩
  rw [← hdec] at OK hD
  rw [show (17 : Int) - ((16 : Nat) : Int) = 1 by omega] at OK
  have hD' : D = if (dec l).1 ≠ 0 then ((dec l).1, trZ) else if (dec l).2.2 ≠ [] then (6, trZ) else (0, (dec l).2.1) := by rw [hD, if_neg (by omega)]
  have RV := Lib.hid (fun (w : World) (lo B h g : Nat) => OK.out w lo B h g l)
  generalize dec l = E at RV hD'
  obtain ⟨er, tr, rest⟩ := E
  simp only at RV hD'
  have HD := Lib.hid hD'
  obtain ⟨fs, hu⟩ := underValue
  have HU := Lib.hid hu
  have SA := Lib.hid sA
  have BA := Lib.hid bA
  have HA := Lib.hid hA'
  have d1 : ¬ 65536 < (n : Int) := by omega
  have HT : Hid (∀ w', Still w w' → Sizes w') := Lib.hid fun w' s => T.still s
  have HGL := Lib.hid hgl
  clear hA' sA bA hu hr hA hB hn OK hdec hD hD' hbig hlen T hgl
  go_enter Tryd.func17, Tryd.ntmps17
  go_upto_region 1 with fail
  rw [show (w.alloc (.cells #[.int .i64 0, .int .i64 0, .slice none 0 0, .string ⟨#[]⟩, .slice none 0 0, .slice none 0 0] 26)) = wA from HA.out.symm]
  go_wp2_with fail
  refine OP.out.mono ?_
  rintro e w1 ⟨⟨g, A', c', rfl, lv1⟩, s1⟩
  obtain ⟨h, hh⟩ : ∃ h, h = w1.heap.size := ⟨_, rfl⟩
  obtain ⟨w2, hw2⟩ : ∃ w2, w2 = w1.alloc (.cells #[.pointer (some ⟨g, 0, none⟩)] 60) := ⟨_, rfl⟩
  have s2 : Still w1 w2 := by rw [hw2]; exact (Still.refl w1).alloc (Nat.le_refl _) _
  have hz2 : w2.heap.size = w1.heap.size + 1 := by rw [hw2]; simp
  have r2 : Rd w2 wA.heap.size w2.heap.size h g l 0 := by
    refine ⟨by rw [hh]; exact s1.size, by omega, by have := lv1.high; omega, lv1.low, Nat.le_refl _, ?_, A', n, c', ((lv1.below (s2.mono (Nat.le_refl _))).more (by omega))⟩
    rw [hw2, hh]; exact Blk.new _ _ _
  have S2 := Lib.hid (SA.out.trans (s1.trans s2))
  have B2 := Lib.hid ((BA.out.still s1).still s2)
  have LOW := Lib.hid (show w.heap.size < wA.heap.size from BA.out.lt)
  have R2L := Lib.hid r2.low
  have HW2 := Lib.hid hw2
  have HH := Lib.hid hh
  have V := Lib.hid (RV.out _ _ _ _ _ r2 (HT.out _ S2.out) (by have := HGL.out; have := LOW.out; omega))
  clear s2 hz2 r2 hw2 hh lv1 s1 OP RV HT HGL
  go_upto_region 4 with fail
  rw [← HW2.out, ← HH.out]
  clear HW2 HH
  go_wp2_with fail
  refine V.out.mono ?_
  rintro e w3 ⟨⟨cs, rfl, hc6, hall, hok⟩, gr3⟩
  have S3 := Lib.hid (S2.out.grown gr3 S2.out.size (fun k hk => by cases hk; have := LOW.out; have := R2L.out; omega))
  have B3 := Lib.hid (show Blk w3 w.heap.size 26 cellsZ from (gr3.block _ B2.out.lt (fun e => by have := LOW.out; have := R2L.out; cases e; omega)).trans B2.out)
  have ALL := Lib.hid hall
  have C6 := Lib.hid hc6
  have HOK := Lib.hid hok
  have Z23 := Lib.hid (show w.heap.size ≤ w2.heap.size ∧ w2.heap.size ≤ w3.heap.size from ⟨S2.out.size, gr3.size⟩)
  obtain ⟨v, hv⟩ : ∃ v, v = w3.heap.size := ⟨_, rfl⟩
  have BS := build1 cs hc6
  clear hall hok gr3 V
  go_upto_region 5 with (first
    | (guard_target =~ wpList _ _ _ (Oper.mk none (Op.store _ _ _) _ _ _ _ :: _) _ _; go_must (refine wpList_store_rowTo rfl 26 (.tmp 5) (.tmp 16) rfl rfl w3.heap.size cs.toArray rfl rfl 26 _ (heap_alloc_new w3 _) (by rw [sizeValue]; simp [C6.out]) (by simp [C6.out]) ALL.out ?_)))
  obtain ⟨w4, hw4⟩ : ∃ w4, w4 = (w3.alloc (.cells #[.int .i64 0, .int .i64 0, .slice none 0 0, .string ⟨#[]⟩, .slice none 0 0, .slice none 0 0] 26)).setRow w3.heap.size cs.toArray := ⟨_, rfl⟩
  have s4 : Still w3 w4 := by rw [hw4]; exact below_setRow ((Still.refl w3).alloc (Nat.le_refl _) _) (Nat.le_refl _) _
  have bv4 : Blk w4 v 26 cs.toArray := by rw [hw4, hv]; exact setRow_heap _ _ _ _ _ _ (heap_alloc_new w3 _)
  have S4 := Lib.hid (Still.trans (show Still w w3 from S3.out) s4)
  have B4 := Lib.hid (B3.out.still s4)
  have BV4 := Lib.hid bv4
  have S34 := Lib.hid s4
  rw [← hw4, ← hv]
  have HVW := Lib.hid (show w.heap.size < v by rw [hv]; exact B3.out.lt)
  clear bv4 s4 hw4 hv S3 B3 BS hc6
  by_cases h0 : er = 0
  · subst h0
    obtain ⟨hv3, r3⟩ := HOK.out (by trivial)
    have r4 := r3.still S34.out
    have k4 := r4.cell
    have EN := Lib.hid (rd_end r4)
    have VAL := Lib.hid (show HasP w4 (fun b => w2.heap.size ≤ b) tr cs.toArray from HasP.keep (fun b _ hl => S34.out.block b hl) S34.out.size (fun _ hb _ => hb) _ _ hv3)
    clear hv3 r3 r4 HOK
    by_cases hrest : rest = []
    · subst hrest
      rw [if_pos rfl] at EN
      have HDE := Lib.hid (show D = (0, tr) by rw [HD.out, if_neg (by decide), if_neg (by simp)])
      clear HD
      go_wp2_with fail
      refine EN.out.mono ?_
      rintro e w5 ⟨rfl, rfl⟩
      go_upto_region 9 with fail
      refine wp_region_lit ?_
      refine wpList_load_row rfl 26 (.tmp 5) rfl v rfl _ _ _ _ BV4.out HU.out rfl (by rw [sizeValue]; simp [C6.out]) ?_
      refine wpList_store_rowTo rfl 26 (.tmp 2) (.tmp 27) rfl rfl w.heap.size cs.toArray rfl rfl 26 _ B4.out (by rw [sizeValue]; simp [C6.out]) (by simp [C6.out, cellsZ]) ALL.out ?_
      go_wp2_with fail
      refine bodyPost_ret (results_val2 rfl _ _ w.heap.size cs.toArray rfl (setRow_heap w4 _ _ _ _ _ B4.out) (by simp [C6.out]) _ rfl) rfl ?_
      rw [HDE.out]
      refine ⟨⟨cs, rfl, C6.out, ALL.out, ?_⟩, below_setRow S4.out (Nat.le_refl _) _⟩
      have z := Z23.out
      refine HasP.keep (fun b hb hl => setRow_other w4 w.heap.size b _ (by have := HVW.out; have := S2.out.size; have := LOW.out; have := R2L.out; omega)) (by simp [World.setRow]) (fun b hb _ => by omega) _ _ VAL.out
    · rw [if_neg hrest] at EN
      have HDE := Lib.hid (show D = (6, trZ) by rw [HD.out, if_neg (by decide), if_pos hrest])
      clear HD VAL hrest
      go_wp2_with fail
      refine EN.out.mono ?_
      rintro e w5 ⟨rfl, rfl⟩
      go_wp2_with (guard_target =~ wpList _ _ _ (Oper.mk none (Op.store _ _ _) _ _ _ _ :: _) _ _; go_must (refine wpList_store_rowTo rfl 26 (.tmp 2) (.tmp 25) rfl rfl w.heap.size cellsZ rfl rfl 26 _ B4.out (by rw [sizeValue]; rfl) rfl (by kernel_rfl) ?_))
      refine bodyPost_ret (results_val2 rfl _ _ w.heap.size cellsZ rfl (setRow_heap w4 _ _ _ _ _ B4.out) rfl _ rfl) rfl ?_
      rw [HDE.out]
      exact ⟨⟨_, rfl, rfl, by decide +kernel, hasP_zero⟩, below_setRow S4.out (Nat.le_refl _) _⟩
  · have HDE := Lib.hid (show D = (er, trZ) by rw [HD.out, if_pos h0])
    have d5 : (er == 0) = false := by simpa using h0
    have d6 : (er != 0) = true := by simpa using h0
    clear HD HOK
    go_wp2_with (guard_target =~ wpList _ _ _ (Oper.mk none (Op.store _ _ _) _ _ _ _ :: _) _ _; go_must (refine wpList_store_rowTo rfl 26 (.tmp 2) (.tmp 25) rfl rfl w.heap.size cellsZ rfl rfl 26 _ B4.out (by rw [sizeValue]; rfl) rfl (by kernel_rfl) ?_))
    refine bodyPost_ret (results_val2 rfl _ _ w.heap.size cellsZ rfl (setRow_heap w4 _ _ _ _ _ B4.out) rfl _ rfl) rfl ?_
    rw [HDE.out]
    exact ⟨⟨_, rfl, rfl, by decide +kernel, hasP_zero⟩, below_setRow S4.out (Nat.le_refl _) _⟩
end Go.Proofs.YtmpnehhndhepgaaDoor
