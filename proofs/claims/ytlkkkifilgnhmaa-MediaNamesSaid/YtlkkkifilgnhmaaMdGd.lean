/- Contracts and facts, several texts in one. It proves no statement. -/
import Derived.Test.YtlkkkifilgnhmaaMdGa
import Derived.Maps.AppendAt
import Derived.Great.BuildSlice
import Derived.Test.YtlkkkifilgnhmaaMdKeys

/- Rows of rows of names that grow. It proves no statement. -/



namespace Go.Proofs.Ytlkkkifilgnhmaa
open Go.RowKit
set_option linter.unusedVariables false
set_option linter.unusedSimpArgs false
set_option maxRecDepth 100000 in
theorem fill_N (A : Option Addr) (n c : Nat) : Instr.fill (fun i => some (i * 1, 1)) ((Array.range (1 * 1)).map ((Value.slice none 0 0).cells[· % (Value.slice none 0 0).cells.size]!)) [(0, .slice A n c)] = some #[.slice A n c] := by kernel_rfl

theorem Try.infoN : (Try.prog.info? 28).map (fun i => (i.zero, i.size, i.bytes)) = some (some (.slice none 0 0), 1, 24) := by kernel_rfl
theorem run_moreN (w : World) (ty : TypeId) (base : Nat) (v : Value) (n : Nat) (xs : List Value) (hown : w.ownsRow base 28 1 v n xs) (A : Option Addr) (m c : Nat) (ys : List Value)
    (hl : ys.length = m) (hA : A = none → m = 0 ∧ c = 0) (hr : ∀ ad, A = some ad → ∀ j u, ys[j]? = some u → w.cell? (ad.add j) = some u) (h1 : ∀ u ∈ ys, u.oneCell' = true) (hn : n + m ≤ 1048576) (hbase : base ≤ w.heap.size) :
    ∃ v' w', (Builtin.append_ #[30, 30] ty #[v, .slice A m c]).run Try.prog w = .ok v' w' ∧ w'.ownsRow base 28 1 v' (n + m) (xs ++ ys) ∧ w.grownBy w' v.ownBlock ∧ (v'.ownBlock = v.ownBlock ∨ v'.ownBlock = some w.heap.size) := by
  obtain ⟨i0, hi, hz0, hz1, hz2⟩ := info_parts Try.infoN
  rcases A with _ | ad
  · obtain ⟨rfl, rfl⟩ := hA rfl
    obtain rfl := List.eq_nil_of_length_eq_zero hl
    exact ⟨v, w, run_append_owned_none (P := Try.prog) w base 30 ty 28 i0 1 Try.underlying30 hi v n _ hown, by simpa using hown, World.grownBy.refl _ _, .inl rfl⟩
  · obtain ⟨v', w', hrun, h2, h3, _, h5⟩ := run_append_own_at (P := Try.prog) w base 30 ty 28 i0 _ 1 24 Try.underlying30 hi hz0 hz1 hz2 rfl (by decide) v n xs hown ad m c ys (by rw [hl, Nat.mul_one]) (hr ad rfl) h1 (by unfold maxLen; omega) (by omega) hbase
    exact ⟨v', w', hrun, h2, h3, h5⟩
theorem step_moreN (w : World) {o : Oper} {a : Act} {K : Act → World → Prop} {Q : Exit → Act → World → Prop} (s x : Operand)
    (ho : o.op = .call { callee := .builtin .append, args := #[s, x], argTypes := #[30, 30] })
    (base : Nat) (v : Value) (n : Nat) (xs : List Value) (hs : a.eval s = v) (hown : w.ownsRow base 28 1 v n xs) (A : Option Addr) (m c : Nat) (ys : List Value) (hx : a.eval x = .slice A m c)
    (hl : ys.length = m) (hA : A = none → m = 0 ∧ c = 0) (hr : ∀ ad, A = some ad → ∀ j u, ys[j]? = some u → w.cell? (ad.add j) = some u) (h1 : ∀ u ∈ ys, u.oneCell' = true) (hn : n + m ≤ 1048576) (hbase : base ≤ w.heap.size)
    (h : ∀ v' w', w'.ownsRow base 28 1 v' (n + m) (xs ++ ys) → w.grownBy w' v.ownBlock → (v'.ownBlock = v.ownBlock ∨ v'.ownBlock = some w.heap.size) → K (a.put o.dst v') w') :
    o.wp Try.prog a w K Q := by
  obtain ⟨v', w', hrun, h2, h3, h5⟩ := run_moreN w o.type base v n xs hown A m c ys hl hA hr h1 hn hbase
  unfold Oper.wp execOp
  simp only [ho, resolve, invoke, builtin, Sem.run_bind, Sem.run_pure, Result.andThen_ok, List.map_toArray, List.map_cons, List.map_nil, hs, hx, hrun]
  exact h v' w' h2 h3 h5
theorem wpList_moreN (w : World) {ops : Array Oper} {rest : List Oper} {o : Oper} {a : Act} {Q : Exit → Act → World → Prop} (hgd : o.guard = none) (s x : Operand)
    (ho : o.op = .call { callee := .builtin .append, args := #[s, x], argTypes := #[30, 30] })
    (base : Nat) (v : Value) (n : Nat) (xs : List Value) (hs : a.eval s = v) (hown : w.ownsRow base 28 1 v n xs) (A : Option Addr) (m c : Nat) (ys : List Value) (hx : a.eval x = .slice A m c)
    (hl : ys.length = m) (hA : A = none → m = 0 ∧ c = 0) (hr : ∀ ad, A = some ad → ∀ j u, ys[j]? = some u → w.cell? (ad.add j) = some u) (h1 : ∀ u ∈ ys, u.oneCell' = true) (hn : n + m ≤ 1048576) (hbase : base ≤ w.heap.size)
    (h : ∀ v' w', w'.ownsRow base 28 1 v' (n + m) (xs ++ ys) → w.grownBy w' v.ownBlock → (v'.ownBlock = v.ownBlock ∨ v'.ownBlock = some w.heap.size) → wpList Try.prog ops Q rest (a.put o.dst v') w') :
    wpList Try.prog ops Q (o :: rest) a w :=
  wpList_plain hgd fun _ hQ => step_moreN w s x ho base v n xs hs hown A m c ys hx hl hA hr h1 hn hbase fun v' w' h2 h3 h5 => hQ _ _ (h v' w' h2 h3 h5)
/-- The same for one thing in a box of its own. -/
theorem wpList_oneN (w : World) {ops : Array Oper} {rest : List Oper} {o : Oper} {a : Act} {Q : Exit → Act → World → Prop} (hgd : o.guard = none) (s x : Operand)
    (ho : o.op = .call { callee := .builtin .append, args := #[s, x], argTypes := #[30, 30] })
    (base : Nat) (v : Value) (n : Nat) (xs : List Value) (hs : a.eval s = v) (hown : w.ownsRow base 28 1 v n xs) (u : Value) (h1 : u.oneCell' = true)
    (hx : a.eval x = .slice (some ⟨w.heap.size, 0, none⟩) 1 1) (hn : n < 1048576) (hbase : base ≤ w.heap.size)
    (h : ∀ v' w', w'.ownsRow base 28 1 v' (n + 1) (xs ++ [u]) → w.grownBy w' v.ownBlock → (v'.ownBlock = v.ownBlock ∨ v'.ownBlock = some (w.heap.size + 1)) → wpList Try.prog ops Q rest (a.put o.dst v') w') :
    wpList Try.prog ops Q (o :: rest) a (w.alloc (.cells #[u] 28)) := by
  refine wpList_moreN _ hgd s x ho base v n xs hs (hown.alloc _) _ 1 1 [u] hx rfl (fun e => by cases e) (fun ad e j y hy => ?_) (fun y hy => by simp only [List.mem_singleton] at hy; subst hy; exact h1) (by omega) (by simp; omega) ?_
  · obtain rfl := Option.some.inj e
    rcases j with _ | j
    · simp only [List.getElem?_cons_zero, Option.some.injEq] at hy
      subst hy
      rw [Addr.add_lit]
      exact (Blk.new w 28 #[u]).cell 0
    · simp at hy
  · intro v' w' h2 h3 h5
    refine h v' w' h2 ⟨h3.os, h3.tape, h3.output, by have := h3.size; simp at this; omega, fun k hk hne => ?_⟩ (by simpa using h5)
    rw [h3.block k (by simp; omega) hne]
    exact Below.heap_alloc w _ k hk
theorem step_boxN (w : World) {o : Oper} {a : Act} {K' : Act → World → Prop} {Q : Exit → Act → World → Prop} (x : Operand)
    (ho : o.op = .buildSlice 30 1 #[(0, x)]) (A : Option Addr) (n c : Nat) (hx : a.eval x = .slice A n c)
    (h : K' (a.put o.dst (.slice (some ⟨w.heap.size, 0, none⟩) 1 1)) (w.alloc (.cells #[.slice A n c] 28))) : o.wp Try.prog a w K' Q := by
  obtain ⟨i0, hi, hz0, hz1, hz2⟩ := info_parts Try.infoN
  refine wp_buildSlice 30 28 1 #[(0, x)] ho #[.slice A n c] i0 _ Try.underlying30 hi hz0 (by rw [hz1]; decide) (by rw [hz1]; decide) ?_ h
  rw [hz1]
  simp only [List.map_toArray, List.map_cons, List.map_nil, hx]
  exact fill_N A n c
theorem wpList_boxN (w : World) {ops : Array Oper} {rest : List Oper} {o : Oper} {a : Act} {Q : Exit → Act → World → Prop} (hgd : o.guard = none) (x : Operand)
    (ho : o.op = .buildSlice 30 1 #[(0, x)]) (A : Option Addr) (n c : Nat) (hx : a.eval x = .slice A n c)
    (h : wpList Try.prog ops Q rest (a.put o.dst (.slice (some ⟨w.heap.size, 0, none⟩) 1 1)) (w.alloc (.cells #[.slice A n c] 28))) : wpList Try.prog ops Q (o :: rest) a w :=
  wpList_plain hgd fun _ hQ => step_boxN w x ho A n c hx (hQ _ _ h)
end Go.Proofs.Ytlkkkifilgnhmaa

/- Rows of one's own, whatever their elements. It proves no statement. -/

namespace Go.Proofs.Ytlkkkifilgnhmaa
open Go.RowKit
set_option linter.unusedVariables false
set_option linter.unusedSimpArgs false

theorem own_formB {e : TypeId} {base : Nat} {v : Value} {xs : List Value} {w : World} {n : Nat} (h : w.ownsRow base e 1 v n xs) :
    ∃ A c, v = .slice A n c ∧ n ≤ c ∧ c ≤ 9223372036854775807 ∧ (A = none → n = 0 ∧ c = 0) := by
  rcases h.2 with ⟨rfl, rfl⟩ | ⟨g, cap, cur, rfl, _, _, hnc, hm, _⟩
  · exact ⟨none, 0, rfl, Nat.le_refl _, by omega, fun _ => ⟨rfl, rfl⟩⟩
  · exact ⟨_, cap, rfl, hnc, by unfold maxLen at hm; omega, fun e => by cases e⟩
theorem own_grown {a b : World} {r : Option Nat} (h : a.grownBy b r) {base z n : Nat} {e : TypeId} {v : Value} {xs : List Value} (ho : a.ownsRow base e z v n xs) (hr : ∀ k, v.ownBlock = some k → r ≠ some k) : b.ownsRow base e z v n xs := by
  refine ⟨ho.1, ?_⟩
  rcases ho.2 with h0 | ⟨g, c, cur, h1, h2, h3, h4⟩
  · exact .inl h0
  · subst h1
    exact .inr ⟨g, c, cur, rfl, h2, (h.block g (Array.getElem?_eq_some_iff.1 h3).1 (fun e => hr g rfl e.symm)).trans h3, h4⟩
/-- A row of one's own grows: what lies below stays. -/
theorem own_block_ge {wr : World} {lo : Nat} {e : TypeId} {n : Nat} {v : Value} {xs : List Value} (o : wr.ownsRow lo e 1 v n xs) (k : Nat) (hk : v.ownBlock = some k) : lo ≤ k := by
  rcases o.2 with ⟨e, _⟩ | ⟨g, cp, cur, e, hg, _⟩
  · rw [e] at hk; simp [Value.ownBlock] at hk
  · rw [e] at hk; simp [Value.ownBlock] at hk; omega
theorem still_push {w wr w' : World} {lo : Nat} {e : TypeId} {n : Nat} {v : Value} {xs : List Value} (s : Still w wr) (o : wr.ownsRow lo e 1 v n xs) (hlo : w.heap.size ≤ lo) (g : wr.grownBy w' v.ownBlock) : Still w w' :=
  s.grown g s.size (fun k hk => Nat.le_trans hlo (own_block_ge o k hk))
theorem low_push {wr w' : World} {lo : Nat} {e : TypeId} {n : Nat} {v : Value} {xs : List Value} (o : wr.ownsRow lo e 1 v n xs) (g : wr.grownBy w' v.ownBlock) (k : Nat) (hk : k < lo) (hk2 : k < wr.heap.size) : w'.heap[k]? = wr.heap[k]? :=
  g.block k hk2 (fun e => by have := own_block_ge o k e.symm; omega)
theorem still_own {w w' : World} {base z n : Nat} {e : TypeId} {v : Value} {xs : List Value} (ho : w.ownsRow base e z v n xs) (s : Still w w') : w'.ownsRow base e z v n xs :=
  own_grown (r := none) ⟨s.os, s.tape, s.output, s.size, fun k hk _ => s.block k hk⟩ ho (fun k _ e => by cases e)
theorem own_block_lt {wr : World} {lo : Nat} {e : TypeId} {n : Nat} {v : Value} {xs : List Value} (o : wr.ownsRow lo e 1 v n xs) (k : Nat) (hk : v.ownBlock = some k) : k < wr.heap.size := by
  rcases o.2 with ⟨e, _⟩ | ⟨g, cp, cur, e, _, hg, _⟩
  · rw [e] at hk; simp [Value.ownBlock] at hk
  · rw [e] at hk; simp [Value.ownBlock] at hk
    have := (Array.getElem?_eq_some_iff.1 hg).1
    omega
theorem own_base {w : World} {lo base z n : Nat} {e : TypeId} {v : Value} {xs : List Value} (h : w.ownsRow base e z v n xs) (hlo : lo ≤ base) : w.ownsRow lo e z v n xs := by
  refine ⟨h.1, ?_⟩
  rcases h.2 with h0 | ⟨g, c, cur, h1, h2, h3⟩
  · exact .inl h0
  · exact .inr ⟨g, c, cur, h1, Nat.le_trans hlo h2, h3⟩
theorem own_at {w : World} {base M c : Nat} {e : TypeId} {A : Option Addr} {xs : List Value} (h : w.ownsRow base e 1 (.slice A M c) M xs) (i : Nat) (hi : i < M) (x : Value) (hx : xs[i]? = some x) : ∃ g, A = some ⟨g, 0, none⟩ ∧ w.cell? ⟨g, i, none⟩ = some x := by
  rcases h.2 with ⟨_, h0⟩ | ⟨g, cp, cur, hv, hg, hb, _⟩
  · omega
  · injection hv with hv1
    subst hv1
    exact ⟨g, rfl, (h.cellAt i (by have := h.1; omega)).trans hx⟩
end Go.Proofs.Ytlkkkifilgnhmaa

/- Rows of names; the document's Same of two that are alike. It proves no statement. -/

namespace Go.Proofs.Ytlkkkifilgnhmaa
open Go.RowKit Go.Maps Go.WideMaps
set_option linter.unusedVariables false
set_option linter.unusedSimpArgs false

/-- Rows of names that can be read. -/
def NamesR (w : World) (A : Option Addr) (n : Nat) (N : NT) : Prop := N.length = n ∧ (0 < n → ∃ b o, A = some ⟨b, o, none⟩ ∧ b < w.heap.size ∧ ∀ i p, N[i]? = some p → w.cell? ⟨b, o + i, none⟩ = some (.string ⟨p.1.toArray⟩))
theorem NamesR.still {w w' : World} {A : Option Addr} {n : Nat} {N : NT} (h : NamesR w A n N) (s : Still w w') : NamesR w' A n N :=
  ⟨h.1, fun hn => by
    obtain ⟨b, o, e, hb, hc⟩ := h.2 hn
    exact ⟨b, o, e, Nat.lt_of_lt_of_le hb s.size, fun i p hp => (s.cell (p := ⟨b, o + i, none⟩) hb).trans (hc i p hp)⟩⟩
theorem NamesR.of_own {w : World} {base n c : Nat} {A : Option Addr} {N : NT} (h : w.ownsRow base 9 1 (.slice A n c) n (namesV N)) : NamesR w A n N := by
  have hl : N.length = n := by have := h.1; rw [namesV_length] at this; omega
  refine ⟨hl, fun hn => ?_⟩
  rcases h.2 with ⟨_, h0⟩ | ⟨g, cp, cur, hv, hg, hb, _⟩
  · omega
  · injection hv with hv1
    subst hv1
    refine ⟨g, 0, rfl, (Array.getElem?_eq_some_iff.1 hb).1, fun i p hp => ?_⟩
    have hi : i < N.length := (List.getElem?_eq_some_iff.1 hp).1
    rw [Nat.zero_add, h.cellAt i (by omega)]
    exact namesV_get N i p hp
set_option maxRecDepth 100000 in
set_option maxHeartbeats 1600000 in
/-- The document's Same of two rows of names that are alike. -/
theorem names_same (A A' : Option Addr) (n c c' : Nat) (N : NT) (w : World) (h : NamesR w A n N) (h' : NamesR w A' n N) (hn : n ≤ 70368744177664) :
    Calls Try.prog 11 #[.slice A n c, .slice A' n c'] w fun e w' => e = .returned (.bool true) ∧ ∃ m, w' = w.drewN m := by
  have HH := Lib.hid h
  have HH' := Lib.hid h'
  clear h h'
  go_enter Try.func11, Try.ntmps11
  go_wp2_with fail
  go_loopw [5] (fun iv wr => ∃ k : Nat, k ≤ n ∧ iv = .int .i64 k ∧ Hid (∃ m, wr = w.drewN m)) (fun iv _ => n - (intOf iv).toNat)
  case atStart => exact ⟨0, Nat.zero_le _, rfl, 0, rfl⟩
  case round =>
    obtain ⟨k, hk, rfl, hin⟩ := hrel
    obtain ⟨mm, hwm⟩ := hin.out
    have st : Still w wr := by rw [hwm]; exact still_drewN (Still.refl w) mm
    have HWM := Lib.hid hwm
    have hr := HH.out.still st
    have hr' := HH'.out.still st
    clear hwm st
    by_cases hlt : k < n
    · obtain ⟨b, o, rfl, hb, hc⟩ := hr.2 (by omega)
      obtain ⟨b', o', rfl, hb', hc'⟩ := hr'.2 (by omega)
      obtain ⟨pp, hp⟩ : ∃ pp, N[k]? = some pp := ⟨_, List.getElem?_eq_getElem (by rw [hr.1]; exact hlt)⟩
      have d1 := hc k _ hp
      have d2 := hc' k _ hp
      obtain ⟨X, hX⟩ : ∃ X : ByteArray, X = ⟨pp.1.toArray⟩ := ⟨_, rfl⟩
      rw [← hX] at d1 d2
      have z1 : (0 : Int) ≤ (k : Int) := by omega
      have z2 : (k : Int) < (n : Int) := by omega
      have HLT := Lib.hid hlt
      clear hc hc' hb hb' hlt hr hr' hp hX
      go_wp2_with fail
      go_quiet (fail)
      go_wp2_with fail
      go_roundw
      case rel => exact ⟨k + 1, by have := HLT.out; omega, by go_num, mm + nq, by rw [HWM.out, World.drewN_drewN]⟩
      case measure => simp [intOf]; have := HLT.out; omega
    · obtain rfl : k = n := by omega
      clear hr hr'
      go_wp2_with fail
      go_ret
      exact ⟨rfl, mm, HWM.out⟩
end Go.Proofs.Ytlkkkifilgnhmaa

/- Contract: the document's Same of two rows of names, whatever they are. It proves no statement. -/

namespace Go.Proofs.Ytlkkkifilgnhmaa
open Go.RowKit Go.Maps Go.WideMaps
set_option linter.unusedVariables false
set_option linter.unusedSimpArgs false

/-- A row of names as texts. -/
def nmT (N : NT) (i : Nat) : ByteArray := ((N[i]?).map fun p => (⟨p.1.toArray⟩ : ByteArray)).getD ⟨#[]⟩
/-- Whether two rows have the same names. -/
def sameN (N N' : NT) : Bool := decide (N.length = N'.length) && (List.range N.length).all fun i => decide (nmT N i = nmT N' i)
theorem bytes_ne {X Y : ByteArray} (h : ¬X = Y) : (X.toList == Y.toList) = false := by
  rw [beq_eq_false_iff_ne, ByteArray.toList_eq, ByteArray.toList_eq]
  exact fun e => h (ByteArray.ext (Array.ext' e))
theorem sameN_self (N : NT) : sameN N N = true := by
  unfold sameN
  simp
theorem NamesR.cell {w : World} {A : Option Addr} {n : Nat} {N : NT} {b o : Nat} (h : NamesR w (some ⟨b, o, none⟩) n N) {i : Nat} (hi : i < n) : w.cell? ⟨b, o + i, none⟩ = some (.string (nmT N i)) := by
  obtain ⟨b', o', e, _, hc⟩ := h.2 (by omega)
  have e1 : b = b' ∧ o = o' := by
    injection e with e
    injection e with e1 e2
    exact ⟨e1, e2⟩
  obtain ⟨rfl, rfl⟩ := e1
  obtain ⟨p, hp⟩ : ∃ p, N[i]? = some p := ⟨_, List.getElem?_eq_getElem (by rw [h.1]; exact hi)⟩
  rw [hc i p hp]
  unfold nmT
  rw [hp]
  rfl
set_option maxRecDepth 100000 in
set_option maxHeartbeats 1600000 in
theorem names_eq (A A' : Option Addr) (n n' c c' : Nat) (N N' : NT) (w : World) (h : NamesR w A n N) (h' : NamesR w A' n' N') (hn : n ≤ 70368744177664) (hn' : n' ≤ 70368744177664) :
    Calls Try.prog 11 #[.slice A n c, .slice A' n' c'] w fun e w' => e = .returned (.bool (sameN N N')) ∧ ∃ m, w' = w.drewN m := by
  have h1 := h.1
  have h2 := h'.1
  by_cases hlen : n = n'
  · subst hlen
    obtain ⟨q, hq⟩ : ∃ q, q = sameN N N' := ⟨_, rfl⟩
    rw [← hq]
    have HQ := Lib.hid hq
    have HL := Lib.hid (⟨h1, h2⟩ : N.length = n ∧ N'.length = n)
    have HH := Lib.hid h
    have HH' := Lib.hid h'
    clear hq h1 h2 h h' hn'
    go_enter Try.func11, Try.ntmps11
    go_wp2_with fail
    go_loopw [5] (fun iv wr => ∃ k : Nat, k ≤ n ∧ iv = .int .i64 k ∧ Hid ((∀ i, i < k → nmT N i = nmT N' i) ∧ ∃ m, wr = w.drewN m)) (fun iv _ => n - (intOf iv).toNat)
    case atStart => exact ⟨0, Nat.zero_le _, rfl, fun i hi => by omega, 0, rfl⟩
    case round =>
      obtain ⟨k, hk, rfl, hin⟩ := hrel
      obtain ⟨mm, hwm⟩ := hin.out.2
      have st : Still w wr := by rw [hwm]; exact still_drewN (Still.refl w) mm
      have HWM := Lib.hid hwm
      have hr := HH.out.still st
      have hr' := HH'.out.still st
      clear hwm st
      by_cases hlt : k < n
      · obtain ⟨b, o, rfl, _⟩ := hr.2 (by omega)
        obtain ⟨b', o', rfl, _⟩ := hr'.2 (by omega)
        have d1 := hr.cell (A := none) hlt
        have d2 := hr'.cell (A := none) hlt
        obtain ⟨X, hX⟩ : ∃ X, X = nmT N k := ⟨_, rfl⟩
        obtain ⟨Y, hY⟩ : ∃ Y, Y = nmT N' k := ⟨_, rfl⟩
        rw [← hX] at d1
        rw [← hY] at d2
        have HX := Lib.hid hX
        have HY := Lib.hid hY
        have HLT := Lib.hid hlt
        have z1 : (0 : Int) ≤ (k : Int) := by omega
        have z2 : (k : Int) < (n : Int) := by omega
        clear hlt hr hr' hX hY
        by_cases hXY : X = Y
        · subst hXY
          go_wp2_with fail
          go_quiet (fail)
          go_wp2_with fail
          go_roundw
          case rel =>
            refine ⟨k + 1, by have := HLT.out; omega, by go_num, Lib.hid ⟨fun i hi => ?_, mm + nq, by rw [HWM.out, World.drewN_drewN]⟩⟩
            by_cases h : i = k
            · rw [h, ← HX.out, ← HY.out]
            · exact hin.out.1 i (by omega)
          case measure => simp [intOf]; have := HLT.out; omega
        · have hq : q = false := by
            rw [HQ.out]
            unfold sameN
            rw [Bool.and_eq_false_iff]
            refine .inr ?_
            rw [List.all_eq_false]
            exact ⟨k, List.mem_range.2 (by rw [HL.out.1]; exact HLT.out), by rw [← HX.out, ← HY.out]; simpa using hXY⟩
          have HNE := Lib.hid hq
          have b1 := bytes_ne hXY
          have b2 : (!X.toList == Y.toList) = true := by rw [b1]; rfl
          clear hq
          go_wp2_with fail
          go_quiet (fail)
          go_wp2_with fail
          (try simp only [Exit.inBlock, Exit.then])
          go_ret
          rw [HNE.out]
          exact ⟨rfl, mm + nq, by rw [HWM.out, World.drewN_drewN]⟩
      · obtain rfl : k = n := by omega
        have hq : q = true := by
          rw [HQ.out]
          unfold sameN
          simp only [Bool.and_eq_true, decide_eq_true_eq, List.all_eq_true, List.mem_range]
          exact ⟨HL.out.1.trans HL.out.2.symm, fun i hi => hin.out.1 i (by rw [← HL.out.1]; exact hi)⟩
        have HNE := Lib.hid hq
        clear hq hlt hr hr'
        go_wp2_with fail
        go_ret
        rw [HNE.out]
        exact ⟨rfl, mm, HWM.out⟩
  · have hq : sameN N N' = false := by
      unfold sameN
      rw [Bool.and_eq_false_iff]
      exact .inl (by simp; omega)
    rw [hq]
    have d : ((n : Int) != (n' : Int)) = true := by simp; omega
    clear hlen h h' h1 h2 hn hn' hq
    go_enter Try.func11, Try.ntmps11
    go_wp2_with fail
    (try simp only [Exit.inBlock, Exit.then])
    go_ret
    exact ⟨rfl, 0, rfl⟩
end Go.Proofs.Ytlkkkifilgnhmaa
