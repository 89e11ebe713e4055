/- What is found: an entry, where it stands, its size: 36 cells; built, put alone, appended. It proves no statement. -/
import Derived.Test.YtnhkabohccbglaaDoorFrFew
namespace Go.Proofs.YtnhkabohccbglaaDoor
open Go.RowKit
set_option linter.unusedVariables false
set_option linter.unusedSimpArgs false

/-- The cells of an entry found. -/
def foL (t : Int) (K : List UInt8) (v : Value) (at_ n : Int) : List Value := entL t K v ++ [.int .i64 at_, .int .i64 n]
def foV (t : Int) (K : List UInt8) (v : Value) (at_ n : Int) : Array Value := (foL t K v at_ n).toArray
theorem foL_len (t : Int) (K : List UInt8) (v : Value) (at_ n : Int) (h : K.length = 32) : (foL t K v at_ n).length = 36 := by unfold foL; rw [List.length_append, entL_len _ _ _ h]; rfl
theorem foL_one (t : Int) (K : List UInt8) (v : Value) (at_ n : Int) (h : v.oneCell' = true) : ∀ u ∈ foL t K v at_ n, u.oneCell' = true := by
  intro u hu
  unfold foL at hu
  rcases List.mem_append.1 hu with hu | hu
  · exact entL_one t K v h u hu
  · simp only [List.mem_cons, List.not_mem_nil, or_false] at hu
    rcases hu with rfl | rfl <;> rfl
theorem Tryd.infoFo : (Tryd.prog.info? 55).map (fun i => (i.zero, i.size, i.bytes)) = some (some (.agg (foV 0 (List.replicate 32 0) (.slice none 0 0) 0 0)), 36, 80) := by kernel_rfl
set_option maxRecDepth 100000 in
theorem built_fo (t : Int) (K : List UInt8) (hK : K.length = 32) (v : Value) (hv : ∃ A n c, v = .slice A n c) (at_ n : Int) : Tryd.prog.built 55 [(0, .agg (entV t K v)), (1, .int .i64 at_), (2, .int .i64 n)] = some (foV t K v at_ n) := by
  obtain ⟨k0, k1, k2, k3, k4, k5, k6, k7, k8, k9, k10, k11, k12, k13, k14, k15, k16, k17, k18, k19, k20, k21, k22, k23, k24, k25, k26, k27, k28, k29, k30, k31, rfl⟩ := list32 K hK
  obtain ⟨A, n, c, rfl⟩ := hv
  kernel_rfl
set_option maxRecDepth 100000 in
theorem fill_fo (t : Int) (K : List UInt8) (hK : K.length = 32) (v : Value) (hv : ∃ A n c, v = .slice A n c) (at_ n : Int) :
    Instr.fill (fun i => some (i * 36, 36)) ((Array.range (1 * 36)).map ((Value.agg (foV 0 (List.replicate 32 0) (.slice none 0 0) 0 0)).cells[· % (Value.agg (foV 0 (List.replicate 32 0) (.slice none 0 0) 0 0)).cells.size]!)) [(0, .agg (foV t K v at_ n))] = some (foV t K v at_ n) := by
  obtain ⟨k0, k1, k2, k3, k4, k5, k6, k7, k8, k9, k10, k11, k12, k13, k14, k15, k16, k17, k18, k19, k20, k21, k22, k23, k24, k25, k26, k27, k28, k29, k30, k31, rfl⟩ := list32 K hK
  obtain ⟨A, n, c, rfl⟩ := hv
  kernel_rfl
theorem run_buildF (ρ : Operand → Value) (o : Oper) (x y z : Operand) (ho : o.op = .build 55 #[(0, x), (1, y), (2, z)]) (t : Int) (K : List UInt8) (hK : K.length = 32) (v : Value) (hv : ∃ A n c, v = .slice A n c) (at_ n : Int)
    (hx : ρ x = .agg (entV t K v)) (hy : ρ y = .int .i64 at_) (hz : ρ z = .int .i64 n) (W : World) : (execOp ρ o).run Tryd.prog W = .ok (.value (.agg (foV t K v at_ n))) W := by
  have hb := run_build (P := Tryd.prog) W 55 _ _ (built_fo t K hK v hv at_ n)
  unfold execOp
  simp only [ho, Sem.run_bind, List.map_toArray, List.map_cons, List.map_nil, hx, hy, hz, hb, Result.andThen_ok]
  rfl
theorem wpList_buildF {ops : Array Oper} {rest : List Oper} {o : Oper} {a : Act} {Q : Exit → Act → World → Prop} (w : World) (hgd : o.guard = none) (x y z : Operand) (ho : o.op = .build 55 #[(0, x), (1, y), (2, z)])
    (t : Int) (K : List UInt8) (hK : K.length = 32) (v : Value) (hv : ∃ A n c, v = .slice A n c) (at_ n : Int) (hx : a.eval x = .agg (entV t K v)) (hy : a.eval y = .int .i64 at_) (hz : a.eval z = .int .i64 n)
    (h : wpList Tryd.prog ops Q rest (a.put o.dst (.agg (foV t K v at_ n))) w) : wpList Tryd.prog ops Q (o :: rest) a w :=
  Go.Great.wpList_runTo hgd _ rfl _ _ (run_buildF a.eval o x y z ho t K hK v hv at_ n hx hy hz w) h
/-- '[]Found{x}', one operation. -/
theorem step_boxF (w : World) {o : Oper} {a : Act} {K' : Act → World → Prop} {Q : Exit → Act → World → Prop} (x : Operand)
    (ho : o.op = .buildSlice 46 1 #[(0, x)]) (t : Int) (K : List UInt8) (hK : K.length = 32) (v : Value) (hv : ∃ A n c, v = .slice A n c) (at_ n : Int) (hx : a.eval x = .agg (foV t K v at_ n))
    (h : K' (a.put o.dst (.slice (some ⟨w.heap.size, 0, none⟩) 1 1)) (w.alloc (.cells (foV t K v at_ n) 55))) : o.wp Tryd.prog a w K' Q := by
  obtain ⟨i0, hi, hz0, hz1, hz2⟩ := info_parts Tryd.infoFo
  refine wp_buildSlice 46 55 1 #[(0, x)] ho (foV t K v at_ n) i0 _ Tryd.underlying46 hi hz0 (by rw [hz1]; decide) (by rw [hz1]; decide) ?_ h
  rw [hz1]
  simp only [List.map_toArray, List.map_cons, List.map_nil, hx]
  exact fill_fo t K hK v hv at_ n
theorem wpList_boxF (w : World) {ops : Array Oper} {rest : List Oper} {o : Oper} {a : Act} {Q : Exit → Act → World → Prop} (hgd : o.guard = none) (x : Operand)
    (ho : o.op = .buildSlice 46 1 #[(0, x)]) (t : Int) (K : List UInt8) (hK : K.length = 32) (v : Value) (hv : ∃ A n c, v = .slice A n c) (at_ n : Int) (hx : a.eval x = .agg (foV t K v at_ n))
    (h : wpList Tryd.prog ops Q rest (a.put o.dst (.slice (some ⟨w.heap.size, 0, none⟩) 1 1)) (w.alloc (.cells (foV t K v at_ n) 55))) : wpList Tryd.prog ops Q (o :: rest) a w :=
  wpList_plain hgd fun _ hQ => step_boxF w x ho t K hK v hv at_ n hx (hQ _ _ h)
/-- 'append(l, x)', one operation. -/
theorem step_pushF (w : World) {o : Oper} {a : Act} {K : Act → World → Prop} {Q : Exit → Act → World → Prop} (s x : Operand)
    (ho : o.op = .call { callee := .builtin .append, args := #[s, x], argTypes := #[46, 46] })
    (base : Nat) (v : Value) (n : Nat) (xs : List Value) (hs : a.eval s = v) (hown : w.ownsRow base 55 36 v n xs) (gb : Nat) (cs : List Value)
    (hx : a.eval x = .slice (some ⟨gb, 0, none⟩) 1 1) (hc : ∀ q u, cs[q]? = some u → w.cell? ⟨gb, q, none⟩ = some u) (hc6 : cs.length = 36) (h1 : ∀ u ∈ cs, u.oneCell' = true) (hn : n ≤ 1048576) (hbase : base ≤ w.heap.size)
    (h : ∀ v' w', w'.ownsRow base 55 36 v' (n + 1) (xs ++ cs) → w.grownBy w' v.ownBlock → (v'.ownBlock = v.ownBlock ∨ v'.ownBlock = some w.heap.size) → K (a.put o.dst v') w') :
    o.wp Tryd.prog a w K Q := by
  obtain ⟨i0, hi, hz0, hz1, hz2⟩ := info_parts Tryd.infoFo
  obtain ⟨v', w', hrun, h2, h3, _, h5⟩ := run_append_own_at (P := Tryd.prog) w base 46 o.type 55 i0 _ 36 80 Tryd.underlying46 hi hz0 hz1 hz2 rfl (by decide) v n xs hown ⟨gb, 0, none⟩ 1 1 cs (by rw [hc6]) (fun j u hu => by
    rw [Addr.add_mid, Nat.zero_add]; exact hc j u hu) h1 (by unfold maxLen; omega) (by omega) hbase
  unfold Oper.wp execOp
  simp only [ho, resolve, invoke, builtin, Sem.run_bind, Sem.run_pure, Result.andThen_ok, List.map_toArray, List.map_cons, List.map_nil, hs, hx, hrun]
  exact h v' w' h2 h3 h5
theorem wpList_pushF (w : World) {ops : Array Oper} {rest : List Oper} {o : Oper} {a : Act} {Q : Exit → Act → World → Prop} (hgd : o.guard = none) (s x : Operand)
    (ho : o.op = .call { callee := .builtin .append, args := #[s, x], argTypes := #[46, 46] })
    (base : Nat) (v : Value) (n : Nat) (xs : List Value) (hs : a.eval s = v) (hown : w.ownsRow base 55 36 v n xs) (gb : Nat) (cs : List Value)
    (hx : a.eval x = .slice (some ⟨gb, 0, none⟩) 1 1) (hc : ∀ q u, cs[q]? = some u → w.cell? ⟨gb, q, none⟩ = some u) (hc6 : cs.length = 36) (h1 : ∀ u ∈ cs, u.oneCell' = true) (hn : n ≤ 1048576) (hbase : base ≤ w.heap.size)
    (h : ∀ v' w', w'.ownsRow base 55 36 v' (n + 1) (xs ++ cs) → w.grownBy w' v.ownBlock → (v'.ownBlock = v.ownBlock ∨ v'.ownBlock = some w.heap.size) → wpList Tryd.prog ops Q rest (a.put o.dst v') w') :
    wpList Tryd.prog ops Q (o :: rest) a w :=
  wpList_plain hgd fun _ hQ => step_pushF w s x ho base v n xs hs hown gb cs hx hc hc6 h1 hn hbase fun v' w' a b c => hQ _ _ (h v' w' a b c)
end Go.Proofs.YtnhkabohccbglaaDoor
