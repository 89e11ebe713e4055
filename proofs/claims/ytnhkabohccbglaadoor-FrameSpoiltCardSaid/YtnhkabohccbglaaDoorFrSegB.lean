/- The bytes of a segment that grows: the constant that it begins with, and a row of one's own behind it. It proves no statement. -/
import Derived.Test.YtnhkabohccbglaaDoorFrScan
import Derived.Test.YtnhkabohccbglaaDoorAdds
namespace Go.Proofs.YtnhkabohccbglaaDoor
open Go.RowKit
set_option linter.unusedVariables false

/-- The constant's bytes, or a row of one's own. -/
def BRow (W : World) (base : Nat) (bv : Value) (l : List UInt8) : Prop :=
  (∃ g, bv = .slice (some ⟨g, 0, none⟩) 8 8 ∧ l = magic ∧ base ≤ g ∧ W.heap[g]? = some (.cells (bytesV magic).toArray 5 (8, 9))) ∨ W.ownsRow base 5 1 bv l.length (bytesV l)
theorem BRow.form {W : World} {base : Nat} {bv : Value} {l : List UInt8} (h : BRow W base bv l) : ∃ A c, bv = .slice A l.length c ∧ l.length ≤ c ∧ c ≤ 9223372036854775807 := by
  rcases h with ⟨g, rfl, rfl, _, _⟩ | h
  · exact ⟨_, 8, rfl, by decide, by decide⟩
  · obtain ⟨A, c, e, h1, h2, _⟩ := own_form h
    exact ⟨A, c, e, h1, h2⟩
theorem BRow.reads {W : World} {base : Nat} {A : Option Addr} {n c : Nat} {l : List UInt8} (h : BRow W base (.slice A n c) l) : Reads W W.heap.size A n l := by
  rcases h with ⟨g, e, rfl, hb, hg⟩ | h
  · injection e with e1 e2 e3
    subst e1
    subst e2
    have hlt : g < W.heap.size := (Array.getElem?_eq_some_iff.1 hg).1
    refine ⟨rfl, fun hn => ⟨g, 0, rfl, hlt, fun i hi => ?_⟩⟩
    rw [Nat.zero_add, cell_of_row _ g i _ _ (8, 9) hg]
    have := bytesV_get magic i hi
    simpa using this
  · obtain ⟨_, _, e, _⟩ := own_form h
    injection e with e1 e2 e3
    subst e2
    exact Reads.of_own h
theorem BRow.kept {W W' : World} {base base' z n : Nat} {bv v : Value} {l : List UInt8} {e : TypeId} {xs : List Value} (h : BRow W base bv l) (h' : W.ownsRow base' e z v n xs) (ne : 5 ≠ e) (gr : W.grownBy W' v.ownBlock) : BRow W' base bv l := by
  rcases h with ⟨g, h1, h2, h3, h4⟩ | h
  · refine .inl ⟨g, h1, h2, h3, ?_⟩
    rw [gr.block g (Array.getElem?_eq_some_iff.1 h4).1 (fun q => ?_)]
    · exact h4
    · rcases h'.2 with ⟨rfl, _⟩ | ⟨g', cap', cur', rfl, _, hg', _⟩
      · cases q
      · have q' : g = g' := by simpa [Value.ownBlock] using q
        subst q'
        rw [h4] at hg'
        simp only [Option.some.injEq, Obj.cells.injEq] at hg'
        exact ne hg'.2.1
  · exact .inr (own_apart h h' ne gr)
theorem BRow.still {W W' : World} {base : Nat} {bv : Value} {l : List UInt8} (h : BRow W base bv l) (s : Still W W') : BRow W' base bv l := by
  rcases h with ⟨g, h1, h2, h3, h4⟩ | h
  · exact .inl ⟨g, h1, h2, h3, by rw [s.block g (Array.getElem?_eq_some_iff.1 h4).1]; exact h4⟩
  · exact .inr (own_still h s)
theorem BRow.low {W : World} {base : Nat} {bv : Value} {l : List UInt8} (h : BRow W base bv l) : ∀ k, bv.ownBlock = some k → base ≤ k := by
  rcases h with ⟨g, rfl, _, h3, _⟩ | h
  · intro k hk
    have : g = k := by simpa [Value.ownBlock] using hk
    omega
  · exact fun k hk => (h.lt k hk).1
theorem run_addsB (w : World) (ty : TypeId) (base : Nat) (v : Value) (l : List UInt8) (hown : BRow w base v l) (A : Option Addr) (n' c' : Nat) (B : Nat) (l' : List UInt8)
    (hr : Reads w B A n' l') (h0 : 0 < n') (hn : l.length + n' ≤ 140737488355328) (hbase : base ≤ w.heap.size) :
    ∃ v' w', (Builtin.append_ #[24, 24] ty #[v, .slice A n' c']).run Tryd.prog w = .ok v' w' ∧ BRow w' base v' (l ++ l') ∧ w.grownBy w' v.ownBlock := by
  obtain ⟨b, o, hA, _⟩ := hr.2 h0
  rcases hown with ⟨g, rfl, rfl, hb, hg⟩ | hown
  · subst hA
    obtain ⟨i, hi, hz0, hz1, hz2⟩ := info_parts Tryd.infoByte
    have hnews : ∀ j u, (bytesV l')[j]? = some u → w.cell? ((⟨b, o, none⟩ : Addr).add j) = some u := fun j u hu => hr.news _ rfl h0 j u hu
    have holds : ∀ j u, (bytesV magic)[j]? = some u → w.cell? ((⟨g, 0, none⟩ : Addr).add j) = some u := fun j u hu => by
      rw [Addr.add_lit, Nat.zero_add, cell_of_row _ g j _ _ (8, 9) hg]
      simpa using hu
    have h63 : 8 + n' ≤ maxLen := by unfold maxLen; have : magic.length = 8 := rfl; omega
    have h8 : magic.length = 8 := rfl
    have hbytes : (8 + n') * i.bytes ≤ 140737488355328 := by rw [hz2]; omega
    have hr2 := run_append_grow (P := Tryd.prog) w 24 ty 5 i (.int .u8 0) Tryd.underlying24 hi hz0 ⟨g, 0, none⟩ 8 8 (bytesV magic) (by rw [hz1]; rfl) holds ⟨b, o, none⟩ n' c' (bytesV l') (by rw [hz1, bytesV_length, hr.1]; omega) hnews (by omega) (by unfold maxLen at h63; omega) (growslice_fits (by omega) hbytes)
    have hge := grownCap_ge w (8 + n') 8 5
    have hcm2 : grownCap w (8 + n') 8 5 ≤ maxLen := grownCap_le_maxLen w (8 + n') 8 5 h63
    have hl1 := hr.1
    refine ⟨_, _, hr2, .inr ⟨?_, .inr ⟨w.heap.size, _, _, ?_, hbase, heap_alloc_new w.drew _, ?_, hcm2, ?_, ?_⟩⟩, ⟨rfl, rfl, rfl, by simp, fun k hk _ => heap_alloc_old w.drew _ hk⟩⟩
    · rw [bytesV_length, Nat.mul_one]
    · rw [List.length_append, h8, hl1]
    · rw [List.length_append, h8, hl1]; exact hge
    · have hc1 : (Value.int IntKind.u8 0).cells.size = 1 := rfl
      simp only [Array.size_append, List.size_toArray, size_zeroCells, bytesV_length, hl1]
      rw [hc1, Nat.mul_one, h8]
      omega
    · simp only [Array.toList_append, List.append_assoc]
      rw [bytesV_append, ← List.append_assoc]
      refine List.take_left' ?_
      simp [bytesV_length]
  · obtain ⟨v', w', hrun, h2, h3, _⟩ := run_adds_at w ty base v l.length l hown A n' c' B l' hr (fun e => by rw [hA] at e; cases e) hn hbase
    exact ⟨v', w', hrun, .inr (by rw [List.length_append, hr.1]; exact h2), h3⟩
theorem wpList_addsB (w : World) {ops : Array Oper} {rest : List Oper} {o : Oper} {a : Act} {Q : Exit → Act → World → Prop} (hgd : o.guard = none) (s x : Operand)
    (ho : o.op = .call { callee := .builtin .append, args := #[s, x], argTypes := #[24, 24] })
    (base : Nat) (v : Value) (l : List UInt8) (hs : a.eval s = v) (hown : BRow w base v l) (A : Option Addr) (n' c' : Nat) (B : Nat) (l' : List UInt8)
    (hx : a.eval x = .slice A n' c') (hr : Reads w B A n' l') (h0 : 0 < n') (hn : l.length + n' ≤ 140737488355328) (hbase : base ≤ w.heap.size)
    (h : ∀ v' w', BRow w' base v' (l ++ l') → w.grownBy w' v.ownBlock → wpList Tryd.prog ops Q rest (a.put o.dst v') w') :
    wpList Tryd.prog ops Q (o :: rest) a w := by
  refine wpList_plain hgd fun K hK => ?_
  obtain ⟨v', w', hrun, h2, h3⟩ := run_addsB w o.type base v l hown A n' c' B l' hr h0 hn hbase
  unfold Oper.wp execOp
  simp only [ho, resolve, invoke, builtin, Sem.run_bind, Sem.run_pure, Result.andThen_ok, List.map_toArray, List.map_cons, List.map_nil, hs, hx, hrun]
  exact hK _ _ (h v' w' h2 h3)
end Go.Proofs.YtnhkabohccbglaaDoor
