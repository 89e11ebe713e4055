/- Slices of words of 32 bits that the call owns: one word more. It proves no statement. -/
import Derived.Test.YtambpgfmnbkhdaaDoorShaFact
namespace Go.Proofs.YtambpgfmnbkhdaaDoor
open Go.RowKit
set_option linter.unusedVariables false
set_option linter.unusedSimpArgs false

theorem Tryd.infoWord : (Tryd.prog.info? 46).map (fun i => (i.zero, i.size, i.bytes)) = some (some (.int .u32 0), 1, 4) := by kernel_rfl

theorem wpList_push4 (w : World) {ops : Array Oper} {rest : List Oper} {o : Oper} {a : Act} {Q : Exit → Act → World → Prop} (hgd : o.guard = none) (s x : Operand)
    (ho : o.op = .call { callee := .builtin .append, args := #[s, x], argTypes := #[52, 52] })
    (base : Nat) (v : Value) (n : Nat) (l : List Nat) (hs : a.eval s = v) (hown : w.ownsRow base 46 1 v n (w32 l)) (e : Int) (b : Nat)
    (hx : a.eval x = .slice (some ⟨w.heap.size, 0, none⟩) 1 1) (he : e = (b : Int)) (hn : n < 35184372088831) (hbase : base ≤ w.heap.size)
    (h : ∀ v' w', w'.ownsRow base 46 1 v' (n + 1) (w32 (l ++ [b])) → w.grownBy w' v.ownBlock → wpList Tryd.prog ops Q rest (a.put o.dst v') w') :
    wpList Tryd.prog ops Q (o :: rest) a (w.alloc (.cells #[.int .u32 e] 46)) := by
  obtain ⟨i0, hi, hz0, hz1, hz2⟩ := info_parts Tryd.infoWord
  subst he
  refine wpList_append_own _ hgd s x 52 ho base 46 i0 (.int .u32 0) 1 4 Tryd.underlying52 hi hz0 hz1 hz2 rfl (by decide) v n _ hs (hown.alloc _) ⟨w.heap.size, 0, none⟩ 1 1 (w32 [b]) hx rfl ?_ (w32_one _) (by unfold maxLen; omega) (by omega) (by simp; omega) ?_
  · intro j u hu
    match j, hu with
    | 0, hu => simp [w32] at hu; subst hu; simp [Addr.add]
  · intro v' w' h2 h3 h4
    rw [← w32_append] at h2
    refine h v' w' h2 ⟨h3.os, h3.tape, h3.output, by have := h3.size; simp at this; omega, fun k hk hne => ?_⟩
    rw [h3.block k (by simp; omega) hne]
    exact Below.heap_alloc w _ k hk
/-- 'append(l, x)' of a word that lies in a box: the words that were there stay where they were, too. -/
theorem run_push4 (w : World) (ty : TypeId) (base : Nat) (v : Value) (n : Nat) (l : List Nat) (hown : w.ownsRow base 46 1 v n (w32 l)) (g : Nat) (b : Nat)
    (hc : w.cell? ⟨g, 0, none⟩ = some (.int .u32 (b : Int))) (hn : n < 35184372088831) (hbase : base ≤ w.heap.size) :
    ∃ v' w', (Builtin.append_ #[52, 52] ty #[v, .slice (some ⟨g, 0, none⟩) 1 1]).run Tryd.prog w = .ok v' w' ∧ w'.ownsRow base 46 1 v' (n + 1) (w32 (l ++ [b])) ∧ w.grownBy w' v.ownBlock ∧
      (∀ g' n' c', v = .slice (some ⟨g', 0, none⟩) n' c' → ∀ j, j < n → w'.cell? ⟨g', j, none⟩ = w.cell? ⟨g', j, none⟩) := by
  obtain ⟨i0, hi, hz0, hz1, hz2⟩ := info_parts Tryd.infoWord
  have hnews : ∀ j u, (w32 [b])[j]? = some u → w.cell? ((⟨g, 0, none⟩ : Addr).add j) = some u := fun j u hu => by
    match j, hu with
    | 0, hu => simp [w32] at hu; subst hu; simpa [Addr.add] using hc
  obtain ⟨v', w', hrun, h2, h3, _, h5⟩ := run_append_own_at (P := Tryd.prog) w base 52 ty 46 i0 (.int .u32 0) 1 4 Tryd.underlying52 hi hz0 hz1 hz2 rfl (by decide) v n _ hown ⟨g, 0, none⟩ 1 1 (w32 [b]) rfl hnews (w32_one _) (by unfold maxLen; omega) (by omega) hbase
  rw [← w32_append] at h2
  refine ⟨v', w', hrun, h2, h3, fun g' n' c' hv j hj => ?_⟩
  subst hv
  rcases hown.2 with ⟨h0, _⟩ | ⟨g2, cap, cur, hv, hbg, hg, hnc, hcm, hcs, htake⟩
  · cases h0
  · injection hv with e1 e2 e3
    cases e1
    subst e2 e3
    have hlt : g' < w.heap.size := (Array.getElem?_eq_some_iff.1 hg).1
    by_cases hroom : n' + 1 ≤ c'
    · have hr := run_append_room (P := Tryd.prog) w 52 ty 46 i0 Tryd.underlying52 hi g' n' c' cur hg ⟨g, 0, none⟩ 1 1 (w32 [b]) (by simp [w32, hz1]) hnews (w32_one _) hroom (by rw [hcs, hz1]; simp [w32]; omega)
      rw [hrun] at hr
      injection hr with hv hw
      subst hv
      have a1 := h2.cellAt j (by omega)
      have a2 := hown.cellAt j (by omega)
      have hl : l.length = n' := by have := hown.1; rw [w32_length] at this; omega
      rw [a1, a2, w32_get _ _ (by simp; omega), w32_get _ _ (by omega)]
      simp [List.getD, List.getElem?_append_left (show j < l.length by omega)]
    · have hr := run_append_grow (P := Tryd.prog) w 52 ty 46 i0 (.int .u32 0) Tryd.underlying52 hi hz0 ⟨g', 0, none⟩ n' c' _ (by rw [hown.1, hz1]) (hown.cells (g := g') rfl) ⟨g, 0, none⟩ 1 1 (w32 [b]) (by simp [w32, hz1]) hnews (by omega) (by omega) (growslice_fits (by omega) (by rw [hz2]; omega))
      rw [hrun] at hr
      injection hr with hv hw
      rw [hw]
      exact World.cell?_alloc_lt _ _ _ hlt
/-- The same at a step of a region that draws its order; the new word lies in a box of its own. -/
theorem step_push4 (w : World) {ops : Array Oper} {o : Oper} {a : Act} {K : Act → World → Prop} {Q : Exit → Act → World → Prop} {E : Prop} (hgd : o.guard = none) (s x : Operand)
    (ho : o.op = .call { callee := .builtin .append, args := #[s, x], argTypes := #[52, 52] })
    (base : Nat) (v : Value) (n : Nat) (l : List Nat) (hs : a.eval s = v) (hown : w.ownsRow base 46 1 v n (w32 l)) (g : Nat) (b : Nat)
    (hx : a.eval x = .slice (some ⟨g, 0, none⟩) 1 1) (hc : w.cell? ⟨g, 0, none⟩ = some (.int .u32 (b : Int))) (hn : n < 35184372088831) (hbase : base ≤ w.heap.size)
    (h : ∀ v' w', w'.ownsRow base 46 1 v' (n + 1) (w32 (l ++ [b])) → w.grownBy w' v.ownBlock → (∀ g' n' c', v = .slice (some ⟨g', 0, none⟩) n' c' → ∀ j, j < n → w'.cell? ⟨g', j, none⟩ = w.cell? ⟨g', j, none⟩) → K (a.put o.dst v') w') :
    if Region.wanted o (yielded ops a.tmps) = true then Oper.wp Tryd.prog o a w K Q else E := by
  have hw : Region.wanted o (yielded ops a.tmps) = true := by simp [Region.wanted, hgd]
  rw [if_pos hw]
  obtain ⟨v', w', hrun, h2, h3, h4⟩ := run_push4 w o.type base v n l hown g b hc hn hbase
  unfold Oper.wp execOp
  simp only [ho, resolve, invoke, builtin, Sem.run_bind, Sem.run_pure, Result.andThen_ok, List.map_toArray, List.map_cons, List.map_nil, hs, hx, hrun]
  exact h v' w' h2 h3 h4
/-- A slice of words that reads. -/
def Reads4 (w : World) (B : Nat) (A : Option Addr) (n : Nat) (l : List Nat) : Prop :=
  l.length = n ∧ ∃ b o, A = some ⟨b, o, none⟩ ∧ b < B ∧ ∀ i, i < n → w.cell? ⟨b, o + i, none⟩ = some (Value.int .u32 (l.getD i 0 : Nat))
theorem Reads4.still {w w' : World} {B n : Nat} {A : Option Addr} {l : List Nat} (h : Reads4 w B A n l) (hB : B ≤ w.heap.size) (hs : Still w w') : Reads4 w' B A n l := by
  obtain ⟨h1, b, o, e, hb, hc⟩ := h
  exact ⟨h1, b, o, e, hb, fun i hi => (hs.cell (p := ⟨b, o + i, none⟩) (Nat.lt_of_lt_of_le hb hB)).trans (hc i hi)⟩
theorem Reads4.of_own {w : World} {base n cap : Nat} {A : Option Addr} {l : List Nat} (h : w.ownsRow base 46 1 (.slice A n cap) n (w32 l)) (hn : 0 < n) : Reads4 w w.heap.size A n l := by
  have hl : l.length = n := by have := h.1; rw [w32_length] at this; omega
  refine ⟨hl, ?_⟩
  rcases h.2 with ⟨_, h0⟩ | ⟨g, c, cur, hv, _, hg, _⟩
  · omega
  · have e : A = some ⟨g, 0, none⟩ := by injection hv
    subst e
    refine ⟨g, 0, rfl, (Array.getElem?_eq_some_iff.1 hg).1, fun i hi => ?_⟩
    have := h.cellAt i (by omega)
    rw [Nat.zero_add, this, w32_get l i (by omega)]
theorem own4_form {w : World} {base n : Nat} {v : Value} {xs : List Value} (h : w.ownsRow base 46 1 v n xs) (hn : 0 < n) :
    ∃ g c, v = .slice (some ⟨g, 0, none⟩) n c ∧ n ≤ c ∧ c ≤ 9223372036854775807 ∧ base ≤ g := by
  rcases h.2 with ⟨rfl, rfl⟩ | ⟨g, cap, cur, rfl, hb, _, hnc, hm, _⟩
  · omega
  · exact ⟨g, cap, rfl, hnc, by unfold maxLen at hm; omega, hb⟩
theorem own4_still {w w' : World} {base n : Nat} {v : Value} {xs : List Value} (h : w.ownsRow base 46 1 v n xs) (hs : Still w w') : w'.ownsRow base 46 1 v n xs := by
  refine h.kept (row := none) ⟨hs.os, hs.tape, hs.output, hs.size, fun k hk _ => hs.block k hk⟩ ?_
  cases v.ownBlock <;> simp
end Go.Proofs.YtambpgfmnbkhdaaDoor
