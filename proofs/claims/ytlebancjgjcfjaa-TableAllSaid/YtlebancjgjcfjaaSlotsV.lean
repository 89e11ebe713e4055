/- Slots as cells in a row. It proves no statement. -/
import Derived.Test.YtlebancjgjcfjaaTbRows
namespace Go.Proofs.Ytlebancjgjcfjaa
open Go.RowKit
set_option linter.unusedVariables false
set_option linter.unusedSimpArgs false

def slotsV (S : List Sl) : List Value := S.flatMap (slL 1)
theorem slotsV_len {S : List Sl} (h : ∀ (i : Nat) s, S[i]? = some s → SlOK 1 s) : (slotsV S).length = S.length * 34 := by
  induction S with
  | nil => rfl
  | cons s r ih =>
    have h1 := slL_len (h 0 s rfl)
    have h2 := ih (fun i x hx => h (i + 1) x hx)
    unfold slotsV at *
    rw [List.flatMap_cons, List.length_append, h1, h2, List.length_cons]
    omega
theorem slotsV_one (S : List Sl) : ∀ u ∈ slotsV S, u.oneCell' = true := by
  intro u hu
  obtain ⟨s, _, h⟩ := List.mem_flatMap.1 hu
  exact slL_one 1 s u h
theorem slotsV_at {S : List Sl} (h : ∀ (i : Nat) s, S[i]? = some s → SlOK 1 s) : ∀ (i : Nat) (s : Sl), S[i]? = some s → ∀ (r : Nat) (u : Value), (slL 1 s)[r]? = some u → (slotsV S)[i * 34 + r]? = some u := by
  induction S with
  | nil => intro i s hs; simp at hs
  | cons x xs ih =>
    intro i s hs r u hr
    have hx := slL_len (h 0 x rfl)
    unfold slotsV
    rw [List.flatMap_cons]
    match i, hs with
    | 0, hs =>
      simp only [List.getElem?_cons_zero, Option.some.injEq] at hs
      subst hs
      have hr2 := (List.getElem?_eq_some_iff.1 hr).1
      rw [Nat.zero_mul, Nat.zero_add, List.getElem?_append_left hr2, hr]
    | i + 1, hs =>
      rw [List.getElem?_append_right (by rw [hx]; omega), hx, show (i + 1) * 34 + r - (33 + 1) = i * 34 + r by omega]
      exact ih (fun i y hy => h (i + 1) y hy) i s hs r u hr
theorem slotsV_inv {S : List Sl} (h : ∀ (i : Nat) s, S[i]? = some s → SlOK 1 s) (q : Nat) (u : Value) (hq : (slotsV S)[q]? = some u) : ∃ i r s, q = i * 34 + r ∧ S[i]? = some s ∧ (slL 1 s)[r]? = some u := by
  have hl := slotsV_len h
  have hlt := (List.getElem?_eq_some_iff.1 hq).1
  have hi : q / 34 < S.length := by omega
  have hs := slot_eq hi
  have hr : q % 34 < (slL 1 (slot S (q / 34))).length := by rw [slL_len (h _ _ hs)]; omega
  refine ⟨q / 34, q % 34, _, by omega, hs, ?_⟩
  have := slotsV_at h _ _ hs (q % 34) _ (List.getElem?_eq_getElem hr)
  rw [show q / 34 * 34 + q % 34 = q by omega, hq] at this
  rw [List.getElem?_eq_getElem hr, ← this]
/-- Slots in a row of one's own. -/
theorem SlB.of_own {w : World} {base n g c : Nat} {S : List Sl} (h : w.ownsRow base 82 34 (.slice (some ⟨g, 0, none⟩) n c) n (slotsV S)) (hO : ∀ (i : Nat) s, S[i]? = some s → SlOK 1 s) : SlB w g 1 S ∧ base ≤ g := by
  rcases h.2 with ⟨h0, _⟩ | ⟨g', cap, cur, hv, hb, hg, hnc, hm, hcs, ht⟩
  · cases h0
  · injection hv with e1 _ e3
    obtain rfl : g = g' := by injection e1 with e; injection e
    refine ⟨⟨fun i s hs j u hj => ?_, fun q => frozen_of_row w g q cur _ hg, (Array.getElem?_eq_some_iff.1 hg).1⟩, hb⟩
    have h1 := slotsV_at hO i s hs j u hj
    rw [← ht, List.getElem?_take] at h1
    rw [cell_of_row w g _ cur _ (0, 0) hg]
    split at h1
    · simpa using h1
    · cases h1
theorem wpList_addsSlt (w : World) {ops : Array Oper} {rest : List Oper} {o : Oper} {a : Act} {Q : Exit → Act → World → Prop} (hgd : o.guard = none) (s x : Operand)
    (ho : o.op = .call { callee := .builtin .append, args := #[s, x], argTypes := #[62, 62] })
    (base : Nat) (v : Value) (n : Nat) (xs : List Value) (hs : a.eval s = v) (hown : w.ownsRow base 82 34 v n xs) (b n' c' : Nat) (ys : List Value) (hx : a.eval x = .slice (some ⟨b, 0, none⟩) n' c')
    (hl : ys.length = n' * 34) (hr : ∀ j u, ys[j]? = some u → w.cell? ⟨b, j, none⟩ = some u) (h1 : ∀ u ∈ ys, u.oneCell' = true) (hn : n + n' ≤ 1099511627776) (hbase : base ≤ w.heap.size)
    (h : ∀ v' w', w'.ownsRow base 82 34 v' (n + n') (xs ++ ys) → w.grownBy w' v.ownBlock → wpList Try.prog ops Q rest (a.put o.dst v') w') :
    wpList Try.prog ops Q (o :: rest) a w := by
  refine wpList_plain hgd fun _ hQ => ?_
  obtain ⟨i0, hi, hz0, hz1, hz2⟩ := info_parts Try.infoSlt
  obtain ⟨v', w', hrun, h2, h3, _, h5⟩ := run_append_own_at (P := Try.prog) w base 62 o.type 82 i0 _ 34 48 Try.underlying62 hi hz0 hz1 hz2 rfl (by decide) v n xs hown ⟨b, 0, none⟩ n' c' ys hl (fun j u hu => by
    rw [Addr.add_mid, Nat.zero_add]; exact hr j u hu) h1 (by unfold maxLen; omega) (by omega) hbase
  unfold Oper.wp execOp
  simp only [ho, resolve, invoke, builtin, Sem.run_bind, Sem.run_pure, Result.andThen_ok, List.map_toArray, List.map_cons, List.map_nil, hs, hx, hrun]
  exact hQ _ _ (h v' w' h2 h3)
end Go.Proofs.Ytlebancjgjcfjaa
