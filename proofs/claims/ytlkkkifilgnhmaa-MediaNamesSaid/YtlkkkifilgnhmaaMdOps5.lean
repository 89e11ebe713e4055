/- A medium's calls on its state: Truncate. It proves no statement. -/
import Derived.Test.YtlkkkifilgnhmaaMdOps4
namespace Go.Proofs.Ytlkkkifilgnhmaa
open Go.RowKit Go.Maps Go.WideMaps Go.Sort
set_option linter.unusedVariables false
set_option linter.unusedSimpArgs false

set_option maxHeartbeats 800000 in
theorem truncate_I {w : World} {base g : Nat} {own : Own} {M : Me} (s : ByteArray) (gf : Nat) (F : Fi) (en : Nat) (h : MedI w base own g M) (hok : M.ok) (hoff : M.off = false) (hl0 : M.left ≠ 0) (hF : M.fs gf = some F) (hk : F.wait.length < 1000000) (hen : en ≤ F.now.length)
    (hfd : Calls Try.prog 43 #[.pointer (some ⟨g, 0, none⟩), .string s] w fun e w' => e = .returned (.tuple #[.pointer (some ⟨gf, 0, none⟩), .int .i64 0]) ∧ w = w') :
    Calls Try.prog 24 #[.pointer (some ⟨g, 0, none⟩), .string s, .int .i64 en] w fun e w' => e = .returned (.int .i64 0) ∧ Left w w' base g own (M.wrote gf (F.wrote ⟨en, []⟩)) := by
  obtain ⟨hdir, hfi, hdom, hlow, hnog⟩ := h
  have hdir2 := hdir
  obtain ⟨bn, bf, wv, ns, nn, nf, d1, d2, d3, d4, d5, d6, d7, d8, d9, d10, d11, d12⟩ := hdir
  obtain ⟨q1, q2, q3, nv, fv, wtv, cs, f1, f2, f3, f4, f5, f6, f7, f8, f9⟩ := hfi gf F hF
  have hgg : gf ≠ g := fun e => by rw [e, hnog] at hF; cases hF
  have hgl := Blk.lt f1
  have d1' := d1
  rw [hoff] at d1
  obtain ⟨Anv, cnv, rfl, _, _, _⟩ := own_form f2
  have hlen := Fi.len q2
  have hst := step_ok hl0
  have WA := write_any d1 hok.left.2 hst.1 gf F.now.length en base F.wait.length _ fv wtv F.now [] cs none 0 0 w.heap.size f1 f2 f4 hlow ⟨rfl, fun h => by omega⟩ (Nat.le_refl _) (fun ad e => by cases e) (fun _ => rfl) hen (by omega) (by omega)
  refine (truncate_by gf F.now.length cnv en Anv fv wtv s hen 0 (fun w w' => ∃ nv' wtv', MedB w' g M.room bn bf wv (stepL M.left) false ∧ FileB w' gf nv' fv wtv' ∧ w'.ownsRow base 5 1 nv' (en + 0) (bytesV (F.now.take en ++ [])) ∧ w'.ownsRow base 84 2 wtv' (F.wait.length + 1) (cs ++ [.int .i64 en, .slice none 0 0]) ∧ Chg w w' (wrS g gf (.slice Anv F.now.length cnv) wtv) ∧ (nv'.ownBlock = (Value.slice Anv F.now.length cnv).ownBlock ∨ ∃ j, nv'.ownBlock = some j ∧ w.heap.size ≤ j) ∧ (wtv'.ownBlock = wtv.ownBlock ∨ ∃ j, wtv'.ownBlock = some j ∧ w.heap.size ≤ j)) hfd f1 (WA.mono fun e w' hh => ?_)).mono ?_
  · rw [hst.2] at hh
    exact hh
  rintro e w' ⟨he, nv', wtv', m1, fb, r1, r2, ch, l1, l2⟩
  obtain ⟨nv, hnv0⟩ : ∃ nv, nv = Value.slice Anv F.now.length cnv := ⟨_, rfl⟩
  rw [← hnv0] at f1 f2 f7 ch l1
  obtain ⟨cv, hcv0⟩ : ∃ cv, cv = Value.slice none 0 0 := ⟨_, rfl⟩
  rw [← hcv0] at r2
  have r3 : w'.ownsRow w.heap.size 5 1 cv 0 (bytesV []) := by rw [hcv0]; exact World.ownsRow_nil _ _ _ _
  have l3 : ∀ j, nv'.ownBlock = some j → cv.ownBlock ≠ some j := by intro j _; rw [hcv0]; simp [Value.ownBlock]
  have hgs : ∀ b, wrS g gf nv wtv b → b = g ∨ ∃ k, own b = some (gf, k) := by
    rintro b (h | h | h | h)
    · exact .inl h
    · exact .inr ⟨0, by rw [h]; exact f6⟩
    · exact .inr ⟨1, f7 b h⟩
    · exact .inr ⟨3, f9 b h⟩
  have hcm : ∀ b, wrS g gf nv wtv b → own b ≠ none := by
    intro b hb
    rcases hgs b hb with rfl | ⟨k, hk⟩
    · rw [d9]; simp
    · rw [hk]; simp
  obtain ⟨own', ho⟩ : ∃ own' : Own, own' = fun b => if w.heap.size ≤ b ∧ nv'.ownBlock = some b then some (gf, 1) else if w.heap.size ≤ b ∧ wtv'.ownBlock = some b then some (gf, 3) else if cv.ownBlock = some b then some (gf, 4 + F.wait.length) else own b := ⟨_, rfl⟩
  have hold : ∀ b, b < w.heap.size → own' b = own b := by
    intro b hb
    rw [ho]
    show (if _ then _ else if _ then _ else if _ then _ else own b) = _
    rw [if_neg (fun e => by omega), if_neg (fun e => by omega), if_neg (fun e => by have := (r3.lt b e).1; omega)]
  have hcv : ∀ b, cv.ownBlock = some b → own' b = some (gf, 4 + F.wait.length) := by
    intro b hb
    rw [ho]
    show (if _ then _ else if _ then _ else if _ then _ else own b) = _
    rw [if_neg (fun e => l3 b e.2 hb), if_neg (fun e => own_own_ne r3 r2 (by decide) b hb e.2), if_pos hb]
  have hnv : ∀ b, nv'.ownBlock = some b → own' b = some (gf, 1) := by
    intro b hb
    rcases l1 with h | ⟨j, h, hj⟩
    · rw [h] at hb
      rw [hold b (f2.lt b hb).2]
      exact f7 b hb
    · have e : j = b := by rw [h] at hb; injection hb
      subst e
      rw [ho]
      show (if _ then _ else _) = _
      rw [if_pos ⟨hj, h⟩]
  have hwt : ∀ b, wtv'.ownBlock = some b → own' b = some (gf, 3) := by
    intro b hb
    rcases l2 with h | ⟨j, h, hj⟩
    · rw [h] at hb
      rw [hold b (f4.lt b hb).2]
      exact f9 b hb
    · have e : j = b := by rw [h] at hb; injection hb
      subst e
      rw [ho]
      show (if _ then _ else if _ then _ else _) = _
      rw [if_neg (fun e => own_own_ne r1 r2 (by decide) j e.2 h), if_pos ⟨hj, h⟩]
  have hdm : ∀ b, own' b ≠ none → base ≤ b ∧ b < w'.heap.size := by
    intro b hb
    rw [ho] at hb
    change (if _ then _ else if _ then _ else if _ then _ else own b) ≠ none at hb
    split at hb
    · rename_i e; exact r1.lt b e.2
    · split at hb
      · rename_i e; exact r2.lt b e.2
      · split at hb
        · rename_i e; exact ⟨Nat.le_trans hlow (r3.lt b e).1, (r3.lt b e).2⟩
        · have := hdom b hb; have := ch.size; omega
  clear ho
  refine ⟨he, ch.mono (fun b _ hb => hcm b hb), own', hold, ⟨?_, ?_, hdm, Nat.le_trans hlow ch.size, ?_⟩⟩
  · have hg' : ∀ b k, own b = some (g, k) → b ≠ g → ¬ wrS g gf nv wtv b := by
      intro b k hb hne hs
      rcases hgs b hs with h | ⟨q, hq⟩
      · exact hne h
      · rw [hb] at hq; simp at hq; exact hgg hq.1.symm
    have hbg : bn ≠ g := nm_ne d2 d1
    have hfg : bf ≠ g := nm_ne d3 d1
    have m2 : MedB w' g M.room bn bf wv (stepL M.left) M.off := by rw [hoff]; exact m1
    refine ⟨bn, bf, wv, ns, nn, nf, m2, ch.nm d2 (hg' bn 1 d10 hbg), ch.nm d3 (hg' bf 2 d11 hfg), by show nn ≤ M.cnt + 1; omega, by show nf + M.wait.length ≤ M.cnt + 1; omega, ch.own d6 (fun b hb => hg' b 3 (d12 b hb) (fun e => own_neM d1 d6 (by decide) (by rw [hb, e]))), d7, by show M.wait.length ≤ M.cnt + 1; omega, by rw [hold g (Blk.lt d1)]; exact d9, by rw [hold bn d2.lt]; exact d10, by rw [hold bf d3.lt]; exact d11, fun b hb => by rw [hold b (d6.lt b hb).2]; exact d12 b hb⟩
  · refine hfi.turn ch gf ?_ hold _ ⟨q1, Fi.wrote_ok q2 _ hen (.inl rfl) (by show en + 0 ≤ 16777216; omega), by show (F.wait ++ [_]).length ≤ 1000000; simp; omega, ?_⟩
    · intro b y k hs hy hfs e
      rcases hgs b hs with h | ⟨q, hq⟩
      · rw [h, d9] at e; simp at e; rw [← e.1] at hfs; exact hfs hnog
      · rw [hq] at e; simp at e; exact hy e.1.symm
    · have ef : (F.wrote ⟨en, []⟩).now = F.now.take en ++ [] := rfl
      have el : (F.wait ++ [(⟨en, []⟩ : Ch)]).length = F.wait.length + 1 := by simp
      have hns : ∀ b k, own b = some (gf, k) → k ≠ 0 → k ≠ 1 → k ≠ 3 → ¬ wrS g gf nv wtv b := by
        intro b k hb k0 k1 k3 hs
        rcases hs with h | h | h | h
        · rw [h, d9] at hb; simp at hb; exact hgg hb.1.symm
        · rw [h, f6] at hb; simp at hb; exact k0 hb.symm
        · rw [f7 b h] at hb; simp at hb; exact k1 hb.symm
        · rw [f9 b h] at hb; simp at hb; exact k3 hb.symm
      refine ⟨nv', fv, wtv', cs ++ [.int .i64 (en : Int), cv], fb, ?_, ch.own f3 (fun b hb => hns b 2 (f8 b hb) (by omega) (by omega) (by omega)), ?_, ?_, by rw [hold gf hgl]; exact f6, hnv, fun b hb => by rw [hold b (f3.lt b hb).2]; exact f8 b hb, hwt⟩
      · rw [ef, List.length_append, List.length_take, Nat.min_eq_left hen]; exact r1
      · show w'.ownsRow base _ 2 wtv' (F.wait ++ [(⟨en, []⟩ : Ch)]).length _
        rw [el]; exact r2
      · have f5' : HasC w' base F.wait cs (fun j b => own' b = some (gf, 4 + j)) := by
          have f5a := f5.mono (G := fun j b => own b = some (gf, 4 + j) ∧ b < w.heap.size) (fun j b _ hb h => ⟨h, hb⟩)
          have f5b := f5a.keep ch (fun j b hb => hns b (4 + j) hb.1 (by omega) (by omega) (by omega))
          exact f5b.mono (fun j b _ _ h => by rw [hold b h.2]; exact h.1)
        exact f5'.snoc ⟨en, []⟩ cv (own_low r3 hlow) (fun b hb => hcv b hb)
  · show upd M.fs gf _ g = none
    rw [upd_other _ _ (fun e => hgg e.symm)]
    exact hnog
end Go.Proofs.Ytlkkkifilgnhmaa
