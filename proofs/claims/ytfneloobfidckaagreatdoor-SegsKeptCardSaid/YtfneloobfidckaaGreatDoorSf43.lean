/- Contracts and facts, several texts in one. It proves no statement. -/
import Derived.Test.YtfneloobfidckaaGreatDoorSf42
import Derived.Test.YtfneloobfidckaaGreatDoorSf35
import Derived.Test.YtfneloobfidckaaGreatDoorSf38

/- What SegsWhole's walk wants: entries that share their data, the law's own committed, when Append and Commit fall. It proves no statement. -/



namespace Go.Proofs.YtfneloobfidckaaGreatDoor
open Go.RowKit Go.Maps Go.WideMaps Go.Sort
set_option linter.unusedVariables false
set_option linter.unusedSimpArgs false

/-- A row of entries whose data lies in W below B. -/
def HasS (W : World) (B : Nat) (G : List Ee) (xs : List Value) : Prop := xs.length = 34 * G.length ∧ ∀ (i : Nat) (x : Ee), G[i]? = some x → ∃ A n c, x.K.length = 32 ∧ (∀ q, q < 34 → xs[i * 34 + q]? = (entL x.t x.K (.slice A n c))[q]?) ∧ Reads W B A n x.D ∧ n ≤ 300
theorem HasS.nil {W : World} {B : Nat} : HasS W B [] [] := ⟨rfl, fun i x hx => by simp at hx⟩
theorem HasS.snoc {W : World} {B : Nat} {G : List Ee} {xs : List Value} (h : HasS W B G xs) (x : Ee) (A : Option Addr) (n c : Nat) (hK : x.K.length = 32) (hr : Reads W B A n x.D) (hn : n ≤ 300) : HasS W B (G ++ [x]) (xs ++ entL x.t x.K (.slice A n c)) := by
  refine ⟨by rw [List.length_append, List.length_append, h.1, entL_len0 _ _ _ hK]; simp; omega, fun i y hy => ?_⟩
  by_cases hi : i < G.length
  · rw [List.getElem?_append_left hi] at hy
    obtain ⟨A', n', c', k0, k1, k2⟩ := h.2 i y hy
    refine ⟨A', n', c', k0, fun q hq => ?_, k2⟩
    rw [List.getElem?_append_left (by rw [h.1]; omega)]
    exact k1 q hq
  · have hl : i < (G ++ [x]).length := (List.getElem?_eq_some_iff.1 hy).1
    have hie : i = G.length := by simp at hl; omega
    subst hie
    have : y = x := by simpa using hy.symm
    subst this
    refine ⟨A, n, c, hK, fun q hq => ?_, hr, hn⟩
    rw [List.getElem?_append_right (by rw [h.1]; omega), h.1]
    congr 1
    omega
theorem HasS.at_ {W W0 : World} {B B0 : Nat} {G : List Ee} {xs : List Value} {g N c : Nat} (h : HasS W0 B G xs) (ho : W.ownsRow B0 44 34 (.slice (some ⟨g, 0, none⟩) N c) N xs) {i : Nat} {x : Ee} (hx : G[i]? = some x) (hi : i < N) :
    ∃ A n c, x.K.length = 32 ∧ W.rangeAt g (i * 34) (entL x.t x.K (.slice A n c)) ∧ Reads W0 B A n x.D ∧ n ≤ 300 := by
  obtain ⟨A, n, c, h0, h1, h2⟩ := h.2 i x hx
  refine ⟨A, n, c, h0, fun q u hq => ?_, h2⟩
  have hq34 : q < 34 := by rw [← entL_len0 x.t x.K (.slice A n c) h0]; exact (List.getElem?_eq_some_iff.1 hq).1
  rw [ho.cellAt (i * 34 + q) (by omega), h1 q hq34]
  exact hq
/-- A call that is bad: it puts a Commit itself. -/
def Bad14 (X : List C14) : Prop := ∃ (i : Nat) (x : C14), X[i]? = some x ∧ x.k ≠ 1 ∧ x.t = 2
set_option maxRecDepth 100000 in
set_option maxHeartbeats 3200000 in
theorem committed_bad (X : List C14) (xs : List Value) (Ao : Option Addr) (N co B B0 : Nat) (w w0 : World) (o : w.ownsRow B0 47 40 (.slice Ao N co) N xs) (h : HasD14 w0 B0 B X xs) (hX : X.length = N) (hN : N ≤ 1048576) (hb : Bad14 X) :
    Calls Tryz.prog 44 #[.slice Ao N co] w fun e w' => e = .returned (.bool false) ∧ Still w w' := by
  have O := Lib.hid o
  have H := Lib.hid h
  have XN := Lib.hid hX
  have HB := Lib.hid hb
  obtain ⟨hco1, hco2⟩ : N ≤ co ∧ co ≤ 9223372036854775807 := by
    obtain ⟨A', c', e, q1, q2, q3⟩ := own_formB o
    injection e with e1 e2 e3
    subst e1 e3
    exact ⟨q1, q2⟩
  clear o h hX hb
  go_enter Tryz.func44, Tryz.ntmps44
  go_wp2_with fail
  go_loopw [3] (fun iv wr => ∃ i : Nat, i ≤ N ∧ iv = .int .i64 i ∧ Hid (Still w wr ∧ ∀ (j : Nat) (x : C14), X[j]? = some x → j < i → ¬ (x.k ≠ 1 ∧ x.t = 2))) (fun iv _ => N - (intOf iv).toNat)
  case atStart => exact ⟨0, Nat.zero_le _, rfl, Still.refl _, fun j x _ h => by omega⟩
  case round =>
    obtain ⟨i, hi, rfl, hh⟩ := hrel
    by_cases hlt : i < N
    · obtain ⟨x, hx⟩ : ∃ x, X[i]? = some x := ⟨_, List.getElem?_eq_getElem (by have := XN.out; omega)⟩
      obtain ⟨gr, rfl⟩ : ∃ g, Ao = some ⟨g, 0, none⟩ := by
        rcases O.out.2 with ⟨_, h⟩ | ⟨b, cap, cur, h, _⟩
        · omega
        · injection h with q1
          exact ⟨b, q1⟩
      obtain ⟨Ax, nx, cx, A2, n2, c2, hK, rngx, _⟩ := H.out.at_ O.out hx hlt
      have PX := (d14_parts hK).1 (rangeAt_still rngx hh.out.1)
      have k0 := PX.1
      have k1 : wr.cell? ⟨gr, i * 40 + 1, none⟩ = some (.int .i64 x.t) := by have := PX.2.1 0 (.int .i64 x.t) rfl; exact this
      have NX := Lib.hid (fun (hn : ¬ (x.k ≠ 1 ∧ x.t = 2)) (j : Nat) (y : C14) (hy : X[j]? = some y) (hj : j < i + 1) => show ¬ (y.k ≠ 1 ∧ y.t = 2) from by
        by_cases hji : j < i
        · exact hh.out.2 j y hy hji
        · obtain rfl : j = i := by omega
          rw [hx] at hy
          injection hy with hy
          rw [← hy]
          exact hn)
      have SR := Lib.hid hh.out.1
      have z3 : (0 : Int) ≤ (i : Int) := by omega
      have z4 : (i : Int) < (N : Int) := by omega
      clear PX rngx hh hx hK
      by_cases hk : x.k = 1
      · have bk : (x.k != 1) = false := by simpa using hk
        have NB := Lib.hid (NX.out (fun h => h.1 hk))
        clear hk
        go_wp2_with fail
        go_roundw
        case rel => exact ⟨i + 1, by omega, by go_num, SR.out, NB.out⟩
        case measure => simp [intOf]; omega
      · have bk : (x.k != 1) = true := by simpa using hk
        by_cases ht : x.t = 2
        · have bt : (x.t == 2) = true := by simpa using ht
          clear hk ht
          go_wp2_with fail
          go_ret
          exact ⟨rfl, SR.out⟩
        · have bt : (x.t == 2) = false := by simpa using ht
          have NB := Lib.hid (NX.out (fun h => ht h.2))
          clear hk ht
          go_wp2_with fail
          go_roundw
          case rel => exact ⟨i + 1, by omega, by go_num, SR.out, NB.out⟩
          case measure => simp [intOf]; omega
    · exfalso
      obtain ⟨j, x, hx, h1, h2⟩ := HB.out
      exact hh.out.2 j x hx (by have := (List.getElem?_eq_some_iff.1 hx).1; have := XN.out; omega) ⟨h1, h2⟩
theorem beginL_open {M : Me} {S : Lg} {b : List UInt8} {gf : Nat} (h : (beginL M S b gf).1 ≠ 0) : (beginL M S b gf).2.2 = S := by
  unfold beginL at h ⊢
  split
  · rfl
  · rename_i h1
    rw [if_neg h1] at h
    split
    · rfl
    · rename_i h2
      rw [if_neg h2] at h
      split
      · rfl
      · rename_i h3
        rw [if_neg h3] at h
        split
        · rfl
        · rename_i h4
          rw [if_neg h4] at h
          exact absurd rfl h
theorem appendL_open {M : Me} {S : Lg} {E : Int × List UInt8} {gf : Nat} (h : (appendL M S E gf).2.1 ≠ 0) (ho : (appendL M S E gf).2.2.2.isOpen = true) : S.isOpen = true := by
  cases hS : S.isOpen with
  | true => rfl
  | false =>
    unfold appendL appendR at h ho
    by_cases hE : E.1 = 0
    · rw [if_neg (by rw [hE]; decide), layA_shut hS] at h ho
      by_cases hb : (beginL M S E.2 gf).1 = 0
      · rw [if_neg (by rw [hb]; decide)] at h
        exact absurd rfl h
      · rw [if_pos hb] at ho
        rw [show (beginL M S E.2 gf).2.2 = S from beginL_open hb] at ho
        rw [hS] at ho
        cases ho
    · rw [if_pos hE] at ho
      have ho : S.isOpen = true := ho
      rw [hS] at ho
      cases ho
/-- A Commit that does not fall. -/
theorem AZ.commit_ok {M : Me} {S : Lg} {Z : Sz} {bad : Prop} {k : Nat} (h : AZ M S Z 1048576 bad) (hg : M.good k) (hk : k < 500) (hu : M.used ≤ 100000) (hz : Z.length < 1000) {gf : Nat} (hgf : M.fs gf = none) : (commitL M S gf).2.1 = 0 := by
  rcases h.ab.commit hgf with ⟨_, _, hc⟩ | ⟨a, _⟩
  · exfalso
    rcases hc with hc | hc | hc
    · have : cmE.2.length ≤ 17000 := cmE_ok.2
      omega
    · rw [nextZ h.num] at hc
      omega
    · have := now_length hg.ok
      have := hg.cnt
      omega
  · exact a
theorem AZ.fail {M : Me} {S : Lg} {Z : Sz} {rm : Int} {bad : Prop} (h : AZ M S Z rm bad) {gf : Nat} (hg : M.fs gf = none) (x : Ee) (hK : x.K.length = 32) (h0 : (appendL M S (encE x.t x.K x.D) gf).2.1 ≠ 0) :
    AZ (appendL M S (encE x.t x.K x.D) gf).2.2.1 (appendL M S (encE x.t x.K x.D) gf).2.2.2 Z rm bad ∧ (appendL M S (encE x.t x.K x.D) gf).2.2.1.used = M.used ∧ (appendL M S (encE x.t x.K x.D) gf).2.2.2.limit = S.limit := by
  have hl := encE_len (t := x.t) (K := x.K) (D := x.D) hK
  rcases h.ab.append hg (encE x.t x.K x.D) (by omega) with ⟨_, a, _⟩ | ⟨a, _⟩
  · exact ⟨h.same a (appendL_open h0), a.used, a.lim⟩
  · exact absurd a h0
theorem layZ_len (S : Lg) (Z : Sz) (x : Ee) : (layZ S Z x).length ≤ Z.length + 1 := by
  unfold layZ
  split
  · split
    · simp
    · simp
  · simp
theorem AZ.mono {M : Me} {S : Lg} {Z : Sz} {rm : Int} {bad bad' : Prop} (h : AZ M S Z rm bad) (hb : bad → bad') : AZ M S Z rm bad' :=
  ⟨h.ab, h.num, h.ok, h.lim, fun z hz k x hk hx => (h.cm z hz k x hk hx).imp id hb, fun o z hz x hx h2 => hb (h.last o z hz x hx h2)⟩
/-- The walk's state: the log, its entries, and the row of all that were put. -/
structure WSt (w4 wr : World) (g gl : Nat) (bad : Prop) (lim : Int) (i : Nat) (v : Value) (own : Own) (lo : LOwn) (M : Me) (S : Lg) (Z : Sz) (G : List Ee) (xs : List Value) : Prop where
  lm : LM wr w4.heap.size g gl own lo M S
  az : AZ M S Z 1048576 bad
  gd : M.good (6 * i)
  st : Still w4 wr
  us : M.used ≤ 400 * i
  zl : Z.length ≤ i
  li : S.limit = lim
  fl : Z.flatMap (·.2) = G
  le : G.length ≤ i
  row : wr.ownsRow w4.heap.size 44 34 v G.length xs
  has : HasS w4 w4.heap.size G xs
  ap : ∀ b, v.ownBlock = some b → own b = none ∧ lo b = none
/-- A call of the log's, ahead of the push. -/
theorem WSt.left {w4 wr w' : World} {g gl i : Nat} {bad : Prop} {lim : Int} {v : Value} {own : Own} {lo : LOwn} {M M' : Me} {S S' : Lg} {Z : Sz} {G : List Ee} {xs : List Value} (h : WSt w4 wr g gl bad lim i v own lo M S Z G xs) (l : LLeft wr w' w4.heap.size g gl own lo M' S') :
    Still w4 w' ∧ w'.ownsRow w4.heap.size 44 34 v G.length xs ∧ ∃ own' lo', LM w' w4.heap.size g gl own' lo' M' S' ∧ ∀ b, v.ownBlock = some b → own' b = none ∧ lo' b = none := by
  have s' := LLeft.low h.lm l h.st (Nat.le_refl _)
  obtain ⟨c, own', lo', ho, lm⟩ := l
  refine ⟨s', c.own h.row (fun b hb hh => ?_), own', lo', lm, fun b hb => ?_⟩
  · have := h.ap b hb
    rcases hh with hh | hh
    · exact hh this.1
    · exact hh this.2
  · have hlt := own_block_lt h.row b hb
    rw [(ho b hlt).1, (ho b hlt).2]
    exact h.ap b hb
/-- A row that grows beside a log. -/
theorem LM.beside {w w9 : World} {base g gl : Nat} {own : Own} {lo : LOwn} {M : Me} {S : Lg} {v v' : Value} {o : Obj} (lm : LM w base g gl own lo M S) (ap : ∀ b, v.ownBlock = some b → own b = none ∧ lo b = none) (gr : (w.alloc o).grownBy w9 v.ownBlock) (hv : v'.ownBlock = v.ownBlock ∨ v'.ownBlock = some (w.alloc o).heap.size) :
    LM w9 base g gl own lo M S ∧ ∀ b, v'.ownBlock = some b → own b = none ∧ lo b = none := by
  have s1 : Still w (w.alloc o) := (Still.refl w).alloc (Nat.le_refl _) o
  refine ⟨(lm.still s1).keep (Chg.of_grown gr (S := fun b => v.ownBlock = some b) (fun k hk _ => hk)) ap, fun b hb => ?_⟩
  rcases hv with e | e
  · rw [e] at hb; exact ap b hb
  · rw [e] at hb
    injection hb with hb
    subst hb
    exact lm.above s1.size
end Go.Proofs.YtfneloobfidckaaGreatDoor
