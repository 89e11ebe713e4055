/- The mathematics of FrameWhole: entries that are put one behind the other are found just so. It proves no statement. -/
import Derived.Test.YtnhkabohccbglaaDoorFrameScansWalk
import Derived.Test.YtnhkabohccbglaaDoorFrBackM
namespace Go.Proofs.YtnhkabohccbglaaDoor
open Go.RowKit
set_option linter.unusedVariables false
set_option linter.unusedSimpArgs false

/-- An entry, as a value. -/
structure Ee where
  t : Int
  K : List UInt8
  D : List UInt8
/-- It can be written. -/
def okE (x : Ee) : Prop := x.K.length = 32 ∧ ckE x.t x.K x.D.length = 0
/-- The bytes of several, one behind the other. -/
def segB : List Ee → List UInt8
  | [] => []
  | x :: xs => bytE x.t x.K x.D ++ segB xs
/-- Where each is found. -/
def fosF (a : Nat) : List Ee → List Fo
  | [] => []
  | x :: xs => ⟨x.t, x.K, x.D, a, (bytE x.t x.K x.D).length⟩ :: fosF (a + (bytE x.t x.K x.D).length) xs
theorem fosF_len : ∀ (xs : List Ee) (a : Nat), (fosF a xs).length = xs.length
  | [], _ => rfl
  | x :: xs, a => by simp only [fosF, List.length_cons, fosF_len xs]
/-- The place of the i-th. -/
def atE (xs : List Ee) (i : Nat) : Nat := 8 + (segB (xs.take i)).length
theorem segB_app : ∀ (xs ys : List Ee), segB (xs ++ ys) = segB xs ++ segB ys
  | [], _ => rfl
  | x :: xs, ys => by
    show bytE x.t x.K x.D ++ segB (xs ++ ys) = (bytE x.t x.K x.D ++ segB xs) ++ segB ys
    rw [segB_app xs ys, List.append_assoc]
theorem fosF_at : ∀ (xs : List Ee) (a i : Nat) (x : Ee), xs[i]? = some x → (fosF a xs)[i]? = some ⟨x.t, x.K, x.D, a + (segB (xs.take i)).length, (bytE x.t x.K x.D).length⟩
  | [], _, i, x, h => by simp at h
  | y :: ys, a, 0, x, h => by
    simp only [List.getElem?_cons_zero, Option.some.injEq] at h
    subst h
    rfl
  | y :: ys, a, i + 1, x, h => by
    have h1 := fosF_at ys (a + (bytE y.t y.K y.D).length) i x (by simpa using h)
    show (fosF (a + (bytE y.t y.K y.D).length) ys)[i]? = _
    rw [h1]
    have e : (segB ((y :: ys).take (i + 1))).length = (bytE y.t y.K y.D).length + (segB (ys.take i)).length := by
      show (bytE y.t y.K y.D ++ segB (ys.take i)).length = _
      rw [List.length_append]
    rw [e, Nat.add_assoc]
theorem okE_len {x : Ee} (h : okE x) : 9 ≤ (bytE x.t x.K x.D).length ∧ (bytE x.t x.K x.D).length ≤ 16425 := by
  have hz := szE_len h.1 h.2
  omega
theorem scF_whole : ∀ (xs : List Ee) (pre : List UInt8) (k : Nat), (∀ x ∈ xs, okE x) → (segB xs).length ≤ k → scF (pre ++ segB xs) k pre.length = (fosF pre.length xs, pre.length + (segB xs).length, 0)
  | [], pre, k, _, _ => by
    rw [scF_end _ _ _ (by simp [segB])]
    simp [segB, fosF]
  | x :: xs, pre, k, hok, hk => by
    have hx := hok x (by simp)
    have h9 := okE_len hx
    have hl : (segB (x :: xs)).length = (bytE x.t x.K x.D).length + (segB xs).length := by
      show (bytE x.t x.K x.D ++ segB xs).length = _
      rw [List.length_append]
    obtain ⟨k', rfl⟩ : ∃ k', k = k' + 1 := ⟨k - 1, by omega⟩
    have hd : (pre ++ segB (x :: xs)).drop pre.length = bytE x.t x.K x.D ++ segB xs := by
      rw [List.drop_left]; rfl
    obtain ⟨r1, r2, r3, r4, r5⟩ := rd_back (R := segB xs) hx.1 hx.2
    have e := scF_ok (pre ++ segB (x :: xs)) k' pre.length (by rw [List.length_append]; omega) (by rw [hd]; exact r1)
    rw [e]
    unfold fo
    rw [hd, r2, r3, r4, r5]
    have ih := scF_whole xs (pre ++ bytE x.t x.K x.D) k' (fun y hy => hok y (by simp [hy])) (by omega)
    have hp : pre ++ segB (x :: xs) = (pre ++ bytE x.t x.K x.D) ++ segB xs := by
      show pre ++ (bytE x.t x.K x.D ++ segB xs) = _
      rw [List.append_assoc]
    rw [hp, show pre.length + (bytE x.t x.K x.D).length = (pre ++ bytE x.t x.K x.D).length by rw [List.length_append], ih, hl, List.length_append]
    simp only [fosF, Nat.add_assoc]
theorem scan_whole (xs : List Ee) (hok : ∀ x ∈ xs, okE x) : scanR (magic ++ segB xs) = (fosF 8 xs, 8 + (segB xs).length, 0) := by
  unfold scanR
  rw [if_pos ⟨by rw [List.length_append]; show 8 ≤ 8 + _; omega, List.take_left' (by rfl)⟩]
  exact scF_whole xs magic _ hok (by rw [List.length_append]; omega)
end Go.Proofs.YtnhkabohccbglaaDoor
