/- Contracts and facts, several texts in one. It proves no statement. -/
import Derived.Test.YtfneloobfidckaaGreatDoorSf00
import Derived.Test.YtfneloobfidckaaGreatDoorSf37
import Derived.Test.YtfneloobfidckaaGreatDoorSf22
import Derived.Test.YtfneloobfidckaaGreatDoorSf01

/- Rows of one's own, whatever their elements. It proves no statement. -/

namespace Go.Proofs.YtfneloobfidckaaGreatDoor
open Go.RowKit
set_option linter.unusedVariables false
set_option linter.unusedSimpArgs false

theorem own_formB {e : TypeId} {z : Nat} {base : Nat} {v : Value} {xs : List Value} {w : World} {n : Nat} (h : w.ownsRow base e z v n xs) :
    ∃ A c, v = .slice A n c ∧ n ≤ c ∧ c ≤ 9223372036854775807 ∧ (A = none → n = 0 ∧ c = 0) := by
  rcases h.2 with ⟨rfl, rfl⟩ | ⟨g, cap, cur, rfl, _, _, hnc, hm, _⟩
  · exact ⟨none, 0, rfl, Nat.le_refl _, by omega, fun _ => ⟨rfl, rfl⟩⟩
  · exact ⟨_, cap, rfl, hnc, by unfold maxLen at hm; omega, fun e => by cases e⟩
theorem own_grown {a b : World} {r : Option Nat} (h : a.grownBy b r) {base z n : Nat} {e : TypeId} {v : Value} {xs : List Value} (ho : a.ownsRow base e z v n xs) (hr : ∀ k, v.ownBlock = some k → r ≠ some k) : b.ownsRow base e z v n xs := by
  refine ⟨ho.1, ?_⟩
  rcases ho.2 with h0 | ⟨g, c, cur, h1, h2, h3, h4⟩
  · exact .inl h0
  · subst h1
    exact .inr ⟨g, c, cur, rfl, h2, (h.block g (Array.getElem?_eq_some_iff.1 h3).1 (fun e => hr g rfl e.symm)).trans h3, h4⟩
/-- A row of one's own grows: what lies below stays. -/
theorem own_block_ge {wr : World} {lo : Nat} {e : TypeId} {z : Nat} {n : Nat} {v : Value} {xs : List Value} (o : wr.ownsRow lo e z v n xs) (k : Nat) (hk : v.ownBlock = some k) : lo ≤ k := by
  rcases o.2 with ⟨e, _⟩ | ⟨g, cp, cur, e, hg, _⟩
  · rw [e] at hk; simp [Value.ownBlock] at hk
  · rw [e] at hk; simp [Value.ownBlock] at hk; omega
theorem still_push {w wr w' : World} {lo : Nat} {e : TypeId} {z : Nat} {n : Nat} {v : Value} {xs : List Value} (s : Still w wr) (o : wr.ownsRow lo e z v n xs) (hlo : w.heap.size ≤ lo) (g : wr.grownBy w' v.ownBlock) : Still w w' :=
  s.grown g s.size (fun k hk => Nat.le_trans hlo (own_block_ge o k hk))
theorem low_push {wr w' : World} {lo : Nat} {e : TypeId} {z : Nat} {n : Nat} {v : Value} {xs : List Value} (o : wr.ownsRow lo e z v n xs) (g : wr.grownBy w' v.ownBlock) (k : Nat) (hk : k < lo) (hk2 : k < wr.heap.size) : w'.heap[k]? = wr.heap[k]? :=
  g.block k hk2 (fun e => by have := own_block_ge o k e.symm; omega)
theorem still_own {w w' : World} {base z n : Nat} {e : TypeId} {v : Value} {xs : List Value} (ho : w.ownsRow base e z v n xs) (s : Still w w') : w'.ownsRow base e z v n xs :=
  own_grown (r := none) ⟨s.os, s.tape, s.output, s.size, fun k hk _ => s.block k hk⟩ ho (fun k _ e => by cases e)
theorem own_block_lt {wr : World} {lo : Nat} {e : TypeId} {z : Nat} {n : Nat} {v : Value} {xs : List Value} (o : wr.ownsRow lo e z v n xs) (k : Nat) (hk : v.ownBlock = some k) : k < wr.heap.size := by
  rcases o.2 with ⟨e, _⟩ | ⟨g, cp, cur, e, _, hg, _⟩
  · rw [e] at hk; simp [Value.ownBlock] at hk
  · rw [e] at hk; simp [Value.ownBlock] at hk
    have := (Array.getElem?_eq_some_iff.1 hg).1
    omega
theorem own_base {w : World} {lo base z n : Nat} {e : TypeId} {v : Value} {xs : List Value} (h : w.ownsRow base e z v n xs) (hlo : lo ≤ base) : w.ownsRow lo e z v n xs := by
  refine ⟨h.1, ?_⟩
  rcases h.2 with h0 | ⟨g, c, cur, h1, h2, h3⟩
  · exact .inl h0
  · exact .inr ⟨g, c, cur, h1, Nat.le_trans hlo h2, h3⟩
theorem own_at {w : World} {base M c : Nat} {e : TypeId} {A : Option Addr} {xs : List Value} (h : w.ownsRow base e 1 (.slice A M c) M xs) (i : Nat) (hi : i < M) (x : Value) (hx : xs[i]? = some x) : ∃ g, A = some ⟨g, 0, none⟩ ∧ w.cell? ⟨g, i, none⟩ = some x := by
  rcases h.2 with ⟨_, h0⟩ | ⟨g, cp, cur, hv, hg, hb, _⟩
  · omega
  · injection hv with hv1
    subst hv1
    exact ⟨g, rfl, (h.cellAt i (by have := h.1; omega)).trans hx⟩
end Go.Proofs.YtfneloobfidckaaGreatDoor

/- Rows of bytes in blocks of a kind, and rows of such rows. It proves no statement. -/




namespace Go.Proofs.YtfneloobfidckaaGreatDoor
open Go.RowKit
set_option linter.unusedVariables false
set_option linter.unusedSimpArgs false

section
variable {w w' : World} {P Q : Nat → Prop} {A : Option Addr} {n c k : Nat} {l : List UInt8}
/-- Cells that are such slices. -/
def Rows (w : World) (P : Nat → Prop) (xs : List Value) (L : List (List UInt8)) : Prop :=
  xs.length = L.length ∧ ∀ j, j < L.length → ∃ A n c, xs[j]? = some (.slice A n c) ∧ RowP w P A n c (L.getD j [])
theorem Rows.nil : Rows w P [] [] := ⟨rfl, fun j hj => by simp at hj⟩
theorem Rows.app {xs ys : List Value} {L M : List (List UInt8)} (h : Rows w P xs L) (k : Rows w P ys M) : Rows w P (xs ++ ys) (L ++ M) := by
  refine ⟨by rw [List.length_append, List.length_append, h.1, k.1], fun j hj => ?_⟩
  rw [List.length_append] at hj
  by_cases e : j < L.length
  · obtain ⟨A, n, c, e1, e2⟩ := h.2 j e
    refine ⟨A, n, c, by rw [List.getElem?_append_left (by rw [h.1]; exact e)]; exact e1, ?_⟩
    rwa [show (L ++ M).getD j [] = L.getD j [] by simp [List.getD, List.getElem?_append_left e]]
  · obtain ⟨A, n, c, e1, e2⟩ := k.2 (j - L.length) (by omega)
    refine ⟨A, n, c, by rw [List.getElem?_append_right (by rw [h.1]; omega), h.1]; exact e1, ?_⟩
    rwa [show (L ++ M).getD j [] = M.getD (j - L.length) [] by simp [List.getD, List.getElem?_append_right (show L.length ≤ j by omega)]]
theorem Rows.one (h : RowP w P A n c l) : Rows w P [.slice A n c] [l] := by
  refine ⟨rfl, fun j hj => ?_⟩
  simp only [List.length_singleton] at hj
  obtain rfl : j = 0 := by omega
  exact ⟨A, n, c, rfl, by simpa using h⟩
theorem Rows.snoc {xs : List Value} {L : List (List UInt8)} (h : Rows w P xs L) (k : RowP w P A n c l) : Rows w P (xs ++ [.slice A n c]) (L ++ [l]) := h.app (Rows.one k)
theorem Rows.keep {xs : List Value} {L : List (List UInt8)} (h : Rows w P xs L) (hk : ∀ b, P b → b < w.heap.size → w'.heap[b]? = w.heap[b]?) (hs : w.heap.size ≤ w'.heap.size) : Rows w' P xs L :=
  ⟨h.1, fun j hj => by obtain ⟨A, n, c, e1, e2⟩ := h.2 j hj; exact ⟨A, n, c, e1, e2.keep hk hs⟩⟩
theorem Rows.chg {S : Nat → Prop} {xs : List Value} {L : List (List UInt8)} (h : Rows w P xs L) (g : Chg w w' S) (hS : ∀ b, P b → b < w.heap.size → ¬ S b) : Rows w' P xs L := h.keep (fun b hp hb => g.block b hb (hS b hp hb)) g.size
theorem Rows.still {xs : List Value} {L : List (List UInt8)} (h : Rows w P xs L) (s : Still w w') : Rows w' P xs L := h.keep (fun b _ hb => s.block b hb) s.size
theorem Rows.mono {xs : List Value} {L : List (List UInt8)} (h : Rows w P xs L) (hP : ∀ b, P b → b < w.heap.size → Q b) : Rows w Q xs L :=
  ⟨h.1, fun j hj => by obtain ⟨A, n, c, e1, e2⟩ := h.2 j hj; exact ⟨A, n, c, e1, e2.mono hP⟩⟩
theorem Rows.cells {xs : List Value} {L : List (List UInt8)} (h : Rows w P xs L) : ∀ u ∈ xs, u.oneCell' = true := by
  intro u hu
  obtain ⟨j, hj, rfl⟩ := List.mem_iff_getElem.1 hu
  obtain ⟨A, n, c, e1, _⟩ := h.2 j (by rw [← h.1]; exact hj)
  rw [List.getElem?_eq_getElem hj] at e1
  rw [Option.some.inj e1]
  rfl
/-- A slice of rows that can be read: its cells in a block of O, the rows in blocks of P. -/
structure RowsR (w : World) (O P : Nat → Prop) (A : Option Addr) (n c : Nat) (L : List (List UInt8)) : Prop where
  len : L.length = n
  fit : n ≤ c
  cap : c ≤ 9223372036854775807
  nil : A = none → n = 0 ∧ c = 0
  at_ : 0 < n → ∃ b o, A = some ⟨b, o, none⟩ ∧ O b ∧ b < w.heap.size ∧ ∀ j, j < n → ∃ A' n' c', w.cell? ⟨b, o + j, none⟩ = some (.slice A' n' c') ∧ RowP w P A' n' c' (L.getD j [])
variable {O O' : Nat → Prop} {L : List (List UInt8)}
theorem RowsR.none_ : RowsR w O P none 0 0 [] := ⟨rfl, Nat.le_refl _, by omega, fun _ => ⟨rfl, rfl⟩, fun h => absurd h (by omega)⟩
theorem RowsR.of_own {base : Nat} {xs : List Value} (h : w.ownsRow base 42 1 (.slice A n c) n xs) (r : Rows w P xs L) : RowsR w (fun b => base ≤ b ∧ (Value.slice A n c).ownBlock = some b) P A n c L := by
  have hl : xs.length = n := by have := h.1; omega
  obtain ⟨A', c', e, h1, h2, h3⟩ := own_formB h
  injection e with e1 e2 e3
  subst e1
  subst e3
  refine ⟨by rw [← r.1, hl], h1, h2, h3, fun hn => ?_⟩
  rcases h.2 with ⟨_, h0⟩ | ⟨g, cp, cur, hv, hg, hb, _⟩
  · omega
  · injection hv with hv1
    subst hv1
    refine ⟨g, 0, rfl, ⟨hg, rfl⟩, (Array.getElem?_eq_some_iff.1 hb).1, fun j hj => ?_⟩
    obtain ⟨A, n', c', e1, e2⟩ := r.2 j (by rw [← r.1, hl]; exact hj)
    refine ⟨A, n', c', ?_, e2⟩
    rw [Nat.zero_add, h.cellAt j (by omega)]
    exact e1
theorem RowsR.keep (h : RowsR w O P A n c L) (hk : ∀ b, P b ∨ O b → b < w.heap.size → w'.heap[b]? = w.heap[b]?) (hs : w.heap.size ≤ w'.heap.size) : RowsR w' O P A n c L :=
  ⟨h.len, h.fit, h.cap, h.nil, fun hn => by
    obtain ⟨b, o, e, hp, hb, hc⟩ := h.at_ hn
    refine ⟨b, o, e, hp, by omega, fun j hj => ?_⟩
    obtain ⟨A', n', c', e1, e2⟩ := hc j hj
    exact ⟨A', n', c', (World.cell?_of_block (w := w) (hk b (.inr hp) hb)).trans e1, e2.keep (fun b hp => hk b (.inl hp)) hs⟩⟩
theorem RowsR.chg {S : Nat → Prop} (h : RowsR w O P A n c L) (g : Chg w w' S) (hS : ∀ b, P b ∨ O b → b < w.heap.size → ¬ S b) : RowsR w' O P A n c L := h.keep (fun b hp hb => g.block b hb (hS b hp hb)) g.size
theorem RowsR.still (h : RowsR w O P A n c L) (s : Still w w') : RowsR w' O P A n c L := h.keep (fun b _ hb => s.block b hb) s.size
theorem RowsR.mono (h : RowsR w O P A n c L) (hO : ∀ b, O b → b < w.heap.size → O' b) (hP : ∀ b, P b → b < w.heap.size → Q b) : RowsR w O' Q A n c L :=
  ⟨h.len, h.fit, h.cap, h.nil, fun hn => by
    obtain ⟨b, o, e, hp, hb, hc⟩ := h.at_ hn
    refine ⟨b, o, e, hO b hp hb, hb, fun j hj => ?_⟩
    obtain ⟨A', n', c', e1, e2⟩ := hc j hj
    exact ⟨A', n', c', e1, e2.mono hP⟩⟩
theorem RowsR.dropk (h : RowsR w O P A n c L) (hk : k ≤ n) : RowsR w O P (A.map (·.add k)) (n - k) (c - k) (L.drop k) :=
  ⟨by rw [List.length_drop, h.len], by have := h.fit; omega, by have := h.cap; omega, fun e => by
    have e2 : A = none := by simpa using e
    have := h.nil e2
    omega, fun hn => by
    obtain ⟨b, o, rfl, hp, hb, hc⟩ := h.at_ (by omega)
    refine ⟨b, o + k, by simp [Addr.add_lit], hp, hb, fun j hj => ?_⟩
    obtain ⟨A', n', c', e1, e2⟩ := hc (k + j) (by omega)
    refine ⟨A', n', c', by rw [Nat.add_assoc]; exact e1, ?_⟩
    rwa [show (L.drop k).getD j [] = L.getD (k + j) [] by simp [List.getD]]⟩
theorem RowsR.endk (h : RowsR w O P A n c L) (hk : n ≤ k) : RowsR w O P A 0 0 (L.drop k) := by
  have e : L.drop k = [] := List.drop_of_length_le (by have := h.len; omega)
  rw [e]
  exact ⟨rfl, by omega, by omega, fun _ => ⟨rfl, rfl⟩, fun h => by omega⟩
theorem RowsR.takek (h : RowsR w O P A n c L) (hk : k ≤ n) : RowsR w O P A k c (L.take k) :=
  ⟨by rw [List.length_take, h.len]; omega, by have := h.fit; omega, h.cap, fun e => by have := h.nil e; omega, fun hn => by
    obtain ⟨b, o, e, hp, hb, hc⟩ := h.at_ (by omega)
    refine ⟨b, o, e, hp, hb, fun j hj => ?_⟩
    obtain ⟨A', n', c', e1, e2⟩ := hc j (by omega)
    refine ⟨A', n', c', e1, ?_⟩
    rwa [show (L.take k).getD j [] = L.getD j [] by simp [List.getD, List.getElem?_take, hj]]⟩
/-- Its cells, as a list. -/
theorem RowsR.list (h : RowsR w O P A n c L) : ∃ xs, Rows w P xs L ∧ xs.length = n ∧ ∀ ad, A = some ad → ∀ j u, xs[j]? = some u → w.cell? (ad.add j) = some u := by
  rcases Nat.eq_zero_or_pos n with h0 | h0
  · subst h0
    obtain rfl := List.eq_nil_of_length_eq_zero h.len
    exact ⟨[], Rows.nil, rfl, fun ad _ j u hu => by simp at hu⟩
  · obtain ⟨b, o, rfl, hp, hb, hc⟩ := h.at_ h0
    have ee : ∀ j, j < n → ∃ v, w.cell? ⟨b, o + j, none⟩ = some v ∧ ∃ A' n' c', v = .slice A' n' c' ∧ RowP w P A' n' c' (L.getD j []) := fun j hj => by
      obtain ⟨A', n', c', e1, e2⟩ := hc j hj
      exact ⟨_, e1, A', n', c', rfl, e2⟩
    refine ⟨(List.range n).map (fun j => (w.cell? ⟨b, o + j, none⟩).getD undef), ⟨by simp [h.len], fun j hj => ?_⟩, by simp, fun ad e j u hu => ?_⟩
    · obtain ⟨v, e1, A', n', c', rfl, e2⟩ := ee j (by rw [← h.len]; exact hj)
      refine ⟨A', n', c', ?_, e2⟩
      have hj' : j < n := by rw [← h.len]; exact hj
      simp [hj', e1]
    · obtain rfl := Option.some.inj e
      have hj : j < n := by
        have := (List.getElem?_eq_some_iff.1 hu).1
        simpa using this
      obtain ⟨v, e1, _⟩ := ee j hj
      rw [Addr.add_lit]
      simp [hj, e1] at hu
      rw [e1, hu]
end
end Go.Proofs.YtfneloobfidckaaGreatDoor

/- Rows of one's own that grow, and rows of rows that grow. It proves no statement. -/

namespace Go.Proofs.YtfneloobfidckaaGreatDoor
open Go.RowKit
set_option linter.unusedVariables false
set_option linter.unusedSimpArgs false

/-- A row of rows that grows by a row whose block is young. -/
structure Grow (w wr : World) (v : Value) (L : List (List UInt8)) (xs : List Value) : Prop where
  own : wr.ownsRow w.heap.size 42 1 v L.length xs
  rows : Rows wr (fun k => w.heap.size ≤ k ∧ v.ownBlock ≠ some k) xs L
  st : Still w wr
theorem Grow.nil (w : World) : Grow w w (.slice none 0 0) [] [] := ⟨World.ownsRow_nil _ _ _ _, Rows.nil, Still.refl w⟩
theorem Grow.still {w wr w' : World} {v : Value} {L : List (List UInt8)} {xs : List Value} (h : Grow w wr v L xs) (s : Still wr w') : Grow w w' v L xs := ⟨still_own h.own s, h.rows.still s, Still.trans h.st s⟩
/-- One row more, made behind wr, pushed at w3. -/
theorem Grow.push {w wr w3 w4 : World} {v v' : Value} {L : List (List UInt8)} {xs : List Value} (h : Grow w wr v L xs) (s : Still wr w3) {A : Option Addr} {n c : Nat} {l : List UInt8}
    (r : RowP w3 (fun k => wr.heap.size ≤ k) A n c l) (o4 : w4.ownsRow w.heap.size 42 1 v' (L.length + 1) (xs ++ [.slice A n c])) (g : w3.grownBy w4 v.ownBlock) (hv : v'.ownBlock = v.ownBlock ∨ v'.ownBlock = some (w3.heap.size + 1)) :
    Grow w w4 v' (L ++ [l]) (xs ++ [.slice A n c]) := by
  have hlt := own_block_lt h.own
  have h3 := h.still s
  have hne : ∀ k, k < w3.heap.size → v.ownBlock ≠ some k → v'.ownBlock ≠ some k := by
    intro k hk hn
    rcases hv with e | e
    · rwa [e]
    · rw [e]
      intro x
      have := Option.some.inj x
      omega
  have hr : ∀ k, wr.heap.size ≤ k → v.ownBlock ≠ some k := fun k hk e => by have := hlt k e; omega
  refine ⟨by rw [List.length_append, List.length_singleton]; exact o4, ?_, still_push h3.st h3.own (Nat.le_refl _) g⟩
  have q1 := h3.rows.mono (Q := fun k => (w.heap.size ≤ k ∧ v'.ownBlock ≠ some k) ∧ v.ownBlock ≠ some k) (fun k hk hk2 => ⟨⟨hk.1, hne k hk2 hk.2⟩, hk.2⟩)
  have q2 := r.mono (Q := fun k => (w.heap.size ≤ k ∧ v'.ownBlock ≠ some k) ∧ v.ownBlock ≠ some k) (fun k hk hk2 => ⟨⟨Nat.le_trans h.st.size hk, hne k hk2 (hr k hk)⟩, hr k hk⟩)
  have kp : ∀ b, ((w.heap.size ≤ b ∧ v'.ownBlock ≠ some b) ∧ v.ownBlock ≠ some b) → b < w3.heap.size → w4.heap[b]? = w3.heap[b]? := fun b hb hb2 => g.block b hb2 (fun e => hb.2 e.symm)
  exact Rows.snoc ((q1.keep kp g.size).mono fun k hk _ => hk.1) ((q2.keep kp g.size).mono fun k hk _ => hk.1)
end Go.Proofs.YtfneloobfidckaaGreatDoor
