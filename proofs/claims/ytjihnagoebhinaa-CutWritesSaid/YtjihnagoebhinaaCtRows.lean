/- Rows of bytes in blocks of a kind, and rows of such rows. It proves no statement. -/
import Derived.Test.YtjihnagoebhinaaRowB
import Derived.Test.YtjihnagoebhinaaRowS
import Derived.Test.YtjihnagoebhinaaChg
namespace Go.Proofs.Ytjihnagoebhinaa
open Go.RowKit
set_option linter.unusedVariables false
set_option linter.unusedSimpArgs false

/-- A slice of bytes in a block of P. -/
structure RowP (w : World) (P : Nat → Prop) (A : Option Addr) (n c : Nat) (l : List UInt8) : Prop where
  len : l.length = n
  fit : n ≤ c
  cap : c ≤ 9223372036854775807
  nil : A = none → n = 0 ∧ c = 0
  at_ : 0 < n → ∃ b o, A = some ⟨b, o, none⟩ ∧ P b ∧ b < w.heap.size ∧ ∀ i, i < n → w.cell? ⟨b, o + i, none⟩ = some (Value.int .u8 ((l.getD i 0).toNat : Int))
section
variable {w w' : World} {P Q : Nat → Prop} {A : Option Addr} {n c k : Nat} {l : List UInt8}
theorem RowP.reads (h : RowP w P A n c l) : Reads w w.heap.size A n l :=
  ⟨h.len, fun hn => by obtain ⟨b, o, e, _, hb, hc⟩ := h.at_ hn; exact ⟨b, o, e, hb, hc⟩⟩
theorem RowP.rowS (h : RowP w P A n c l) : RowS w w.heap.size A n c l := ⟨h.reads, h.fit, h.cap, h.nil⟩
theorem RowP.none_ : RowP w P none 0 0 [] := ⟨rfl, Nat.le_refl _, by omega, fun _ => ⟨rfl, rfl⟩, fun h => absurd h (by omega)⟩
theorem RowP.keep (h : RowP w P A n c l) (hk : ∀ b, P b → b < w.heap.size → w'.heap[b]? = w.heap[b]?) (hs : w.heap.size ≤ w'.heap.size) : RowP w' P A n c l :=
  ⟨h.len, h.fit, h.cap, h.nil, fun hn => by
    obtain ⟨b, o, e, hp, hb, hc⟩ := h.at_ hn
    exact ⟨b, o, e, hp, by omega, fun i hi => (World.cell?_of_block (w := w) (hk b hp hb)).trans (hc i hi)⟩⟩
theorem RowP.chg {S : Nat → Prop} (h : RowP w P A n c l) (g : Chg w w' S) (hS : ∀ b, P b → b < w.heap.size → ¬ S b) : RowP w' P A n c l := h.keep (fun b hp hb => g.block b hb (hS b hp hb)) g.size
theorem RowP.still (h : RowP w P A n c l) (s : Still w w') : RowP w' P A n c l := h.keep (fun b _ hb => s.block b hb) s.size
theorem RowP.mono (h : RowP w P A n c l) (hP : ∀ b, P b → b < w.heap.size → Q b) : RowP w Q A n c l :=
  ⟨h.len, h.fit, h.cap, h.nil, fun hn => by obtain ⟨b, o, e, hp, hb, hc⟩ := h.at_ hn; exact ⟨b, o, e, hP b hp hb, hb, hc⟩⟩
theorem RowP.of_rowS {B : Nat} (h : RowS w B A n c l) (hB : B ≤ w.heap.size) : RowP w (fun b => b < B) A n c l :=
  ⟨h.reads.1, h.fit, h.cap, h.nil, fun hn => by obtain ⟨b, o, e, hb, hc⟩ := h.reads.2 hn; exact ⟨b, o, e, hb, by omega, hc⟩⟩
theorem RowP.of_own {base : Nat} (h : w.ownsRow base 5 1 (.slice A n c) n (bytesV l)) : RowP w (fun b => base ≤ b ∧ (Value.slice A n c).ownBlock = some b) A n c l := by
  have hr := Reads.of_own h
  obtain ⟨A', c', e, h1, h2, h3⟩ := own_form h
  injection e with e1 e2 e3
  subst e1
  subst e3
  refine ⟨hr.1, h1, h2, h3, fun hn => ?_⟩
  obtain ⟨b, o, rfl, hb, hc⟩ := hr.2 hn
  refine ⟨b, o, rfl, ⟨?_, rfl⟩, hb, hc⟩
  rcases h.2 with ⟨_, h0⟩ | ⟨g, cp, cur, hv, hg, _⟩
  · omega
  · injection hv with hv1
    cases hv1
    exact hg
theorem RowP.dropk (h : RowP w P A n c l) (hk : k ≤ n) : RowP w P (A.map (·.add k)) (n - k) (c - k) (l.drop k) :=
  ⟨by rw [List.length_drop, h.len], by have := h.fit; omega, by have := h.cap; omega, fun e => by
    have e2 : A = none := by simpa using e
    have := h.nil e2
    omega, fun hn => by
    obtain ⟨b, o, rfl, hp, hb, hc⟩ := h.at_ (by omega)
    refine ⟨b, o + k, by simp [Addr.add_lit], hp, hb, fun i hi => ?_⟩
    have := hc (k + i) (by omega)
    rw [Nat.add_assoc, this]
    simp [List.getD]⟩
theorem RowP.endk (h : RowP w P A n c l) (hk : n ≤ k) : RowP w P A 0 0 (l.drop k) := by
  have e : l.drop k = [] := List.drop_of_length_le (by have := h.len; omega)
  rw [e]
  exact ⟨rfl, by omega, by omega, fun _ => ⟨rfl, rfl⟩, fun h => by omega⟩
theorem RowP.takek (h : RowP w P A n c l) (hk : k ≤ n) : RowP w P A k c (l.take k) :=
  ⟨by rw [List.length_take, h.len]; omega, by have := h.fit; omega, h.cap, fun e => by have := h.nil e; omega, fun hn => by
    obtain ⟨b, o, e, hp, hb, hc⟩ := h.at_ (by omega)
    refine ⟨b, o, e, hp, hb, fun i hi => ?_⟩
    rw [hc i (by omega)]
    have : (l.take k).getD i 0 = l.getD i 0 := by simp [List.getD, List.getElem?_take, hi]
    rw [this]⟩
/-- Cells that are such slices. -/
def Rows (w : World) (P : Nat → Prop) (xs : List Value) (L : List (List UInt8)) : Prop :=
  xs.length = L.length ∧ ∀ j, j < L.length → ∃ A n c, xs[j]? = some (.slice A n c) ∧ RowP w P A n c (L.getD j [])
theorem Rows.nil : Rows w P [] [] := ⟨rfl, fun j hj => by simp at hj⟩
theorem Rows.app {xs ys : List Value} {L M : List (List UInt8)} (h : Rows w P xs L) (k : Rows w P ys M) : Rows w P (xs ++ ys) (L ++ M) := by
  refine ⟨by rw [List.length_append, List.length_append, h.1, k.1], fun j hj => ?_⟩
  rw [List.length_append] at hj
  by_cases e : j < L.length
  · obtain ⟨A, n, c, e1, e2⟩ := h.2 j e
    refine ⟨A, n, c, by rw [List.getElem?_append_left (by rw [h.1]; exact e)]; exact e1, ?_⟩
    rwa [show (L ++ M).getD j [] = L.getD j [] by simp [List.getD, List.getElem?_append_left e]]
  · obtain ⟨A, n, c, e1, e2⟩ := k.2 (j - L.length) (by omega)
    refine ⟨A, n, c, by rw [List.getElem?_append_right (by rw [h.1]; omega), h.1]; exact e1, ?_⟩
    rwa [show (L ++ M).getD j [] = M.getD (j - L.length) [] by simp [List.getD, List.getElem?_append_right (show L.length ≤ j by omega)]]
theorem Rows.one (h : RowP w P A n c l) : Rows w P [.slice A n c] [l] := by
  refine ⟨rfl, fun j hj => ?_⟩
  simp only [List.length_singleton] at hj
  obtain rfl : j = 0 := by omega
  exact ⟨A, n, c, rfl, by simpa using h⟩
theorem Rows.snoc {xs : List Value} {L : List (List UInt8)} (h : Rows w P xs L) (k : RowP w P A n c l) : Rows w P (xs ++ [.slice A n c]) (L ++ [l]) := h.app (Rows.one k)
theorem Rows.keep {xs : List Value} {L : List (List UInt8)} (h : Rows w P xs L) (hk : ∀ b, P b → b < w.heap.size → w'.heap[b]? = w.heap[b]?) (hs : w.heap.size ≤ w'.heap.size) : Rows w' P xs L :=
  ⟨h.1, fun j hj => by obtain ⟨A, n, c, e1, e2⟩ := h.2 j hj; exact ⟨A, n, c, e1, e2.keep hk hs⟩⟩
theorem Rows.chg {S : Nat → Prop} {xs : List Value} {L : List (List UInt8)} (h : Rows w P xs L) (g : Chg w w' S) (hS : ∀ b, P b → b < w.heap.size → ¬ S b) : Rows w' P xs L := h.keep (fun b hp hb => g.block b hb (hS b hp hb)) g.size
theorem Rows.still {xs : List Value} {L : List (List UInt8)} (h : Rows w P xs L) (s : Still w w') : Rows w' P xs L := h.keep (fun b _ hb => s.block b hb) s.size
theorem Rows.mono {xs : List Value} {L : List (List UInt8)} (h : Rows w P xs L) (hP : ∀ b, P b → b < w.heap.size → Q b) : Rows w Q xs L :=
  ⟨h.1, fun j hj => by obtain ⟨A, n, c, e1, e2⟩ := h.2 j hj; exact ⟨A, n, c, e1, e2.mono hP⟩⟩
theorem Rows.cells {xs : List Value} {L : List (List UInt8)} (h : Rows w P xs L) : ∀ u ∈ xs, u.oneCell' = true := by
  intro u hu
  obtain ⟨j, hj, rfl⟩ := List.mem_iff_getElem.1 hu
  obtain ⟨A, n, c, e1, _⟩ := h.2 j (by rw [← h.1]; exact hj)
  rw [List.getElem?_eq_getElem hj] at e1
  rw [Option.some.inj e1]
  rfl
/-- A slice of rows that can be read: its cells in a block of O, the rows in blocks of P. -/
structure RowsR (w : World) (O P : Nat → Prop) (A : Option Addr) (n c : Nat) (L : List (List UInt8)) : Prop where
  len : L.length = n
  fit : n ≤ c
  cap : c ≤ 9223372036854775807
  nil : A = none → n = 0 ∧ c = 0
  at_ : 0 < n → ∃ b o, A = some ⟨b, o, none⟩ ∧ O b ∧ b < w.heap.size ∧ ∀ j, j < n → ∃ A' n' c', w.cell? ⟨b, o + j, none⟩ = some (.slice A' n' c') ∧ RowP w P A' n' c' (L.getD j [])
variable {O O' : Nat → Prop} {L : List (List UInt8)}
theorem RowsR.none_ : RowsR w O P none 0 0 [] := ⟨rfl, Nat.le_refl _, by omega, fun _ => ⟨rfl, rfl⟩, fun h => absurd h (by omega)⟩
theorem own_formB {e : TypeId} {base : Nat} {v : Value} {xs : List Value} (h : w.ownsRow base e 1 v n xs) :
    ∃ A c, v = .slice A n c ∧ n ≤ c ∧ c ≤ 9223372036854775807 ∧ (A = none → n = 0 ∧ c = 0) := by
  rcases h.2 with ⟨rfl, rfl⟩ | ⟨g, cap, cur, rfl, _, _, hnc, hm, _⟩
  · exact ⟨none, 0, rfl, Nat.le_refl _, by omega, fun _ => ⟨rfl, rfl⟩⟩
  · exact ⟨_, cap, rfl, hnc, by unfold maxLen at hm; omega, fun e => by cases e⟩
theorem RowsR.of_own {base : Nat} {xs : List Value} (h : w.ownsRow base 25 1 (.slice A n c) n xs) (r : Rows w P xs L) : RowsR w (fun b => base ≤ b ∧ (Value.slice A n c).ownBlock = some b) P A n c L := by
  have hl : xs.length = n := by have := h.1; omega
  obtain ⟨A', c', e, h1, h2, h3⟩ := own_formB h
  injection e with e1 e2 e3
  subst e1
  subst e3
  refine ⟨by rw [← r.1, hl], h1, h2, h3, fun hn => ?_⟩
  rcases h.2 with ⟨_, h0⟩ | ⟨g, cp, cur, hv, hg, hb, _⟩
  · omega
  · injection hv with hv1
    subst hv1
    refine ⟨g, 0, rfl, ⟨hg, rfl⟩, (Array.getElem?_eq_some_iff.1 hb).1, fun j hj => ?_⟩
    obtain ⟨A, n', c', e1, e2⟩ := r.2 j (by rw [← r.1, hl]; exact hj)
    refine ⟨A, n', c', ?_, e2⟩
    rw [Nat.zero_add, h.cellAt j (by omega)]
    exact e1
theorem RowsR.keep (h : RowsR w O P A n c L) (hk : ∀ b, P b ∨ O b → b < w.heap.size → w'.heap[b]? = w.heap[b]?) (hs : w.heap.size ≤ w'.heap.size) : RowsR w' O P A n c L :=
  ⟨h.len, h.fit, h.cap, h.nil, fun hn => by
    obtain ⟨b, o, e, hp, hb, hc⟩ := h.at_ hn
    refine ⟨b, o, e, hp, by omega, fun j hj => ?_⟩
    obtain ⟨A', n', c', e1, e2⟩ := hc j hj
    exact ⟨A', n', c', (World.cell?_of_block (w := w) (hk b (.inr hp) hb)).trans e1, e2.keep (fun b hp => hk b (.inl hp)) hs⟩⟩
theorem RowsR.chg {S : Nat → Prop} (h : RowsR w O P A n c L) (g : Chg w w' S) (hS : ∀ b, P b ∨ O b → b < w.heap.size → ¬ S b) : RowsR w' O P A n c L := h.keep (fun b hp hb => g.block b hb (hS b hp hb)) g.size
theorem RowsR.still (h : RowsR w O P A n c L) (s : Still w w') : RowsR w' O P A n c L := h.keep (fun b _ hb => s.block b hb) s.size
theorem RowsR.mono (h : RowsR w O P A n c L) (hO : ∀ b, O b → b < w.heap.size → O' b) (hP : ∀ b, P b → b < w.heap.size → Q b) : RowsR w O' Q A n c L :=
  ⟨h.len, h.fit, h.cap, h.nil, fun hn => by
    obtain ⟨b, o, e, hp, hb, hc⟩ := h.at_ hn
    refine ⟨b, o, e, hO b hp hb, hb, fun j hj => ?_⟩
    obtain ⟨A', n', c', e1, e2⟩ := hc j hj
    exact ⟨A', n', c', e1, e2.mono hP⟩⟩
theorem RowsR.dropk (h : RowsR w O P A n c L) (hk : k ≤ n) : RowsR w O P (A.map (·.add k)) (n - k) (c - k) (L.drop k) :=
  ⟨by rw [List.length_drop, h.len], by have := h.fit; omega, by have := h.cap; omega, fun e => by
    have e2 : A = none := by simpa using e
    have := h.nil e2
    omega, fun hn => by
    obtain ⟨b, o, rfl, hp, hb, hc⟩ := h.at_ (by omega)
    refine ⟨b, o + k, by simp [Addr.add_lit], hp, hb, fun j hj => ?_⟩
    obtain ⟨A', n', c', e1, e2⟩ := hc (k + j) (by omega)
    refine ⟨A', n', c', by rw [Nat.add_assoc]; exact e1, ?_⟩
    rwa [show (L.drop k).getD j [] = L.getD (k + j) [] by simp [List.getD]]⟩
theorem RowsR.endk (h : RowsR w O P A n c L) (hk : n ≤ k) : RowsR w O P A 0 0 (L.drop k) := by
  have e : L.drop k = [] := List.drop_of_length_le (by have := h.len; omega)
  rw [e]
  exact ⟨rfl, by omega, by omega, fun _ => ⟨rfl, rfl⟩, fun h => by omega⟩
theorem RowsR.takek (h : RowsR w O P A n c L) (hk : k ≤ n) : RowsR w O P A k c (L.take k) :=
  ⟨by rw [List.length_take, h.len]; omega, by have := h.fit; omega, h.cap, fun e => by have := h.nil e; omega, fun hn => by
    obtain ⟨b, o, e, hp, hb, hc⟩ := h.at_ (by omega)
    refine ⟨b, o, e, hp, hb, fun j hj => ?_⟩
    obtain ⟨A', n', c', e1, e2⟩ := hc j (by omega)
    refine ⟨A', n', c', e1, ?_⟩
    rwa [show (L.take k).getD j [] = L.getD j [] by simp [List.getD, List.getElem?_take, hj]]⟩
/-- Its cells, as a list. -/
theorem RowsR.list (h : RowsR w O P A n c L) : ∃ xs, Rows w P xs L ∧ xs.length = n ∧ ∀ ad, A = some ad → ∀ j u, xs[j]? = some u → w.cell? (ad.add j) = some u := by
  rcases Nat.eq_zero_or_pos n with h0 | h0
  · subst h0
    obtain rfl := List.eq_nil_of_length_eq_zero h.len
    exact ⟨[], Rows.nil, rfl, fun ad _ j u hu => by simp at hu⟩
  · obtain ⟨b, o, rfl, hp, hb, hc⟩ := h.at_ h0
    have ee : ∀ j, j < n → ∃ v, w.cell? ⟨b, o + j, none⟩ = some v ∧ ∃ A' n' c', v = .slice A' n' c' ∧ RowP w P A' n' c' (L.getD j []) := fun j hj => by
      obtain ⟨A', n', c', e1, e2⟩ := hc j hj
      exact ⟨_, e1, A', n', c', rfl, e2⟩
    refine ⟨(List.range n).map (fun j => (w.cell? ⟨b, o + j, none⟩).getD undef), ⟨by simp [h.len], fun j hj => ?_⟩, by simp, fun ad e j u hu => ?_⟩
    · obtain ⟨v, e1, A', n', c', rfl, e2⟩ := ee j (by rw [← h.len]; exact hj)
      refine ⟨A', n', c', ?_, e2⟩
      have hj' : j < n := by rw [← h.len]; exact hj
      simp [hj', e1]
    · obtain rfl := Option.some.inj e
      have hj : j < n := by
        have := (List.getElem?_eq_some_iff.1 hu).1
        simpa using this
      obtain ⟨v, e1, _⟩ := ee j hj
      rw [Addr.add_lit]
      simp [hj, e1] at hu
      rw [e1, hu]
end
end Go.Proofs.Ytjihnagoebhinaa
