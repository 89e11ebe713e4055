/- Contracts and facts, several texts in one. It proves no statement. -/
import Derived.Test.YtljacdbdjacbkaaGreatMpGa
import Derived.Test.YtljacdbdjacbkaaGreatMpGe
import Derived.Test.YtljacdbdjacbkaaGreatMpGm
import Derived.Test.YtljacdbdjacbkaaGreatMpGc
import Derived.Deep.MidRow

/- Rows of one's own, whatever their elements. It proves no statement. -/

namespace Go.Proofs.YtljacdbdjacbkaaGreat
open Go.RowKit
set_option linter.unusedVariables false
set_option linter.unusedSimpArgs false

theorem own_formB {e : TypeId} {z : Nat} {base : Nat} {v : Value} {xs : List Value} {w : World} {n : Nat} (h : w.ownsRow base e z v n xs) :
    ∃ A c, v = .slice A n c ∧ n ≤ c ∧ c ≤ 9223372036854775807 ∧ (A = none → n = 0 ∧ c = 0) := by
  rcases h.2 with ⟨rfl, rfl⟩ | ⟨g, cap, cur, rfl, _, _, hnc, hm, _⟩
  · exact ⟨none, 0, rfl, Nat.le_refl _, by omega, fun _ => ⟨rfl, rfl⟩⟩
  · exact ⟨_, cap, rfl, hnc, by unfold maxLen at hm; omega, fun e => by cases e⟩
theorem own_grown {a b : World} {r : Option Nat} (h : a.grownBy b r) {base z n : Nat} {e : TypeId} {v : Value} {xs : List Value} (ho : a.ownsRow base e z v n xs) (hr : ∀ k, v.ownBlock = some k → r ≠ some k) : b.ownsRow base e z v n xs := by
  refine ⟨ho.1, ?_⟩
  rcases ho.2 with h0 | ⟨g, c, cur, h1, h2, h3, h4⟩
  · exact .inl h0
  · subst h1
    exact .inr ⟨g, c, cur, rfl, h2, (h.block g (Array.getElem?_eq_some_iff.1 h3).1 (fun e => hr g rfl e.symm)).trans h3, h4⟩
/-- A row of one's own grows: what lies below stays. -/
theorem own_block_ge {wr : World} {lo : Nat} {e : TypeId} {z : Nat} {n : Nat} {v : Value} {xs : List Value} (o : wr.ownsRow lo e z v n xs) (k : Nat) (hk : v.ownBlock = some k) : lo ≤ k := by
  rcases o.2 with ⟨e, _⟩ | ⟨g, cp, cur, e, hg, _⟩
  · rw [e] at hk; simp [Value.ownBlock] at hk
  · rw [e] at hk; simp [Value.ownBlock] at hk; omega
theorem still_push {w wr w' : World} {lo : Nat} {e : TypeId} {z : Nat} {n : Nat} {v : Value} {xs : List Value} (s : Still w wr) (o : wr.ownsRow lo e z v n xs) (hlo : w.heap.size ≤ lo) (g : wr.grownBy w' v.ownBlock) : Still w w' :=
  s.grown g s.size (fun k hk => Nat.le_trans hlo (own_block_ge o k hk))
theorem low_push {wr w' : World} {lo : Nat} {e : TypeId} {z : Nat} {n : Nat} {v : Value} {xs : List Value} (o : wr.ownsRow lo e z v n xs) (g : wr.grownBy w' v.ownBlock) (k : Nat) (hk : k < lo) (hk2 : k < wr.heap.size) : w'.heap[k]? = wr.heap[k]? :=
  g.block k hk2 (fun e => by have := own_block_ge o k e.symm; omega)
theorem still_own {w w' : World} {base z n : Nat} {e : TypeId} {v : Value} {xs : List Value} (ho : w.ownsRow base e z v n xs) (s : Still w w') : w'.ownsRow base e z v n xs :=
  own_grown (r := none) ⟨s.os, s.tape, s.output, s.size, fun k hk _ => s.block k hk⟩ ho (fun k _ e => by cases e)
theorem own_block_lt {wr : World} {lo : Nat} {e : TypeId} {z : Nat} {n : Nat} {v : Value} {xs : List Value} (o : wr.ownsRow lo e z v n xs) (k : Nat) (hk : v.ownBlock = some k) : k < wr.heap.size := by
  rcases o.2 with ⟨e, _⟩ | ⟨g, cp, cur, e, _, hg, _⟩
  · rw [e] at hk; simp [Value.ownBlock] at hk
  · rw [e] at hk; simp [Value.ownBlock] at hk
    have := (Array.getElem?_eq_some_iff.1 hg).1
    omega
theorem own_base {w : World} {lo base z n : Nat} {e : TypeId} {v : Value} {xs : List Value} (h : w.ownsRow base e z v n xs) (hlo : lo ≤ base) : w.ownsRow lo e z v n xs := by
  refine ⟨h.1, ?_⟩
  rcases h.2 with h0 | ⟨g, c, cur, h1, h2, h3⟩
  · exact .inl h0
  · exact .inr ⟨g, c, cur, h1, Nat.le_trans hlo h2, h3⟩
theorem own_at {w : World} {base M c : Nat} {e : TypeId} {A : Option Addr} {xs : List Value} (h : w.ownsRow base e 1 (.slice A M c) M xs) (i : Nat) (hi : i < M) (x : Value) (hx : xs[i]? = some x) : ∃ g, A = some ⟨g, 0, none⟩ ∧ w.cell? ⟨g, i, none⟩ = some x := by
  rcases h.2 with ⟨_, h0⟩ | ⟨g, cp, cur, hv, hg, hb, _⟩
  · omega
  · injection hv with hv1
    subst hv1
    exact ⟨g, rfl, (h.cellAt i (by have := h.1; omega)).trans hx⟩
end Go.Proofs.YtljacdbdjacbkaaGreat

/- Rows of the document's names; contracts of without, with, linked. It proves no statement. -/





namespace Go.Proofs.YtljacdbdjacbkaaGreat
open Go.RowKit Go.Maps Go.WideMaps Go.Sort
set_option linter.unusedVariables false
set_option linter.unusedSimpArgs false

/-- A name's text. -/
def nmS (p : List UInt8 × Nat) : ByteArray := ⟨p.1.toArray⟩
theorem nmS_list (p : List UInt8 × Nat) : (nmS p).toList = p.1 := by rw [ByteArray.toList_eq]; rfl
/-- Its cells. -/
def nmC (p : List UInt8 × Nat) : List Value := [.string (nmS p), .int .i64 (p.2 : Int)]
def nmV (N : NT) : List Value := N.flatMap nmC
theorem nmV_append (N M : NT) : nmV (N ++ M) = nmV N ++ nmV M := by simp [nmV]
theorem nmV_length (N : NT) : (nmV N).length = N.length * 2 := by
  induction N with
  | nil => rfl
  | cons p r ih =>
    have : (nmV (p :: r)).length = 2 + (nmV r).length := by simp [nmV, nmC]; omega
    rw [this, ih, List.length_cons]
    omega
theorem nmV_get : ∀ (N : NT) (i : Nat) (p : List UInt8 × Nat), N[i]? = some p → ∀ q u, (nmC p)[q]? = some u → (nmV N)[i * 2 + q]? = some u
  | [], i, p, h, _, _, _ => by simp at h
  | x :: r, 0, p, h, q, u, hu => by
    simp only [List.getElem?_cons_zero, Option.some.injEq] at h
    subst h
    have hq : q < 2 := by have := (List.getElem?_eq_some_iff.1 hu).1; simpa [nmC] using this
    show (nmC x ++ nmV r)[0 * 2 + q]? = some u
    rw [Nat.zero_mul, Nat.zero_add, List.getElem?_append_left (by simp [nmC]; exact hq)]
    exact hu
  | x :: r, i + 1, p, h, q, u, hu => by
    show (nmC x ++ nmV r)[(i + 1) * 2 + q]? = some u
    rw [List.getElem?_append_right (by simp [nmC]; omega), show (i + 1) * 2 + q - (nmC x).length = i * 2 + q by simp [nmC]; omega]
    exact nmV_get r i p (by simpa using h) q u hu
/-- A row of names that can be read, in a block of P. -/
structure NRow (w : World) (P : Nat → Prop) (A : Option Addr) (n c : Nat) (N : NT) : Prop where
  len : N.length = n
  fit : n ≤ c
  cap : c ≤ 9223372036854775807
  nil : A = none → n = 0 ∧ c = 0
  at_ : 0 < n → ∃ b, A = some ⟨b, 0, none⟩ ∧ P b ∧ b < w.heap.size ∧ ∀ i p, N[i]? = some p → w.rangeAt b (i * 2) (nmC p)
section
variable {w w' : World} {P Q S : Nat → Prop} {A : Option Addr} {n c : Nat} {N : NT}
theorem NRow.none_ : NRow w P none 0 0 [] := ⟨rfl, Nat.le_refl _, by omega, fun _ => ⟨rfl, rfl⟩, fun h => absurd h (by omega)⟩
theorem NRow.keep (h : NRow w P A n c N) (hk : ∀ b, P b → b < w.heap.size → w'.heap[b]? = w.heap[b]?) (hs : w.heap.size ≤ w'.heap.size) : NRow w' P A n c N :=
  ⟨h.len, h.fit, h.cap, h.nil, fun hn => by
    obtain ⟨b, e, hp, hb, hc⟩ := h.at_ hn
    exact ⟨b, e, hp, by omega, fun i p hi q u hq => (World.cell?_of_block (w := w) (hk b hp hb)).trans (hc i p hi q u hq)⟩⟩
theorem NRow.chg (h : NRow w P A n c N) (g : Chg w w' S) (hS : ∀ b, P b → b < w.heap.size → ¬ S b) : NRow w' P A n c N := h.keep (fun b hp hb => g.block b hb (hS b hp hb)) g.size
theorem NRow.still (h : NRow w P A n c N) (s : Still w w') : NRow w' P A n c N := h.keep (fun b _ hb => s.block b hb) s.size
theorem NRow.mono (h : NRow w P A n c N) (hP : ∀ b, P b → b < w.heap.size → Q b) : NRow w Q A n c N :=
  ⟨h.len, h.fit, h.cap, h.nil, fun hn => by obtain ⟨b, e, hp, hb, hc⟩ := h.at_ hn; exact ⟨b, e, hP b hp hb, hb, hc⟩⟩
theorem NRow.of_own {base : Nat} (h : w.ownsRow base 92 2 (.slice A n c) n (nmV N)) : NRow w (fun b => base ≤ b ∧ (Value.slice A n c).ownBlock = some b) A n c N := by
  have hl : N.length = n := by have := h.1; rw [nmV_length] at this; omega
  rcases h.2 with ⟨he, h0⟩ | ⟨g, cp, cur, hv, hg, hb, hnc, hm, _⟩
  · injection he with e1 e2 e3
    subst e1 e3
    exact ⟨hl, by omega, by omega, fun _ => ⟨h0, rfl⟩, fun hn => by omega⟩
  · injection hv with e1 _ e3
    subst e1 e3
    refine ⟨hl, hnc, by unfold maxLen at hm; omega, fun e => (by cases e), fun hn => ⟨g, rfl, ⟨hg, rfl⟩, (Array.getElem?_eq_some_iff.1 hb).1, fun i p hi q u hq => ?_⟩⟩
    have hiN := (List.getElem?_eq_some_iff.1 hi).1
    have hq2 : q < 2 := by have := (List.getElem?_eq_some_iff.1 hq).1; simpa [nmC] using this
    rw [h.cellAt (i * 2 + q) (by omega)]
    exact nmV_get N i p hi q u hq
/-- A name of the row. -/
theorem NRow.name (h : NRow w P A n c N) {i : Nat} (hi : i < n) : ∃ b p, A = some ⟨b, 0, none⟩ ∧ N[i]? = some p ∧ w.rangeAt b (i * 2) (nmC p) ∧ w.cell? ⟨b, i * 2, none⟩ = some (.string (nmS p)) ∧ w.cell? ⟨b, i * 2 + 1, none⟩ = some (.int .i64 (p.2 : Int)) := by
  obtain ⟨b, e, _, _, hc⟩ := h.at_ (by omega)
  have hl := h.len
  obtain ⟨p, hp⟩ : ∃ p, N[i]? = some p := ⟨_, List.getElem?_eq_getElem (by omega)⟩
  refine ⟨b, p, e, hp, hc i p hp, ?_, ?_⟩
  · have := hc i p hp 0 _ rfl
    simpa using this
  · exact hc i p hp 1 _ rfl
end
theorem nmS_eq {p : List UInt8 × Nat} {s : ByteArray} : (nmS p).toList = s.toList ↔ p.1 = s.data.toList := by rw [nmS_list, ByteArray.toList_eq]
theorem sizeName : (Tryz.prog.info? 92).map (·.size) = some 2 := by kernel_rfl
theorem nDel_take (N : NT) (s : List UInt8) (i : Nat) (p : List UInt8 × Nat) (h : N[i]? = some p) : nDel (N.take (i + 1)) s = nDel (N.take i) s ++ (if p.1 = s then [] else [p]) := by
  rw [List.take_add_one, h]
  unfold nDel
  rw [List.filter_append]
  congr 1
  by_cases e : p.1 = s <;> simp [e]
set_option maxRecDepth 100000 in
set_option maxHeartbeats 3200000 in
/-- Names but one. -/
theorem without_any (A : Option Addr) (n c : Nat) (N : NT) (s : ByteArray) (w : World) {P : Nat → Prop} (h : NRow w P A n c N) (hn : n ≤ 1000000) :
    Calls Tryz.prog 85 #[.slice A n c, .string s] w fun e w' => (∃ (A' : Option Addr) (c' : Nat), e = .returned (.slice A' (nDel N s.data.toList).length c') ∧ w'.ownsRow w.heap.size 92 2 (.slice A' (nDel N s.data.toList).length c') (nDel N s.data.toList).length (nmV (nDel N s.data.toList))) ∧ Still w w' := by
  have H := Lib.hid h
  have HL := Lib.hid h.len
  have hnc := h.fit
  have hcm := h.cap
  clear h
  go_enter Tryz.func85, Tryz.ntmps85
  go_wp2_with fail
  go_loopw [5, 6] (fun bv iv wr => ∃ (k : Nat) (v : Value), v = bv ∧ iv = .int .i64 k ∧ k ≤ n ∧ Hid (wr.ownsRow w.heap.size 92 2 v (nDel (N.take k) s.data.toList).length (nmV (nDel (N.take k) s.data.toList)) ∧ Still w wr)) (fun _ iv _ => n - (intOf iv).toNat)
  case atStart => exact ⟨0, _, rfl, rfl, Nat.zero_le _, Lib.hid ⟨World.ownsRow_nil _ _ _ _, Still.refl _⟩⟩
  case round =>
    obtain ⟨k, v, rfl, rfl, hk, hin⟩ := hrel
    by_cases hlt : k < n
    · obtain ⟨b, p, rfl, hp, hr, c0, c1⟩ := (H.out.still hin.out.2).name hlt
      have RNG := Lib.hid hr
      have HT := Lib.hid (nDel_take N s.data.toList k p hp)
      have HLT := Lib.hid hlt
      have OW := Lib.hid hin.out.1
      have ST := Lib.hid hin.out.2
      have HLN := Lib.hid (show (nDel (N.take k) s.data.toList).length ≤ 1000000 by
        have h1 : (nDel (N.take k) s.data.toList).length ≤ (N.take k).length := List.length_filter_le _ _
        have := List.length_take_le k N
        omega)
      have q1 : (0 : Int) ≤ (k : Int) := by omega
      have q2 : (k : Int) < (n : Int) := by omega
      have NE := Lib.hid (nmS_eq (p := p) (s := s))
      obtain ⟨X, hX⟩ : ∃ X, X = nmS p := ⟨_, rfl⟩
      rw [← hX] at c0 NE
      have RNG2 := Lib.hid (show wr.rangeAt b (k * 2) [.string X, .int .i64 (p.2 : Int)] from by have := RNG.out; unfold nmC at this; rw [← hX] at this; exact this)
      have HPX := Lib.hid (show nmV [p] = [.string X, .int .i64 (p.2 : Int)] from by rw [hX]; rfl)
      obtain ⟨D, hD⟩ : ∃ D, D = nDel (N.take k) s.data.toList := ⟨_, rfl⟩
      rw [← hD] at OW HT HLN
      clear hin hp hr c1 hlt hX hD
      by_cases he : p.1 = s.data.toList
      · have b1 : (X.toList == s.toList) = true := by rw [beq_iff_eq]; exact NE.out.2 he
        have b2 : (!X.toList == s.toList) = false := by rw [b1]; rfl
        rw [if_pos he, List.append_nil] at HT
        go_wp2_with fail
        go_roundw
        case rel => exact ⟨k + 1, v, rfl, by go_num, by have := HLT.out; omega, Lib.hid ⟨by rw [HT.out]; exact OW.out, ST.out⟩⟩
        case measure => simp [intOf]; have := HLT.out; omega
      · have b1 : (X.toList == s.toList) = false := by rw [beq_eq_false_iff_ne]; exact fun e => he (NE.out.1 e)
        have b2 : (!X.toList == s.toList) = true := by rw [b1]; rfl
        rw [if_neg he] at HT
        have HDN : D.length ≤ 1048576 := by have := HLN.out; omega
        go_wp2_with ((first
          | (guard_target =~ wpList _ _ _ (Oper.mk (some 24) _ _ _ _ _ :: _) _ _; go_must (refine wpList_load_mid rfl 92 (.tmp 23) rfl b (k * 2) rfl [.string X, .int .i64 (p.2 : Int)] _ RNG2.out Tryz.underlying92 rfl sizeName ?_))
          | (guard_target =~ wpList _ _ _ (Oper.mk (some 25) _ _ _ _ _ :: _) _ _; go_must (refine wpList_boxDn _ rfl _ rfl _ _ rfl ?_))
          | (guard_target =~ wpList _ _ _ (Oper.mk (some 26) _ _ _ _ _ :: _) _ _; go_must (refine wpList_pushDn _ rfl _ _ rfl w.heap.size _ _ _ rfl (OW.out.alloc _) wr.heap.size [.string X, .int .i64 (p.2 : Int)] rfl (fun q u hq => ((Blk.new wr 92 #[.string X, .int .i64 (p.2 : Int)]).cell q).trans (by simpa using hq)) rfl (by simp [Value.oneCell']) HDN (by have := ST.out.size; simp; omega) ?_))
          | fail))
        intro v' w4 o4 g4 hv4
        have ST4 := Lib.hid (still_push (ST.out.alloc ST.out.size _) (OW.out.alloc _) (Nat.le_refl _) g4)
        have OW4 := Lib.hid (show w4.ownsRow w.heap.size 92 2 v' (nDel (N.take (k + 1)) s.data.toList).length (nmV (nDel (N.take (k + 1)) s.data.toList)) from by
          rw [HT.out, List.length_append, nmV_append, HPX.out]
          exact o4)
        clear o4 g4 hv4 b1 b2
        go_wp2_with fail
        go_roundw
        case rel => exact ⟨k + 1, v', rfl, by go_num, by have := HLT.out; omega, Lib.hid ⟨OW4.out, ST4.out⟩⟩
        case measure => simp [intOf]; have := HLT.out; omega
    · obtain rfl : k = n := by omega
      have OW := hin.out.1
      rw [List.take_of_length_le (show N.length ≤ k by rw [HL.out]; exact Nat.le_refl _)] at OW
      obtain ⟨A', c', rfl, _⟩ : ∃ A' c', v = .slice A' (nDel N s.data.toList).length c' ∧ True := by
        rcases OW.2 with ⟨h, h0⟩ | ⟨g, cp, cur, h, _⟩
        · exact ⟨none, 0, by rw [h, h0], trivial⟩
        · exact ⟨_, cp, h, trivial⟩
      have FIN := Lib.hid (And.intro OW hin.out.2)
      clear OW hin
      go_wp2_with fail
      go_ret
      exact ⟨⟨A', c', rfl, FIN.out.1⟩, FIN.out.2⟩
end Go.Proofs.YtljacdbdjacbkaaGreat

/- Texts in order. It proves no statement. -/

namespace Go.Proofs.YtljacdbdjacbkaaGreat
open Go.RowKit
set_option linter.unusedSimpArgs false
theorem less_before : ∀ (x y : List UInt8), Op.bytesLess x y = bytesBefore x y
  | [], [] => rfl
  | [], _ :: _ => rfl
  | _ :: _, [] => rfl
  | a :: x, b :: y => by
    simp only [Op.bytesLess, bytesBefore]
    rw [less_before x y]
theorem gtr_before : ∀ (x y : List UInt8), (!(Op.bytesLess y x || (y == x))) = bytesBefore x y
  | [], [] => by simp [Op.bytesLess, bytesBefore]
  | [], b :: y => by simp [Op.bytesLess, bytesBefore]
  | a :: x, [] => by simp [Op.bytesLess, bytesBefore]
  | a :: x, b :: y => by
    have ih := gtr_before x y
    simp only [Op.bytesLess, bytesBefore]
    rcases Nat.lt_trichotomy a.toNat b.toNat with h | h | h
    · have h1 : a < b := h
      have h2 : ¬ b < a := fun q => by have : b.toNat < a.toNat := q; omega
      have h3 : ¬ a = b := fun q => by rw [q] at h; omega
      have h4 : ¬ b = a := fun q => h3 q.symm
      simp [h1, h2, h3, h4]
    · obtain rfl : a = b := UInt8.toNat_inj.1 h
      have h2 : ¬ a < a := fun q => by have : a.toNat < a.toNat := q; omega
      simpa [h2] using ih
    · have h1 : b < a := h
      have h2 : ¬ a < b := fun q => by have : a.toNat < b.toNat := q; omega
      have h3 : ¬ a = b := fun q => by rw [q] at h; omega
      have h4 : ¬ b = a := fun q => h3 q.symm
      simp [h1, h2, h3, h4]
end Go.Proofs.YtljacdbdjacbkaaGreat

/- Contract: a name put among rising ones. It proves no statement. -/


namespace Go.Proofs.YtljacdbdjacbkaaGreat
open Go.RowKit Go.Maps Go.WideMaps Go.Sort
set_option linter.unusedVariables false
set_option linter.unusedSimpArgs false

theorem nIns_drop (x : List UInt8 × Nat) (N : NT) (k : Nat) (y : List UInt8 × Nat) (h : N[k]? = some y) : nIns x (N.drop k) = if bytesBefore x.1 y.1 = true then x :: y :: N.drop (k + 1) else y :: nIns x (N.drop (k + 1)) := by
  have hk := (List.getElem?_eq_some_iff.1 h).1
  have e : N.drop k = y :: N.drop (k + 1) := by
    rw [List.drop_eq_getElem_cons hk, (List.getElem?_eq_some_iff.1 h).2]
  rw [e]
  rfl
theorem drop_get (N : NT) (k : Nat) (y : List UInt8 × Nat) (h : N[k]? = some y) : N.drop k = y :: N.drop (k + 1) := by
  have hk := (List.getElem?_eq_some_iff.1 h).1
  rw [List.drop_eq_getElem_cons hk, (List.getElem?_eq_some_iff.1 h).2]
theorem nIns_length (x : List UInt8 × Nat) (N : NT) : (nIns x N).length = N.length + 1 := by
  induction N with
  | nil => rfl
  | cons y r ih =>
    unfold nIns
    split
    · rfl
    · rw [List.length_cons, ih]; rfl
theorem own_formN {w : World} {base n z : Nat} {e : TypeId} {v : Value} {xs : List Value} (h : w.ownsRow base e z v n xs) : ∃ A c, v = .slice A n c := by
  rcases h.2 with ⟨h, h0⟩ | ⟨g, cp, cur, h, _⟩
  · exact ⟨none, 0, by rw [h, h0]⟩
  · exact ⟨_, cp, h⟩
/-- What is put out so far. -/
structure WithO (w2 wr : World) (v : Value) (O R : NT) : Prop where
  own : wr.ownsRow w2.heap.size 92 2 v O.length (nmV O)
  st : Still w2 wr
  all : ∃ T, O ++ T = R
/-- One more name, boxed and appended. -/
theorem WithO.push {w2 wr w4 : World} {v v' : Value} {O : NT} {p : List UInt8 × Nat} {cs : Array Value} (h : wr.ownsRow w2.heap.size 92 2 v O.length (nmV O)) (st : Still w2 wr) (o4 : w4.ownsRow w2.heap.size 92 2 v' (O.length + 1) (nmV O ++ nmC p)) (g4 : (wr.alloc (.cells cs 92)).grownBy w4 v.ownBlock) :
    w4.ownsRow w2.heap.size 92 2 v' (O ++ [p]).length (nmV (O ++ [p])) ∧ Still w2 w4 := by
  refine ⟨?_, still_push (st.alloc st.size _) (h.alloc _) (Nat.le_refl _) g4⟩
  rw [List.length_append, nmV_append]
  have : nmV [p] = nmC p := by simp [nmV]
  rw [this]
  exact o4
set_option maxRecDepth 100000 in
set_option maxHeartbeats 6400000 in
theorem with_any (A : Option Addr) (n c : Nat) (N : NT) (S : ByteArray) (f : Nat) (w : World) {P : Nat → Prop} (h : NRow w P A n c N) (hn : n ≤ 1000000) :
    Calls Tryz.prog 86 #[.slice A n c, .agg #[.string S, .int .i64 (f : Int)]] w fun e w' => (∃ (A' : Option Addr) (c' : Nat), e = .returned (.slice A' (nPut N S.data.toList f).length c') ∧ w'.ownsRow w.heap.size 92 2 (.slice A' (nPut N S.data.toList f).length c') (nPut N S.data.toList f).length (nmV (nPut N S.data.toList f))) ∧ Still w w' := by
  obtain ⟨wb, hwb⟩ : ∃ wb, wb = w.alloc (.cells #[.string S, .int .i64 (f : Int)] 92) := ⟨_, rfl⟩
  have SB := Lib.hid (show Still w wb by rw [hwb]; exact (Still.refl w).alloc (Nat.le_refl _) _)
  have BX := Lib.hid (show Blk wb w.heap.size 92 #[.string S, .int .i64 (f : Int)] by rw [hwb]; exact Blk.new _ _ _)
  have WO := Lib.hid (without_any A n c N S wb (h.still SB.out) hn)
  obtain ⟨D, hD⟩ : ∃ D, D = nDel N S.data.toList := ⟨_, rfl⟩
  have HDL := Lib.hid (show D.length ≤ 1000000 by
    have h1 : D.length ≤ N.length := by rw [hD]; exact List.length_filter_le _ _
    have := h.len
    omega)
  rw [← hD] at WO
  have EP := Lib.hid (show nPut N S.data.toList f = nIns (S.data.toList, f) D by unfold nPut; rw [hD])
  obtain ⟨R, hR⟩ : ∃ R, R = nPut N S.data.toList f := ⟨_, rfl⟩
  rw [← hR] at EP ⊢
  have HWB := Lib.hid hwb
  clear h hn hwb hD hR
  go_enter Tryz.func86, Tryz.ntmps86
  go_upto_region 1 with fail
  rw [← HWB.out]
  have xc0 : wb.cell? ⟨w.heap.size, 0, none⟩ = some (.string S) := BX.out.cell 0
  clear HWB
  go_wp2_with fail
  refine WO.out.mono ?_
  rintro e w2 ⟨⟨A', c', rfl, od⟩, s2⟩
  have ND := Lib.hid (NRow.of_own od)
  obtain ⟨m, hm⟩ : ∃ m, m = D.length := ⟨_, rfl⟩
  rw [← hm] at ND HDL ⊢
  have hm1 : m ≤ 1000000 := HDL.out
  have hmc : m ≤ c' := ND.out.fit
  have hcm : c' ≤ 9223372036854775807 := ND.out.cap
  have S2 := Lib.hid (Still.trans SB.out s2)
  have BX2 := Lib.hid (BX.out.still s2)
  have HM := Lib.hid hm
  clear WO od s2 xc0 hm
  go_wp2_with fail
  go_loopw [5, 6, 7] (fun bv dv iv wr => ∃ (k : Nat) (v : Value) (d : Bool) (O : NT), v = bv ∧ dv = .bool d ∧ iv = .int .i64 k ∧ k ≤ m ∧ Hid (wr.ownsRow w2.heap.size 92 2 v O.length (nmV O) ∧ Still w2 wr ∧ O ++ (if d = true then D.drop k else nIns (S.data.toList, f) (D.drop k)) = R)) (fun _ _ iv _ => m - (intOf iv).toNat)
  case atStart => exact ⟨0, _, false, [], rfl, rfl, rfl, Nat.zero_le _, Lib.hid ⟨World.ownsRow_nil _ _ _ _, Still.refl _, by rw [EP.out]; rfl⟩⟩
  case round =>
    obtain ⟨k, v, d, O, rfl, rfl, rfl, hk, hin⟩ := hrel
    have OW := Lib.hid hin.out.1
    have ST := Lib.hid hin.out.2.1
    have AL := Lib.hid hin.out.2.2
    have HOL := Lib.hid (show O.length ≤ 1000001 by
      have h1 := hin.out.2.2
      have h2 : R.length = D.length + 1 := by rw [EP.out, nIns_length]
      have h3 := congrArg List.length h1
      rw [List.length_append, h2] at h3
      have := HM.out
      omega)
    have BXR := Lib.hid (BX2.out.still hin.out.2.1)
    clear hin
    by_cases hlt : k < m
    · obtain ⟨b, p, rfl, hp, hr, c0, c1⟩ := (ND.out.still ST.out).name hlt
      have RNG := Lib.hid hr
      have HP := Lib.hid hp
      have HLT := Lib.hid hlt
      have q1 : (0 : Int) ≤ (k : Int) := by omega
      have q2 : (k : Int) < (m : Int) := by omega
      have NB := Lib.hid (show (!(Op.bytesLess (nmS p).toList S.toList || ((nmS p).toList == S.toList))) = bytesBefore S.data.toList p.1 by rw [gtr_before, nmS_list, ByteArray.toList_eq])
      obtain ⟨X, hX⟩ : ∃ X, X = nmS p := ⟨_, rfl⟩
      rw [← hX] at c0 NB
      have RNG2 := Lib.hid (show wr.rangeAt b (k * 2) [.string X, .int .i64 (p.2 : Int)] from by have := RNG.out; unfold nmC at this; rw [← hX] at this; exact this)
      have HPX := Lib.hid (show nmC p = [.string X, .int .i64 (p.2 : Int)] from by rw [hX]; rfl)
      have xs0 : wr.cell? ⟨w.heap.size, 0, none⟩ = some (.string S) := BXR.out.cell 0
      have HBX := Lib.hid (show wr.rangeAt w.heap.size 0 [.string S, .int .i64 (f : Int)] from fun q u hq => by
        rw [Nat.zero_add, BXR.out.cell q]
        simpa using hq)
      have HON : O.length ≤ 1048576 := by have := HOL.out; omega
      clear hp hr c1 hlt hX RNG
      by_cases hins : d = false ∧ bytesBefore S.data.toList p.1 = true
      · obtain ⟨rfl, hbf⟩ := hins
        have b1 : (!(Op.bytesLess X.toList S.toList || (X.toList == S.toList))) = true := by rw [NB.out]; exact hbf
        have HBF := Lib.hid hbf
        clear hbf
        go_wp2_with fail
        go_quiet (fail)
        have SD := Lib.hid (still_drewN (Still.refl wr) nq)
        generalize wr.drewN nq = wd at SD ⊢
        have STd := Lib.hid (Still.trans ST.out SD.out)
        have OWd := Lib.hid (still_own OW.out SD.out)
        have RNGd := Lib.hid (show wd.rangeAt b (k * 2) [.string X, .int .i64 (p.2 : Int)] from fun q u hq => (SD.out.cell (p := ⟨b, k * 2 + q, none⟩) (World.block_lt_of_cell? _ _ (RNG2.out q u hq))).trans (RNG2.out q u hq))
        have HBXd := Lib.hid (show wd.rangeAt w.heap.size 0 [.string S, .int .i64 (f : Int)] from fun q u hq => (SD.out.cell (p := ⟨w.heap.size, 0 + q, none⟩) BXR.out.lt).trans (HBX.out q u hq))
        go_upto_region 8 with fail
        go_wp2_with ((first
          | (guard_target =~ wpList _ _ _ (Oper.mk (some 31) _ _ _ _ _ :: _) _ _; go_must (refine wpList_load_mid rfl 92 (.tmp 3) rfl w.heap.size 0 rfl [.string S, .int .i64 (f : Int)] _ HBXd.out Tryz.underlying92 rfl sizeName ?_))
          | (guard_target =~ wpList _ _ _ (Oper.mk (some 32) _ _ _ _ _ :: _) _ _; go_must (refine wpList_boxDn _ rfl _ rfl _ _ rfl ?_))
          | (guard_target =~ wpList _ _ _ (Oper.mk (some 33) _ _ _ _ _ :: _) _ _; go_must (refine wpList_pushDn _ rfl _ _ rfl w2.heap.size _ _ _ rfl (OWd.out.alloc _) wd.heap.size [.string S, .int .i64 (f : Int)] rfl (fun q u hq => ((Blk.new wd 92 #[.string S, .int .i64 (f : Int)]).cell q).trans (by simpa using hq)) rfl (by simp [Value.oneCell']) HON (by have := STd.out.size; simp; omega) ?_))
          | fail))
        intro v4 w4 o4 g4 hv4
        have PPw4 := Lib.hid (WithO.push (p := (S.data.toList, f)) OWd.out STd.out (by show w4.ownsRow _ _ _ _ _ (_ ++ [.string ⟨S.data.toList.toArray⟩, .int .i64 (f : Int)]); exact o4) g4)
        clear o4 g4 hv4
        have HON4 : (O ++ [(S.data.toList, f)]).length ≤ 1048576 := by have := HOL.out; simp; omega
        have RNG4 := Lib.hid (show w4.rangeAt b (k * 2) [.string X, .int .i64 (p.2 : Int)] from by
          obtain ⟨b', p', e', hp', hr', _⟩ := (ND.out.still PPw4.out.2).name HLT.out
          rw [HP.out] at hp'
          obtain rfl := Option.some.inj hp'
          injection e' with e'
          injection e' with e'
          subst e'
          rw [HPX.out] at hr'
          exact hr')
        have OW4 := Lib.hid PPw4.out.1
        have ST4 := Lib.hid PPw4.out.2
        clear c0 xs0
        go_upto_region 10 with fail
        go_wp2_with ((first
          | (guard_target =~ wpList _ _ _ (Oper.mk (some 38) _ _ _ _ _ :: _) _ _; go_must (refine wpList_load_mid rfl 92 (.tmp 37) rfl b (k * 2) rfl [.string X, .int .i64 (p.2 : Int)] _ RNG4.out Tryz.underlying92 rfl sizeName ?_))
          | (guard_target =~ wpList _ _ _ (Oper.mk (some 39) _ _ _ _ _ :: _) _ _; go_must (refine wpList_boxDn _ rfl _ rfl _ _ rfl ?_))
          | (guard_target =~ wpList _ _ _ (Oper.mk (some 40) _ _ _ _ _ :: _) _ _; go_must (refine wpList_pushDn _ rfl _ _ rfl w2.heap.size _ _ _ rfl (OW4.out.alloc _) w4.heap.size [.string X, .int .i64 (p.2 : Int)] rfl (fun q u hq => ((Blk.new w4 92 #[.string X, .int .i64 (p.2 : Int)]).cell q).trans (by simpa using hq)) rfl (by simp [Value.oneCell']) HON4 (by have := ST4.out.size; simp; omega) ?_))
          | fail))
        intro v6 w6 o6 g6 hv4
        have PPw6 := Lib.hid (WithO.push (p := p) OW4.out ST4.out (by rw [HPX.out, show (O ++ [(S.data.toList, f)]).length = O.length + 1 by simp]; exact o6) g6)
        clear o6 g6 hv4
        go_wp2_with fail
        go_roundw
        case rel => exact ⟨k + 1, _, true, (O ++ [(S.data.toList, f)]) ++ [p], rfl, rfl, by go_num, by have := HLT.out; omega, Lib.hid ⟨PPw6.out.1, PPw6.out.2, by
          have hal := AL.out
          rw [if_neg (by decide), nIns_drop _ _ _ _ HP.out, if_pos HBF.out] at hal
          rw [if_pos rfl, List.append_assoc, List.append_assoc]
          exact hal⟩⟩
        case measure => simp [intOf]; have := HLT.out; omega
      · obtain ⟨dd, hdd⟩ : ∃ dd, dd = d := ⟨_, rfl⟩
        have HNI := Lib.hid hins
        clear hins
        cases d
        · have hb2 : bytesBefore S.data.toList p.1 = false := by
            cases hq : bytesBefore S.data.toList p.1
            · rfl
            · exact absurd ⟨rfl, hq⟩ HNI.out
          have b1 : (!(Op.bytesLess X.toList S.toList || (X.toList == S.toList))) = false := by rw [NB.out]; exact hb2
          have HBF := Lib.hid hb2
          clear hb2 hdd
          go_wp2_with fail
          go_quiet (fail)
          have SD := Lib.hid (still_drewN (Still.refl wr) nq)
          generalize wr.drewN nq = wd at SD ⊢
          have STd := Lib.hid (Still.trans ST.out SD.out)
          have OWd := Lib.hid (still_own OW.out SD.out)
          have RNGd := Lib.hid (show wd.rangeAt b (k * 2) [.string X, .int .i64 (p.2 : Int)] from fun q u hq => (SD.out.cell (p := ⟨b, k * 2 + q, none⟩) (World.block_lt_of_cell? _ _ (RNG2.out q u hq))).trans (RNG2.out q u hq))
          have HBXd := Lib.hid (show wd.rangeAt w.heap.size 0 [.string S, .int .i64 (f : Int)] from fun q u hq => (SD.out.cell (p := ⟨w.heap.size, 0 + q, none⟩) BXR.out.lt).trans (HBX.out q u hq))
          go_upto_region 10 with fail
          go_wp2_with ((first
            | (guard_target =~ wpList _ _ _ (Oper.mk (some 38) _ _ _ _ _ :: _) _ _; go_must (refine wpList_load_mid rfl 92 (.tmp 37) rfl b (k * 2) rfl [.string X, .int .i64 (p.2 : Int)] _ RNGd.out Tryz.underlying92 rfl sizeName ?_))
            | (guard_target =~ wpList _ _ _ (Oper.mk (some 39) _ _ _ _ _ :: _) _ _; go_must (refine wpList_boxDn _ rfl _ rfl _ _ rfl ?_))
            | (guard_target =~ wpList _ _ _ (Oper.mk (some 40) _ _ _ _ _ :: _) _ _; go_must (refine wpList_pushDn _ rfl _ _ rfl w2.heap.size _ _ _ rfl (OWd.out.alloc _) wd.heap.size [.string X, .int .i64 (p.2 : Int)] rfl (fun q u hq => ((Blk.new wd 92 #[.string X, .int .i64 (p.2 : Int)]).cell q).trans (by simpa using hq)) rfl (by simp [Value.oneCell']) HON (by have := STd.out.size; simp; omega) ?_))
            | fail))
          intro v6 w6 o6 g6 hv4
          have PPw6 := Lib.hid (WithO.push (p := p) OWd.out STd.out (by rw [HPX.out]; exact o6) g6)
          clear o6 g6 hv4
          go_wp2_with fail
          go_roundw
          case rel => exact ⟨k + 1, _, false, O ++ [p], rfl, rfl, by go_num, by have := HLT.out; omega, Lib.hid ⟨PPw6.out.1, PPw6.out.2, by
            have hal := AL.out
            rw [if_neg (by decide), nIns_drop _ _ _ _ HP.out, if_neg (by rw [HBF.out]; decide)] at hal
            rw [if_neg (by decide), List.append_assoc]
            exact hal⟩⟩
          case measure => simp [intOf]; have := HLT.out; omega
        · clear hdd
          go_wp2_with fail
          go_quiet (fail)
          have SD := Lib.hid (still_drewN (Still.refl wr) nq)
          generalize wr.drewN nq = wd at SD ⊢
          have STd := Lib.hid (Still.trans ST.out SD.out)
          have OWd := Lib.hid (still_own OW.out SD.out)
          have RNGd := Lib.hid (show wd.rangeAt b (k * 2) [.string X, .int .i64 (p.2 : Int)] from fun q u hq => (SD.out.cell (p := ⟨b, k * 2 + q, none⟩) (World.block_lt_of_cell? _ _ (RNG2.out q u hq))).trans (RNG2.out q u hq))
          have HBXd := Lib.hid (show wd.rangeAt w.heap.size 0 [.string S, .int .i64 (f : Int)] from fun q u hq => (SD.out.cell (p := ⟨w.heap.size, 0 + q, none⟩) BXR.out.lt).trans (HBX.out q u hq))
          go_upto_region 10 with fail
          go_wp2_with ((first
            | (guard_target =~ wpList _ _ _ (Oper.mk (some 38) _ _ _ _ _ :: _) _ _; go_must (refine wpList_load_mid rfl 92 (.tmp 37) rfl b (k * 2) rfl [.string X, .int .i64 (p.2 : Int)] _ RNGd.out Tryz.underlying92 rfl sizeName ?_))
            | (guard_target =~ wpList _ _ _ (Oper.mk (some 39) _ _ _ _ _ :: _) _ _; go_must (refine wpList_boxDn _ rfl _ rfl _ _ rfl ?_))
            | (guard_target =~ wpList _ _ _ (Oper.mk (some 40) _ _ _ _ _ :: _) _ _; go_must (refine wpList_pushDn _ rfl _ _ rfl w2.heap.size _ _ _ rfl (OWd.out.alloc _) wd.heap.size [.string X, .int .i64 (p.2 : Int)] rfl (fun q u hq => ((Blk.new wd 92 #[.string X, .int .i64 (p.2 : Int)]).cell q).trans (by simpa using hq)) rfl (by simp [Value.oneCell']) HON (by have := STd.out.size; simp; omega) ?_))
            | fail))
          intro v6 w6 o6 g6 hv4
          have PPw6 := Lib.hid (WithO.push (p := p) OWd.out STd.out (by rw [HPX.out]; exact o6) g6)
          clear o6 g6 hv4
          go_wp2_with fail
          go_roundw
          case rel => exact ⟨k + 1, _, true, O ++ [p], rfl, rfl, by go_num, by have := HLT.out; omega, Lib.hid ⟨PPw6.out.1, PPw6.out.2, by
            have hal := AL.out
            first | rw [if_pos rfl, drop_get _ _ _ HP.out] at hal | rw [if_pos trivial, drop_get _ _ _ HP.out] at hal
            rw [if_pos rfl, List.append_assoc]
            exact hal⟩⟩
          case measure => simp [intOf]; have := HLT.out; omega
    · obtain rfl : k = m := by omega
      rw [List.drop_of_length_le (show D.length ≤ k by rw [← HM.out]; exact Nat.le_refl _)] at AL
      cases d
      · have xs0 : wr.cell? ⟨w.heap.size, 0, none⟩ = some (.string S) := BXR.out.cell 0
        have HBX := Lib.hid (show wr.rangeAt w.heap.size 0 [.string S, .int .i64 (f : Int)] from fun q u hq => by
          rw [Nat.zero_add, BXR.out.cell q]
          simpa using hq)
        have HON : O.length ≤ 1048576 := by have := HOL.out; omega
        go_upto_region 12 with fail
        go_wp2_with ((first
          | (guard_target =~ wpList _ _ _ (Oper.mk (some 44) _ _ _ _ _ :: _) _ _; go_must (refine wpList_load_mid rfl 92 (.tmp 3) rfl w.heap.size 0 rfl [.string S, .int .i64 (f : Int)] _ HBX.out Tryz.underlying92 rfl sizeName ?_))
          | (guard_target =~ wpList _ _ _ (Oper.mk (some 45) _ _ _ _ _ :: _) _ _; go_must (refine wpList_boxDn _ rfl _ rfl _ _ rfl ?_))
          | (guard_target =~ wpList _ _ _ (Oper.mk (some 46) _ _ _ _ _ :: _) _ _; go_must (refine wpList_pushDn _ rfl _ _ rfl w2.heap.size _ _ _ rfl (OW.out.alloc _) wr.heap.size [.string S, .int .i64 (f : Int)] rfl (fun q u hq => ((Blk.new wr 92 #[.string S, .int .i64 (f : Int)]).cell q).trans (by simpa using hq)) rfl (by simp [Value.oneCell']) HON (by have := ST.out.size; simp; omega) ?_))
          | fail))
        intro v6 w6 o6 g6 hv4
        have PPw6 := Lib.hid (WithO.push (p := (S.data.toList, f)) OW.out ST.out (by show w6.ownsRow _ _ _ _ _ (_ ++ [.string ⟨S.data.toList.toArray⟩, .int .i64 (f : Int)]); exact o6) g6)
        clear o6 g6 hv4
        obtain ⟨A6, c6, rfl⟩ := own_formN PPw6.out.1
        have HF := Lib.hid (show O ++ [(S.data.toList, f)] = R from by have := AL.out; rw [if_neg (by decide)] at this; exact this)
        rw [HF.out] at PPw6 ⊢
        have TT := Lib.hid (Still.trans S2.out PPw6.out.2)
        have LOW := Lib.hid (own_base PPw6.out.1 S2.out.size)
        clear xs0
        go_wp2_with fail
        go_ret
        exact ⟨⟨A6, c6, rfl, LOW.out⟩, TT.out⟩
      · have HF := Lib.hid (show O = R from by have := AL.out; simpa using this)
        rw [HF.out] at OW
        obtain ⟨A6, c6, rfl⟩ := own_formN OW.out
        have TT := Lib.hid (Still.trans S2.out ST.out)
        have LOW := Lib.hid (own_base OW.out S2.out.size)
        go_wp2_with fail
        go_ret
        exact ⟨⟨A6, c6, rfl, LOW.out⟩, TT.out⟩
end Go.Proofs.YtljacdbdjacbkaaGreat
