/- Two tables beside each other, of places and of counts. It proves no statement. -/
import Derived.Test.YtlebancjgjcfjaaKpPut
import Derived.Test.YtlebancjgjcfjaaKcPut
import Derived.Test.YtlebancjgjcfjaaTbLives
import Derived.Test.YtlebancjgjcfjaaOpenKinds
import Derived.Test.YtlebancjgjcfjaaEqInts
namespace Go.Proofs.Ytlebancjgjcfjaa
open Go.RowKit
set_option linter.unusedVariables false
set_option linter.unusedSimpArgs false

theorem insL_fst (k : List UInt8) (v u : List Int) : ∀ (L M : List KV), L.map Prod.fst = M.map Prod.fst → (insL k v L).map Prod.fst = (insL k u M).map Prod.fst
  | [], [], _ => rfl
  | [], _ :: _, h => by simp at h
  | _ :: _, [], h => by simp at h
  | z :: L, y :: M, h => by
    simp only [List.map_cons, List.cons.injEq] at h
    have ih := insL_fst k v u L M h.2
    unfold insL
    rw [h.1]
    by_cases h1 : y.1 = k
    · simp only [h1, if_true, List.map_cons, h.2]
    · by_cases h2 : ltK k y.1 = true
      · simp only [h1, h2, if_true, if_false, List.map_cons, h.1, h.2]
      · rw [if_neg h1, if_neg h1, if_neg h2, if_neg h2, List.map_cons, List.map_cons, h.1, ih]
/-- Two tables beside each other. -/
structure Kin (lo : Nat) (W : World) (ga ba gb bb : Nat) (La Lb : List KV) (ca da cb db : Nat) : Prop where
  a : Pl.Tb W ga ba La ca da
  b : Cn.Tb W gb bb Lb cb db
  l : lo ≤ ga ∧ lo ≤ ba ∧ lo ≤ gb ∧ lo ≤ bb
  n : ga ≠ gb ∧ ga ≠ bb ∧ ba ≠ gb ∧ ba ≠ bb
section
variable {lo : Nat} {w W W1 : World} {ga ba gb bb ca da cb db : Nat} {La Lb : List KV} {k : List UInt8} {v : List Int}
theorem Kin.still (h : Kin lo W ga ba gb bb La Lb ca da cb db) (s : Still W W1) : Kin lo W1 ga ba gb bb La Lb ca da cb db := ⟨h.a.still s, h.b.still s, h.l, h.n⟩
theorem Kin.putA (h : Kin w.heap.size W ga ba gb bb La Lb ca da cb db) (s : Still w W) (p : Pl.PutP W W1 ga ba La ca da k v) : (∃ ba ca da, Kin w.heap.size W1 ga ba gb bb (insL k v La) Lb ca da cb db) ∧ Still w W1 := by
  obtain ⟨b', c', d', t, _, hb, C⟩ := p
  have h1 := h.b.glt
  have h2 := h.b.blt
  obtain ⟨l1, l2, l3, l4⟩ := h.l
  obtain ⟨n1, n2, n3, n4⟩ := h.n
  have hs := s.size
  have q1 : ¬ (gb = ga ∨ gb = ba) := by rintro (e | e) <;> omega
  have q2 : ¬ (bb = ga ∨ bb = ba) := by rintro (e | e) <;> omega
  exact ⟨⟨b', c', d', t, h.b.chg C q1 q2, ⟨l1, by omega, l3, l4⟩, ⟨n1, n2, by omega, by omega⟩⟩, C.still s (fun q hq => by omega)⟩
theorem Kin.putB (h : Kin w.heap.size W ga ba gb bb La Lb ca da cb db) (s : Still w W) (p : Cn.PutP W W1 gb bb Lb cb db k v) : (∃ bb cb db, Kin w.heap.size W1 ga ba gb bb La (insL k v Lb) ca da cb db) ∧ Still w W1 := by
  obtain ⟨b', c', d', t, _, hb, C⟩ := p
  have h1 := h.a.glt
  have h2 := h.a.blt
  obtain ⟨l1, l2, l3, l4⟩ := h.l
  obtain ⟨n1, n2, n3, n4⟩ := h.n
  have hs := s.size
  have q1 : ¬ (ga = gb ∨ ga = bb) := by rintro (e | e) <;> omega
  have q2 : ¬ (ba = gb ∨ ba = bb) := by rintro (e | e) <;> omega
  exact ⟨⟨b', c', d', h.a.chg C q1 q2, t, ⟨l1, l2, l3, by omega⟩, ⟨n1, by omega, n3, by omega⟩⟩, C.still s (fun q hq => by omega)⟩
end
theorem insL_le (k : List UInt8) (v : List Int) {L : List KV} (h : Rise L) {i : Nat} (hi : L.length ≤ i) : (insL k v L).length ≤ i + 1 := by
  rw [insL_len h]
  split <;> omega
/-- A key looked up, there or not. -/
theorem getA_any {w : World} {g b cp dd : Nat} {L : List KV} (h : Pl.Tb w g b L cp dd) (hv : ∀ z ∈ L, z.2.length = 3) (k : List UInt8) (hk : k.length = 32) (hl : L.length ≤ 1073741824) :
    Calls Try.prog 13 #[.pointer (some ⟨g, 0, none⟩), .agg (bytesV k).toArray] w fun e w' => ∃ (v : List Int) (q : Bool), v.length = 3 ∧ (q = true → 0 < L.length) ∧ e = .returned (.tuple #[.agg (intsV v), .bool q]) ∧ Still w w' := by
  cases hq : hasL k L with
  | false => exact (Pl.get_no h k hk hl hq).mono fun e w' ⟨he, s⟩ => ⟨List.replicate 3 0, false, rfl, (fun e => Bool.noConfusion e), he, s⟩
  | true =>
    obtain ⟨v, hm⟩ := hasL_iff.1 hq
    exact (Pl.get_yes h k v (hv _ hm) hk hl hm).mono fun e w' ⟨he, s⟩ => ⟨v, true, hv _ hm, fun _ => List.length_pos_of_mem hm, he, s⟩
theorem FxRow.get {w : World} {A : Option Addr} {n c m : Nat} {E : List (List Value)} (h : FxRow w A n c m E) {i : Nat} {x : List Value} (hi : E[i]? = some x) : ∃ b o, A = some ⟨b, o, none⟩ ∧ ∀ W, Still w W → W.rangeAt b (o + i * m) x := by
  obtain ⟨b, o, e, hb, hr⟩ := h.at_ i x hi
  exact ⟨b, o, e, fun W s j u hj => (s.cell (p := ⟨b, o + i * m + j, none⟩) hb).trans (hr j u hj)⟩
theorem IdRow.get {w : World} {A : Option Addr} {n c : Nat} {L : List (List UInt8)} (h : IdRow w A n c L) {i : Nat} (hi : i < n) : ∃ (k : List UInt8) (b o : Nat), A = some ⟨b, o, none⟩ ∧ k.length = 32 ∧ ∀ W, Still w W → W.rangeAt b (o + i * 32) (bytesV k) := by
  have hl : L.length = n := by have := h.row.len; simpa using this
  have e : L[i]? = some L[i] := List.getElem?_eq_getElem (by omega)
  obtain ⟨b, o, ea, r⟩ := h.row.get (i := i) (x := bytesV L[i]) (by rw [List.getElem?_map, e]; rfl)
  exact ⟨_, b, o, ea, h.ok _ (List.getElem_mem _), r⟩
theorem NumRow.get {m : Nat} {w : World} {A : Option Addr} {n c : Nat} {L : List (List Int)} (h : NumRow m w A n c L) {i : Nat} (hi : i < n) : ∃ (k : List Int) (b o : Nat), A = some ⟨b, o, none⟩ ∧ k.length = m ∧ ∀ W, Still w W → W.rangeAt b (o + i * m) (k.map (Value.int .i64)) := by
  have hl : L.length = n := by have := h.row.len; simpa using this
  have e : L[i]? = some L[i] := List.getElem?_eq_getElem (by omega)
  obtain ⟨b, o, ea, r⟩ := h.row.get (i := i) (x := L[i].map (Value.int .i64)) (by rw [List.getElem?_map, e]; rfl)
  exact ⟨_, b, o, ea, h.ok _ (List.getElem_mem _), r⟩
end Go.Proofs.Ytlebancjgjcfjaa
