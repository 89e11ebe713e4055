/- Two tables, one the program's, one the document's, behind a row of calls. It proves no statement. -/
import Derived.Test.YthkgnkcedoigiaaTbPlayed
import Derived.Test.YthkgnkcedoigiaaTbPuN
import Derived.Test.YthkgnkcedoigiaaTbDlX
namespace Go.Proofs.Ythkgnkcedoigiaa
open Go.RowKit
set_option linter.unusedVariables false
set_option linter.unusedSimpArgs false

def playX (l : List Dq) : List KV := l.foldl (fun L x => if x.k = 0 then insL x.K [x.v] L else if x.k = 1 then delL x.K L else L) []
theorem playX_succ {l : List Dq} {i : Nat} {x : Dq} (h : l[i]? = some x) : playX (l.take (i + 1)) = if x.k = 0 then insL x.K [x.v] (playX (l.take i)) else if x.k = 1 then delL x.K (playX (l.take i)) else playX (l.take i) := by
  unfold playX
  rw [List.take_add_one, h]
  simp
theorem playX_len (l : List Dq) (i : Nat) : (playX (l.take i)).length ≤ i := by
  induction i with
  | zero => simp [playX]
  | succ i ih =>
    cases h : l[i]? with
    | none =>
      have : l.take (i + 1) = l.take i := by rw [List.take_add_one, h]; simp
      rw [this]; omega
    | some x =>
      rw [playX_succ h]
      split
      · have := insL_le x.K [x.v] (playX (l.take i)); omega
      · split
        · have := delL_le x.K (playX (l.take i)); omega
        · omega
theorem PutR.uniq {k : List UInt8} {L : List KV} {cp dd a b a' b' : Nat} (h : PutR k L cp dd a b) (h' : PutR k L cp dd a' b') : a = a' ∧ b = b' := by
  unfold PutR at h h'
  split at h
  · rw [if_pos (by assumption)] at h'
    exact ⟨h.1.trans h'.1.symm, h.2.trans h'.2.symm⟩
  · rw [if_neg (by assumption)] at h'
    split at h
    · rw [if_pos (by assumption)] at h'
      exact ⟨h.1.uniq h'.1, h.2.trans h'.2.symm⟩
    · rw [if_neg (by assumption)] at h'
      exact ⟨h.1.trans h'.1.symm, h.2.trans h'.2.symm⟩
theorem DelR.uniq {k : List UInt8} {L : List KV} {cp dd a b a' b' : Nat} (h : DelR k L cp dd a b) (h' : DelR k L cp dd a' b') : a = a' ∧ b = b' := by
  unfold DelR at h h'
  split at h
  · rw [if_pos (by assumption)] at h'
    split at h
    · rw [if_pos (by assumption)] at h'
      exact ⟨h.1.uniq h'.1, h.2.trans h'.2.symm⟩
    · rw [if_neg (by assumption)] at h'
      exact ⟨h.1.trans h'.1.symm, h.2.trans h'.2.symm⟩
  · rw [if_neg (by assumption)] at h'
    exact ⟨h.1.trans h'.1.symm, h.2.trans h'.2.symm⟩
section
variable {w w' W1 W2 wr : World} {g b gx cp dd i : Nat} {v : Value} {L : List KV} {l : List Dq} {x : Dq}
theorem Tb.pow (h : Tb w g b L cp dd) : ∃ f, cp = 8 * 2 ^ f := by
  obtain ⟨⟨c, S, t, a, rfl, rfl⟩, gd⟩ := h
  exact t.inv.pow
theorem Tb.small (h : Tb w g b L cp dd) (hl : L.length ≤ 65536) : cp ≤ 1048576 ∧ dd ≤ 1048576 := by
  have h1 := h.gd
  have h2 := h.load
  unfold Gd at h1
  omega
theorem rput_any (h : Tb w g b L cp dd) (k : List UInt8) (y : Int) (hk : k.length = 32) (hl : L.length ≤ 65536) (W : World) (R : RT W gx v L cp dd) :
    Calls Try.prog 15 #[.pointer (some ⟨gx, 0, none⟩), .agg (bytesV k).toArray, .int .i64 y] W fun e w' => e = .returned (.tuple #[]) ∧ PutX W w' gx L cp dd k y := by
  obtain ⟨h1, h2⟩ := h.small hl
  cases hh : hasL k L with
  | true => exact rput_yes R k y hk hl h1 h2 h.rise hh
  | false => exact rput_no R k y hk hl h1 h2 h.rise hh
theorem rdel_any (h : Tb w g b L cp dd) (k : List UInt8) (hk : k.length = 32) (hl : L.length ≤ 65536) (W : World) (R : RT W gx v L cp dd) :
    Calls Try.prog 17 #[.pointer (some ⟨gx, 0, none⟩), .agg (bytesV k).toArray] W fun e w' => e = .returned (.bool (hasL k L)) ∧ DelX (v := v) W w' gx L cp dd k := by
  obtain ⟨h1, h2⟩ := h.small hl
  cases hh : hasL k L with
  | true => exact rdel_yes R k hk hl h1 h2 h.rise h.pow h.gd hh
  | false => exact rdel_no R k hk hl hh
/-- Both tables hold the same. -/
structure Two (w : World) (lo g gx b : Nat) (v : Value) (L : List KV) (cp dd : Nat) : Prop where
  tb : Tb w g b L cp dd
  rt : RT w gx v L cp dd
  hg : lo ≤ g
  hb : lo ≤ b
  hx : lo ≤ gx
  ne : g ≠ gx
  nb : b ≠ gx
  hv : ∀ q, v.ownBlock = some q → lo ≤ q ∧ q ≠ g ∧ q ≠ b
theorem Two.still {lo : Nat} (h : Two w lo g gx b v L cp dd) (s : Still w w') : Two w' lo g gx b v L cp dd := ⟨h.tb.still s, h.rt.still s, h.hg, h.hb, h.hx, h.ne, h.nb, h.hv⟩
/-- Behind the first of two calls. -/
theorem Two.mid {lo : Nat} (h : Two w lo g gx b v L cp dd) (c : Chg w W1 (fun q => q = g ∨ q = b)) : RT W1 gx v L cp dd :=
  h.rt.chg c (fun e => by rcases e with e | e; exact h.ne e.symm; exact h.nb e.symm) (fun q hq e => by
    obtain ⟨_, h1, h2⟩ := h.hv q hq
    rcases e with e | e
    · exact h1 e
    · exact h2 e)
theorem Two.put {lo : Nat} {k : List UInt8} {y : Int} (h : Two w lo g gx b v L cp dd) (hlo : lo ≤ w.heap.size) (p : PutP w W1 g b L cp dd k [y]) (q : PutX W1 W2 gx L cp dd k y) : (∃ b' v' cp' dd', Two W2 lo g gx b' v' (insL k [y] L) cp' dd') ∧ Below lo w W2 := by
  obtain ⟨b', cp', dd', t, pr, hb', c⟩ := p
  obtain ⟨v', cp2, dd2, r, pr2, c2, hv'⟩ := q
  obtain ⟨rfl, rfl⟩ := pr2.uniq pr
  have hbx : b' ≠ gx := by
    rcases hb' with rfl | hb'
    · exact h.nb
    · have := h.rt.box.lt; omega
  have t2 := t.chg c2 (fun e => h.ne e) (fun e => hbx e)
  have g1 := t.glt
  have b1 := t.blt
  refine ⟨⟨b', v', cp2, dd2, t2, r, h.hg, ?_, h.hx, h.ne, hbx, fun q hq => ?_⟩, ?_⟩
  · rcases hb' with rfl | hb'
    · exact h.hb
    · omega
  · have h3 := hv' q hq
    have := c.size
    exact ⟨by omega, by omega, by omega⟩
  · refine Below.trans (c.below hlo (fun k hk => ?_)) (c2.below (Nat.le_trans hlo c.size) (fun k hk => ?_))
    · rcases hk with rfl | rfl
      · exact h.hg
      · exact h.hb
    · rw [hk]; exact h.hx
theorem Two.del {lo : Nat} {k : List UInt8} (h : Two w lo g gx b v L cp dd) (hlo : lo ≤ w.heap.size) (p : DelP w W1 g b L cp dd k) (q : DelX (v := v) W1 W2 gx L cp dd k) : (∃ b' v' cp' dd', Two W2 lo g gx b' v' (delL k L) cp' dd') ∧ Below lo w W2 := by
  obtain ⟨b', cp', dd', t, pr, hb', c⟩ := p
  obtain ⟨v', cp2, dd2, r, pr2, c2, hv'⟩ := q
  obtain ⟨rfl, rfl⟩ := pr2.uniq pr
  have hbx : b' ≠ gx := by
    rcases hb' with rfl | hb'
    · exact h.nb
    · have := h.rt.box.lt; omega
  have t2 := t.chg c2 (fun e => h.ne e) (fun e => hbx e)
  have g1 := t.glt
  have b1 := t.blt
  refine ⟨⟨b', v', cp2, dd2, t2, r, h.hg, ?_, h.hx, h.ne, hbx, fun q hq => ?_⟩, ?_⟩
  · rcases hb' with rfl | hb'
    · exact h.hb
    · omega
  · rcases hv' q hq with h3 | h3
    · have := c.size
      exact ⟨by omega, by omega, by omega⟩
    · obtain ⟨e1, e2, e3⟩ := h.hv q h3
      refine ⟨e1, e2, ?_⟩
      rcases hb' with rfl | hb'
      · exact e3
      · have := (h.rt.blt q h3).2; omega
  · refine Below.trans (c.below hlo (fun k hk => ?_)) (c2.below (Nat.le_trans hlo c.size) (fun k hk => ?_))
    · rcases hk with rfl | rfl
      · exact h.hg
      · exact h.hb
    · rw [hk]; exact h.hx
/-- Both behind i calls. -/
structure PX (w wr : World) (g gx : Nat) (l : List Dq) (i : Nat) : Prop where
  ex : ∃ b v cp dd, Two wr w.heap.size g gx b v (playX (l.take i)) cp dd
  still : Still w wr
theorem PX.on {w3 : World} (h : PX w wr g gx l i) (s : Still wr w3) : PX w w3 g gx l i := by
  obtain ⟨⟨b, v, cp, dd, t⟩, st⟩ := h
  exact ⟨⟨b, v, cp, dd, t.still s⟩, Still.trans st s⟩
theorem PX.same {w3 : World} (h : PX w wr g gx l i) (hx : l[i]? = some x) (h0 : ¬ x.k = 0) (h1 : ¬ x.k = 1) (s : Still wr w3) : PX w w3 g gx l (i + 1) := by
  obtain ⟨⟨b, v, cp, dd, t⟩, st⟩ := h.on s
  exact ⟨⟨b, v, cp, dd, by rw [playX_succ hx, if_neg h0, if_neg h1]; exact t⟩, st⟩
theorem PX.put {w3 : World} (t : Two w3 w.heap.size g gx b v (playX (l.take i)) cp dd) (st : Still w w3) (hx : l[i]? = some x) (h0 : x.k = 0) (p : PutP w3 W1 g b (playX (l.take i)) cp dd x.K [x.v]) (q : PutX W1 W2 gx (playX (l.take i)) cp dd x.K x.v) : PX w W2 g gx l (i + 1) := by
  obtain ⟨⟨b', v', cp', dd', t'⟩, c⟩ := t.put st.size p q
  exact ⟨⟨b', v', cp', dd', by rw [playX_succ hx, if_pos h0]; exact t'⟩, Below.trans st c⟩
theorem PX.del {w3 : World} (t : Two w3 w.heap.size g gx b v (playX (l.take i)) cp dd) (st : Still w w3) (hx : l[i]? = some x) (h0 : ¬ x.k = 0) (h1 : x.k = 1) (p : DelP w3 W1 g b (playX (l.take i)) cp dd x.K) (q : DelX (v := v) W1 W2 gx (playX (l.take i)) cp dd x.K) : PX w W2 g gx l (i + 1) := by
  obtain ⟨⟨b', v', cp', dd', t'⟩, c⟩ := t.del st.size p q
  exact ⟨⟨b', v', cp', dd', by rw [playX_succ hx, if_neg h0, if_pos h1]; exact t'⟩, Below.trans st c⟩
end
end Go.Proofs.Ythkgnkcedoigiaa
