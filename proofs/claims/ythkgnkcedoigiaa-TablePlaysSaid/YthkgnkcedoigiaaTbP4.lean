/- The document's own table when it is written. It proves no statement. -/
import Derived.Test.YthkgnkcedoigiaaTbP3
import Derived.Test.YthkgnkcedoigiaaTbDel
namespace Go.Proofs.Ythkgnkcedoigiaa
open Go.RowKit
set_option linter.unusedVariables false
set_option linter.unusedSimpArgs false

theorem insL_le (k : List UInt8) (v : List Int) : ∀ L : List KV, (insL k v L).length ≤ L.length + 1
  | [] => by simp [insL]
  | z :: r => by
    unfold insL
    have := insL_le k v r
    split
    · simp
    · split
      · simp
      · simp only [List.length_cons]; omega
theorem outP_le (k : List UInt8) (v : List Int) (L : List KV) (i : Nat) : (outP k v L i).length ≤ i + 1 := by
  unfold outP
  have := insL_le k v (L.take i)
  have h2 : (L.take i).length ≤ i := by simp; omega
  split <;> omega
theorem insL_ok {k : List UInt8} {x : Int} {L : List KV} (hk : k.length = 32) (h : ∀ z ∈ L, PrOK z) (hr : Rise L) : ∀ z ∈ insL k [x] L, PrOK z := by
  intro z hz
  rcases (mem_insL hr z).1 hz with rfl | ⟨hz, _⟩
  · exact ⟨hk, rfl⟩
  · exact h z hz
theorem delL_ok {k : List UInt8} {L : List KV} (h : ∀ z ∈ L, PrOK z) : ∀ z ∈ delL k L, PrOK z := fun z hz => h z ((mem_delL z).1 hz).1
theorem under_Pr : ∃ fs, Try.prog.underlying 40 = some (.struct fs) := ⟨_, Try.underlying40⟩
theorem size_Pr : (Try.prog.info? 40).map (·.size) = some 33 := by kernel_rfl
/-- What is appended so far. -/
structure OutW (w1 wr : World) (O : List KV) (v : Value) : Prop where
  own : wr.ownsRow w1.heap.size 40 33 v O.length (prsV O)
  still : Still w1 wr
section
variable {w1 wr w' : World} {O : List KV} {v v' : Value} {z : KV}
theorem OutW.nil (w1 : World) : OutW w1 w1 [] (.slice none 0 0) := ⟨World.ownsRow_nil _ _ _ _, Still.refl _⟩
theorem OutW.on (h : OutW w1 wr O v) (s : Still wr w') : OutW w1 w' O v := ⟨own_keep h.own s, Still.trans h.still s⟩
theorem OutW.push (h : OutW w1 wr O v) (own' : w'.ownsRow w1.heap.size 40 33 v' (O.length + 1) (prsV O ++ prL z)) (gr : wr.grownBy w' v.ownBlock) : OutW w1 w' (O ++ [z]) v' :=
  ⟨by rw [prsV_snoc, List.length_append]; exact own', still_own h.still gr h.still.size (fun k hk => (h.own.lt k hk).1)⟩
theorem OutW.adds {M : List KV} {n : Nat} (h : OutW w1 wr O v) (own' : w'.ownsRow w1.heap.size 40 33 v' (O.length + n) (prsV O ++ prsV M)) (hn : n = M.length) (gr : wr.grownBy w' v.ownBlock) : OutW w1 w' (O ++ M) v' :=
  ⟨by rw [prsV_append, List.length_append, ← hn]; exact own', still_own h.still gr h.still.size (fun k hk => (h.own.lt k hk).1)⟩
theorem OutW.cast {O' : List KV} (h : OutW w1 wr O v) (e : O' = O) : OutW w1 wr O' v := e ▸ h
end
section
variable {w w1 w3 : World} {gx cp dd : Nat} {v v2 : Value} {L M : List KV}
theorem RT.cells (h : RT w gx v L cp dd) : w.cell? ⟨gx, 0, none⟩ = some v ∧ w.cell? ⟨gx, 1, none⟩ = some (.int .i64 (cp : Nat)) ∧ w.cell? ⟨gx, 2, none⟩ = some (.int .i64 (dd : Nat)) ∧ w.frozen? ⟨gx, 0, none⟩ = false ∧ w.frozen? ⟨gx, 1, none⟩ = false ∧ w.frozen? ⟨gx, 2, none⟩ = false :=
  ⟨h.box.cell 0, h.box.cell 1, h.box.cell 2, h.box.frozen 0, h.box.frozen 1, h.box.frozen 2⟩
theorem RT.set0 (h : RT w3 gx v L cp dd) (own : w3.ownsRow (gx + 1) 40 33 v2 M.length (prsV M)) (ok : ∀ z ∈ M, PrOK z) : RT (w3.setCell ⟨gx, 0, none⟩ v2) gx v2 M cp dd ∧ Chg w3 (w3.setCell ⟨gx, 0, none⟩ v2) (fun q => q = gx) := by
  have gr := grownBy_set w3 gx 0 v2
  refine ⟨⟨by have := h.box.setc 0 v2; simpa using this, own_blk own (fun k hk => gr.block k (own.lt k hk).2 (fun e => ?_)), ok⟩, Chg.of_grown gr (fun k hk _ => (Option.some.inj hk).symm)⟩
  have := (own.lt k hk).1
  injection e with e
  omega
theorem RT.set1 (h : RT w3 gx v L cp dd) (c : Nat) : RT (w3.setCell ⟨gx, 1, none⟩ (.int .i64 (c : Nat))) gx v L c dd ∧ Chg w3 (w3.setCell ⟨gx, 1, none⟩ (.int .i64 (c : Nat))) (fun q => q = gx) := by
  have gr := grownBy_set w3 gx 1 (.int .i64 (c : Nat))
  refine ⟨⟨by have := h.box.setc 1 (.int .i64 (c : Nat)); simpa using this, own_blk h.own (fun k hk => gr.block k (h.own.lt k hk).2 (fun e => ?_)), h.ok⟩, Chg.of_grown gr (fun k hk _ => (Option.some.inj hk).symm)⟩
  have := (h.own.lt k hk).1
  injection e with e
  omega
theorem RT.set2 (h : RT w3 gx v L cp dd) (c : Nat) : RT (w3.setCell ⟨gx, 2, none⟩ (.int .i64 (c : Nat))) gx v L cp c ∧ Chg w3 (w3.setCell ⟨gx, 2, none⟩ (.int .i64 (c : Nat))) (fun q => q = gx) := by
  have gr := grownBy_set w3 gx 2 (.int .i64 (c : Nat))
  refine ⟨⟨by have := h.box.setc 2 (.int .i64 (c : Nat)); simpa using this, own_blk h.own (fun k hk => gr.block k (h.own.lt k hk).2 (fun e => ?_)), h.ok⟩, Chg.of_grown gr (fun k hk _ => (Option.some.inj hk).symm)⟩
  have := (h.own.lt k hk).1
  injection e with e
  omega
/-- What Put leaves. -/
def PutX (w w' : World) (gx : Nat) (L : List KV) (cp dd : Nat) (k : List UInt8) (x : Int) : Prop :=
  ∃ v' cp' dd', RT w' gx v' (insL k [x] L) cp' dd' ∧ PutR k L cp dd cp' dd' ∧ Chg w w' (fun q => q = gx) ∧ ∀ q, v'.ownBlock = some q → w.heap.size ≤ q
def DelX (w w' : World) (gx : Nat) (L : List KV) (cp dd : Nat) (k : List UInt8) : Prop :=
  ∃ v' cp' dd', RT w' gx v' (delL k L) cp' dd' ∧ DelR k L cp dd cp' dd' ∧ Chg w w' (fun q => q = gx) ∧ ∀ q, v'.ownBlock = some q → (w.heap.size ≤ q ∨ v.ownBlock = some q)
theorem PutX.same {W : World} {k : List UInt8} {x : Int} (h : RT w gx v L cp dd) (s1 : Still w w1) (o : OutW w1 W (insL k [x] L) v2) (hk : k.length = 32) (hr : Rise L) (p : PutR k L cp dd cp dd) : PutX w (W.setCell ⟨gx, 0, none⟩ v2) gx L cp dd k x := by
  have sW := Still.trans s1 o.still
  have hg : gx + 1 ≤ w1.heap.size := by have := h.box.lt; have := s1.size; omega
  obtain ⟨r, c⟩ := (h.still sW).set0 (own_low o.own hg) (insL_ok hk h.ok hr)
  refine ⟨v2, cp, dd, r, p, (Chg.of_still sW _).trans c (fun _ _ h => h), fun q hq => Nat.le_trans s1.size (o.own.lt q hq).1⟩
theorem PutX.anew {W : World} {k : List UInt8} {x : Int} {c : Nat} (h : RT w gx v L cp dd) (s1 : Still w w1) (o : OutW w1 W (insL k [x] L) v2) (hk : k.length = 32) (hr : Rise L) (p : PutR k L cp dd c 0) : PutX w (((W.setCell ⟨gx, 1, none⟩ (.int .i64 (c : Nat))).setCell ⟨gx, 2, none⟩ (.int .i64 0)).setCell ⟨gx, 0, none⟩ v2) gx L cp dd k x := by
  have sW := Still.trans s1 o.still
  have hg : gx + 1 ≤ w1.heap.size := by have := h.box.lt; have := s1.size; omega
  obtain ⟨r1, c1⟩ := (h.still sW).set1 c
  obtain ⟨r2, c2⟩ := r1.set2 0
  have c12 := c1.trans c2 (fun _ _ h => h)
  obtain ⟨r, c3⟩ := r2.set0 (M := insL k [x] L) (v2 := v2) (own_blk (own_low o.own hg) (fun q hq => c12.block q (o.own.lt q hq).2 (fun e => by have := (o.own.lt q hq).1; omega))) (insL_ok hk h.ok hr)
  exact ⟨v2, c, 0, r, p, ((Chg.of_still sW _).trans c12 (fun _ _ h => h)).trans c3 (fun _ _ h => h), fun q hq => Nat.le_trans s1.size (o.own.lt q hq).1⟩
end
end Go.Proofs.Ythkgnkcedoigiaa
