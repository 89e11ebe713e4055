/- Contracts and facts, several texts in one. It proves no statement. -/
import Derived.Test.YtmpnehhndhepgaaDoorPackGe
import Derived.Test.YtmpnehhndhepgaaDoorPackGa
import Derived.Test.YtmpnehhndhepgaaDoorPackGd

/- The document's own reader of values: its box, so many bytes taken. It proves no statement. -/


namespace Go.Proofs.YtmpnehhndhepgaaDoor
open Go.RowKit
set_option linter.unusedVariables false
set_option linter.unusedSimpArgs false

/-- The document's own reader at block g: the bytes bs, p of them read, the error er. -/
structure DRd (w : World) (B g : Nat) (A : Option Addr) (N c : Nat) (bs : List UInt8) (p : Nat) (er : Int) : Prop where
  blk : Blk w g 65 #[.slice A N c, .int .i64 p, .int .i64 er]
  reads : Reads w B A N bs
  at_ : p ≤ N
  far : B ≤ g
  small : N ≤ 65536
  cap : N ≤ c
  capm : c ≤ 9223372036854775807
  nil : A = none → N = 0 ∧ c = 0
section
variable {w w' : World} {B g : Nat} {A : Option Addr} {N c : Nat} {bs : List UInt8} {p : Nat} {er : Int}
theorem DRd.still (r : DRd w B g A N c bs p er) (s : Still w w') : DRd w' B g A N c bs p er :=
  { r with blk := r.blk.still s, reads := r.reads.still (Nat.le_trans r.far (Nat.le_of_lt r.blk.lt)) s }
theorem DRd.below {M : Nat} (r : DRd w B g A N c bs p er) (s : Below M w w') (h : g < M) : DRd w' B g A N c bs p er :=
  { r with blk := (s.block g h).trans r.blk, reads := r.reads.below (s.mono (Nat.le_trans r.far (Nat.le_of_lt h))) }
/-- The box set anew. -/
theorem DRd.set (r : DRd w B g A N c bs p er) (p' : Nat) (er' : Int) (h : p' ≤ N) (hb : Blk w' g 65 #[.slice A N c, .int .i64 p', .int .i64 er']) (gr : w.grownBy w' (some g)) : DRd w' B g A N c bs p' er' :=
  { r with blk := hb, reads := r.reads.below (Below.grown (Below.refl _ _) gr (Nat.le_trans r.far (Nat.le_of_lt r.blk.lt)) (fun b e => by cases e; exact r.far)), at_ := h }
theorem DRd.drop (r : DRd w B g A N c bs p er) {k : Nat} (h : p + k ≤ N) : Reads w B (A.map (·.add p)) k ((bs.drop p).take k) := by
  have h1 := r.reads.dropk (k := p) r.at_
  exact h1.takek (by omega)
theorem DRd.len (r : DRd w B g A N c bs p er) : bs.length = N := r.reads.1
end
theorem grown_setc {w w' : World} {g i : Nat} {u : Value} (gr : w.grownBy w' (some g)) : w.grownBy (w'.setCell ⟨g, i, none⟩ u) (some g) :=
  ⟨gr.os, gr.tape, gr.output, by simpa [World.setCell] using gr.size, fun k hk hne => (Below.heap_setCell _ _ _ k (fun e => hne (by simp only at e; rw [e]))).trans (gr.block k hk hne)⟩

set_option maxRecDepth 100000 in
set_option maxHeartbeats 1600000 in
theorem rtk_err {w : World} {B g : Nat} {A : Option Addr} {N c : Nat} {bs : List UInt8} {p : Nat} {er : Int} (r : DRd w B g A N c bs p er) (he : er ≠ 0) (n : Int) :
    Calls Tryd.prog 57 #[.pointer (some ⟨g, 0, none⟩), .int .i64 n] w fun e w' => e = .returned (.slice none 0 0) ∧ Still w w' := by
  have k0 : w.cell? ⟨g, 0, none⟩ = some (.slice A N c) := r.blk.cell 0
  have k1 : w.cell? ⟨g, 1, none⟩ = some (.int .i64 p) := r.blk.cell 1
  have k2 : w.cell? ⟨g, 2, none⟩ = some (.int .i64 er) := r.blk.cell 2
  have d1 : (er == 0) = false := by simpa using he
  have d2 : (er != 0) = true := by simpa using he
  clear r he
  go_enter Tryd.func57, Tryd.ntmps57
  go_wp2_with fail
  go_quiet (fail)
  go_wp2_with fail
  (try simp only [Exit.inBlock, Exit.then])
  go_ret
  exact ⟨rfl, still_drewN (Still.refl _) _⟩

set_option maxRecDepth 100000 in
set_option maxHeartbeats 1600000 in
theorem rtk_no {w : World} {B g : Nat} {A : Option Addr} {N c : Nat} {bs : List UInt8} {p : Nat} (r : DRd w B g A N c bs p 0) (n : Nat) (hn : N - p < n) (hn2 : n ≤ 1048576) :
    Calls Tryd.prog 57 #[.pointer (some ⟨g, 0, none⟩), .int .i64 n] w fun e w' => e = .returned (.slice none 0 0) ∧ DRd w' B g A N c bs p 3 ∧ w.grownBy w' (some g) := by
  have k0 : w.cell? ⟨g, 0, none⟩ = some (.slice A N c) := r.blk.cell 0
  have k1 : w.cell? ⟨g, 1, none⟩ = some (.int .i64 p) := r.blk.cell 1
  have k2 : w.cell? ⟨g, 2, none⟩ = some (.int .i64 0) := r.blk.cell 2
  have f2 : w.frozen? ⟨g, 2, none⟩ = false := r.blk.frozen 2
  have z1 := r.small
  have z2 := r.at_
  have d1 : (N : Int) - (p : Int) < (n : Int) := by omega
  have d2 : (0 : Int) ≤ (N : Int) - (p : Int) := by omega
  have d3 : (N : Int) ≤ 65536 := by omega
  have d4 : (0 : Int) ≤ (p : Int) := by omega
  have R := Lib.hid r
  have FIN := Lib.hid (fun k => show DRd ((w.drewN k).setCell ⟨g, 2, none⟩ (.int .i64 3)) B g A N c bs p 3 ∧ w.grownBy ((w.drewN k).setCell ⟨g, 2, none⟩ (.int .i64 3)) (some g) from by
    have s := still_drewN (Still.refl w) k
    exact ⟨(r.still s).set p 3 z2 (by have h := (r.still s).blk.setc 2 (.int .i64 3); simpa using h) (grown_setc (World.grownBy.refl _ _)), grown_setc (grown_of_still s)⟩)
  clear r z1 z2 hn hn2
  go_enter Tryd.func57, Tryd.ntmps57
  go_wp2_with fail
  go_quiet (fail)
  go_wp2_with fail
  (try simp only [Exit.inBlock, Exit.then])
  go_ret
  exact ⟨rfl, FIN.out _⟩

set_option maxRecDepth 100000 in
set_option maxHeartbeats 1600000 in
theorem rtk_yes {w : World} {B g : Nat} {A : Option Addr} {N c : Nat} {bs : List UInt8} {p : Nat} (r : DRd w B g A N c bs p 0) (n : Nat) (hn : p + n ≤ N) :
    Calls Tryd.prog 57 #[.pointer (some ⟨g, 0, none⟩), .int .i64 n] w fun e w' => (∃ A1 c1, e = .returned (.slice A1 n c1) ∧ Reads w' B A1 n ((bs.drop p).take n) ∧ (A1 = none → n = 0 ∧ c1 = 0) ∧ n ≤ c1 ∧ c1 ≤ 9223372036854775807) ∧ DRd w' B g A N c bs (p + n) 0 ∧ w.grownBy w' (some g) := by
  have k0 : w.cell? ⟨g, 0, none⟩ = some (.slice A N c) := r.blk.cell 0
  have k1 : w.cell? ⟨g, 1, none⟩ = some (.int .i64 p) := r.blk.cell 1
  have k2 : w.cell? ⟨g, 2, none⟩ = some (.int .i64 0) := r.blk.cell 2
  have f1 : w.frozen? ⟨g, 1, none⟩ = false := r.blk.frozen 1
  have z1 := r.small
  have z2 := r.at_
  have z3 := r.cap
  have z4 := r.capm
  have d1 : ¬ (N : Int) - (p : Int) < (n : Int) := by omega
  have d2 : (0 : Int) ≤ (N : Int) - (p : Int) := by omega
  have d3 : (N : Int) ≤ 65536 := by omega
  have d4 : (0 : Int) ≤ (p : Int) := by omega
  have d5 : (p : Int) + (n : Int) ≤ (N : Int) := by omega
  have d6 : (p : Int) + (n : Int) - (n : Int) = (p : Int) := by omega
  have d7 : (p : Int) + (n : Int) ≤ (c : Int) := by omega
  have d8 : (p : Int) ≤ (p : Int) + (n : Int) := by omega
  have d9 : (c : Int) ≤ 9223372036854775807 := by omega
  have R := Lib.hid r
  have FIN := Lib.hid (fun k => show DRd ((w.drewN k).setCell ⟨g, 1, none⟩ (.int .i64 ((p : Int) + (n : Int)))) B g A N c bs (p + n) 0 ∧ w.grownBy ((w.drewN k).setCell ⟨g, 1, none⟩ (.int .i64 ((p : Int) + (n : Int)))) (some g) from by
    have s := still_drewN (Still.refl w) k
    exact ⟨(r.still s).set (p + n) 0 hn (by have h := (r.still s).blk.setc 1 (.int .i64 ((p : Int) + (n : Int))); simpa using h) (grown_setc (World.grownBy.refl _ _)), grown_setc (grown_of_still s)⟩)
  have HN := Lib.hid hn
  clear r z1 z2 z3 z4 hn
  go_enter Tryd.func57, Tryd.ntmps57
  go_wp2_with fail
  go_quiet (fail)
  go_wp2_with fail
  obtain ⟨w2, hw2⟩ : ∃ w2, w2 = (w.drewN nq).setCell ⟨g, 1, none⟩ (.int .i64 ((p : Int) + (n : Int))) := ⟨_, rfl⟩
  have fin := FIN.out nq
  rw [← hw2] at fin ⊢
  have R2 := Lib.hid fin.1
  have GR2 := Lib.hid fin.2
  clear hw2 fin FIN k0 k1 k2 f1
  have k0 : w2.cell? ⟨g, 0, none⟩ = some (.slice A N c) := R2.out.blk.cell 0
  have k1 : w2.cell? ⟨g, 1, none⟩ = some (.int .i64 ((p : Int) + (n : Int))) := R2.out.blk.cell 1
  rcases A with _ | ad
  · obtain ⟨e1, e2⟩ := R.out.nil rfl
    subst e1
    subst e2
    have hp0 : p = 0 := by have := HN.out; omega
    have hn0 : n = 0 := by have := HN.out; omega
    subst hp0
    subst hn0
    go_quiet (fail)
    go_wp2_with fail
    go_ret
    exact ⟨⟨none, 0, rfl, by simp [Reads]⟩, (R2.out.still (still_drewN (Still.refl _) _)), grown_trans GR2.out (grown_of_still (still_drewN (Still.refl _) _))⟩
  · go_quiet (fail)
    go_wp2_with fail
    all_goals go_ret
    · have hcp : c = p := by omega
      have hn0 : n = 0 := by omega
      subst hcp
      subst hn0
      exact ⟨⟨_, _, rfl, by simp [Reads]⟩, R2.out.still (still_drewN (Still.refl _) _), grown_trans GR2.out (grown_of_still (still_drewN (Still.refl _) _))⟩
    · refine ⟨⟨_, _, rfl, ?_, fun e => by (first | cases e | skip), ?_, ?_⟩, R2.out.still (still_drewN (Still.refl _) _), grown_trans GR2.out (grown_of_still (still_drewN (Still.refl _) _))⟩
      · exact ((R.out.drop HN.out).below (Below.grown (Below.refl _ _) GR2.out (Nat.le_trans R.out.far (Nat.le_of_lt R.out.blk.lt)) (fun b e => by cases e; exact R.out.far))).still (Nat.le_trans R2.out.far (Nat.le_of_lt R2.out.blk.lt)) (still_drewN (Still.refl _) _)
      · omega
      · omega
end Go.Proofs.YtmpnehhndhepgaaDoor

/- The document's own reader of values: a number of so many bytes. It proves no statement. -/



namespace Go.Proofs.YtmpnehhndhepgaaDoor
open Go.RowKit
set_option linter.unusedVariables false
set_option linter.unusedSimpArgs false

set_option maxRecDepth 100000 in
set_option maxHeartbeats 1600000 in
theorem rnm_no {w : World} {B g : Nat} {A : Option Addr} {N c : Nat} {bs : List UInt8} {p : Nat} (r : DRd w B g A N c bs p 0) (n : Nat) (hn : N - p < n) (hn2 : n ≤ 8) (lo : Int) :
    Calls Tryd.prog 75 #[.pointer (some ⟨g, 0, none⟩), .int .i64 n, .int .u64 lo] w fun e w' => e = .returned (.int .u64 0) ∧ DRd w' B g A N c bs p 3 ∧ w.grownBy w' (some g) := by
  have TK := Lib.hid (rtk_no r n hn (by omega))
  clear r hn hn2
  go_enter Tryd.func75, Tryd.ntmps75
  go_wp2_with fail
  refine TK.out.mono ?_
  rintro e w1 ⟨rfl, r1, g1⟩
  have BK := Lib.hid (back_any none 0 0 [] w1 0 Reads.nil0 (Nat.zero_le _) (by omega))
  have R1 := Lib.hid r1
  have G1 := Lib.hid g1
  clear r1 g1 TK
  go_wp2_with fail
  refine BK.out.mono ?_
  rintro e w2 ⟨⟨v, rfl, own⟩, s2⟩
  obtain ⟨A2, c2, rfl, f1, f2, f3⟩ := own_form own
  have R2 := Lib.hid (R1.out.still s2)
  have G2 := Lib.hid (grown_trans G1.out (grown_of_still s2))
  have GN := Lib.hid (rget_no A2 0 c2 w2 (by omega))
  clear own f1 f2 f3 s2 R1 G1 BK
  go_wp2_with fail
  refine GN.out.mono ?_
  rintro e w3 ⟨rfl, rfl⟩
  have k2 : w2.cell? ⟨g, 2, none⟩ = some (.int .i64 3) := R2.out.blk.cell 2
  go_wp2_with fail
  go_ret
  exact ⟨rfl, R2.out, G2.out⟩

set_option maxRecDepth 100000 in
set_option maxHeartbeats 1600000 in
theorem rnm_yes {w : World} {B g : Nat} {A : Option Addr} {N c : Nat} {bs : List UInt8} {p : Nat} (r : DRd w B g A N c bs p 0) (n : Nat) (hn : p + n ≤ N) (h1 : 1 ≤ n) (h8 : n ≤ 8) (lo x : Nat) (hx : x = leNum ((bs.drop p).take n).reverse) (hlo : lo < 9223372036854775808) :
    Calls Tryd.prog 75 #[.pointer (some ⟨g, 0, none⟩), .int .i64 n, .int .u64 lo] w fun e w' => e = .returned (.int .u64 x) ∧ DRd w' B g A N c bs (p + n) (if x < lo then 4 else 0) ∧ w.grownBy w' (some g) := by
  have TK := Lib.hid (rtk_yes r n hn)
  have HX := Lib.hid hx
  have HN := Lib.hid hn
  have H1 := Lib.hid h1
  have H8 := Lib.hid h8
  have PW := Lib.hid r.at_
  obtain ⟨q, hq⟩ : ∃ q : Int, q = if x < lo then 4 else 0 := ⟨_, rfl⟩
  rw [← hq]
  have HQ := Lib.hid hq
  clear hq
  clear r hn hx h1 h8
  go_enter Tryd.func75, Tryd.ntmps75
  go_wp2_with fail
  refine TK.out.mono ?_
  rintro e w1 ⟨⟨A1, c1, rfl, rd1, na1, _, _⟩, r1, g1⟩
  have BK := Lib.hid (back_any A1 n c1 _ w1 B rd1 (Nat.le_trans r1.far (Nat.le_of_lt r1.blk.lt)) (by have := H8.out; omega))
  have R1 := Lib.hid r1
  have G1 := Lib.hid g1
  clear r1 g1 rd1 na1 TK
  go_wp2_with fail
  refine BK.out.mono ?_
  rintro e w2 ⟨⟨v, rfl, own⟩, s2⟩
  obtain ⟨A2, c2, rfl, f1, f2, f3⟩ := own_form own
  have R2 := Lib.hid (R1.out.still s2)
  have G2 := Lib.hid (grown_trans G1.out (grown_of_still s2))
  have GN := Lib.hid (rget_yes A2 n c2 _ w2 _ (Reads.of_own own) H1.out H8.out)
  clear own f1 f2 f3 s2 R1 G1 BK
  rw [← HX.out] at GN
  go_wp2_with fail
  refine GN.out.mono ?_
  rintro e w3 ⟨rfl, rfl⟩
  have k2 : w2.cell? ⟨g, 2, none⟩ = some (.int .i64 0) := R2.out.blk.cell 2
  have f2 : w2.frozen? ⟨g, 2, none⟩ = false := R2.out.blk.frozen 2
  clear GN
  by_cases hl : x < lo
  · have d1 : (x : Int) < (lo : Int) := by omega
    have FIN := Lib.hid (show DRd (w2.setCell ⟨g, 2, none⟩ (.int .i64 4)) B g A N c bs (p + n) 4 ∧ w.grownBy (w2.setCell ⟨g, 2, none⟩ (.int .i64 4)) (some g) from
      ⟨R2.out.set (p + n) 4 HN.out (by have h := R2.out.blk.setc 2 (.int .i64 4); simpa using h) (grown_setc (World.grownBy.refl _ _)), grown_setc G2.out⟩)
    have Q4 := Lib.hid (show q = 4 by rw [HQ.out, if_pos hl])
    clear hl
    go_wp2_with fail
    go_ret
    rw [Q4.out]
    exact ⟨rfl, FIN.out⟩
  · have d1 : ¬ (x : Int) < (lo : Int) := by omega
    have Q0 := Lib.hid (show q = 0 by rw [HQ.out, if_neg hl])
    clear hl
    go_wp2_with fail
    go_ret
    rw [Q0.out]
    exact ⟨rfl, R2.out, G2.out⟩
end Go.Proofs.YtmpnehhndhepgaaDoor

/- The document's own reader of values: a value, by its first byte. It proves no statement. -/


namespace Go.Proofs.YtmpnehhndhepgaaDoor
open Go.RowKit
set_option linter.unusedVariables false
set_option linter.unusedSimpArgs false

/-- What a reading answers, said by D: the error, the value, what is left. -/
def DVPost (w : World) (B g : Nat) (A : Option Addr) (N c : Nat) (bs : List UInt8) (D : Int × Tr × List UInt8) (e : Ending) (w' : World) : Prop :=
  (∃ cs : List Value, e = .returned (.agg cs.toArray) ∧ cs.length = 6 ∧ cs.toArray.all (·.oneCell') = true ∧ ∃ p', DRd w' B g A N c bs p' D.1 ∧ (D.1 = 0 → bs.drop p' = D.2.2 ∧ HasP w' (fun b => w.heap.size ≤ b) D.2.1 cs.toArray)) ∧ w.grownBy w' (some g)
/-- The same, laid into a box of the call's own. -/
theorem dv_fin {w w2 w3 : World} {B g : Nat} {A : Option Addr} {N c : Nat} {bs : List UInt8} {D : Int × Tr × List UInt8} {cs : List Value} {p' : Nat} {old : Array Value}
    (g2 : w.grownBy w2 (some g)) (z2 : w.heap.size < w2.heap.size) (hg : g < w.heap.size) (g3 : w2.grownBy w3 (some g)) (h6 : cs.length = 6) (h1 : cs.toArray.all (·.oneCell') = true)
    (r : DRd w3 B g A N c bs p' D.1) (h : D.1 = 0 → bs.drop p' = D.2.2 ∧ HasP w3 (fun b => w2.heap.size ≤ b) D.2.1 cs.toArray) : DVPost w B g A N c bs D (.returned (.agg cs.toArray)) (w3.setRow w.heap.size cs.toArray) := by
  have hf := r.far
  refine ⟨⟨cs, rfl, h6, h1, p', ?_, fun h0 => ?_⟩, grown_row (grown_trans g2 g3) (Nat.le_refl _) _⟩
  · exact r.below (M := w.heap.size) (below_setRow (Below.refl _ _) (Nat.le_refl _) _) hg
  · obtain ⟨e1, e2⟩ := h h0
    exact ⟨e1, HasP.keep (fun b hb _ => setRow_other w3 w.heap.size b _ (by have : w2.heap.size ≤ b := hb; omega)) (by simp [World.setRow]) (fun b hb _ => by have : w2.heap.size ≤ b := hb; omega) _ _ e2⟩
theorem dv_flat {w w2 : World} {B g : Nat} {A : Option Addr} {N c : Nat} {bs : List UInt8} {D : Int × Tr × List UInt8} {cs : List Value} {p' : Nat}
    (g2 : w.grownBy w2 (some g)) (z2 : w.heap.size < w2.heap.size) (hg : g < w.heap.size) (h6 : cs.length = 6) (h1 : cs.toArray.all (·.oneCell') = true)
    (r : DRd w2 B g A N c bs p' D.1) (h : D.1 = 0 → bs.drop p' = D.2.2 ∧ HasP w2 (fun b => w2.heap.size ≤ b) D.2.1 cs.toArray) : DVPost w B g A N c bs D (.returned (.agg cs.toArray)) (w2.setRow w.heap.size cs.toArray) :=
  dv_fin (old := #[]) g2 z2 hg (World.grownBy.refl _ _) h6 h1 r h
theorem drop_one {bs l : List UInt8} {p : Nat} {t : UInt8} (h : bs.drop p = t :: l) : bs.drop (p + 1) = l ∧ (bs.drop p).take 1 = [t] ∧ p + 1 ≤ bs.length := by
  have h2 : p < bs.length := by
    rcases Nat.lt_or_ge p bs.length with q | q
    · exact q
    · rw [List.drop_of_length_le q] at h; cases h
  refine ⟨?_, by rw [h]; rfl, h2⟩
  rw [← List.drop_drop, h]
  rfl

set_option maxRecDepth 100000 in
set_option maxHeartbeats 1600000 in
theorem dv_end {w : World} {B g : Nat} {A : Option Addr} {N c : Nat} {bs : List UInt8} {p : Nat} (r : DRd w B g A N c bs p 0) (depth : Int) (hd : bs.drop p = []) :
    Calls Tryd.prog 31 #[.pointer (some ⟨g, 0, none⟩), .int .i64 depth] w (DVPost w B g A N c bs (3, trZ, [])) := by
  obtain ⟨wA, hA⟩ : ∃ wA, wA = w.alloc (.cells cellsZ 26) := ⟨_, rfl⟩
  have sA : Still w wA := by rw [hA]; exact (Still.refl w).alloc (Nat.le_refl _) _
  have bA : Blk wA w.heap.size 26 cellsZ := by rw [hA]; exact Blk.new _ _ _
  have hgl := r.blk.lt
  have rA := r.still sA
  obtain ⟨fs, hu⟩ := underValue
  have HU := Lib.hid hu
  have BA := Lib.hid bA
  have HA := Lib.hid hA
  have SA := Lib.hid sA
  have HGL := Lib.hid hgl
  have hN : N - p < 1 := by
    have h1 := r.len
    have h2 := congrArg List.length hd
    simp at h2
    omega
  have TK := Lib.hid (rtk_no rA 1 hN (by omega))
  clear hA sA bA rA hu r hd hN hgl
  go_enter Tryd.func31, Tryd.ntmps31
  go_upto_region 1 with fail
  rw [show (w.alloc (.cells #[.int .i64 0, .int .i64 0, .slice none 0 0, .string ⟨#[]⟩, .slice none 0 0, .slice none 0 0] 26)) = wA from HA.out.symm]
  go_wp2_with fail
  refine TK.out.mono ?_
  rintro e w1 ⟨rfl, r1, g1⟩
  have R1 := Lib.hid r1
  have G1 := Lib.hid (grown_trans (grown_of_still SA.out) g1)
  have B1 : Hid (Blk w1 w.heap.size 26 cellsZ) := Lib.hid ((g1.block _ BA.out.lt (fun e => by have := HGL.out; cases e; omega)).trans BA.out)
  have k2 : w1.cell? ⟨g, 2, none⟩ = some (.int .i64 3) := r1.blk.cell 2
  clear r1 g1 TK BA HA SA
  go_wp2_with (guard_target =~ wpList _ _ _ (Oper.mk none (Op.store _ _ _) _ _ _ _ :: _) _ _; go_must (refine wpList_store_rowTo rfl 26 (.tmp 4) (.tmp 14) rfl rfl w.heap.size cellsZ rfl rfl 26 _ B1.out (by rw [sizeValue]; rfl) rfl (by decide +kernel) ?_))
  (try simp only [Exit.inBlock, Exit.then])
  refine bodyPost_ret (results_cell_row rfl _ _ w.heap.size _ _ _ _ rfl (setRow_heap w1 _ _ _ _ _ B1.out) HU.out rfl (by rw [sizeValue]; rfl)) rfl ?_
  exact dv_flat G1.out (by have := B1.out.lt; omega) HGL.out rfl (by decide +kernel) R1.out (fun h => absurd h (by decide))

set_option maxRecDepth 100000 in
set_option maxHeartbeats 1600000 in
theorem dv_deep {w : World} {B g : Nat} {A : Option Addr} {N c : Nat} {bs : List UInt8} {p : Nat} (r : DRd w B g A N c bs p 0) (depth : Int) {t : UInt8} {l : List UInt8} (hd : bs.drop p = t :: l) (h17 : 16 < depth) :
    Calls Tryd.prog 31 #[.pointer (some ⟨g, 0, none⟩), .int .i64 depth] w (DVPost w B g A N c bs (4, trZ, [])) := by
  obtain ⟨wA, hA⟩ : ∃ wA, wA = w.alloc (.cells cellsZ 26) := ⟨_, rfl⟩
  have sA : Still w wA := by rw [hA]; exact (Still.refl w).alloc (Nat.le_refl _) _
  have bA : Blk wA w.heap.size 26 cellsZ := by rw [hA]; exact Blk.new _ _ _
  have hgl := r.blk.lt
  have rA := r.still sA
  obtain ⟨fs, hu⟩ := underValue
  have HU := Lib.hid hu
  have BA := Lib.hid bA
  have HA := Lib.hid hA
  have SA := Lib.hid sA
  have HGL := Lib.hid hgl
  obtain ⟨q1, q2, q3⟩ := drop_one hd
  have hlen := r.len
  have TK := rtk_yes rA 1 (by omega)
  rw [q2] at TK
  have TK2 := Lib.hid TK
  have HQ1 := Lib.hid q1
  obtain ⟨y, hy⟩ : ∃ y, y = t.toNat := ⟨_, rfl⟩
  have HY := Lib.hid hy
  have HYL := Lib.hid (show y < 256 by rw [hy]; exact t.toNat_lt)
  have h16 := Lib.hid h17
  clear hA sA bA rA hu r hd hgl hlen TK q1 q2 q3 hy 
  go_enter Tryd.func31, Tryd.ntmps31
  go_upto_region 1 with fail
  rw [show (w.alloc (.cells #[.int .i64 0, .int .i64 0, .slice none 0 0, .string ⟨#[]⟩, .slice none 0 0, .slice none 0 0] 26)) = wA from HA.out.symm]
  go_wp2_with fail
  refine TK2.out.mono ?_
  rintro e w1 ⟨⟨A1, c1, rfl, rd1, na1, _, _⟩, r1, g1⟩
  obtain ⟨b1, o1, rfl, hb1, hc1⟩ := rd1.at_ (by omega)
  have kt : w1.cell? ⟨b1, o1, none⟩ = some (.int .u8 (y : Int)) := by
    have h := hc1 0 (by omega)
    rw [HY.out]
    simpa using h
  have R1 := Lib.hid r1
  have G1 := Lib.hid (grown_trans (grown_of_still SA.out) g1)
  have B1 : Hid (Blk w1 w.heap.size 26 cellsZ) := Lib.hid ((g1.block _ BA.out.lt (fun e => by have := HGL.out; cases e; omega)).trans BA.out)
  have k2 : w1.cell? ⟨g, 2, none⟩ = some (.int .i64 0) := r1.blk.cell 2
  have y1 : (0 : Int) ≤ (y : Int) := by omega
  have y2 : (y : Int) < 256 := by have := HYL.out; omega
  clear r1 g1 rd1 na1 hb1 hc1 TK2 BA HA SA
  have f2 : w1.frozen? ⟨g, 2, none⟩ = false := R1.out.blk.frozen 2
  have FIN := Lib.hid (show DRd (w1.setCell ⟨g, 2, none⟩ (.int .i64 4)) B g A N c bs (p + 1) 4 ∧ w.grownBy (w1.setCell ⟨g, 2, none⟩ (.int .i64 4)) (some g) from
    ⟨R1.out.set (p + 1) 4 R1.out.at_ (by have h := R1.out.blk.setc 2 (.int .i64 4); simpa using h) (grown_setc (World.grownBy.refl _ _)), grown_setc G1.out⟩)
  obtain ⟨w2, hw2⟩ : ∃ w2, w2 = w1.setCell ⟨g, 2, none⟩ (.int .i64 4) := ⟨_, rfl⟩
  have HW2 := Lib.hid hw2
  have B2 : Hid (Blk w2 w.heap.size 26 cellsZ) := Lib.hid (by rw [hw2]; exact B1.out.far (by have := HGL.out; simp only; omega) _)
  rw [← hw2] at FIN
  clear hw2
  go_upto_region 7 with fail
  rw [← HW2.out]
  go_wp2_with (guard_target =~ wpList _ _ _ (Oper.mk none (Op.store _ _ _) _ _ _ _ :: _) _ _; go_must (refine wpList_store_rowTo rfl 26 (.tmp 4) (.tmp 24) rfl rfl w.heap.size cellsZ rfl rfl 26 _ B2.out (by rw [sizeValue]; first | rfl | simp) (by first | rfl | simp [cellsZ]) (by first | decide +kernel | simp [Value.oneCell']) ?_))
  (try simp only [Exit.inBlock, Exit.then])
  refine bodyPost_ret (results_cell_row rfl _ _ w.heap.size _ _ _ _ rfl (setRow_heap w2 _ _ _ _ _ B2.out) HU.out rfl (by rw [sizeValue]; first | rfl | simp)) rfl ?_
  exact dv_flat FIN.out.2 (by have := B2.out.lt; omega) HGL.out rfl (by decide +kernel) FIN.out.1 (fun h => absurd h (by decide))

set_option maxRecDepth 100000 in
set_option maxHeartbeats 1600000 in
theorem dv_pos {w : World} {B g : Nat} {A : Option Addr} {N c : Nat} {bs : List UInt8} {p : Nat} (r : DRd w B g A N c bs p 0) (depth : Int) {t : UInt8} {l : List UInt8} (hd : bs.drop p = t :: l) (h16 : depth ≤ 16) (h1 : t.toNat < 128) :
    Calls Tryd.prog 31 #[.pointer (some ⟨g, 0, none⟩), .int .i64 depth] w (DVPost w B g A N c bs (0, .mk 3 (t.toNat : Int) [] ByteArray.empty [] [], l)) := by
  obtain ⟨wA, hA⟩ : ∃ wA, wA = w.alloc (.cells cellsZ 26) := ⟨_, rfl⟩
  have sA : Still w wA := by rw [hA]; exact (Still.refl w).alloc (Nat.le_refl _) _
  have bA : Blk wA w.heap.size 26 cellsZ := by rw [hA]; exact Blk.new _ _ _
  have hgl := r.blk.lt
  have rA := r.still sA
  obtain ⟨fs, hu⟩ := underValue
  have HU := Lib.hid hu
  have BA := Lib.hid bA
  have HA := Lib.hid hA
  have SA := Lib.hid sA
  have HGL := Lib.hid hgl
  obtain ⟨q1, q2, q3⟩ := drop_one hd
  have hlen := r.len
  have TK := rtk_yes rA 1 (by omega)
  rw [q2] at TK
  have TK2 := Lib.hid TK
  have HQ1 := Lib.hid q1
  obtain ⟨y, hy⟩ : ∃ y, y = t.toNat := ⟨_, rfl⟩
  have HY := Lib.hid hy
  have HYL := Lib.hid (show y < 256 by rw [hy]; exact t.toNat_lt)
  have h1' : y < 128 := by rw [hy]; exact h1
  have d1 : (y : Int) < 128 := by omega
  have d0 : ¬ 16 < depth := by omega
  rw [← hy]
  clear hA sA bA rA hu r hd hgl hlen TK q1 q2 q3 hy h1 h1'
  go_enter Tryd.func31, Tryd.ntmps31
  go_upto_region 1 with fail
  rw [show (w.alloc (.cells #[.int .i64 0, .int .i64 0, .slice none 0 0, .string ⟨#[]⟩, .slice none 0 0, .slice none 0 0] 26)) = wA from HA.out.symm]
  go_wp2_with fail
  refine TK2.out.mono ?_
  rintro e w1 ⟨⟨A1, c1, rfl, rd1, na1, _, _⟩, r1, g1⟩
  obtain ⟨b1, o1, rfl, hb1, hc1⟩ := rd1.at_ (by omega)
  have kt : w1.cell? ⟨b1, o1, none⟩ = some (.int .u8 (y : Int)) := by
    have h := hc1 0 (by omega)
    rw [HY.out]
    simpa using h
  have R1 := Lib.hid r1
  have G1 := Lib.hid (grown_trans (grown_of_still SA.out) g1)
  have B1 : Hid (Blk w1 w.heap.size 26 cellsZ) := Lib.hid ((g1.block _ BA.out.lt (fun e => by have := HGL.out; cases e; omega)).trans BA.out)
  have k2 : w1.cell? ⟨g, 2, none⟩ = some (.int .i64 0) := r1.blk.cell 2
  have y1 : (0 : Int) ≤ (y : Int) := by omega
  have y2 : (y : Int) < 256 := by have := HYL.out; omega
  clear r1 g1 rd1 na1 hb1 hc1 TK2 BA HA SA
  go_wp2_with (guard_target =~ wpList _ _ _ (Oper.mk none (Op.store _ _ _) _ _ _ _ :: _) _ _; go_must (refine wpList_store_rowTo rfl 26 (.tmp 4) (.tmp 29) rfl rfl w.heap.size #[.int .i64 3, .int .i64 (y : Int), .slice none 0 0, .string ⟨#[]⟩, .slice none 0 0, .slice none 0 0] rfl rfl 26 _ B1.out (by rw [sizeValue]; first | rfl | simp) (by first | rfl | simp [cellsZ]) (by first | decide +kernel | simp [Value.oneCell']) ?_))
  (try simp only [Exit.inBlock, Exit.then])
  refine bodyPost_ret (results_cell_row rfl _ _ w.heap.size _ _ _ _ rfl (setRow_heap w1 _ _ _ _ _ B1.out) HU.out rfl (by rw [sizeValue]; first | rfl | simp)) rfl ?_
  exact dv_flat (cs := [.int .i64 3, .int .i64 (y : Int), .slice none 0 0, .string ⟨#[]⟩, .slice none 0 0, .slice none 0 0]) (D := (0, .mk 3 (y : Int) [] ByteArray.empty [] [], l)) G1.out (by have := B1.out.lt; omega) HGL.out rfl (by simp [Value.oneCell']) R1.out (fun _ => ⟨HQ1.out, hasP_flat 3 _ _ (by omega) (by omega) (by decide)⟩)

set_option maxRecDepth 100000 in
set_option maxHeartbeats 1600000 in
theorem dv_neg {w : World} {B g : Nat} {A : Option Addr} {N c : Nat} {bs : List UInt8} {p : Nat} (r : DRd w B g A N c bs p 0) (depth : Int) {t : UInt8} {l : List UInt8} (hd : bs.drop p = t :: l) (h16 : depth ≤ 16) (h1 : 224 ≤ t.toNat) :
    Calls Tryd.prog 31 #[.pointer (some ⟨g, 0, none⟩), .int .i64 depth] w (DVPost w B g A N c bs (0, .mk 3 ((t.toNat : Int) - 256) [] ByteArray.empty [] [], l)) := by
  obtain ⟨wA, hA⟩ : ∃ wA, wA = w.alloc (.cells cellsZ 26) := ⟨_, rfl⟩
  have sA : Still w wA := by rw [hA]; exact (Still.refl w).alloc (Nat.le_refl _) _
  have bA : Blk wA w.heap.size 26 cellsZ := by rw [hA]; exact Blk.new _ _ _
  have hgl := r.blk.lt
  have rA := r.still sA
  obtain ⟨fs, hu⟩ := underValue
  have HU := Lib.hid hu
  have BA := Lib.hid bA
  have HA := Lib.hid hA
  have SA := Lib.hid sA
  have HGL := Lib.hid hgl
  obtain ⟨q1, q2, q3⟩ := drop_one hd
  have hlen := r.len
  have TK := rtk_yes rA 1 (by omega)
  rw [q2] at TK
  have TK2 := Lib.hid TK
  have HQ1 := Lib.hid q1
  obtain ⟨y, hy⟩ : ∃ y, y = t.toNat := ⟨_, rfl⟩
  have HY := Lib.hid hy
  have HYL := Lib.hid (show y < 256 by rw [hy]; exact t.toNat_lt)
  have h1' : 224 ≤ y := by rw [hy]; exact h1
  have d1 : (224 : Int) ≤ (y : Int) := by omega
  have d2 : ¬ (y : Int) < 128 := by omega
  have d3 : ¬ (y : Int) < 144 := by omega
  have d4 : ¬ (y : Int) < 160 := by omega
  have d5 : ¬ (y : Int) < 192 := by omega
  have d0 : ¬ 16 < depth := by omega
  rw [← hy]
  clear hA sA bA rA hu r hd hgl hlen TK q1 q2 q3 hy h1 h1'
  go_enter Tryd.func31, Tryd.ntmps31
  go_upto_region 1 with fail
  rw [show (w.alloc (.cells #[.int .i64 0, .int .i64 0, .slice none 0 0, .string ⟨#[]⟩, .slice none 0 0, .slice none 0 0] 26)) = wA from HA.out.symm]
  go_wp2_with fail
  refine TK2.out.mono ?_
  rintro e w1 ⟨⟨A1, c1, rfl, rd1, na1, _, _⟩, r1, g1⟩
  obtain ⟨b1, o1, rfl, hb1, hc1⟩ := rd1.at_ (by omega)
  have kt : w1.cell? ⟨b1, o1, none⟩ = some (.int .u8 (y : Int)) := by
    have h := hc1 0 (by omega)
    rw [HY.out]
    simpa using h
  have R1 := Lib.hid r1
  have G1 := Lib.hid (grown_trans (grown_of_still SA.out) g1)
  have B1 : Hid (Blk w1 w.heap.size 26 cellsZ) := Lib.hid ((g1.block _ BA.out.lt (fun e => by have := HGL.out; cases e; omega)).trans BA.out)
  have k2 : w1.cell? ⟨g, 2, none⟩ = some (.int .i64 0) := r1.blk.cell 2
  have y1 : (0 : Int) ≤ (y : Int) := by omega
  have y2 : (y : Int) < 256 := by have := HYL.out; omega
  clear r1 g1 rd1 na1 hb1 hc1 TK2 BA HA SA
  go_wp2_with (guard_target =~ wpList _ _ _ (Oper.mk none (Op.store _ _ _) _ _ _ _ :: _) _ _; go_must (refine wpList_store_rowTo rfl 26 (.tmp 4) (.tmp 60) rfl rfl w.heap.size #[.int .i64 3, .int .i64 ((y : Int) - 256), .slice none 0 0, .string ⟨#[]⟩, .slice none 0 0, .slice none 0 0] rfl rfl 26 _ B1.out (by rw [sizeValue]; first | rfl | simp) (by first | rfl | simp [cellsZ]) (by first | decide +kernel | simp [Value.oneCell']) ?_))
  (try simp only [Exit.inBlock, Exit.then])
  refine bodyPost_ret (results_cell_row rfl _ _ w.heap.size _ _ _ _ rfl (setRow_heap w1 _ _ _ _ _ B1.out) HU.out rfl (by rw [sizeValue]; first | rfl | simp)) rfl ?_
  exact dv_flat (cs := [.int .i64 3, .int .i64 ((y : Int) - 256), .slice none 0 0, .string ⟨#[]⟩, .slice none 0 0, .slice none 0 0]) (D := (0, .mk 3 ((y : Int) - 256) [] ByteArray.empty [] [], l)) G1.out (by have := B1.out.lt; omega) HGL.out rfl (by simp [Value.oneCell']) R1.out (fun _ => ⟨HQ1.out, hasP_flat 3 _ _ (by omega) (by omega) (by decide)⟩)

set_option maxRecDepth 100000 in
set_option maxHeartbeats 1600000 in
theorem dv_dict {w : World} {B g : Nat} {A : Option Addr} {N c : Nat} {bs : List UInt8} {p : Nat} (r : DRd w B g A N c bs p 0) (depth : Int) {t : UInt8} {l : List UInt8} (hd : bs.drop p = t :: l) (h16 : depth ≤ 16) (h1 : 128 ≤ t.toNat) (h2 : t.toNat < 144) (D : Int × Tr × List UInt8)
    (C : ∀ w2, DRd w2 B g A N c bs (p + 1) 0 → Calls Tryd.prog 58 #[.pointer (some ⟨g, 0, none⟩), .int .i64 ((t.toNat : Int) - 128), .int .i64 depth] w2 (DVPost w2 B g A N c bs D)) :
    Calls Tryd.prog 31 #[.pointer (some ⟨g, 0, none⟩), .int .i64 depth] w (DVPost w B g A N c bs D) := by
  obtain ⟨wA, hA⟩ : ∃ wA, wA = w.alloc (.cells cellsZ 26) := ⟨_, rfl⟩
  have sA : Still w wA := by rw [hA]; exact (Still.refl w).alloc (Nat.le_refl _) _
  have bA : Blk wA w.heap.size 26 cellsZ := by rw [hA]; exact Blk.new _ _ _
  have hgl := r.blk.lt
  have rA := r.still sA
  obtain ⟨fs, hu⟩ := underValue
  have HU := Lib.hid hu
  have BA := Lib.hid bA
  have HA := Lib.hid hA
  have SA := Lib.hid sA
  have HGL := Lib.hid hgl
  obtain ⟨q1, q2, q3⟩ := drop_one hd
  have hlen := r.len
  have TK := rtk_yes rA 1 (by omega)
  rw [q2] at TK
  have TK2 := Lib.hid TK
  have HQ1 := Lib.hid q1
  obtain ⟨y, hy⟩ : ∃ y, y = t.toNat := ⟨_, rfl⟩
  have HY := Lib.hid hy
  have HYL := Lib.hid (show y < 256 by rw [hy]; exact t.toNat_lt)
  have h1' : 128 ≤ y := by rw [hy]; exact h1
  have h2' : y < 144 := by rw [hy]; exact h2
  have d1 : ¬ (y : Int) < 128 := by omega
  have d2 : (y : Int) < 144 := by omega
  have d0 : ¬ 16 < depth := by omega
  rw [← hy] at C
  have CC := Lib.hid C
  clear hA sA bA rA hu r hd hgl hlen TK q1 q2 q3 hy h1 h2 h1' h2' C
  go_enter Tryd.func31, Tryd.ntmps31
  go_upto_region 1 with fail
  rw [show (w.alloc (.cells #[.int .i64 0, .int .i64 0, .slice none 0 0, .string ⟨#[]⟩, .slice none 0 0, .slice none 0 0] 26)) = wA from HA.out.symm]
  go_wp2_with fail
  refine TK2.out.mono ?_
  rintro e w1 ⟨⟨A1, c1, rfl, rd1, na1, _, _⟩, r1, g1⟩
  obtain ⟨b1, o1, rfl, hb1, hc1⟩ := rd1.at_ (by omega)
  have kt : w1.cell? ⟨b1, o1, none⟩ = some (.int .u8 (y : Int)) := by
    have h := hc1 0 (by omega)
    rw [HY.out]
    simpa using h
  have R1 := Lib.hid r1
  have G1 := Lib.hid (grown_trans (grown_of_still SA.out) g1)
  have B1 : Hid (Blk w1 w.heap.size 26 cellsZ) := Lib.hid ((g1.block _ BA.out.lt (fun e => by have := HGL.out; cases e; omega)).trans BA.out)
  have k2 : w1.cell? ⟨g, 2, none⟩ = some (.int .i64 0) := r1.blk.cell 2
  have y1 : (0 : Int) ≤ (y : Int) := by omega
  have y2 : (y : Int) < 256 := by have := HYL.out; omega
  clear r1 g1 rd1 na1 hb1 hc1 TK2 BA HA SA
  go_wp2_with fail
  refine (CC.out w1 R1.out).mono ?_
  rintro e w3 ⟨⟨cs, rfl, h6, hall, p', r3, h3⟩, g3⟩
  have B3 : Hid (Blk w3 w.heap.size 26 cellsZ) := Lib.hid ((g3.block _ B1.out.lt (fun e => by have := HGL.out; cases e; omega)).trans B1.out)
  have H6 := Lib.hid h6
  have HALL := Lib.hid hall
  have FIN := Lib.hid (dv_fin (old := #[]) G1.out (by have := B1.out.lt; omega) HGL.out g3 h6 hall r3 h3)
  clear h6 hall r3 h3 g3 CC
  go_wp2_with (guard_target =~ wpList _ _ _ (Oper.mk none (Op.store _ _ _) _ _ _ _ :: _) _ _; go_must (refine wpList_store_rowTo rfl 26 (.tmp 4) (.tmp 37) rfl rfl w.heap.size cs.toArray rfl rfl 26 _ B3.out (by rw [sizeValue]; simp [H6.out]) (by simp [H6.out, cellsZ]) HALL.out ?_))
  (try simp only [Exit.inBlock, Exit.then])
  refine bodyPost_ret (results_cell_row rfl _ _ w.heap.size _ _ _ _ rfl (setRow_heap w3 _ _ _ _ _ B3.out) HU.out rfl (by rw [sizeValue]; simp [H6.out])) rfl ?_
  exact FIN.out

set_option maxRecDepth 100000 in
set_option maxHeartbeats 1600000 in
theorem dv_list {w : World} {B g : Nat} {A : Option Addr} {N c : Nat} {bs : List UInt8} {p : Nat} (r : DRd w B g A N c bs p 0) (depth : Int) {t : UInt8} {l : List UInt8} (hd : bs.drop p = t :: l) (h16 : depth ≤ 16) (h1 : 144 ≤ t.toNat) (h2 : t.toNat < 160) (D : Int × Tr × List UInt8)
    (C : ∀ w2, DRd w2 B g A N c bs (p + 1) 0 → Calls Tryd.prog 59 #[.pointer (some ⟨g, 0, none⟩), .int .i64 ((t.toNat : Int) - 144), .int .i64 depth] w2 (DVPost w2 B g A N c bs D)) :
    Calls Tryd.prog 31 #[.pointer (some ⟨g, 0, none⟩), .int .i64 depth] w (DVPost w B g A N c bs D) := by
  obtain ⟨wA, hA⟩ : ∃ wA, wA = w.alloc (.cells cellsZ 26) := ⟨_, rfl⟩
  have sA : Still w wA := by rw [hA]; exact (Still.refl w).alloc (Nat.le_refl _) _
  have bA : Blk wA w.heap.size 26 cellsZ := by rw [hA]; exact Blk.new _ _ _
  have hgl := r.blk.lt
  have rA := r.still sA
  obtain ⟨fs, hu⟩ := underValue
  have HU := Lib.hid hu
  have BA := Lib.hid bA
  have HA := Lib.hid hA
  have SA := Lib.hid sA
  have HGL := Lib.hid hgl
  obtain ⟨q1, q2, q3⟩ := drop_one hd
  have hlen := r.len
  have TK := rtk_yes rA 1 (by omega)
  rw [q2] at TK
  have TK2 := Lib.hid TK
  have HQ1 := Lib.hid q1
  obtain ⟨y, hy⟩ : ∃ y, y = t.toNat := ⟨_, rfl⟩
  have HY := Lib.hid hy
  have HYL := Lib.hid (show y < 256 by rw [hy]; exact t.toNat_lt)
  have h1' : 144 ≤ y := by rw [hy]; exact h1
  have h2' : y < 160 := by rw [hy]; exact h2
  have d0' : ¬ (y : Int) < 128 := by omega
  have d1 : ¬ (y : Int) < 144 := by omega
  have d2 : (y : Int) < 160 := by omega
  have d0 : ¬ 16 < depth := by omega
  rw [← hy] at C
  have CC := Lib.hid C
  clear hA sA bA rA hu r hd hgl hlen TK q1 q2 q3 hy h1 h2 h1' h2' C
  go_enter Tryd.func31, Tryd.ntmps31
  go_upto_region 1 with fail
  rw [show (w.alloc (.cells #[.int .i64 0, .int .i64 0, .slice none 0 0, .string ⟨#[]⟩, .slice none 0 0, .slice none 0 0] 26)) = wA from HA.out.symm]
  go_wp2_with fail
  refine TK2.out.mono ?_
  rintro e w1 ⟨⟨A1, c1, rfl, rd1, na1, _, _⟩, r1, g1⟩
  obtain ⟨b1, o1, rfl, hb1, hc1⟩ := rd1.at_ (by omega)
  have kt : w1.cell? ⟨b1, o1, none⟩ = some (.int .u8 (y : Int)) := by
    have h := hc1 0 (by omega)
    rw [HY.out]
    simpa using h
  have R1 := Lib.hid r1
  have G1 := Lib.hid (grown_trans (grown_of_still SA.out) g1)
  have B1 : Hid (Blk w1 w.heap.size 26 cellsZ) := Lib.hid ((g1.block _ BA.out.lt (fun e => by have := HGL.out; cases e; omega)).trans BA.out)
  have k2 : w1.cell? ⟨g, 2, none⟩ = some (.int .i64 0) := r1.blk.cell 2
  have y1 : (0 : Int) ≤ (y : Int) := by omega
  have y2 : (y : Int) < 256 := by have := HYL.out; omega
  clear r1 g1 rd1 na1 hb1 hc1 TK2 BA HA SA
  go_wp2_with fail
  refine (CC.out w1 R1.out).mono ?_
  rintro e w3 ⟨⟨cs, rfl, h6, hall, p', r3, h3⟩, g3⟩
  have B3 : Hid (Blk w3 w.heap.size 26 cellsZ) := Lib.hid ((g3.block _ B1.out.lt (fun e => by have := HGL.out; cases e; omega)).trans B1.out)
  have H6 := Lib.hid h6
  have HALL := Lib.hid hall
  have FIN := Lib.hid (dv_fin (old := #[]) G1.out (by have := B1.out.lt; omega) HGL.out g3 h6 hall r3 h3)
  clear h6 hall r3 h3 g3 CC
  go_wp2_with (guard_target =~ wpList _ _ _ (Oper.mk none (Op.store _ _ _) _ _ _ _ :: _) _ _; go_must (refine wpList_store_rowTo rfl 26 (.tmp 4) (.tmp 45) rfl rfl w.heap.size cs.toArray rfl rfl 26 _ B3.out (by rw [sizeValue]; simp [H6.out]) (by simp [H6.out, cellsZ]) HALL.out ?_))
  (try simp only [Exit.inBlock, Exit.then])
  refine bodyPost_ret (results_cell_row rfl _ _ w.heap.size _ _ _ _ rfl (setRow_heap w3 _ _ _ _ _ B3.out) HU.out rfl (by rw [sizeValue]; simp [H6.out])) rfl ?_
  exact FIN.out

set_option maxRecDepth 100000 in
set_option maxHeartbeats 1600000 in
theorem dv_other {w : World} {B g : Nat} {A : Option Addr} {N c : Nat} {bs : List UInt8} {p : Nat} (r : DRd w B g A N c bs p 0) (depth : Int) {t : UInt8} {l : List UInt8} (hd : bs.drop p = t :: l) (h16 : depth ≤ 16) (h1 : 192 ≤ t.toNat) (h2 : t.toNat < 224) (D : Int × Tr × List UInt8)
    (C : ∀ w2, DRd w2 B g A N c bs (p + 1) 0 → Calls Tryd.prog 60 #[.pointer (some ⟨g, 0, none⟩), .int .i64 (t.toNat : Int), .int .i64 depth] w2 (DVPost w2 B g A N c bs D)) :
    Calls Tryd.prog 31 #[.pointer (some ⟨g, 0, none⟩), .int .i64 depth] w (DVPost w B g A N c bs D) := by
  obtain ⟨wA, hA⟩ : ∃ wA, wA = w.alloc (.cells cellsZ 26) := ⟨_, rfl⟩
  have sA : Still w wA := by rw [hA]; exact (Still.refl w).alloc (Nat.le_refl _) _
  have bA : Blk wA w.heap.size 26 cellsZ := by rw [hA]; exact Blk.new _ _ _
  have hgl := r.blk.lt
  have rA := r.still sA
  obtain ⟨fs, hu⟩ := underValue
  have HU := Lib.hid hu
  have BA := Lib.hid bA
  have HA := Lib.hid hA
  have SA := Lib.hid sA
  have HGL := Lib.hid hgl
  obtain ⟨q1, q2, q3⟩ := drop_one hd
  have hlen := r.len
  have TK := rtk_yes rA 1 (by omega)
  rw [q2] at TK
  have TK2 := Lib.hid TK
  have HQ1 := Lib.hid q1
  obtain ⟨y, hy⟩ : ∃ y, y = t.toNat := ⟨_, rfl⟩
  have HY := Lib.hid hy
  have HYL := Lib.hid (show y < 256 by rw [hy]; exact t.toNat_lt)
  have h1' : 192 ≤ y := by rw [hy]; exact h1
  have h2' : y < 224 := by rw [hy]; exact h2
  have d0' : ¬ (y : Int) < 128 := by omega
  have d1 : ¬ (y : Int) < 144 := by omega
  have d2 : ¬ (y : Int) < 160 := by omega
  have d3 : ¬ (y : Int) < 192 := by omega
  have d4 : ¬ (224 : Int) ≤ (y : Int) := by omega
  have d0 : ¬ 16 < depth := by omega
  rw [← hy] at C
  have CC := Lib.hid C
  clear hA sA bA rA hu r hd hgl hlen TK q1 q2 q3 hy h1 h2 h1' h2' C
  go_enter Tryd.func31, Tryd.ntmps31
  go_upto_region 1 with fail
  rw [show (w.alloc (.cells #[.int .i64 0, .int .i64 0, .slice none 0 0, .string ⟨#[]⟩, .slice none 0 0, .slice none 0 0] 26)) = wA from HA.out.symm]
  go_wp2_with fail
  refine TK2.out.mono ?_
  rintro e w1 ⟨⟨A1, c1, rfl, rd1, na1, _, _⟩, r1, g1⟩
  obtain ⟨b1, o1, rfl, hb1, hc1⟩ := rd1.at_ (by omega)
  have kt : w1.cell? ⟨b1, o1, none⟩ = some (.int .u8 (y : Int)) := by
    have h := hc1 0 (by omega)
    rw [HY.out]
    simpa using h
  have R1 := Lib.hid r1
  have G1 := Lib.hid (grown_trans (grown_of_still SA.out) g1)
  have B1 : Hid (Blk w1 w.heap.size 26 cellsZ) := Lib.hid ((g1.block _ BA.out.lt (fun e => by have := HGL.out; cases e; omega)).trans BA.out)
  have k2 : w1.cell? ⟨g, 2, none⟩ = some (.int .i64 0) := r1.blk.cell 2
  have y1 : (0 : Int) ≤ (y : Int) := by omega
  have y2 : (y : Int) < 256 := by have := HYL.out; omega
  clear r1 g1 rd1 na1 hb1 hc1 TK2 BA HA SA
  go_wp2_with fail
  refine (CC.out w1 R1.out).mono ?_
  rintro e w3 ⟨⟨cs, rfl, h6, hall, p', r3, h3⟩, g3⟩
  have B3 : Hid (Blk w3 w.heap.size 26 cellsZ) := Lib.hid ((g3.block _ B1.out.lt (fun e => by have := HGL.out; cases e; omega)).trans B1.out)
  have H6 := Lib.hid h6
  have HALL := Lib.hid hall
  have FIN := Lib.hid (dv_fin (old := #[]) G1.out (by have := B1.out.lt; omega) HGL.out g3 h6 hall r3 h3)
  clear h6 hall r3 h3 g3 CC
  go_wp2_with (guard_target =~ wpList _ _ _ (Oper.mk none (Op.store _ _ _) _ _ _ _ :: _) _ _; go_must (refine wpList_store_rowTo rfl 26 (.tmp 4) (.tmp 64) rfl rfl w.heap.size cs.toArray rfl rfl 26 _ B3.out (by rw [sizeValue]; simp [H6.out]) (by simp [H6.out, cellsZ]) HALL.out ?_))
  (try simp only [Exit.inBlock, Exit.then])
  refine bodyPost_ret (results_cell_row rfl _ _ w.heap.size _ _ _ _ rfl (setRow_heap w3 _ _ _ _ _ B3.out) HU.out rfl (by rw [sizeValue]; simp [H6.out])) rfl ?_
  exact FIN.out

set_option maxRecDepth 100000 in
set_option maxHeartbeats 1600000 in
theorem dv_text_no {w : World} {B g : Nat} {A : Option Addr} {N c : Nat} {bs : List UInt8} {p : Nat} (r : DRd w B g A N c bs p 0) (depth : Int) {t : UInt8} {l : List UInt8} (hd : bs.drop p = t :: l) (h16 : depth ≤ 16) (h1 : 160 ≤ t.toNat) (h2 : t.toNat < 192) (hs : l.length < t.toNat - 160) (T : Tr) (L : List UInt8) :
    Calls Tryd.prog 31 #[.pointer (some ⟨g, 0, none⟩), .int .i64 depth] w (DVPost w B g A N c bs (3, T, L)) := by
  obtain ⟨wA, hA⟩ : ∃ wA, wA = w.alloc (.cells cellsZ 26) := ⟨_, rfl⟩
  have sA : Still w wA := by rw [hA]; exact (Still.refl w).alloc (Nat.le_refl _) _
  have bA : Blk wA w.heap.size 26 cellsZ := by rw [hA]; exact Blk.new _ _ _
  have hgl := r.blk.lt
  have rA := r.still sA
  obtain ⟨fs, hu⟩ := underValue
  have HU := Lib.hid hu
  have BA := Lib.hid bA
  have HA := Lib.hid hA
  have SA := Lib.hid sA
  have HGL := Lib.hid hgl
  obtain ⟨q1, q2, q3⟩ := drop_one hd
  have hlen := r.len
  have TK := rtk_yes rA 1 (by omega)
  rw [q2] at TK
  have TK2 := Lib.hid TK
  have HQ1 := Lib.hid q1
  obtain ⟨y, hy⟩ : ∃ y, y = t.toNat := ⟨_, rfl⟩
  have HY := Lib.hid hy
  have HYL := Lib.hid (show y < 256 by rw [hy]; exact t.toNat_lt)
  have h1' : 160 ≤ y := by rw [hy]; exact h1
  have h2' : y < 192 := by rw [hy]; exact h2
  have d0' : ¬ (y : Int) < 128 := by omega
  have d1 : ¬ (y : Int) < 144 := by omega
  have d2 : ¬ (y : Int) < 160 := by omega
  have d3 : (y : Int) < 192 := by omega
  have d0 : ¬ 16 < depth := by omega
  obtain ⟨n, hn⟩ : ∃ n, n = y - 160 := ⟨_, rfl⟩
  have hnn : (y : Int) - 160 = (n : Int) := by omega
  have n31 : n < 32 := by omega
  have HNY := Lib.hid hn
  rw [← hy, ← hn] at hs
  have LEN := Lib.hid (show l.length + (p + 1) = N by have := congrArg List.length q1; simp at this; omega)
  have HS := Lib.hid hs
  clear hA sA bA rA hu r hd hgl hlen TK q1 q2 q3 hy h1 h2 h1' h2' hs hn
  go_enter Tryd.func31, Tryd.ntmps31
  go_upto_region 1 with fail
  rw [show (w.alloc (.cells #[.int .i64 0, .int .i64 0, .slice none 0 0, .string ⟨#[]⟩, .slice none 0 0, .slice none 0 0] 26)) = wA from HA.out.symm]
  go_wp2_with fail
  refine TK2.out.mono ?_
  rintro e w1 ⟨⟨A1, c1, rfl, rd1, na1, _, _⟩, r1, g1⟩
  obtain ⟨b1, o1, rfl, hb1, hc1⟩ := rd1.at_ (by omega)
  have kt : w1.cell? ⟨b1, o1, none⟩ = some (.int .u8 (y : Int)) := by
    have h := hc1 0 (by omega)
    rw [HY.out]
    simpa using h
  have R1 := Lib.hid r1
  have G1 := Lib.hid (grown_trans (grown_of_still SA.out) g1)
  have B1 : Hid (Blk w1 w.heap.size 26 cellsZ) := Lib.hid ((g1.block _ BA.out.lt (fun e => by have := HGL.out; cases e; omega)).trans BA.out)
  have k2 : w1.cell? ⟨g, 2, none⟩ = some (.int .i64 0) := r1.blk.cell 2
  have y1 : (0 : Int) ≤ (y : Int) := by omega
  have y2 : (y : Int) < 256 := by have := HYL.out; omega
  clear r1 g1 rd1 na1 hb1 hc1 TK2 BA HA SA
  have TN := Lib.hid (rtk_no R1.out n (by have := HS.out; have := LEN.out; omega) (by omega))
  go_wp2_with fail
  refine TN.out.mono ?_
  rintro e w2 ⟨rfl, r2, g2⟩
  have R2 := Lib.hid r2
  have G2 := Lib.hid (grown_trans G1.out g2)
  have B2 : Hid (Blk w2 w.heap.size 26 cellsZ) := Lib.hid ((g2.block _ B1.out.lt (fun e => by have := HGL.out; cases e; omega)).trans B1.out)
  have CV := conv_reads (w := w2) (A := none) (B := 0) Reads.nil0 0
  clear r2 g2 TN
  go_wp2_with (guard_target =~ wpList _ _ _ (Oper.mk none (Op.store _ _ _) _ _ _ _ :: _) _ _; go_must (refine wpList_store_rowTo rfl 26 (.tmp 4) (.tmp 54) rfl rfl w.heap.size #[.int .i64 5, .int .i64 0, .slice none 0 0, .string ⟨([] : List UInt8).toArray⟩, .slice none 0 0, .slice none 0 0] rfl rfl 26 _ B2.out (by rw [sizeValue]; first | rfl | simp) (by first | rfl | simp [cellsZ]) (by first | decide +kernel | simp [Value.oneCell']) ?_))
  (try simp only [Exit.inBlock, Exit.then])
  refine bodyPost_ret (results_cell_row rfl _ _ w.heap.size _ _ _ _ rfl (setRow_heap w2 _ _ _ _ _ B2.out) HU.out rfl (by rw [sizeValue]; first | rfl | simp)) rfl ?_
  exact dv_flat (cs := [.int .i64 5, .int .i64 0, .slice none 0 0, .string ⟨([] : List UInt8).toArray⟩, .slice none 0 0, .slice none 0 0]) (D := (3, T, L)) G2.out (by have := B2.out.lt; omega) HGL.out rfl (by simp [Value.oneCell']) R2.out (fun h => absurd (show (3 : Int) = 0 from h) (by decide))

set_option maxRecDepth 100000 in
set_option maxHeartbeats 1600000 in
theorem dv_text_yes {w : World} {B g : Nat} {A : Option Addr} {N c : Nat} {bs : List UInt8} {p : Nat} (r : DRd w B g A N c bs p 0) (depth : Int) {t : UInt8} {l : List UInt8} (hd : bs.drop p = t :: l) (h16 : depth ≤ 16) (h1 : 160 ≤ t.toNat) (h2 : t.toNat < 192) (hs : t.toNat - 160 ≤ l.length) :
    Calls Tryd.prog 31 #[.pointer (some ⟨g, 0, none⟩), .int .i64 depth] w (DVPost w B g A N c bs (0, .mk 5 0 [] ⟨(l.take (t.toNat - 160)).toArray⟩ [] [], l.drop (t.toNat - 160))) := by
  obtain ⟨wA, hA⟩ : ∃ wA, wA = w.alloc (.cells cellsZ 26) := ⟨_, rfl⟩
  have sA : Still w wA := by rw [hA]; exact (Still.refl w).alloc (Nat.le_refl _) _
  have bA : Blk wA w.heap.size 26 cellsZ := by rw [hA]; exact Blk.new _ _ _
  have hgl := r.blk.lt
  have rA := r.still sA
  obtain ⟨fs, hu⟩ := underValue
  have HU := Lib.hid hu
  have BA := Lib.hid bA
  have HA := Lib.hid hA
  have SA := Lib.hid sA
  have HGL := Lib.hid hgl
  obtain ⟨q1, q2, q3⟩ := drop_one hd
  have hlen := r.len
  have TK := rtk_yes rA 1 (by omega)
  rw [q2] at TK
  have TK2 := Lib.hid TK
  have HQ1 := Lib.hid q1
  obtain ⟨y, hy⟩ : ∃ y, y = t.toNat := ⟨_, rfl⟩
  have HY := Lib.hid hy
  have HYL := Lib.hid (show y < 256 by rw [hy]; exact t.toNat_lt)
  have h1' : 160 ≤ y := by rw [hy]; exact h1
  have h2' : y < 192 := by rw [hy]; exact h2
  have d0' : ¬ (y : Int) < 128 := by omega
  have d1 : ¬ (y : Int) < 144 := by omega
  have d2 : ¬ (y : Int) < 160 := by omega
  have d3 : (y : Int) < 192 := by omega
  have d0 : ¬ 16 < depth := by omega
  obtain ⟨n, hn⟩ : ∃ n, n = y - 160 := ⟨_, rfl⟩
  have hnn : (y : Int) - 160 = (n : Int) := by omega
  have n31 : n < 32 := by omega
  have HNY := Lib.hid hn
  rw [← hy, ← hn] at hs
  have LEN := Lib.hid (show l.length + (p + 1) = N by have := congrArg List.length q1; simp at this; omega)
  rw [← hy, ← hn]
  have HS := Lib.hid hs
  clear hA sA bA rA hu r hd hgl hlen TK q1 q2 q3 hy h1 h2 h1' h2' hs hn
  go_enter Tryd.func31, Tryd.ntmps31
  go_upto_region 1 with fail
  rw [show (w.alloc (.cells #[.int .i64 0, .int .i64 0, .slice none 0 0, .string ⟨#[]⟩, .slice none 0 0, .slice none 0 0] 26)) = wA from HA.out.symm]
  go_wp2_with fail
  refine TK2.out.mono ?_
  rintro e w1 ⟨⟨A1, c1, rfl, rd1, na1, _, _⟩, r1, g1⟩
  obtain ⟨b1, o1, rfl, hb1, hc1⟩ := rd1.at_ (by omega)
  have kt : w1.cell? ⟨b1, o1, none⟩ = some (.int .u8 (y : Int)) := by
    have h := hc1 0 (by omega)
    rw [HY.out]
    simpa using h
  have R1 := Lib.hid r1
  have G1 := Lib.hid (grown_trans (grown_of_still SA.out) g1)
  have B1 : Hid (Blk w1 w.heap.size 26 cellsZ) := Lib.hid ((g1.block _ BA.out.lt (fun e => by have := HGL.out; cases e; omega)).trans BA.out)
  have k2 : w1.cell? ⟨g, 2, none⟩ = some (.int .i64 0) := r1.blk.cell 2
  have y1 : (0 : Int) ≤ (y : Int) := by omega
  have y2 : (y : Int) < 256 := by have := HYL.out; omega
  clear r1 g1 rd1 na1 hb1 hc1 TK2 BA HA SA
  have TN := rtk_yes R1.out n (by have := HS.out; have := LEN.out; omega)
  rw [HQ1.out] at TN
  have TY := Lib.hid TN
  clear TN
  obtain ⟨x, hx⟩ : ∃ x, x = l.take n := ⟨_, rfl⟩
  rw [← hx] at TY
  have HX := Lib.hid hx
  clear hx
  go_wp2_with fail
  refine TY.out.mono ?_
  rintro e w2 ⟨⟨A2, c2, rfl, rd2, na2, _, _⟩, r2, g2⟩
  have R2 := Lib.hid r2
  have G2 := Lib.hid (grown_trans G1.out g2)
  have B2 : Hid (Blk w2 w.heap.size 26 cellsZ) := Lib.hid ((g2.block _ B1.out.lt (fun e => by have := HGL.out; cases e; omega)).trans B1.out)
  have CV := conv_reads rd2 c2
  have XL := Lib.hid (show x.length = n from rd2.1)
  clear r2 g2 TY rd2 na2
  go_wp2_with (guard_target =~ wpList _ _ _ (Oper.mk none (Op.store _ _ _) _ _ _ _ :: _) _ _; go_must (refine wpList_store_rowTo rfl 26 (.tmp 4) (.tmp 54) rfl rfl w.heap.size #[.int .i64 5, .int .i64 0, .slice none 0 0, .string ⟨x.toArray⟩, .slice none 0 0, .slice none 0 0] rfl rfl 26 _ B2.out (by rw [sizeValue]; first | rfl | simp) (by first | rfl | simp [cellsZ]) (by first | decide +kernel | simp [Value.oneCell']) ?_))
  (try simp only [Exit.inBlock, Exit.then])
  refine bodyPost_ret (results_cell_row rfl _ _ w.heap.size _ _ _ _ rfl (setRow_heap w2 _ _ _ _ _ B2.out) HU.out rfl (by rw [sizeValue]; first | rfl | simp)) rfl ?_
  rw [← HX.out]
  refine dv_flat (cs := [.int .i64 5, .int .i64 0, .slice none 0 0, .string ⟨x.toArray⟩, .slice none 0 0, .slice none 0 0]) (D := (0, .mk 5 0 [] ⟨x.toArray⟩ [] [], l.drop n)) G2.out (by have := B2.out.lt; omega) HGL.out rfl (by simp [Value.oneCell']) R2.out (fun _ => ⟨?_, hasP_flat 5 _ _ (by omega) (by omega) (by have := XL.out; show (⟨x.toArray⟩ : ByteArray).data.size ≤ 1048576; simp; omega)⟩)
  rw [← List.drop_drop, HQ1.out]

end Go.Proofs.YtmpnehhndhepgaaDoor

/- Numbers, as the document's own reader takes them. It proves no statement. -/


namespace Go.Proofs.YtmpnehhndhepgaaDoor
open Go.RowKit
set_option linter.unusedVariables false
set_option linter.unusedSimpArgs false

theorem decK_pos (k u : Nat) (h : u < 9223372036854775808) : decK false k u = (u : Int) := by
  unfold decK
  rw [if_neg (by decide)]
  unfold wrap64
  omega
theorem leNum_bd (l : List UInt8) (n : Nat) : leNum (l.take n).reverse < 2 ^ (8 * n) := by
  have h := leNum_lt (l.take n).reverse
  have h2 : (l.take n).reverse.length ≤ n := by simp; omega
  exact Nat.lt_of_lt_of_le h (Nat.pow_le_pow_right (by omega) (by omega))
/-- A number that isn't below 0: is the tag the one that its writer takes? -/
theorem nt_204 (u : Nat) (h : u < 256) : nt (u : Int) = 204 ↔ ¬ u < 128 := by
  unfold nt pk
  split <;> (try split) <;> (try split) <;> (try split) <;> (try split) <;> omega
theorem nt_205 (u : Nat) (h : u < 65536) : nt (u : Int) = 205 ↔ ¬ u < 256 := by
  unfold nt pk
  split <;> (try split) <;> (try split) <;> (try split) <;> (try split) <;> omega
theorem nt_206 (u : Nat) (h : u < 4294967296) : nt (u : Int) = 206 ↔ ¬ u < 65536 := by
  unfold nt pk
  split <;> (try split) <;> (try split) <;> (try split) <;> (try split) <;> omega
theorem nt_207 (u : Nat) (h : u < 9223372036854775808) : nt (u : Int) = 207 ↔ ¬ u < 4294967296 := by
  unfold nt pk
  split <;> (try split) <;> (try split) <;> (try split) <;> (try split) <;> omega
theorem nt_207_no (u : Nat) (h : 9223372036854775808 ≤ u) (h2 : u < 18446744073709551616) : nt (decK false 8 u) ≠ 207 := by
  have e : decK false 8 u = (u : Int) - 18446744073709551616 := by
    unfold decK
    rw [if_neg (by decide)]
    unfold wrap64
    omega
  rw [e]
  unfold nt pk
  split <;> (try split) <;> (try split) <;> (try split) <;> (try split) <;> omega
theorem iff_er (P : Prop) [Decidable P] (u lo : Nat) (h : P ↔ ¬ u < lo) : (if P then (0 : Int) else 4) = if u < lo then 4 else 0 := by
  by_cases hu : u < lo
  · rw [if_pos hu, if_neg (fun p => h.1 p hu)]
  · rw [if_neg hu, if_pos (h.2 hu)]
/-- A number below 0 of so many bytes. -/
def sgn (k u : Nat) : Int := if u < 2 ^ (8 * k - 1) then (u : Int) else (u : Int) - 2 ^ (8 * k)
theorem decK_neg (k u : Nat) (hk : k = 1 ∨ k = 2 ∨ k = 4 ∨ k = 8) (hu : u < 2 ^ (8 * k)) : decK true k u = sgn k u := by
  unfold decK sgn
  rw [if_pos rfl]
  unfold wrap64
  rcases hk with rfl | rfl | rfl | rfl
  · simp only [show (2 : Int) ^ (64 - 8 * 1) = 72057594037927936 from rfl, show (2 : Nat) ^ (8 * 1 - 1) = 128 from rfl, show (2 : Int) ^ (8 * 1) = 256 from rfl, show (2 : Nat) ^ (8 * 1) = 256 from rfl] at *
    split <;> omega
  · simp only [show (2 : Int) ^ (64 - 8 * 2) = 281474976710656 from rfl, show (2 : Nat) ^ (8 * 2 - 1) = 32768 from rfl, show (2 : Int) ^ (8 * 2) = 65536 from rfl, show (2 : Nat) ^ (8 * 2) = 65536 from rfl] at *
    split <;> omega
  · simp only [show (2 : Int) ^ (64 - 8 * 4) = 4294967296 from rfl, show (2 : Nat) ^ (8 * 4 - 1) = 2147483648 from rfl, show (2 : Int) ^ (8 * 4) = 4294967296 from rfl, show (2 : Nat) ^ (8 * 4) = 4294967296 from rfl] at *
    split <;> omega
  · simp only [show (2 : Int) ^ (64 - 8 * 8) = 1 from rfl, show (2 : Nat) ^ (8 * 8 - 1) = 9223372036854775808 from rfl, show (2 : Int) ^ (8 * 8) = 18446744073709551616 from rfl, show (2 : Nat) ^ (8 * 8) = 18446744073709551616 from rfl] at *
    split <;> omega
theorem nt_208 (x : Int) (h1 : -128 ≤ x) (h2 : x ≤ 127) : nt x = 208 ↔ ¬ -32 ≤ x := by
  unfold nt pk
  split <;> (try split) <;> (try split) <;> (try split) <;> (try split) <;> omega
theorem nt_209 (x : Int) (h1 : -32768 ≤ x) (h2 : x ≤ 32767) : nt x = 209 ↔ ¬ -128 ≤ x := by
  unfold nt pk
  split <;> (try split) <;> (try split) <;> (try split) <;> (try split) <;> omega
theorem nt_210 (x : Int) (h1 : -2147483648 ≤ x) (h2 : x ≤ 2147483647) : nt x = 210 ↔ ¬ -32768 ≤ x := by
  unfold nt pk
  split <;> (try split) <;> (try split) <;> (try split) <;> (try split) <;> omega
theorem nt_211 (x : Int) (h1 : -9223372036854775808 ≤ x) (h2 : x ≤ 9223372036854775807) : nt x = 211 ↔ ¬ -2147483648 ≤ x := by
  unfold nt pk
  split <;> (try split) <;> (try split) <;> (try split) <;> (try split) <;> omega
end Go.Proofs.YtmpnehhndhepgaaDoor

/- The document's own reader of values: numbers. It proves no statement. -/


namespace Go.Proofs.YtmpnehhndhepgaaDoor
open Go.RowKit
set_option linter.unusedVariables false
set_option linter.unusedSimpArgs false

set_option maxRecDepth 100000 in
set_option maxHeartbeats 1600000 in
theorem do_204_no {w : World} {B g : Nat} {A : Option Addr} {N c : Nat} {bs : List UInt8} {p : Nat} (r : DRd w B g A N c bs p 0) (depth : Int) (hs : (bs.drop p).length < 1) :
    Calls Tryd.prog 60 #[.pointer (some ⟨g, 0, none⟩), .int .i64 204, .int .i64 depth] w (DVPost w B g A N c bs ((nuD 204 (bs.drop p)).1, .mk 3 (nuD 204 (bs.drop p)).2.1 [] ByteArray.empty [] [], (nuD 204 (bs.drop p)).2.2)) := by
  obtain ⟨wA, hA⟩ : ∃ wA, wA = w.alloc (.cells cellsZ 26) := ⟨_, rfl⟩
  have sA : Still w wA := by rw [hA]; exact (Still.refl w).alloc (Nat.le_refl _) _
  have bA : Blk wA w.heap.size 26 cellsZ := by rw [hA]; exact Blk.new _ _ _
  have hgl := r.blk.lt
  have rA := r.still sA
  obtain ⟨fs, hu⟩ := underValue
  have HU := Lib.hid hu
  have BA := Lib.hid bA
  have HA := Lib.hid hA
  have SA := Lib.hid sA
  have HGL := Lib.hid hgl
  have hD : nuD 204 (bs.drop p) = (3, 0, []) := by unfold nuD; rw [show bh 204 = 1 from rfl, if_neg (by decide), if_pos hs]
  rw [hD]
  have TN := Lib.hid (rnm_no rA 1 (by have h1 := r.len; rw [List.length_drop] at hs; omega) (by omega) 128)
  clear hA sA bA rA hu r hs hgl hD
  go_enter Tryd.func60, Tryd.ntmps60
  go_upto_region 1 with fail
  rw [show (w.alloc (.cells #[.int .i64 0, .int .i64 0, .slice none 0 0, .string ⟨#[]⟩, .slice none 0 0, .slice none 0 0] 26)) = wA from HA.out.symm]
  go_wp2_with fail
  refine TN.out.mono ?_
  rintro e w1 ⟨rfl, r1, g1⟩
  have R1 := Lib.hid r1
  have G1 := Lib.hid (grown_trans (grown_of_still SA.out) g1)
  have B1 : Hid (Blk w1 w.heap.size 26 cellsZ) := Lib.hid ((g1.block _ BA.out.lt (fun e => by have := HGL.out; cases e; omega)).trans BA.out)
  clear r1 g1 TN BA HA SA
  go_wp2_with (guard_target =~ wpList _ _ _ (Oper.mk none (Op.store _ _ _) _ _ _ _ :: _) _ _; go_must (refine wpList_store_rowTo rfl 26 (.tmp 6) (.tmp 41) rfl rfl w.heap.size #[.int .i64 3, .int .i64 0, .slice none 0 0, .string ⟨#[]⟩, .slice none 0 0, .slice none 0 0] rfl rfl 26 _ B1.out (by rw [sizeValue]; first | rfl | simp) (by first | rfl | simp [cellsZ]) (by first | decide +kernel | simp [Value.oneCell']) ?_))
  (try simp only [Exit.inBlock, Exit.then])
  refine bodyPost_ret (results_cell_row rfl _ _ w.heap.size _ _ _ _ rfl (setRow_heap w1 _ _ _ _ _ B1.out) HU.out rfl (by rw [sizeValue]; first | rfl | simp)) rfl ?_
  exact dv_flat (cs := [.int .i64 3, .int .i64 0, .slice none 0 0, .string ⟨#[]⟩, .slice none 0 0, .slice none 0 0]) (D := (3, .mk 3 0 [] ByteArray.empty [] [], [])) G1.out (by have := B1.out.lt; omega) HGL.out rfl (by simp [Value.oneCell']) R1.out (fun h => absurd (show (3 : Int) = 0 from h) (by decide))

set_option maxRecDepth 100000 in
set_option maxHeartbeats 1600000 in
theorem do_204_yes {w : World} {B g : Nat} {A : Option Addr} {N c : Nat} {bs : List UInt8} {p : Nat} (r : DRd w B g A N c bs p 0) (depth : Int) (hs : ¬ (bs.drop p).length < 1) :
    Calls Tryd.prog 60 #[.pointer (some ⟨g, 0, none⟩), .int .i64 204, .int .i64 depth] w (DVPost w B g A N c bs ((nuD 204 (bs.drop p)).1, .mk 3 (nuD 204 (bs.drop p)).2.1 [] ByteArray.empty [] [], (nuD 204 (bs.drop p)).2.2)) := by
  obtain ⟨wA, hA⟩ : ∃ wA, wA = w.alloc (.cells cellsZ 26) := ⟨_, rfl⟩
  have sA : Still w wA := by rw [hA]; exact (Still.refl w).alloc (Nat.le_refl _) _
  have bA : Blk wA w.heap.size 26 cellsZ := by rw [hA]; exact Blk.new _ _ _
  have hgl := r.blk.lt
  have rA := r.still sA
  obtain ⟨fs, hu⟩ := underValue
  have HU := Lib.hid hu
  have BA := Lib.hid bA
  have HA := Lib.hid hA
  have SA := Lib.hid sA
  have HGL := Lib.hid hgl
  have hb := leNum_bd (bs.drop p) 1
  have TN := rnm_yes rA 1 (by have h1 := r.len; rw [List.length_drop] at hs; have := r.at_; omega) (by omega) (by omega) 128 _ rfl (by omega)
  obtain ⟨x, hx⟩ : ∃ x, x = leNum ((bs.drop p).take 1).reverse := ⟨_, rfl⟩
  rw [← hx] at hb TN
  simp only [show (2 : Nat) ^ (8 * 1) = 256 from rfl] at hb
  have hD : nuD 204 (bs.drop p) = (if x < 128 then 4 else 0, (x : Int), bs.drop (p + 1)) := by
    unfold nuD
    rw [show bh 204 = 1 from rfl, if_neg (by decide), if_neg hs, ← hx, show decide (208 ≤ 204) = false from rfl, decK_pos 1 x (by omega), iff_er _ x 128 (nt_204 x hb), List.drop_drop]
  rw [hD]
  have TY := Lib.hid TN
  have d1 : (x : Int) < 9223372036854775808 := by omega
  have d2 : (0 : Int) ≤ (x : Int) := by omega
  clear hA sA bA rA hu r hs hgl hD TN hb hx
  obtain ⟨q, hq⟩ : ∃ q : Int, q = if x < 128 then 4 else 0 := ⟨_, rfl⟩
  rw [← hq] at TY ⊢
  clear hq
  go_enter Tryd.func60, Tryd.ntmps60
  go_upto_region 1 with fail
  rw [show (w.alloc (.cells #[.int .i64 0, .int .i64 0, .slice none 0 0, .string ⟨#[]⟩, .slice none 0 0, .slice none 0 0] 26)) = wA from HA.out.symm]
  go_wp2_with fail
  refine TY.out.mono ?_
  rintro e w1 ⟨rfl, r1, g1⟩
  have R1 := Lib.hid r1
  have G1 := Lib.hid (grown_trans (grown_of_still SA.out) g1)
  have B1 : Hid (Blk w1 w.heap.size 26 cellsZ) := Lib.hid ((g1.block _ BA.out.lt (fun e => by have := HGL.out; cases e; omega)).trans BA.out)
  clear r1 g1 TY BA HA SA
  go_wp2_with (guard_target =~ wpList _ _ _ (Oper.mk none (Op.store _ _ _) _ _ _ _ :: _) _ _; go_must (refine wpList_store_rowTo rfl 26 (.tmp 6) (.tmp 41) rfl rfl w.heap.size #[.int .i64 3, .int .i64 (x : Int), .slice none 0 0, .string ⟨#[]⟩, .slice none 0 0, .slice none 0 0] rfl rfl 26 _ B1.out (by rw [sizeValue]; first | rfl | simp) (by first | rfl | simp [cellsZ]) (by first | decide +kernel | simp [Value.oneCell']) ?_))
  (try simp only [Exit.inBlock, Exit.then])
  refine bodyPost_ret (results_cell_row rfl _ _ w.heap.size _ _ _ _ rfl (setRow_heap w1 _ _ _ _ _ B1.out) HU.out rfl (by rw [sizeValue]; first | rfl | simp)) rfl ?_
  exact dv_flat (cs := [.int .i64 3, .int .i64 (x : Int), .slice none 0 0, .string ⟨#[]⟩, .slice none 0 0, .slice none 0 0]) (D := (q, .mk 3 (x : Int) [] ByteArray.empty [] [], bs.drop (p + 1))) G1.out (by have := B1.out.lt; omega) HGL.out rfl (by simp [Value.oneCell']) R1.out (fun _ => ⟨rfl, hasP_flat 3 _ _ (by omega) (by omega) (by decide)⟩)

set_option maxRecDepth 100000 in
set_option maxHeartbeats 1600000 in
theorem do_205_no {w : World} {B g : Nat} {A : Option Addr} {N c : Nat} {bs : List UInt8} {p : Nat} (r : DRd w B g A N c bs p 0) (depth : Int) (hs : (bs.drop p).length < 2) :
    Calls Tryd.prog 60 #[.pointer (some ⟨g, 0, none⟩), .int .i64 205, .int .i64 depth] w (DVPost w B g A N c bs ((nuD 205 (bs.drop p)).1, .mk 3 (nuD 205 (bs.drop p)).2.1 [] ByteArray.empty [] [], (nuD 205 (bs.drop p)).2.2)) := by
  obtain ⟨wA, hA⟩ : ∃ wA, wA = w.alloc (.cells cellsZ 26) := ⟨_, rfl⟩
  have sA : Still w wA := by rw [hA]; exact (Still.refl w).alloc (Nat.le_refl _) _
  have bA : Blk wA w.heap.size 26 cellsZ := by rw [hA]; exact Blk.new _ _ _
  have hgl := r.blk.lt
  have rA := r.still sA
  obtain ⟨fs, hu⟩ := underValue
  have HU := Lib.hid hu
  have BA := Lib.hid bA
  have HA := Lib.hid hA
  have SA := Lib.hid sA
  have HGL := Lib.hid hgl
  have hD : nuD 205 (bs.drop p) = (3, 0, []) := by unfold nuD; rw [show bh 205 = 2 from rfl, if_neg (by decide), if_pos hs]
  rw [hD]
  have TN := Lib.hid (rnm_no rA 2 (by have h1 := r.len; rw [List.length_drop] at hs; omega) (by omega) 256)
  clear hA sA bA rA hu r hs hgl hD
  go_enter Tryd.func60, Tryd.ntmps60
  go_upto_region 1 with fail
  rw [show (w.alloc (.cells #[.int .i64 0, .int .i64 0, .slice none 0 0, .string ⟨#[]⟩, .slice none 0 0, .slice none 0 0] 26)) = wA from HA.out.symm]
  go_wp2_with fail
  refine TN.out.mono ?_
  rintro e w1 ⟨rfl, r1, g1⟩
  have R1 := Lib.hid r1
  have G1 := Lib.hid (grown_trans (grown_of_still SA.out) g1)
  have B1 : Hid (Blk w1 w.heap.size 26 cellsZ) := Lib.hid ((g1.block _ BA.out.lt (fun e => by have := HGL.out; cases e; omega)).trans BA.out)
  clear r1 g1 TN BA HA SA
  go_wp2_with (guard_target =~ wpList _ _ _ (Oper.mk none (Op.store _ _ _) _ _ _ _ :: _) _ _; go_must (refine wpList_store_rowTo rfl 26 (.tmp 6) (.tmp 47) rfl rfl w.heap.size #[.int .i64 3, .int .i64 0, .slice none 0 0, .string ⟨#[]⟩, .slice none 0 0, .slice none 0 0] rfl rfl 26 _ B1.out (by rw [sizeValue]; first | rfl | simp) (by first | rfl | simp [cellsZ]) (by first | decide +kernel | simp [Value.oneCell']) ?_))
  (try simp only [Exit.inBlock, Exit.then])
  refine bodyPost_ret (results_cell_row rfl _ _ w.heap.size _ _ _ _ rfl (setRow_heap w1 _ _ _ _ _ B1.out) HU.out rfl (by rw [sizeValue]; first | rfl | simp)) rfl ?_
  exact dv_flat (cs := [.int .i64 3, .int .i64 0, .slice none 0 0, .string ⟨#[]⟩, .slice none 0 0, .slice none 0 0]) (D := (3, .mk 3 0 [] ByteArray.empty [] [], [])) G1.out (by have := B1.out.lt; omega) HGL.out rfl (by simp [Value.oneCell']) R1.out (fun h => absurd (show (3 : Int) = 0 from h) (by decide))

set_option maxRecDepth 100000 in
set_option maxHeartbeats 1600000 in
theorem do_205_yes {w : World} {B g : Nat} {A : Option Addr} {N c : Nat} {bs : List UInt8} {p : Nat} (r : DRd w B g A N c bs p 0) (depth : Int) (hs : ¬ (bs.drop p).length < 2) :
    Calls Tryd.prog 60 #[.pointer (some ⟨g, 0, none⟩), .int .i64 205, .int .i64 depth] w (DVPost w B g A N c bs ((nuD 205 (bs.drop p)).1, .mk 3 (nuD 205 (bs.drop p)).2.1 [] ByteArray.empty [] [], (nuD 205 (bs.drop p)).2.2)) := by
  obtain ⟨wA, hA⟩ : ∃ wA, wA = w.alloc (.cells cellsZ 26) := ⟨_, rfl⟩
  have sA : Still w wA := by rw [hA]; exact (Still.refl w).alloc (Nat.le_refl _) _
  have bA : Blk wA w.heap.size 26 cellsZ := by rw [hA]; exact Blk.new _ _ _
  have hgl := r.blk.lt
  have rA := r.still sA
  obtain ⟨fs, hu⟩ := underValue
  have HU := Lib.hid hu
  have BA := Lib.hid bA
  have HA := Lib.hid hA
  have SA := Lib.hid sA
  have HGL := Lib.hid hgl
  have hb := leNum_bd (bs.drop p) 2
  have TN := rnm_yes rA 2 (by have h1 := r.len; rw [List.length_drop] at hs; have := r.at_; omega) (by omega) (by omega) 256 _ rfl (by omega)
  obtain ⟨x, hx⟩ : ∃ x, x = leNum ((bs.drop p).take 2).reverse := ⟨_, rfl⟩
  rw [← hx] at hb TN
  simp only [show (2 : Nat) ^ (8 * 2) = 65536 from rfl] at hb
  have hD : nuD 205 (bs.drop p) = (if x < 256 then 4 else 0, (x : Int), bs.drop (p + 2)) := by
    unfold nuD
    rw [show bh 205 = 2 from rfl, if_neg (by decide), if_neg hs, ← hx, show decide (208 ≤ 205) = false from rfl, decK_pos 2 x (by omega), iff_er _ x 256 (nt_205 x hb), List.drop_drop]
  rw [hD]
  have TY := Lib.hid TN
  have d1 : (x : Int) < 9223372036854775808 := by omega
  have d2 : (0 : Int) ≤ (x : Int) := by omega
  clear hA sA bA rA hu r hs hgl hD TN hb hx
  obtain ⟨q, hq⟩ : ∃ q : Int, q = if x < 256 then 4 else 0 := ⟨_, rfl⟩
  rw [← hq] at TY ⊢
  clear hq
  go_enter Tryd.func60, Tryd.ntmps60
  go_upto_region 1 with fail
  rw [show (w.alloc (.cells #[.int .i64 0, .int .i64 0, .slice none 0 0, .string ⟨#[]⟩, .slice none 0 0, .slice none 0 0] 26)) = wA from HA.out.symm]
  go_wp2_with fail
  refine TY.out.mono ?_
  rintro e w1 ⟨rfl, r1, g1⟩
  have R1 := Lib.hid r1
  have G1 := Lib.hid (grown_trans (grown_of_still SA.out) g1)
  have B1 : Hid (Blk w1 w.heap.size 26 cellsZ) := Lib.hid ((g1.block _ BA.out.lt (fun e => by have := HGL.out; cases e; omega)).trans BA.out)
  clear r1 g1 TY BA HA SA
  go_wp2_with (guard_target =~ wpList _ _ _ (Oper.mk none (Op.store _ _ _) _ _ _ _ :: _) _ _; go_must (refine wpList_store_rowTo rfl 26 (.tmp 6) (.tmp 47) rfl rfl w.heap.size #[.int .i64 3, .int .i64 (x : Int), .slice none 0 0, .string ⟨#[]⟩, .slice none 0 0, .slice none 0 0] rfl rfl 26 _ B1.out (by rw [sizeValue]; first | rfl | simp) (by first | rfl | simp [cellsZ]) (by first | decide +kernel | simp [Value.oneCell']) ?_))
  (try simp only [Exit.inBlock, Exit.then])
  refine bodyPost_ret (results_cell_row rfl _ _ w.heap.size _ _ _ _ rfl (setRow_heap w1 _ _ _ _ _ B1.out) HU.out rfl (by rw [sizeValue]; first | rfl | simp)) rfl ?_
  exact dv_flat (cs := [.int .i64 3, .int .i64 (x : Int), .slice none 0 0, .string ⟨#[]⟩, .slice none 0 0, .slice none 0 0]) (D := (q, .mk 3 (x : Int) [] ByteArray.empty [] [], bs.drop (p + 2))) G1.out (by have := B1.out.lt; omega) HGL.out rfl (by simp [Value.oneCell']) R1.out (fun _ => ⟨rfl, hasP_flat 3 _ _ (by omega) (by omega) (by decide)⟩)

set_option maxRecDepth 100000 in
set_option maxHeartbeats 1600000 in
theorem do_206_no {w : World} {B g : Nat} {A : Option Addr} {N c : Nat} {bs : List UInt8} {p : Nat} (r : DRd w B g A N c bs p 0) (depth : Int) (hs : (bs.drop p).length < 4) :
    Calls Tryd.prog 60 #[.pointer (some ⟨g, 0, none⟩), .int .i64 206, .int .i64 depth] w (DVPost w B g A N c bs ((nuD 206 (bs.drop p)).1, .mk 3 (nuD 206 (bs.drop p)).2.1 [] ByteArray.empty [] [], (nuD 206 (bs.drop p)).2.2)) := by
  obtain ⟨wA, hA⟩ : ∃ wA, wA = w.alloc (.cells cellsZ 26) := ⟨_, rfl⟩
  have sA : Still w wA := by rw [hA]; exact (Still.refl w).alloc (Nat.le_refl _) _
  have bA : Blk wA w.heap.size 26 cellsZ := by rw [hA]; exact Blk.new _ _ _
  have hgl := r.blk.lt
  have rA := r.still sA
  obtain ⟨fs, hu⟩ := underValue
  have HU := Lib.hid hu
  have BA := Lib.hid bA
  have HA := Lib.hid hA
  have SA := Lib.hid sA
  have HGL := Lib.hid hgl
  have hD : nuD 206 (bs.drop p) = (3, 0, []) := by unfold nuD; rw [show bh 206 = 4 from rfl, if_neg (by decide), if_pos hs]
  rw [hD]
  have TN := Lib.hid (rnm_no rA 4 (by have h1 := r.len; rw [List.length_drop] at hs; omega) (by omega) 65536)
  clear hA sA bA rA hu r hs hgl hD
  go_enter Tryd.func60, Tryd.ntmps60
  go_upto_region 1 with fail
  rw [show (w.alloc (.cells #[.int .i64 0, .int .i64 0, .slice none 0 0, .string ⟨#[]⟩, .slice none 0 0, .slice none 0 0] 26)) = wA from HA.out.symm]
  go_wp2_with fail
  refine TN.out.mono ?_
  rintro e w1 ⟨rfl, r1, g1⟩
  have R1 := Lib.hid r1
  have G1 := Lib.hid (grown_trans (grown_of_still SA.out) g1)
  have B1 : Hid (Blk w1 w.heap.size 26 cellsZ) := Lib.hid ((g1.block _ BA.out.lt (fun e => by have := HGL.out; cases e; omega)).trans BA.out)
  clear r1 g1 TN BA HA SA
  go_wp2_with (guard_target =~ wpList _ _ _ (Oper.mk none (Op.store _ _ _) _ _ _ _ :: _) _ _; go_must (refine wpList_store_rowTo rfl 26 (.tmp 6) (.tmp 53) rfl rfl w.heap.size #[.int .i64 3, .int .i64 0, .slice none 0 0, .string ⟨#[]⟩, .slice none 0 0, .slice none 0 0] rfl rfl 26 _ B1.out (by rw [sizeValue]; first | rfl | simp) (by first | rfl | simp [cellsZ]) (by first | decide +kernel | simp [Value.oneCell']) ?_))
  (try simp only [Exit.inBlock, Exit.then])
  refine bodyPost_ret (results_cell_row rfl _ _ w.heap.size _ _ _ _ rfl (setRow_heap w1 _ _ _ _ _ B1.out) HU.out rfl (by rw [sizeValue]; first | rfl | simp)) rfl ?_
  exact dv_flat (cs := [.int .i64 3, .int .i64 0, .slice none 0 0, .string ⟨#[]⟩, .slice none 0 0, .slice none 0 0]) (D := (3, .mk 3 0 [] ByteArray.empty [] [], [])) G1.out (by have := B1.out.lt; omega) HGL.out rfl (by simp [Value.oneCell']) R1.out (fun h => absurd (show (3 : Int) = 0 from h) (by decide))

set_option maxRecDepth 100000 in
set_option maxHeartbeats 1600000 in
theorem do_206_yes {w : World} {B g : Nat} {A : Option Addr} {N c : Nat} {bs : List UInt8} {p : Nat} (r : DRd w B g A N c bs p 0) (depth : Int) (hs : ¬ (bs.drop p).length < 4) :
    Calls Tryd.prog 60 #[.pointer (some ⟨g, 0, none⟩), .int .i64 206, .int .i64 depth] w (DVPost w B g A N c bs ((nuD 206 (bs.drop p)).1, .mk 3 (nuD 206 (bs.drop p)).2.1 [] ByteArray.empty [] [], (nuD 206 (bs.drop p)).2.2)) := by
  obtain ⟨wA, hA⟩ : ∃ wA, wA = w.alloc (.cells cellsZ 26) := ⟨_, rfl⟩
  have sA : Still w wA := by rw [hA]; exact (Still.refl w).alloc (Nat.le_refl _) _
  have bA : Blk wA w.heap.size 26 cellsZ := by rw [hA]; exact Blk.new _ _ _
  have hgl := r.blk.lt
  have rA := r.still sA
  obtain ⟨fs, hu⟩ := underValue
  have HU := Lib.hid hu
  have BA := Lib.hid bA
  have HA := Lib.hid hA
  have SA := Lib.hid sA
  have HGL := Lib.hid hgl
  have hb := leNum_bd (bs.drop p) 4
  have TN := rnm_yes rA 4 (by have h1 := r.len; rw [List.length_drop] at hs; have := r.at_; omega) (by omega) (by omega) 65536 _ rfl (by omega)
  obtain ⟨x, hx⟩ : ∃ x, x = leNum ((bs.drop p).take 4).reverse := ⟨_, rfl⟩
  rw [← hx] at hb TN
  simp only [show (2 : Nat) ^ (8 * 4) = 4294967296 from rfl] at hb
  have hD : nuD 206 (bs.drop p) = (if x < 65536 then 4 else 0, (x : Int), bs.drop (p + 4)) := by
    unfold nuD
    rw [show bh 206 = 4 from rfl, if_neg (by decide), if_neg hs, ← hx, show decide (208 ≤ 206) = false from rfl, decK_pos 4 x (by omega), iff_er _ x 65536 (nt_206 x hb), List.drop_drop]
  rw [hD]
  have TY := Lib.hid TN
  have d1 : (x : Int) < 9223372036854775808 := by omega
  have d2 : (0 : Int) ≤ (x : Int) := by omega
  clear hA sA bA rA hu r hs hgl hD TN hb hx
  obtain ⟨q, hq⟩ : ∃ q : Int, q = if x < 65536 then 4 else 0 := ⟨_, rfl⟩
  rw [← hq] at TY ⊢
  clear hq
  go_enter Tryd.func60, Tryd.ntmps60
  go_upto_region 1 with fail
  rw [show (w.alloc (.cells #[.int .i64 0, .int .i64 0, .slice none 0 0, .string ⟨#[]⟩, .slice none 0 0, .slice none 0 0] 26)) = wA from HA.out.symm]
  go_wp2_with fail
  refine TY.out.mono ?_
  rintro e w1 ⟨rfl, r1, g1⟩
  have R1 := Lib.hid r1
  have G1 := Lib.hid (grown_trans (grown_of_still SA.out) g1)
  have B1 : Hid (Blk w1 w.heap.size 26 cellsZ) := Lib.hid ((g1.block _ BA.out.lt (fun e => by have := HGL.out; cases e; omega)).trans BA.out)
  clear r1 g1 TY BA HA SA
  go_wp2_with (guard_target =~ wpList _ _ _ (Oper.mk none (Op.store _ _ _) _ _ _ _ :: _) _ _; go_must (refine wpList_store_rowTo rfl 26 (.tmp 6) (.tmp 53) rfl rfl w.heap.size #[.int .i64 3, .int .i64 (x : Int), .slice none 0 0, .string ⟨#[]⟩, .slice none 0 0, .slice none 0 0] rfl rfl 26 _ B1.out (by rw [sizeValue]; first | rfl | simp) (by first | rfl | simp [cellsZ]) (by first | decide +kernel | simp [Value.oneCell']) ?_))
  (try simp only [Exit.inBlock, Exit.then])
  refine bodyPost_ret (results_cell_row rfl _ _ w.heap.size _ _ _ _ rfl (setRow_heap w1 _ _ _ _ _ B1.out) HU.out rfl (by rw [sizeValue]; first | rfl | simp)) rfl ?_
  exact dv_flat (cs := [.int .i64 3, .int .i64 (x : Int), .slice none 0 0, .string ⟨#[]⟩, .slice none 0 0, .slice none 0 0]) (D := (q, .mk 3 (x : Int) [] ByteArray.empty [] [], bs.drop (p + 4))) G1.out (by have := B1.out.lt; omega) HGL.out rfl (by simp [Value.oneCell']) R1.out (fun _ => ⟨rfl, hasP_flat 3 _ _ (by omega) (by omega) (by decide)⟩)

end Go.Proofs.YtmpnehhndhepgaaDoor

/- The document's own reader of values: great numbers, numbers below 0. It proves no statement. -/


namespace Go.Proofs.YtmpnehhndhepgaaDoor
open Go.RowKit
set_option linter.unusedVariables false
set_option linter.unusedSimpArgs false

set_option maxRecDepth 100000 in
set_option maxHeartbeats 1600000 in
theorem db_208_no {w : World} {B g : Nat} {A : Option Addr} {N c : Nat} {bs : List UInt8} {p : Nat} (r : DRd w B g A N c bs p 0) (hs : (bs.drop p).length < 1) :
    Calls Tryd.prog 76 #[.pointer (some ⟨g, 0, none⟩), .int .i64 1, .int .i64 (-32)] w (DVPost w B g A N c bs ((nuD 208 (bs.drop p)).1, .mk 3 (nuD 208 (bs.drop p)).2.1 [] ByteArray.empty [] [], (nuD 208 (bs.drop p)).2.2)) := by
  obtain ⟨wA, hA⟩ : ∃ wA, wA = w.alloc (.cells cellsZ 26) := ⟨_, rfl⟩
  have sA : Still w wA := by rw [hA]; exact (Still.refl w).alloc (Nat.le_refl _) _
  have bA : Blk wA w.heap.size 26 cellsZ := by rw [hA]; exact Blk.new _ _ _
  have hgl := r.blk.lt
  have rA := r.still sA
  obtain ⟨fs, hu⟩ := underValue
  have HU := Lib.hid hu
  have BA := Lib.hid bA
  have HA := Lib.hid hA
  have SA := Lib.hid sA
  have HGL := Lib.hid hgl
  have hD : nuD 208 (bs.drop p) = (3, 0, []) := by unfold nuD; rw [show bh 208 = 1 from rfl, if_neg (by decide), if_pos hs]
  rw [hD]
  have TN := Lib.hid (rnm_no rA 1 (by have h1 := r.len; rw [List.length_drop] at hs; omega) (by omega) 0)
  clear hA sA bA rA hu r hs hgl hD
  go_enter Tryd.func76, Tryd.ntmps76
  go_upto_region 1 with fail
  rw [show (w.alloc (.cells #[.int .i64 0, .int .i64 0, .slice none 0 0, .string ⟨#[]⟩, .slice none 0 0, .slice none 0 0] 26)) = wA from HA.out.symm]
  go_wp2_with fail
  refine TN.out.mono ?_
  rintro e w1 ⟨rfl, r1, g1⟩
  have R1 := Lib.hid r1
  have G1 := Lib.hid (grown_trans (grown_of_still SA.out) g1)
  have B1 : Hid (Blk w1 w.heap.size 26 cellsZ) := Lib.hid ((g1.block _ BA.out.lt (fun e => by have := HGL.out; cases e; omega)).trans BA.out)
  have k2 : w1.cell? ⟨g, 2, none⟩ = some (.int .i64 3) := r1.blk.cell 2
  clear r1 g1 TN BA HA SA
  go_wp2_with (guard_target =~ wpList _ _ _ (Oper.mk none (Op.store _ _ _) _ _ _ _ :: _) _ _; go_must (refine wpList_store_rowTo rfl 26 (.tmp 6) (.tmp 46) rfl rfl w.heap.size #[.int .i64 3, .int .i64 (-256), .slice none 0 0, .string ⟨#[]⟩, .slice none 0 0, .slice none 0 0] rfl rfl 26 _ B1.out (by rw [sizeValue]; first | rfl | simp) (by first | rfl | simp [cellsZ]) (by first | decide +kernel | simp [Value.oneCell']) ?_))
  (try simp only [Exit.inBlock, Exit.then])
  refine bodyPost_ret (results_cell_row rfl _ _ w.heap.size _ _ _ _ rfl (setRow_heap w1 _ _ _ _ _ B1.out) HU.out rfl (by rw [sizeValue]; first | rfl | simp)) rfl ?_
  exact dv_flat (cs := [.int .i64 3, .int .i64 (-256), .slice none 0 0, .string ⟨#[]⟩, .slice none 0 0, .slice none 0 0]) (D := (3, .mk 3 0 [] ByteArray.empty [] [], [])) G1.out (by have := B1.out.lt; omega) HGL.out rfl (by simp [Value.oneCell']) R1.out (fun h => absurd (show (3 : Int) = 0 from h) (by decide))

set_option maxRecDepth 100000 in
set_option maxHeartbeats 1600000 in
theorem db_208_yes {w : World} {B g : Nat} {A : Option Addr} {N c : Nat} {bs : List UInt8} {p : Nat} (r : DRd w B g A N c bs p 0) (hs : ¬ (bs.drop p).length < 1) :
    Calls Tryd.prog 76 #[.pointer (some ⟨g, 0, none⟩), .int .i64 1, .int .i64 (-32)] w (DVPost w B g A N c bs ((nuD 208 (bs.drop p)).1, .mk 3 (nuD 208 (bs.drop p)).2.1 [] ByteArray.empty [] [], (nuD 208 (bs.drop p)).2.2)) := by
  obtain ⟨wA, hA⟩ : ∃ wA, wA = w.alloc (.cells cellsZ 26) := ⟨_, rfl⟩
  have sA : Still w wA := by rw [hA]; exact (Still.refl w).alloc (Nat.le_refl _) _
  have bA : Blk wA w.heap.size 26 cellsZ := by rw [hA]; exact Blk.new _ _ _
  have hgl := r.blk.lt
  have rA := r.still sA
  obtain ⟨fs, hu⟩ := underValue
  have HU := Lib.hid hu
  have BA := Lib.hid bA
  have HA := Lib.hid hA
  have SA := Lib.hid sA
  have HGL := Lib.hid hgl
  have hb := leNum_bd (bs.drop p) 1
  have hpk : p + 1 ≤ N := by have h1 := r.len; rw [List.length_drop] at hs; have := r.at_; omega
  have TN := rnm_yes rA 1 hpk (by omega) (by omega) 0 _ rfl (by omega)
  obtain ⟨x, hx⟩ : ∃ x, x = leNum ((bs.drop p).take 1).reverse := ⟨_, rfl⟩
  rw [← hx, if_neg (by omega)] at TN
  rw [← hx] at hb
  simp only [show (2 : Nat) ^ (8 * 1) = 256 from rfl] at hb
  have hsg : sgn 1 x = if x < 128 then (x : Int) else (x : Int) - 256 := by unfold sgn; simp only [show (2 : Nat) ^ (8 * 1 - 1) = 128 from rfl, show (2 : Int) ^ (8 * 1) = 256 from rfl]
  have hD : nuD 208 (bs.drop p) = (if nt (sgn 1 x) = 208 then 0 else 4, sgn 1 x, bs.drop (p + 1)) := by
    unfold nuD
    rw [show bh 208 = 1 from rfl, if_neg (by decide), if_neg hs, ← hx, show decide (208 ≤ 208) = true from rfl, decK_neg 1 x (by omega) (by simpa using hb), List.drop_drop]
  rw [hD]
  have TY := Lib.hid TN
  have HSG := Lib.hid hsg
  have HPK := Lib.hid hpk
  have HB := Lib.hid hb
  have HNT := Lib.hid (nt_208 (sgn 1 x))
  clear hA sA bA rA hu r hs hgl hD TN hx hsg hpk hb
  obtain ⟨D, hD⟩ : ∃ D : Int × Int × List UInt8, D = (if nt (sgn 1 x) = 208 then 0 else 4, sgn 1 x, bs.drop (p + 1)) := ⟨_, rfl⟩
  rw [← hD]
  have HD := Lib.hid hD
  clear hD
  have d1 : (x : Int) < 256 := by have := HB.out; omega
  have d2 : (0 : Int) ≤ (x : Int) := by omega
  go_enter Tryd.func76, Tryd.ntmps76
  go_upto_region 1 with fail
  rw [show (w.alloc (.cells #[.int .i64 0, .int .i64 0, .slice none 0 0, .string ⟨#[]⟩, .slice none 0 0, .slice none 0 0] 26)) = wA from HA.out.symm]
  go_wp2_with fail
  refine TY.out.mono ?_
  rintro e w1 ⟨rfl, r1, g1⟩
  have R1 := Lib.hid r1
  have G1 := Lib.hid (grown_trans (grown_of_still SA.out) g1)
  have B1 : Hid (Blk w1 w.heap.size 26 cellsZ) := Lib.hid ((g1.block _ BA.out.lt (fun e => by have := HGL.out; cases e; omega)).trans BA.out)
  have k2 : w1.cell? ⟨g, 2, none⟩ = some (.int .i64 0) := r1.blk.cell 2
  have f2 : w1.frozen? ⟨g, 2, none⟩ = false := r1.blk.frozen 2
  clear r1 g1 TY BA HA SA
  by_cases hh : x < 128
  · have e1 : (x : Int) / 128 = 0 := by omega
    have Q4 := Lib.hid (show D = (4, sgn 1 x, bs.drop (p + 1)) by rw [HD.out, if_neg (fun h => by have h2 := HNT.out (by rw [HSG.out]; have := HB.out; split <;> omega) (by rw [HSG.out]; have := HB.out; split <;> omega); rw [h2, HSG.out] at h; revert h; split <;> omega)])
    have FIN := Lib.hid (show DRd (w1.setCell ⟨g, 2, none⟩ (.int .i64 4)) B g A N c bs (p + 1) 4 ∧ w.grownBy (w1.setCell ⟨g, 2, none⟩ (.int .i64 4)) (some g) from
      ⟨R1.out.set (p + 1) 4 HPK.out (by have h := R1.out.blk.setc 2 (.int .i64 4); simpa using h) (grown_setc (World.grownBy.refl _ _)), grown_setc G1.out⟩)
    obtain ⟨w2, hw2⟩ : ∃ w2, w2 = w1.setCell ⟨g, 2, none⟩ (.int .i64 4) := ⟨_, rfl⟩
    have HW2 := Lib.hid hw2
    have B2 : Hid (Blk w2 w.heap.size 26 cellsZ) := Lib.hid (by rw [hw2]; exact B1.out.far (by have := HGL.out; simp only; omega) _)
    rw [← hw2] at FIN
    clear hw2
    go_upto_region 7 with fail
    rw [← HW2.out]
    go_wp2_with (guard_target =~ wpList _ _ _ (Oper.mk none (Op.store _ _ _) _ _ _ _ :: _) _ _; go_must (refine wpList_store_rowTo rfl 26 (.tmp 6) (.tmp 46) rfl rfl w.heap.size #[.int .i64 3, .int .i64 ((x : Int) - 256), .slice none 0 0, .string ⟨#[]⟩, .slice none 0 0, .slice none 0 0] rfl rfl 26 _ B2.out (by rw [sizeValue]; first | rfl | simp) (by first | rfl | simp [cellsZ]) (by first | decide +kernel | simp [Value.oneCell']) ?_))
    (try simp only [Exit.inBlock, Exit.then])
    refine bodyPost_ret (results_cell_row rfl _ _ w.heap.size _ _ _ _ rfl (setRow_heap w2 _ _ _ _ _ B2.out) HU.out rfl (by rw [sizeValue]; first | rfl | simp)) rfl ?_
    rw [Q4.out]
    exact dv_flat (cs := [.int .i64 3, .int .i64 ((x : Int) - 256), .slice none 0 0, .string ⟨#[]⟩, .slice none 0 0, .slice none 0 0]) (D := (4, .mk 3 (sgn 1 x) [] ByteArray.empty [] [], bs.drop (p + 1))) FIN.out.2 (by have := B2.out.lt; omega) HGL.out rfl (by simp [Value.oneCell']) FIN.out.1 (fun h => absurd (show (4 : Int) = 0 from h) (by decide))
  by_cases hi : (x : Int) - 256 < -32
  · have e1 : ((x : Int) / 128 == 0) = false := by rw [beq_eq_false_iff_ne]; omega
    have e3 : decide ((-32 : Int) ≤ (x : Int) - 256) = false := decide_eq_false (by omega)
    have Q0 := Lib.hid (show D = (0, (x : Int) - 256, bs.drop (p + 1)) by
      have h2 := HNT.out (by rw [HSG.out]; have := HB.out; split <;> omega) (by rw [HSG.out]; have := HB.out; split <;> omega)
      have h3 : sgn 1 x = (x : Int) - 256 := by rw [HSG.out, if_neg hh]
      rw [HD.out, if_pos (h2.2 (by rw [h3]; omega)), h3])
    go_wp2_with (guard_target =~ wpList _ _ _ (Oper.mk none (Op.store _ _ _) _ _ _ _ :: _) _ _; go_must (refine wpList_store_rowTo rfl 26 (.tmp 6) (.tmp 46) rfl rfl w.heap.size #[.int .i64 3, .int .i64 ((x : Int) - 256), .slice none 0 0, .string ⟨#[]⟩, .slice none 0 0, .slice none 0 0] rfl rfl 26 _ B1.out (by rw [sizeValue]; first | rfl | simp) (by first | rfl | simp [cellsZ]) (by first | decide +kernel | simp [Value.oneCell']) ?_))
    (try simp only [Exit.inBlock, Exit.then])
    refine bodyPost_ret (results_cell_row rfl _ _ w.heap.size _ _ _ _ rfl (setRow_heap w1 _ _ _ _ _ B1.out) HU.out rfl (by rw [sizeValue]; first | rfl | simp)) rfl ?_
    rw [Q0.out]
    exact dv_flat (cs := [.int .i64 3, .int .i64 ((x : Int) - 256), .slice none 0 0, .string ⟨#[]⟩, .slice none 0 0, .slice none 0 0]) (D := (0, .mk 3 ((x : Int) - 256) [] ByteArray.empty [] [], bs.drop (p + 1))) G1.out (by have := B1.out.lt; omega) HGL.out rfl (by simp [Value.oneCell']) R1.out (fun _ => ⟨rfl, hasP_flat 3 _ _ (by omega) (by omega) (by decide)⟩)
  · have e1 : ((x : Int) / 128 == 0) = false := by rw [beq_eq_false_iff_ne]; omega
    have e3 : decide ((-32 : Int) ≤ (x : Int) - 256) = true := decide_eq_true (by omega)
    have Q4 := Lib.hid (show D = (4, sgn 1 x, bs.drop (p + 1)) by rw [HD.out, if_neg (fun h => by have h2 := HNT.out (by rw [HSG.out]; have := HB.out; split <;> omega) (by rw [HSG.out]; have := HB.out; split <;> omega); rw [h2, HSG.out] at h; revert h; split <;> omega)])
    have FIN := Lib.hid (show DRd (w1.setCell ⟨g, 2, none⟩ (.int .i64 4)) B g A N c bs (p + 1) 4 ∧ w.grownBy (w1.setCell ⟨g, 2, none⟩ (.int .i64 4)) (some g) from
      ⟨R1.out.set (p + 1) 4 HPK.out (by have h := R1.out.blk.setc 2 (.int .i64 4); simpa using h) (grown_setc (World.grownBy.refl _ _)), grown_setc G1.out⟩)
    obtain ⟨w2, hw2⟩ : ∃ w2, w2 = w1.setCell ⟨g, 2, none⟩ (.int .i64 4) := ⟨_, rfl⟩
    have HW2 := Lib.hid hw2
    have B2 : Hid (Blk w2 w.heap.size 26 cellsZ) := Lib.hid (by rw [hw2]; exact B1.out.far (by have := HGL.out; simp only; omega) _)
    rw [← hw2] at FIN
    clear hw2
    go_upto_region 7 with fail
    rw [← HW2.out]
    go_wp2_with (guard_target =~ wpList _ _ _ (Oper.mk none (Op.store _ _ _) _ _ _ _ :: _) _ _; go_must (refine wpList_store_rowTo rfl 26 (.tmp 6) (.tmp 46) rfl rfl w.heap.size #[.int .i64 3, .int .i64 ((x : Int) - 256), .slice none 0 0, .string ⟨#[]⟩, .slice none 0 0, .slice none 0 0] rfl rfl 26 _ B2.out (by rw [sizeValue]; first | rfl | simp) (by first | rfl | simp [cellsZ]) (by first | decide +kernel | simp [Value.oneCell']) ?_))
    (try simp only [Exit.inBlock, Exit.then])
    refine bodyPost_ret (results_cell_row rfl _ _ w.heap.size _ _ _ _ rfl (setRow_heap w2 _ _ _ _ _ B2.out) HU.out rfl (by rw [sizeValue]; first | rfl | simp)) rfl ?_
    rw [Q4.out]
    exact dv_flat (cs := [.int .i64 3, .int .i64 ((x : Int) - 256), .slice none 0 0, .string ⟨#[]⟩, .slice none 0 0, .slice none 0 0]) (D := (4, .mk 3 (sgn 1 x) [] ByteArray.empty [] [], bs.drop (p + 1))) FIN.out.2 (by have := B2.out.lt; omega) HGL.out rfl (by simp [Value.oneCell']) FIN.out.1 (fun h => absurd (show (4 : Int) = 0 from h) (by decide))

set_option maxRecDepth 100000 in
set_option maxHeartbeats 1600000 in
theorem db_209_no {w : World} {B g : Nat} {A : Option Addr} {N c : Nat} {bs : List UInt8} {p : Nat} (r : DRd w B g A N c bs p 0) (hs : (bs.drop p).length < 2) :
    Calls Tryd.prog 76 #[.pointer (some ⟨g, 0, none⟩), .int .i64 2, .int .i64 (-128)] w (DVPost w B g A N c bs ((nuD 209 (bs.drop p)).1, .mk 3 (nuD 209 (bs.drop p)).2.1 [] ByteArray.empty [] [], (nuD 209 (bs.drop p)).2.2)) := by
  obtain ⟨wA, hA⟩ : ∃ wA, wA = w.alloc (.cells cellsZ 26) := ⟨_, rfl⟩
  have sA : Still w wA := by rw [hA]; exact (Still.refl w).alloc (Nat.le_refl _) _
  have bA : Blk wA w.heap.size 26 cellsZ := by rw [hA]; exact Blk.new _ _ _
  have hgl := r.blk.lt
  have rA := r.still sA
  obtain ⟨fs, hu⟩ := underValue
  have HU := Lib.hid hu
  have BA := Lib.hid bA
  have HA := Lib.hid hA
  have SA := Lib.hid sA
  have HGL := Lib.hid hgl
  have hD : nuD 209 (bs.drop p) = (3, 0, []) := by unfold nuD; rw [show bh 209 = 2 from rfl, if_neg (by decide), if_pos hs]
  rw [hD]
  have TN := Lib.hid (rnm_no rA 2 (by have h1 := r.len; rw [List.length_drop] at hs; omega) (by omega) 0)
  clear hA sA bA rA hu r hs hgl hD
  go_enter Tryd.func76, Tryd.ntmps76
  go_upto_region 1 with fail
  rw [show (w.alloc (.cells #[.int .i64 0, .int .i64 0, .slice none 0 0, .string ⟨#[]⟩, .slice none 0 0, .slice none 0 0] 26)) = wA from HA.out.symm]
  go_wp2_with fail
  refine TN.out.mono ?_
  rintro e w1 ⟨rfl, r1, g1⟩
  have R1 := Lib.hid r1
  have G1 := Lib.hid (grown_trans (grown_of_still SA.out) g1)
  have B1 : Hid (Blk w1 w.heap.size 26 cellsZ) := Lib.hid ((g1.block _ BA.out.lt (fun e => by have := HGL.out; cases e; omega)).trans BA.out)
  have k2 : w1.cell? ⟨g, 2, none⟩ = some (.int .i64 3) := r1.blk.cell 2
  clear r1 g1 TN BA HA SA
  go_wp2_with (guard_target =~ wpList _ _ _ (Oper.mk none (Op.store _ _ _) _ _ _ _ :: _) _ _; go_must (refine wpList_store_rowTo rfl 26 (.tmp 6) (.tmp 46) rfl rfl w.heap.size #[.int .i64 3, .int .i64 (-65536), .slice none 0 0, .string ⟨#[]⟩, .slice none 0 0, .slice none 0 0] rfl rfl 26 _ B1.out (by rw [sizeValue]; first | rfl | simp) (by first | rfl | simp [cellsZ]) (by first | decide +kernel | simp [Value.oneCell']) ?_))
  (try simp only [Exit.inBlock, Exit.then])
  refine bodyPost_ret (results_cell_row rfl _ _ w.heap.size _ _ _ _ rfl (setRow_heap w1 _ _ _ _ _ B1.out) HU.out rfl (by rw [sizeValue]; first | rfl | simp)) rfl ?_
  exact dv_flat (cs := [.int .i64 3, .int .i64 (-65536), .slice none 0 0, .string ⟨#[]⟩, .slice none 0 0, .slice none 0 0]) (D := (3, .mk 3 0 [] ByteArray.empty [] [], [])) G1.out (by have := B1.out.lt; omega) HGL.out rfl (by simp [Value.oneCell']) R1.out (fun h => absurd (show (3 : Int) = 0 from h) (by decide))

set_option maxRecDepth 100000 in
set_option maxHeartbeats 1600000 in
theorem db_209_yes {w : World} {B g : Nat} {A : Option Addr} {N c : Nat} {bs : List UInt8} {p : Nat} (r : DRd w B g A N c bs p 0) (hs : ¬ (bs.drop p).length < 2) :
    Calls Tryd.prog 76 #[.pointer (some ⟨g, 0, none⟩), .int .i64 2, .int .i64 (-128)] w (DVPost w B g A N c bs ((nuD 209 (bs.drop p)).1, .mk 3 (nuD 209 (bs.drop p)).2.1 [] ByteArray.empty [] [], (nuD 209 (bs.drop p)).2.2)) := by
  obtain ⟨wA, hA⟩ : ∃ wA, wA = w.alloc (.cells cellsZ 26) := ⟨_, rfl⟩
  have sA : Still w wA := by rw [hA]; exact (Still.refl w).alloc (Nat.le_refl _) _
  have bA : Blk wA w.heap.size 26 cellsZ := by rw [hA]; exact Blk.new _ _ _
  have hgl := r.blk.lt
  have rA := r.still sA
  obtain ⟨fs, hu⟩ := underValue
  have HU := Lib.hid hu
  have BA := Lib.hid bA
  have HA := Lib.hid hA
  have SA := Lib.hid sA
  have HGL := Lib.hid hgl
  have hb := leNum_bd (bs.drop p) 2
  have hpk : p + 2 ≤ N := by have h1 := r.len; rw [List.length_drop] at hs; have := r.at_; omega
  have TN := rnm_yes rA 2 hpk (by omega) (by omega) 0 _ rfl (by omega)
  obtain ⟨x, hx⟩ : ∃ x, x = leNum ((bs.drop p).take 2).reverse := ⟨_, rfl⟩
  rw [← hx, if_neg (by omega)] at TN
  rw [← hx] at hb
  simp only [show (2 : Nat) ^ (8 * 2) = 65536 from rfl] at hb
  have hsg : sgn 2 x = if x < 32768 then (x : Int) else (x : Int) - 65536 := by unfold sgn; simp only [show (2 : Nat) ^ (8 * 2 - 1) = 32768 from rfl, show (2 : Int) ^ (8 * 2) = 65536 from rfl]
  have hD : nuD 209 (bs.drop p) = (if nt (sgn 2 x) = 209 then 0 else 4, sgn 2 x, bs.drop (p + 2)) := by
    unfold nuD
    rw [show bh 209 = 2 from rfl, if_neg (by decide), if_neg hs, ← hx, show decide (208 ≤ 209) = true from rfl, decK_neg 2 x (by omega) (by simpa using hb), List.drop_drop]
  rw [hD]
  have TY := Lib.hid TN
  have HSG := Lib.hid hsg
  have HPK := Lib.hid hpk
  have HB := Lib.hid hb
  have HNT := Lib.hid (nt_209 (sgn 2 x))
  clear hA sA bA rA hu r hs hgl hD TN hx hsg hpk hb
  obtain ⟨D, hD⟩ : ∃ D : Int × Int × List UInt8, D = (if nt (sgn 2 x) = 209 then 0 else 4, sgn 2 x, bs.drop (p + 2)) := ⟨_, rfl⟩
  rw [← hD]
  have HD := Lib.hid hD
  clear hD
  have d1 : (x : Int) < 65536 := by have := HB.out; omega
  have d2 : (0 : Int) ≤ (x : Int) := by omega
  go_enter Tryd.func76, Tryd.ntmps76
  go_upto_region 1 with fail
  rw [show (w.alloc (.cells #[.int .i64 0, .int .i64 0, .slice none 0 0, .string ⟨#[]⟩, .slice none 0 0, .slice none 0 0] 26)) = wA from HA.out.symm]
  go_wp2_with fail
  refine TY.out.mono ?_
  rintro e w1 ⟨rfl, r1, g1⟩
  have R1 := Lib.hid r1
  have G1 := Lib.hid (grown_trans (grown_of_still SA.out) g1)
  have B1 : Hid (Blk w1 w.heap.size 26 cellsZ) := Lib.hid ((g1.block _ BA.out.lt (fun e => by have := HGL.out; cases e; omega)).trans BA.out)
  have k2 : w1.cell? ⟨g, 2, none⟩ = some (.int .i64 0) := r1.blk.cell 2
  have f2 : w1.frozen? ⟨g, 2, none⟩ = false := r1.blk.frozen 2
  clear r1 g1 TY BA HA SA
  by_cases hh : x < 32768
  · have e1 : (x : Int) / 32768 = 0 := by omega
    have Q4 := Lib.hid (show D = (4, sgn 2 x, bs.drop (p + 2)) by rw [HD.out, if_neg (fun h => by have h2 := HNT.out (by rw [HSG.out]; have := HB.out; split <;> omega) (by rw [HSG.out]; have := HB.out; split <;> omega); rw [h2, HSG.out] at h; revert h; split <;> omega)])
    have FIN := Lib.hid (show DRd (w1.setCell ⟨g, 2, none⟩ (.int .i64 4)) B g A N c bs (p + 2) 4 ∧ w.grownBy (w1.setCell ⟨g, 2, none⟩ (.int .i64 4)) (some g) from
      ⟨R1.out.set (p + 2) 4 HPK.out (by have h := R1.out.blk.setc 2 (.int .i64 4); simpa using h) (grown_setc (World.grownBy.refl _ _)), grown_setc G1.out⟩)
    obtain ⟨w2, hw2⟩ : ∃ w2, w2 = w1.setCell ⟨g, 2, none⟩ (.int .i64 4) := ⟨_, rfl⟩
    have HW2 := Lib.hid hw2
    have B2 : Hid (Blk w2 w.heap.size 26 cellsZ) := Lib.hid (by rw [hw2]; exact B1.out.far (by have := HGL.out; simp only; omega) _)
    rw [← hw2] at FIN
    clear hw2
    go_upto_region 7 with fail
    rw [← HW2.out]
    go_wp2_with (guard_target =~ wpList _ _ _ (Oper.mk none (Op.store _ _ _) _ _ _ _ :: _) _ _; go_must (refine wpList_store_rowTo rfl 26 (.tmp 6) (.tmp 46) rfl rfl w.heap.size #[.int .i64 3, .int .i64 ((x : Int) - 65536), .slice none 0 0, .string ⟨#[]⟩, .slice none 0 0, .slice none 0 0] rfl rfl 26 _ B2.out (by rw [sizeValue]; first | rfl | simp) (by first | rfl | simp [cellsZ]) (by first | decide +kernel | simp [Value.oneCell']) ?_))
    (try simp only [Exit.inBlock, Exit.then])
    refine bodyPost_ret (results_cell_row rfl _ _ w.heap.size _ _ _ _ rfl (setRow_heap w2 _ _ _ _ _ B2.out) HU.out rfl (by rw [sizeValue]; first | rfl | simp)) rfl ?_
    rw [Q4.out]
    exact dv_flat (cs := [.int .i64 3, .int .i64 ((x : Int) - 65536), .slice none 0 0, .string ⟨#[]⟩, .slice none 0 0, .slice none 0 0]) (D := (4, .mk 3 (sgn 2 x) [] ByteArray.empty [] [], bs.drop (p + 2))) FIN.out.2 (by have := B2.out.lt; omega) HGL.out rfl (by simp [Value.oneCell']) FIN.out.1 (fun h => absurd (show (4 : Int) = 0 from h) (by decide))
  by_cases hi : (x : Int) - 65536 < -128
  · have e1 : ((x : Int) / 32768 == 0) = false := by rw [beq_eq_false_iff_ne]; omega
    have e3 : decide ((-128 : Int) ≤ (x : Int) - 65536) = false := decide_eq_false (by omega)
    have Q0 := Lib.hid (show D = (0, (x : Int) - 65536, bs.drop (p + 2)) by
      have h2 := HNT.out (by rw [HSG.out]; have := HB.out; split <;> omega) (by rw [HSG.out]; have := HB.out; split <;> omega)
      have h3 : sgn 2 x = (x : Int) - 65536 := by rw [HSG.out, if_neg hh]
      rw [HD.out, if_pos (h2.2 (by rw [h3]; omega)), h3])
    go_wp2_with (guard_target =~ wpList _ _ _ (Oper.mk none (Op.store _ _ _) _ _ _ _ :: _) _ _; go_must (refine wpList_store_rowTo rfl 26 (.tmp 6) (.tmp 46) rfl rfl w.heap.size #[.int .i64 3, .int .i64 ((x : Int) - 65536), .slice none 0 0, .string ⟨#[]⟩, .slice none 0 0, .slice none 0 0] rfl rfl 26 _ B1.out (by rw [sizeValue]; first | rfl | simp) (by first | rfl | simp [cellsZ]) (by first | decide +kernel | simp [Value.oneCell']) ?_))
    (try simp only [Exit.inBlock, Exit.then])
    refine bodyPost_ret (results_cell_row rfl _ _ w.heap.size _ _ _ _ rfl (setRow_heap w1 _ _ _ _ _ B1.out) HU.out rfl (by rw [sizeValue]; first | rfl | simp)) rfl ?_
    rw [Q0.out]
    exact dv_flat (cs := [.int .i64 3, .int .i64 ((x : Int) - 65536), .slice none 0 0, .string ⟨#[]⟩, .slice none 0 0, .slice none 0 0]) (D := (0, .mk 3 ((x : Int) - 65536) [] ByteArray.empty [] [], bs.drop (p + 2))) G1.out (by have := B1.out.lt; omega) HGL.out rfl (by simp [Value.oneCell']) R1.out (fun _ => ⟨rfl, hasP_flat 3 _ _ (by omega) (by omega) (by decide)⟩)
  · have e1 : ((x : Int) / 32768 == 0) = false := by rw [beq_eq_false_iff_ne]; omega
    have e3 : decide ((-128 : Int) ≤ (x : Int) - 65536) = true := decide_eq_true (by omega)
    have Q4 := Lib.hid (show D = (4, sgn 2 x, bs.drop (p + 2)) by rw [HD.out, if_neg (fun h => by have h2 := HNT.out (by rw [HSG.out]; have := HB.out; split <;> omega) (by rw [HSG.out]; have := HB.out; split <;> omega); rw [h2, HSG.out] at h; revert h; split <;> omega)])
    have FIN := Lib.hid (show DRd (w1.setCell ⟨g, 2, none⟩ (.int .i64 4)) B g A N c bs (p + 2) 4 ∧ w.grownBy (w1.setCell ⟨g, 2, none⟩ (.int .i64 4)) (some g) from
      ⟨R1.out.set (p + 2) 4 HPK.out (by have h := R1.out.blk.setc 2 (.int .i64 4); simpa using h) (grown_setc (World.grownBy.refl _ _)), grown_setc G1.out⟩)
    obtain ⟨w2, hw2⟩ : ∃ w2, w2 = w1.setCell ⟨g, 2, none⟩ (.int .i64 4) := ⟨_, rfl⟩
    have HW2 := Lib.hid hw2
    have B2 : Hid (Blk w2 w.heap.size 26 cellsZ) := Lib.hid (by rw [hw2]; exact B1.out.far (by have := HGL.out; simp only; omega) _)
    rw [← hw2] at FIN
    clear hw2
    go_upto_region 7 with fail
    rw [← HW2.out]
    go_wp2_with (guard_target =~ wpList _ _ _ (Oper.mk none (Op.store _ _ _) _ _ _ _ :: _) _ _; go_must (refine wpList_store_rowTo rfl 26 (.tmp 6) (.tmp 46) rfl rfl w.heap.size #[.int .i64 3, .int .i64 ((x : Int) - 65536), .slice none 0 0, .string ⟨#[]⟩, .slice none 0 0, .slice none 0 0] rfl rfl 26 _ B2.out (by rw [sizeValue]; first | rfl | simp) (by first | rfl | simp [cellsZ]) (by first | decide +kernel | simp [Value.oneCell']) ?_))
    (try simp only [Exit.inBlock, Exit.then])
    refine bodyPost_ret (results_cell_row rfl _ _ w.heap.size _ _ _ _ rfl (setRow_heap w2 _ _ _ _ _ B2.out) HU.out rfl (by rw [sizeValue]; first | rfl | simp)) rfl ?_
    rw [Q4.out]
    exact dv_flat (cs := [.int .i64 3, .int .i64 ((x : Int) - 65536), .slice none 0 0, .string ⟨#[]⟩, .slice none 0 0, .slice none 0 0]) (D := (4, .mk 3 (sgn 2 x) [] ByteArray.empty [] [], bs.drop (p + 2))) FIN.out.2 (by have := B2.out.lt; omega) HGL.out rfl (by simp [Value.oneCell']) FIN.out.1 (fun h => absurd (show (4 : Int) = 0 from h) (by decide))

set_option maxRecDepth 100000 in
set_option maxHeartbeats 1600000 in
theorem db_210_no {w : World} {B g : Nat} {A : Option Addr} {N c : Nat} {bs : List UInt8} {p : Nat} (r : DRd w B g A N c bs p 0) (hs : (bs.drop p).length < 4) :
    Calls Tryd.prog 76 #[.pointer (some ⟨g, 0, none⟩), .int .i64 4, .int .i64 (-32768)] w (DVPost w B g A N c bs ((nuD 210 (bs.drop p)).1, .mk 3 (nuD 210 (bs.drop p)).2.1 [] ByteArray.empty [] [], (nuD 210 (bs.drop p)).2.2)) := by
  obtain ⟨wA, hA⟩ : ∃ wA, wA = w.alloc (.cells cellsZ 26) := ⟨_, rfl⟩
  have sA : Still w wA := by rw [hA]; exact (Still.refl w).alloc (Nat.le_refl _) _
  have bA : Blk wA w.heap.size 26 cellsZ := by rw [hA]; exact Blk.new _ _ _
  have hgl := r.blk.lt
  have rA := r.still sA
  obtain ⟨fs, hu⟩ := underValue
  have HU := Lib.hid hu
  have BA := Lib.hid bA
  have HA := Lib.hid hA
  have SA := Lib.hid sA
  have HGL := Lib.hid hgl
  have hD : nuD 210 (bs.drop p) = (3, 0, []) := by unfold nuD; rw [show bh 210 = 4 from rfl, if_neg (by decide), if_pos hs]
  rw [hD]
  have TN := Lib.hid (rnm_no rA 4 (by have h1 := r.len; rw [List.length_drop] at hs; omega) (by omega) 0)
  clear hA sA bA rA hu r hs hgl hD
  go_enter Tryd.func76, Tryd.ntmps76
  go_upto_region 1 with fail
  rw [show (w.alloc (.cells #[.int .i64 0, .int .i64 0, .slice none 0 0, .string ⟨#[]⟩, .slice none 0 0, .slice none 0 0] 26)) = wA from HA.out.symm]
  go_wp2_with fail
  refine TN.out.mono ?_
  rintro e w1 ⟨rfl, r1, g1⟩
  have R1 := Lib.hid r1
  have G1 := Lib.hid (grown_trans (grown_of_still SA.out) g1)
  have B1 : Hid (Blk w1 w.heap.size 26 cellsZ) := Lib.hid ((g1.block _ BA.out.lt (fun e => by have := HGL.out; cases e; omega)).trans BA.out)
  have k2 : w1.cell? ⟨g, 2, none⟩ = some (.int .i64 3) := r1.blk.cell 2
  clear r1 g1 TN BA HA SA
  go_wp2_with (guard_target =~ wpList _ _ _ (Oper.mk none (Op.store _ _ _) _ _ _ _ :: _) _ _; go_must (refine wpList_store_rowTo rfl 26 (.tmp 6) (.tmp 46) rfl rfl w.heap.size #[.int .i64 3, .int .i64 (-4294967296), .slice none 0 0, .string ⟨#[]⟩, .slice none 0 0, .slice none 0 0] rfl rfl 26 _ B1.out (by rw [sizeValue]; first | rfl | simp) (by first | rfl | simp [cellsZ]) (by first | decide +kernel | simp [Value.oneCell']) ?_))
  (try simp only [Exit.inBlock, Exit.then])
  refine bodyPost_ret (results_cell_row rfl _ _ w.heap.size _ _ _ _ rfl (setRow_heap w1 _ _ _ _ _ B1.out) HU.out rfl (by rw [sizeValue]; first | rfl | simp)) rfl ?_
  exact dv_flat (cs := [.int .i64 3, .int .i64 (-4294967296), .slice none 0 0, .string ⟨#[]⟩, .slice none 0 0, .slice none 0 0]) (D := (3, .mk 3 0 [] ByteArray.empty [] [], [])) G1.out (by have := B1.out.lt; omega) HGL.out rfl (by simp [Value.oneCell']) R1.out (fun h => absurd (show (3 : Int) = 0 from h) (by decide))

set_option maxRecDepth 100000 in
set_option maxHeartbeats 1600000 in
theorem db_210_yes {w : World} {B g : Nat} {A : Option Addr} {N c : Nat} {bs : List UInt8} {p : Nat} (r : DRd w B g A N c bs p 0) (hs : ¬ (bs.drop p).length < 4) :
    Calls Tryd.prog 76 #[.pointer (some ⟨g, 0, none⟩), .int .i64 4, .int .i64 (-32768)] w (DVPost w B g A N c bs ((nuD 210 (bs.drop p)).1, .mk 3 (nuD 210 (bs.drop p)).2.1 [] ByteArray.empty [] [], (nuD 210 (bs.drop p)).2.2)) := by
  obtain ⟨wA, hA⟩ : ∃ wA, wA = w.alloc (.cells cellsZ 26) := ⟨_, rfl⟩
  have sA : Still w wA := by rw [hA]; exact (Still.refl w).alloc (Nat.le_refl _) _
  have bA : Blk wA w.heap.size 26 cellsZ := by rw [hA]; exact Blk.new _ _ _
  have hgl := r.blk.lt
  have rA := r.still sA
  obtain ⟨fs, hu⟩ := underValue
  have HU := Lib.hid hu
  have BA := Lib.hid bA
  have HA := Lib.hid hA
  have SA := Lib.hid sA
  have HGL := Lib.hid hgl
  have hb := leNum_bd (bs.drop p) 4
  have hpk : p + 4 ≤ N := by have h1 := r.len; rw [List.length_drop] at hs; have := r.at_; omega
  have TN := rnm_yes rA 4 hpk (by omega) (by omega) 0 _ rfl (by omega)
  obtain ⟨x, hx⟩ : ∃ x, x = leNum ((bs.drop p).take 4).reverse := ⟨_, rfl⟩
  rw [← hx, if_neg (by omega)] at TN
  rw [← hx] at hb
  simp only [show (2 : Nat) ^ (8 * 4) = 4294967296 from rfl] at hb
  have hsg : sgn 4 x = if x < 2147483648 then (x : Int) else (x : Int) - 4294967296 := by unfold sgn; simp only [show (2 : Nat) ^ (8 * 4 - 1) = 2147483648 from rfl, show (2 : Int) ^ (8 * 4) = 4294967296 from rfl]
  have hD : nuD 210 (bs.drop p) = (if nt (sgn 4 x) = 210 then 0 else 4, sgn 4 x, bs.drop (p + 4)) := by
    unfold nuD
    rw [show bh 210 = 4 from rfl, if_neg (by decide), if_neg hs, ← hx, show decide (208 ≤ 210) = true from rfl, decK_neg 4 x (by omega) (by simpa using hb), List.drop_drop]
  rw [hD]
  have TY := Lib.hid TN
  have HSG := Lib.hid hsg
  have HPK := Lib.hid hpk
  have HB := Lib.hid hb
  have HNT := Lib.hid (nt_210 (sgn 4 x))
  clear hA sA bA rA hu r hs hgl hD TN hx hsg hpk hb
  obtain ⟨D, hD⟩ : ∃ D : Int × Int × List UInt8, D = (if nt (sgn 4 x) = 210 then 0 else 4, sgn 4 x, bs.drop (p + 4)) := ⟨_, rfl⟩
  rw [← hD]
  have HD := Lib.hid hD
  clear hD
  have d1 : (x : Int) < 4294967296 := by have := HB.out; omega
  have d2 : (0 : Int) ≤ (x : Int) := by omega
  go_enter Tryd.func76, Tryd.ntmps76
  go_upto_region 1 with fail
  rw [show (w.alloc (.cells #[.int .i64 0, .int .i64 0, .slice none 0 0, .string ⟨#[]⟩, .slice none 0 0, .slice none 0 0] 26)) = wA from HA.out.symm]
  go_wp2_with fail
  refine TY.out.mono ?_
  rintro e w1 ⟨rfl, r1, g1⟩
  have R1 := Lib.hid r1
  have G1 := Lib.hid (grown_trans (grown_of_still SA.out) g1)
  have B1 : Hid (Blk w1 w.heap.size 26 cellsZ) := Lib.hid ((g1.block _ BA.out.lt (fun e => by have := HGL.out; cases e; omega)).trans BA.out)
  have k2 : w1.cell? ⟨g, 2, none⟩ = some (.int .i64 0) := r1.blk.cell 2
  have f2 : w1.frozen? ⟨g, 2, none⟩ = false := r1.blk.frozen 2
  clear r1 g1 TY BA HA SA
  by_cases hh : x < 2147483648
  · have e1 : (x : Int) / 2147483648 = 0 := by omega
    have Q4 := Lib.hid (show D = (4, sgn 4 x, bs.drop (p + 4)) by rw [HD.out, if_neg (fun h => by have h2 := HNT.out (by rw [HSG.out]; have := HB.out; split <;> omega) (by rw [HSG.out]; have := HB.out; split <;> omega); rw [h2, HSG.out] at h; revert h; split <;> omega)])
    have FIN := Lib.hid (show DRd (w1.setCell ⟨g, 2, none⟩ (.int .i64 4)) B g A N c bs (p + 4) 4 ∧ w.grownBy (w1.setCell ⟨g, 2, none⟩ (.int .i64 4)) (some g) from
      ⟨R1.out.set (p + 4) 4 HPK.out (by have h := R1.out.blk.setc 2 (.int .i64 4); simpa using h) (grown_setc (World.grownBy.refl _ _)), grown_setc G1.out⟩)
    obtain ⟨w2, hw2⟩ : ∃ w2, w2 = w1.setCell ⟨g, 2, none⟩ (.int .i64 4) := ⟨_, rfl⟩
    have HW2 := Lib.hid hw2
    have B2 : Hid (Blk w2 w.heap.size 26 cellsZ) := Lib.hid (by rw [hw2]; exact B1.out.far (by have := HGL.out; simp only; omega) _)
    rw [← hw2] at FIN
    clear hw2
    go_upto_region 7 with fail
    rw [← HW2.out]
    go_wp2_with (guard_target =~ wpList _ _ _ (Oper.mk none (Op.store _ _ _) _ _ _ _ :: _) _ _; go_must (refine wpList_store_rowTo rfl 26 (.tmp 6) (.tmp 46) rfl rfl w.heap.size #[.int .i64 3, .int .i64 ((x : Int) - 4294967296), .slice none 0 0, .string ⟨#[]⟩, .slice none 0 0, .slice none 0 0] rfl rfl 26 _ B2.out (by rw [sizeValue]; first | rfl | simp) (by first | rfl | simp [cellsZ]) (by first | decide +kernel | simp [Value.oneCell']) ?_))
    (try simp only [Exit.inBlock, Exit.then])
    refine bodyPost_ret (results_cell_row rfl _ _ w.heap.size _ _ _ _ rfl (setRow_heap w2 _ _ _ _ _ B2.out) HU.out rfl (by rw [sizeValue]; first | rfl | simp)) rfl ?_
    rw [Q4.out]
    exact dv_flat (cs := [.int .i64 3, .int .i64 ((x : Int) - 4294967296), .slice none 0 0, .string ⟨#[]⟩, .slice none 0 0, .slice none 0 0]) (D := (4, .mk 3 (sgn 4 x) [] ByteArray.empty [] [], bs.drop (p + 4))) FIN.out.2 (by have := B2.out.lt; omega) HGL.out rfl (by simp [Value.oneCell']) FIN.out.1 (fun h => absurd (show (4 : Int) = 0 from h) (by decide))
  by_cases hi : (x : Int) - 4294967296 < -32768
  · have e1 : ((x : Int) / 2147483648 == 0) = false := by rw [beq_eq_false_iff_ne]; omega
    have e3 : decide ((-32768 : Int) ≤ (x : Int) - 4294967296) = false := decide_eq_false (by omega)
    have Q0 := Lib.hid (show D = (0, (x : Int) - 4294967296, bs.drop (p + 4)) by
      have h2 := HNT.out (by rw [HSG.out]; have := HB.out; split <;> omega) (by rw [HSG.out]; have := HB.out; split <;> omega)
      have h3 : sgn 4 x = (x : Int) - 4294967296 := by rw [HSG.out, if_neg hh]
      rw [HD.out, if_pos (h2.2 (by rw [h3]; omega)), h3])
    go_wp2_with (guard_target =~ wpList _ _ _ (Oper.mk none (Op.store _ _ _) _ _ _ _ :: _) _ _; go_must (refine wpList_store_rowTo rfl 26 (.tmp 6) (.tmp 46) rfl rfl w.heap.size #[.int .i64 3, .int .i64 ((x : Int) - 4294967296), .slice none 0 0, .string ⟨#[]⟩, .slice none 0 0, .slice none 0 0] rfl rfl 26 _ B1.out (by rw [sizeValue]; first | rfl | simp) (by first | rfl | simp [cellsZ]) (by first | decide +kernel | simp [Value.oneCell']) ?_))
    (try simp only [Exit.inBlock, Exit.then])
    refine bodyPost_ret (results_cell_row rfl _ _ w.heap.size _ _ _ _ rfl (setRow_heap w1 _ _ _ _ _ B1.out) HU.out rfl (by rw [sizeValue]; first | rfl | simp)) rfl ?_
    rw [Q0.out]
    exact dv_flat (cs := [.int .i64 3, .int .i64 ((x : Int) - 4294967296), .slice none 0 0, .string ⟨#[]⟩, .slice none 0 0, .slice none 0 0]) (D := (0, .mk 3 ((x : Int) - 4294967296) [] ByteArray.empty [] [], bs.drop (p + 4))) G1.out (by have := B1.out.lt; omega) HGL.out rfl (by simp [Value.oneCell']) R1.out (fun _ => ⟨rfl, hasP_flat 3 _ _ (by omega) (by omega) (by decide)⟩)
  · have e1 : ((x : Int) / 2147483648 == 0) = false := by rw [beq_eq_false_iff_ne]; omega
    have e3 : decide ((-32768 : Int) ≤ (x : Int) - 4294967296) = true := decide_eq_true (by omega)
    have Q4 := Lib.hid (show D = (4, sgn 4 x, bs.drop (p + 4)) by rw [HD.out, if_neg (fun h => by have h2 := HNT.out (by rw [HSG.out]; have := HB.out; split <;> omega) (by rw [HSG.out]; have := HB.out; split <;> omega); rw [h2, HSG.out] at h; revert h; split <;> omega)])
    have FIN := Lib.hid (show DRd (w1.setCell ⟨g, 2, none⟩ (.int .i64 4)) B g A N c bs (p + 4) 4 ∧ w.grownBy (w1.setCell ⟨g, 2, none⟩ (.int .i64 4)) (some g) from
      ⟨R1.out.set (p + 4) 4 HPK.out (by have h := R1.out.blk.setc 2 (.int .i64 4); simpa using h) (grown_setc (World.grownBy.refl _ _)), grown_setc G1.out⟩)
    obtain ⟨w2, hw2⟩ : ∃ w2, w2 = w1.setCell ⟨g, 2, none⟩ (.int .i64 4) := ⟨_, rfl⟩
    have HW2 := Lib.hid hw2
    have B2 : Hid (Blk w2 w.heap.size 26 cellsZ) := Lib.hid (by rw [hw2]; exact B1.out.far (by have := HGL.out; simp only; omega) _)
    rw [← hw2] at FIN
    clear hw2
    go_upto_region 7 with fail
    rw [← HW2.out]
    go_wp2_with (guard_target =~ wpList _ _ _ (Oper.mk none (Op.store _ _ _) _ _ _ _ :: _) _ _; go_must (refine wpList_store_rowTo rfl 26 (.tmp 6) (.tmp 46) rfl rfl w.heap.size #[.int .i64 3, .int .i64 ((x : Int) - 4294967296), .slice none 0 0, .string ⟨#[]⟩, .slice none 0 0, .slice none 0 0] rfl rfl 26 _ B2.out (by rw [sizeValue]; first | rfl | simp) (by first | rfl | simp [cellsZ]) (by first | decide +kernel | simp [Value.oneCell']) ?_))
    (try simp only [Exit.inBlock, Exit.then])
    refine bodyPost_ret (results_cell_row rfl _ _ w.heap.size _ _ _ _ rfl (setRow_heap w2 _ _ _ _ _ B2.out) HU.out rfl (by rw [sizeValue]; first | rfl | simp)) rfl ?_
    rw [Q4.out]
    exact dv_flat (cs := [.int .i64 3, .int .i64 ((x : Int) - 4294967296), .slice none 0 0, .string ⟨#[]⟩, .slice none 0 0, .slice none 0 0]) (D := (4, .mk 3 (sgn 4 x) [] ByteArray.empty [] [], bs.drop (p + 4))) FIN.out.2 (by have := B2.out.lt; omega) HGL.out rfl (by simp [Value.oneCell']) FIN.out.1 (fun h => absurd (show (4 : Int) = 0 from h) (by decide))

set_option maxRecDepth 100000 in
set_option maxHeartbeats 1600000 in
theorem db_211_no {w : World} {B g : Nat} {A : Option Addr} {N c : Nat} {bs : List UInt8} {p : Nat} (r : DRd w B g A N c bs p 0) (hs : (bs.drop p).length < 8) :
    Calls Tryd.prog 76 #[.pointer (some ⟨g, 0, none⟩), .int .i64 8, .int .i64 (-2147483648)] w (DVPost w B g A N c bs ((nuD 211 (bs.drop p)).1, .mk 3 (nuD 211 (bs.drop p)).2.1 [] ByteArray.empty [] [], (nuD 211 (bs.drop p)).2.2)) := by
  obtain ⟨wA, hA⟩ : ∃ wA, wA = w.alloc (.cells cellsZ 26) := ⟨_, rfl⟩
  have sA : Still w wA := by rw [hA]; exact (Still.refl w).alloc (Nat.le_refl _) _
  have bA : Blk wA w.heap.size 26 cellsZ := by rw [hA]; exact Blk.new _ _ _
  have hgl := r.blk.lt
  have rA := r.still sA
  obtain ⟨fs, hu⟩ := underValue
  have HU := Lib.hid hu
  have BA := Lib.hid bA
  have HA := Lib.hid hA
  have SA := Lib.hid sA
  have HGL := Lib.hid hgl
  have hD : nuD 211 (bs.drop p) = (3, 0, []) := by unfold nuD; rw [show bh 211 = 8 from rfl, if_neg (by decide), if_pos hs]
  rw [hD]
  have TN := Lib.hid (rnm_no rA 8 (by have h1 := r.len; rw [List.length_drop] at hs; omega) (by omega) 0)
  clear hA sA bA rA hu r hs hgl hD
  go_enter Tryd.func76, Tryd.ntmps76
  go_upto_region 1 with fail
  rw [show (w.alloc (.cells #[.int .i64 0, .int .i64 0, .slice none 0 0, .string ⟨#[]⟩, .slice none 0 0, .slice none 0 0] 26)) = wA from HA.out.symm]
  go_wp2_with fail
  refine TN.out.mono ?_
  rintro e w1 ⟨rfl, r1, g1⟩
  have R1 := Lib.hid r1
  have G1 := Lib.hid (grown_trans (grown_of_still SA.out) g1)
  have B1 : Hid (Blk w1 w.heap.size 26 cellsZ) := Lib.hid ((g1.block _ BA.out.lt (fun e => by have := HGL.out; cases e; omega)).trans BA.out)
  have k2 : w1.cell? ⟨g, 2, none⟩ = some (.int .i64 3) := r1.blk.cell 2
  clear r1 g1 TN BA HA SA
  go_wp2_with (guard_target =~ wpList _ _ _ (Oper.mk none (Op.store _ _ _) _ _ _ _ :: _) _ _; go_must (refine wpList_store_rowTo rfl 26 (.tmp 6) (.tmp 46) rfl rfl w.heap.size #[.int .i64 3, .int .i64 0, .slice none 0 0, .string ⟨#[]⟩, .slice none 0 0, .slice none 0 0] rfl rfl 26 _ B1.out (by rw [sizeValue]; first | rfl | simp) (by first | rfl | simp [cellsZ]) (by first | decide +kernel | simp [Value.oneCell']) ?_))
  (try simp only [Exit.inBlock, Exit.then])
  refine bodyPost_ret (results_cell_row rfl _ _ w.heap.size _ _ _ _ rfl (setRow_heap w1 _ _ _ _ _ B1.out) HU.out rfl (by rw [sizeValue]; first | rfl | simp)) rfl ?_
  exact dv_flat (cs := [.int .i64 3, .int .i64 0, .slice none 0 0, .string ⟨#[]⟩, .slice none 0 0, .slice none 0 0]) (D := (3, .mk 3 0 [] ByteArray.empty [] [], [])) G1.out (by have := B1.out.lt; omega) HGL.out rfl (by simp [Value.oneCell']) R1.out (fun h => absurd (show (3 : Int) = 0 from h) (by decide))

set_option maxRecDepth 100000 in
set_option maxHeartbeats 1600000 in
theorem db_211_yes {w : World} {B g : Nat} {A : Option Addr} {N c : Nat} {bs : List UInt8} {p : Nat} (r : DRd w B g A N c bs p 0) (hs : ¬ (bs.drop p).length < 8) :
    Calls Tryd.prog 76 #[.pointer (some ⟨g, 0, none⟩), .int .i64 8, .int .i64 (-2147483648)] w (DVPost w B g A N c bs ((nuD 211 (bs.drop p)).1, .mk 3 (nuD 211 (bs.drop p)).2.1 [] ByteArray.empty [] [], (nuD 211 (bs.drop p)).2.2)) := by
  obtain ⟨wA, hA⟩ : ∃ wA, wA = w.alloc (.cells cellsZ 26) := ⟨_, rfl⟩
  have sA : Still w wA := by rw [hA]; exact (Still.refl w).alloc (Nat.le_refl _) _
  have bA : Blk wA w.heap.size 26 cellsZ := by rw [hA]; exact Blk.new _ _ _
  have hgl := r.blk.lt
  have rA := r.still sA
  obtain ⟨fs, hu⟩ := underValue
  have HU := Lib.hid hu
  have BA := Lib.hid bA
  have HA := Lib.hid hA
  have SA := Lib.hid sA
  have HGL := Lib.hid hgl
  have hb := leNum_bd (bs.drop p) 8
  have hpk : p + 8 ≤ N := by have h1 := r.len; rw [List.length_drop] at hs; have := r.at_; omega
  have TN := rnm_yes rA 8 hpk (by omega) (by omega) 0 _ rfl (by omega)
  obtain ⟨x, hx⟩ : ∃ x, x = leNum ((bs.drop p).take 8).reverse := ⟨_, rfl⟩
  rw [← hx, if_neg (by omega)] at TN
  rw [← hx] at hb
  simp only [show (2 : Nat) ^ (8 * 8) = 18446744073709551616 from rfl] at hb
  have hsg : sgn 8 x = if x < 9223372036854775808 then (x : Int) else (x : Int) - 18446744073709551616 := by unfold sgn; simp only [show (2 : Nat) ^ (8 * 8 - 1) = 9223372036854775808 from rfl, show (2 : Int) ^ (8 * 8) = 18446744073709551616 from rfl]
  have hD : nuD 211 (bs.drop p) = (if nt (sgn 8 x) = 211 then 0 else 4, sgn 8 x, bs.drop (p + 8)) := by
    unfold nuD
    rw [show bh 211 = 8 from rfl, if_neg (by decide), if_neg hs, ← hx, show decide (208 ≤ 211) = true from rfl, decK_neg 8 x (by omega) (by simpa using hb), List.drop_drop]
  rw [hD]
  have TY := Lib.hid TN
  have HSG := Lib.hid hsg
  have HPK := Lib.hid hpk
  have HB := Lib.hid hb
  have HNT := Lib.hid (nt_211 (sgn 8 x))
  clear hA sA bA rA hu r hs hgl hD TN hx hsg hpk hb
  obtain ⟨D, hD⟩ : ∃ D : Int × Int × List UInt8, D = (if nt (sgn 8 x) = 211 then 0 else 4, sgn 8 x, bs.drop (p + 8)) := ⟨_, rfl⟩
  rw [← hD]
  have HD := Lib.hid hD
  clear hD
  have d1 : (x : Int) < 18446744073709551616 := by have := HB.out; omega
  have d2 : (0 : Int) ≤ (x : Int) := by omega
  go_enter Tryd.func76, Tryd.ntmps76
  go_upto_region 1 with fail
  rw [show (w.alloc (.cells #[.int .i64 0, .int .i64 0, .slice none 0 0, .string ⟨#[]⟩, .slice none 0 0, .slice none 0 0] 26)) = wA from HA.out.symm]
  go_wp2_with fail
  refine TY.out.mono ?_
  rintro e w1 ⟨rfl, r1, g1⟩
  have R1 := Lib.hid r1
  have G1 := Lib.hid (grown_trans (grown_of_still SA.out) g1)
  have B1 : Hid (Blk w1 w.heap.size 26 cellsZ) := Lib.hid ((g1.block _ BA.out.lt (fun e => by have := HGL.out; cases e; omega)).trans BA.out)
  have k2 : w1.cell? ⟨g, 2, none⟩ = some (.int .i64 0) := r1.blk.cell 2
  have f2 : w1.frozen? ⟨g, 2, none⟩ = false := r1.blk.frozen 2
  clear r1 g1 TY BA HA SA
  by_cases hh : x < 9223372036854775808
  · have e1 : (x : Int) / 9223372036854775808 = 0 := by omega
    have ew : IntKind.i64.wrap (x : Int) = (x : Int) := by rw [IntKind.wrap_i64]; omega
    have ew2 : wrap64 (x : Int) = (x : Int) := by unfold wrap64; omega
    have Q4 := Lib.hid (show D = (4, sgn 8 x, bs.drop (p + 8)) by rw [HD.out, if_neg (fun h => by have h2 := HNT.out (by rw [HSG.out]; have := HB.out; split <;> omega) (by rw [HSG.out]; have := HB.out; split <;> omega); rw [h2, HSG.out] at h; revert h; split <;> omega)])
    have FIN := Lib.hid (show DRd (w1.setCell ⟨g, 2, none⟩ (.int .i64 4)) B g A N c bs (p + 8) 4 ∧ w.grownBy (w1.setCell ⟨g, 2, none⟩ (.int .i64 4)) (some g) from
      ⟨R1.out.set (p + 8) 4 HPK.out (by have h := R1.out.blk.setc 2 (.int .i64 4); simpa using h) (grown_setc (World.grownBy.refl _ _)), grown_setc G1.out⟩)
    obtain ⟨w2, hw2⟩ : ∃ w2, w2 = w1.setCell ⟨g, 2, none⟩ (.int .i64 4) := ⟨_, rfl⟩
    have HW2 := Lib.hid hw2
    have B2 : Hid (Blk w2 w.heap.size 26 cellsZ) := Lib.hid (by rw [hw2]; exact B1.out.far (by have := HGL.out; simp only; omega) _)
    rw [← hw2] at FIN
    clear hw2
    go_upto_region 7 with fail
    rw [← HW2.out]
    go_wp2_with (guard_target =~ wpList _ _ _ (Oper.mk none (Op.store _ _ _) _ _ _ _ :: _) _ _; go_must (refine wpList_store_rowTo rfl 26 (.tmp 6) (.tmp 46) rfl rfl w.heap.size #[.int .i64 3, .int .i64 (x : Int), .slice none 0 0, .string ⟨#[]⟩, .slice none 0 0, .slice none 0 0] rfl rfl 26 _ B2.out (by rw [sizeValue]; first | rfl | simp) (by first | rfl | simp [cellsZ]) (by first | decide +kernel | simp [Value.oneCell']) ?_))
    (try simp only [Exit.inBlock, Exit.then])
    refine bodyPost_ret (results_cell_row rfl _ _ w.heap.size _ _ _ _ rfl (setRow_heap w2 _ _ _ _ _ B2.out) HU.out rfl (by rw [sizeValue]; first | rfl | simp)) rfl ?_
    rw [Q4.out]
    exact dv_flat (cs := [.int .i64 3, .int .i64 (x : Int), .slice none 0 0, .string ⟨#[]⟩, .slice none 0 0, .slice none 0 0]) (D := (4, .mk 3 (sgn 8 x) [] ByteArray.empty [] [], bs.drop (p + 8))) FIN.out.2 (by have := B2.out.lt; omega) HGL.out rfl (by simp [Value.oneCell']) FIN.out.1 (fun h => absurd (show (4 : Int) = 0 from h) (by decide))
  by_cases hi : (x : Int) - 18446744073709551616 < -2147483648
  · have e1 : ((x : Int) / 9223372036854775808 == 0) = false := by rw [beq_eq_false_iff_ne]; omega
    have e3 : decide ((-2147483648 : Int) ≤ (x : Int) - 18446744073709551616) = false := decide_eq_false (by omega)
    have ew : IntKind.i64.wrap (x : Int) = (x : Int) - 18446744073709551616 := by rw [IntKind.wrap_i64]; omega
    have ew2 : wrap64 (x : Int) = (x : Int) - 18446744073709551616 := by unfold wrap64; omega
    have Q0 := Lib.hid (show D = (0, (x : Int) - 18446744073709551616, bs.drop (p + 8)) by
      have h2 := HNT.out (by rw [HSG.out]; have := HB.out; split <;> omega) (by rw [HSG.out]; have := HB.out; split <;> omega)
      have h3 : sgn 8 x = (x : Int) - 18446744073709551616 := by rw [HSG.out, if_neg hh]
      rw [HD.out, if_pos (h2.2 (by rw [h3]; omega)), h3])
    go_wp2_with (guard_target =~ wpList _ _ _ (Oper.mk none (Op.store _ _ _) _ _ _ _ :: _) _ _; go_must (refine wpList_store_rowTo rfl 26 (.tmp 6) (.tmp 46) rfl rfl w.heap.size #[.int .i64 3, .int .i64 ((x : Int) - 18446744073709551616), .slice none 0 0, .string ⟨#[]⟩, .slice none 0 0, .slice none 0 0] rfl rfl 26 _ B1.out (by rw [sizeValue]; first | rfl | simp) (by first | rfl | simp [cellsZ]) (by first | decide +kernel | simp [Value.oneCell']) ?_))
    (try simp only [Exit.inBlock, Exit.then])
    refine bodyPost_ret (results_cell_row rfl _ _ w.heap.size _ _ _ _ rfl (setRow_heap w1 _ _ _ _ _ B1.out) HU.out rfl (by rw [sizeValue]; first | rfl | simp)) rfl ?_
    rw [Q0.out]
    exact dv_flat (cs := [.int .i64 3, .int .i64 ((x : Int) - 18446744073709551616), .slice none 0 0, .string ⟨#[]⟩, .slice none 0 0, .slice none 0 0]) (D := (0, .mk 3 ((x : Int) - 18446744073709551616) [] ByteArray.empty [] [], bs.drop (p + 8))) G1.out (by have := B1.out.lt; omega) HGL.out rfl (by simp [Value.oneCell']) R1.out (fun _ => ⟨rfl, hasP_flat 3 _ _ (by omega) (by omega) (by decide)⟩)
  · have e1 : ((x : Int) / 9223372036854775808 == 0) = false := by rw [beq_eq_false_iff_ne]; omega
    have e3 : decide ((-2147483648 : Int) ≤ (x : Int) - 18446744073709551616) = true := decide_eq_true (by omega)
    have ew : IntKind.i64.wrap (x : Int) = (x : Int) - 18446744073709551616 := by rw [IntKind.wrap_i64]; omega
    have ew2 : wrap64 (x : Int) = (x : Int) - 18446744073709551616 := by unfold wrap64; omega
    have Q4 := Lib.hid (show D = (4, sgn 8 x, bs.drop (p + 8)) by rw [HD.out, if_neg (fun h => by have h2 := HNT.out (by rw [HSG.out]; have := HB.out; split <;> omega) (by rw [HSG.out]; have := HB.out; split <;> omega); rw [h2, HSG.out] at h; revert h; split <;> omega)])
    have FIN := Lib.hid (show DRd (w1.setCell ⟨g, 2, none⟩ (.int .i64 4)) B g A N c bs (p + 8) 4 ∧ w.grownBy (w1.setCell ⟨g, 2, none⟩ (.int .i64 4)) (some g) from
      ⟨R1.out.set (p + 8) 4 HPK.out (by have h := R1.out.blk.setc 2 (.int .i64 4); simpa using h) (grown_setc (World.grownBy.refl _ _)), grown_setc G1.out⟩)
    obtain ⟨w2, hw2⟩ : ∃ w2, w2 = w1.setCell ⟨g, 2, none⟩ (.int .i64 4) := ⟨_, rfl⟩
    have HW2 := Lib.hid hw2
    have B2 : Hid (Blk w2 w.heap.size 26 cellsZ) := Lib.hid (by rw [hw2]; exact B1.out.far (by have := HGL.out; simp only; omega) _)
    rw [← hw2] at FIN
    clear hw2
    go_upto_region 7 with fail
    rw [← HW2.out]
    go_wp2_with (guard_target =~ wpList _ _ _ (Oper.mk none (Op.store _ _ _) _ _ _ _ :: _) _ _; go_must (refine wpList_store_rowTo rfl 26 (.tmp 6) (.tmp 46) rfl rfl w.heap.size #[.int .i64 3, .int .i64 ((x : Int) - 18446744073709551616), .slice none 0 0, .string ⟨#[]⟩, .slice none 0 0, .slice none 0 0] rfl rfl 26 _ B2.out (by rw [sizeValue]; first | rfl | simp) (by first | rfl | simp [cellsZ]) (by first | decide +kernel | simp [Value.oneCell']) ?_))
    (try simp only [Exit.inBlock, Exit.then])
    refine bodyPost_ret (results_cell_row rfl _ _ w.heap.size _ _ _ _ rfl (setRow_heap w2 _ _ _ _ _ B2.out) HU.out rfl (by rw [sizeValue]; first | rfl | simp)) rfl ?_
    rw [Q4.out]
    exact dv_flat (cs := [.int .i64 3, .int .i64 ((x : Int) - 18446744073709551616), .slice none 0 0, .string ⟨#[]⟩, .slice none 0 0, .slice none 0 0]) (D := (4, .mk 3 (sgn 8 x) [] ByteArray.empty [] [], bs.drop (p + 8))) FIN.out.2 (by have := B2.out.lt; omega) HGL.out rfl (by simp [Value.oneCell']) FIN.out.1 (fun h => absurd (show (4 : Int) = 0 from h) (by decide))

end Go.Proofs.YtmpnehhndhepgaaDoor
