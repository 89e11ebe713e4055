/- Contract: Split. It proves no statement. -/
import Derived.Test.YtjihnagoebhinaaCtRSplit
import Derived.Test.YtjihnagoebhinaaSClone
namespace Go.Proofs.Ytjihnagoebhinaa
open Go.RowKit
set_option linter.unusedVariables false
set_option linter.unusedSimpArgs false

theorem split_no (x y z u sd : Int) (b : Value) (w : World) (h : okZ x y z u = false) :
    Calls Try.prog 12 #[.agg #[.int .i64 x, .int .i64 y, .int .i64 z, .int .i64 u, .int .u32 sd], b] w fun e w' => e = .returned (.tuple #[.slice none 0 0, .int .i64 2]) ∧ Still w w' := by
  have st := (Still.refl w).alloc (Nat.le_refl _) (.cells #[.int .i64 x, .int .i64 y, .int .i64 z, .int .i64 u, .int .u32 sd] 24)
  have HC := Lib.hid (fun W => sizes_no x y z u sd b W h)
  have ST := Lib.hid st
  clear st h
  go_enter Try.func12, Try.ntmps12
  go_wp2_with fail
  refine (HC.out _).mono ?_
  rintro e w1 ⟨rfl, s1⟩
  have S1 := Lib.hid (Still.trans ST.out s1)
  clear s1
  go_wp2_with fail
  go_ret2
  exact ⟨rfl, S1.out⟩
theorem still_own {w w' : World} {base z n : Nat} {e : TypeId} {v : Value} {xs : List Value} (ho : w.ownsRow base e z v n xs) (s : Still w w') : w'.ownsRow base e z v n xs :=
  own_grown (r := none) ⟨s.os, s.tape, s.output, s.size, fun k hk _ => s.block k hk⟩ ho (fun k _ e => by cases e)
theorem own_block_lt {wr : World} {lo : Nat} {e : TypeId} {n : Nat} {v : Value} {xs : List Value} (o : wr.ownsRow lo e 1 v n xs) (k : Nat) (hk : v.ownBlock = some k) : k < wr.heap.size := by
  rcases o.2 with ⟨e, _⟩ | ⟨g, cp, cur, e, _, hg, _⟩
  · rw [e] at hk; simp [Value.ownBlock] at hk
  · rw [e] at hk; simp [Value.ownBlock] at hk
    have := (Array.getElem?_eq_some_iff.1 hg).1
    omega
/-- A row of rows that grows by a row whose block is young. -/
structure Grow (w wr : World) (v : Value) (L : List (List UInt8)) (xs : List Value) : Prop where
  own : wr.ownsRow w.heap.size 25 1 v L.length xs
  rows : Rows wr (fun k => w.heap.size ≤ k ∧ v.ownBlock ≠ some k) xs L
  st : Still w wr
theorem Grow.nil (w : World) : Grow w w (.slice none 0 0) [] [] := ⟨World.ownsRow_nil _ _ _ _, Rows.nil, Still.refl w⟩
theorem Grow.still {w wr w' : World} {v : Value} {L : List (List UInt8)} {xs : List Value} (h : Grow w wr v L xs) (s : Still wr w') : Grow w w' v L xs := ⟨still_own h.own s, h.rows.still s, Still.trans h.st s⟩
/-- One row more, made behind wr, pushed at w3. -/
theorem Grow.push {w wr w3 w4 : World} {v v' : Value} {L : List (List UInt8)} {xs : List Value} (h : Grow w wr v L xs) (s : Still wr w3) {A : Option Addr} {n c : Nat} {l : List UInt8}
    (r : RowP w3 (fun k => wr.heap.size ≤ k) A n c l) (o4 : w4.ownsRow w.heap.size 25 1 v' (L.length + 1) (xs ++ [.slice A n c])) (g : w3.grownBy w4 v.ownBlock) (hv : v'.ownBlock = v.ownBlock ∨ v'.ownBlock = some (w3.heap.size + 1)) :
    Grow w w4 v' (L ++ [l]) (xs ++ [.slice A n c]) := by
  have hlt := own_block_lt h.own
  have h3 := h.still s
  have hne : ∀ k, k < w3.heap.size → v.ownBlock ≠ some k → v'.ownBlock ≠ some k := by
    intro k hk hn
    rcases hv with e | e
    · rwa [e]
    · rw [e]
      intro x
      have := Option.some.inj x
      omega
  have hr : ∀ k, wr.heap.size ≤ k → v.ownBlock ≠ some k := fun k hk e => by have := hlt k e; omega
  refine ⟨by rw [List.length_append, List.length_singleton]; exact o4, ?_, still_push h3.st h3.own (Nat.le_refl _) g⟩
  have q1 := h3.rows.mono (Q := fun k => (w.heap.size ≤ k ∧ v'.ownBlock ≠ some k) ∧ v.ownBlock ≠ some k) (fun k hk hk2 => ⟨⟨hk.1, hne k hk2 hk.2⟩, hk.2⟩)
  have q2 := r.mono (Q := fun k => (w.heap.size ≤ k ∧ v'.ownBlock ≠ some k) ∧ v.ownBlock ≠ some k) (fun k hk hk2 => ⟨⟨Nat.le_trans h.st.size hk, hne k hk2 (hr k hk)⟩, hr k hk⟩)
  have kp : ∀ b, ((w.heap.size ≤ b ∧ v'.ownBlock ≠ some b) ∧ v.ownBlock ≠ some b) → b < w3.heap.size → w4.heap[b]? = w3.heap[b]? := fun b hb hb2 => g.block b hb2 (fun e => hb.2 e.symm)
  exact Rows.snoc ((q1.keep kp g.size).mono fun k hk _ => hk.1) ((q2.keep kp g.size).mono fun k hk _ => hk.1)
/-- What holds between two chunks. -/
structure SpMid (w wr : World) (s : Shp) (b : List UInt8) (A : Option Addr) (n c : Nat) (rest : List UInt8) (v : Value) (done : List (List UInt8)) (xs : List Value) (Bs : Nat) : Prop where
  row : RowP wr (fun k => k < Bs) A n c rest
  gr : Grow w wr v done xs
  eq : done ++ chunks s rest = chunks s b
  len : done.length + n ≤ b.length
theorem own_base {w : World} {lo base z n : Nat} {e : TypeId} {v : Value} {xs : List Value} (h : w.ownsRow base e z v n xs) (hlo : lo ≤ base) : w.ownsRow lo e z v n xs := by
  refine ⟨h.1, ?_⟩
  rcases h.2 with h0 | ⟨g, c, cur, h1, h2, h3⟩
  · exact .inl h0
  · exact .inr ⟨g, c, cur, h1, Nat.le_trans hlo h2, h3⟩
theorem own_at {w : World} {base M c : Nat} {e : TypeId} {A : Option Addr} {xs : List Value} (h : w.ownsRow base e 1 (.slice A M c) M xs) (i : Nat) (hi : i < M) (x : Value) (hx : xs[i]? = some x) : ∃ g, A = some ⟨g, 0, none⟩ ∧ w.cell? ⟨g, i, none⟩ = some x := by
  rcases h.2 with ⟨_, h0⟩ | ⟨g, cp, cur, hv, hg, hb, _⟩
  · omega
  · injection hv with hv1
    subst hv1
    exact ⟨g, rfl, (h.cellAt i (by have := h.1; omega)).trans hx⟩
theorem flat_len (L : List (List UInt8)) (h : ∀ x ∈ L, x ≠ []) : L.length ≤ L.flatten.length := by
  induction L with
  | nil => simp
  | cons x t ih =>
    have h1 := ih fun y hy => h y (List.mem_cons_of_mem _ hy)
    have h2 : x.length ≠ 0 := fun e => h x List.mem_cons_self (List.eq_nil_of_length_eq_zero e)
    simp only [List.length_cons, List.flatten_cons, List.length_append]
    omega
theorem chunks_len (s : Shp) (b : List UInt8) : (chunks s b).length ≤ b.length := by
  have := flat_len _ (chunks_pos s b)
  rwa [chunks_join] at this
theorem lens_get (L M : List (List UInt8)) (x : List UInt8) : (intsV (lens (L ++ x :: M)))[L.length]? = some (.int .i64 (x.length : Int)) := by
  simp [intsV, lens]
set_option maxRecDepth 100000 in
set_option maxHeartbeats 3200000 in
theorem split_yes (s : Shp) (hs : s.Ok) (A : Option Addr) (n c : Nat) (b : List UInt8) (w : World) (h : RowP w (fun _ => True) A n c b) (hn : n ≤ 65536) :
    Calls Try.prog 12 #[.agg #[.int .i64 (s.lt : Nat), .int .i64 (s.mt : Nat), .int .i64 (s.k : Nat), .int .i64 (s.n : Nat), .int .u32 (s.seed : Nat)], .slice A n c] w fun e w' =>
      ∃ v xs, e = .returned (.tuple #[v, .int .i64 0]) ∧ w'.ownsRow w.heap.size 25 1 v (chunks s b).length xs ∧ Rows w' (fun k => w.heap.size ≤ k ∧ v.ownBlock ≠ some k) xs (chunks s b) ∧ Still w w' := by
  have st := (Still.refl w).alloc (Nat.le_refl _) (.cells #[.int .i64 (s.lt : Nat), .int .i64 (s.mt : Nat), .int .i64 (s.k : Nat), .int .i64 (s.n : Nat), .int .u32 (s.seed : Nat)] 24)
  have HSZ := Lib.hid (fun W (g : RowS W w.heap.size A n c b) (hh : w.heap.size ≤ W.heap.size) => sizes_yes s hs A n c b W w.heap.size g hh hn)
  have HR := Lib.hid h
  have HBL := Lib.hid h.len
  have ST := Lib.hid st
  clear st h
  go_enter Try.func12, Try.ntmps12
  go_wp2_with fail
  refine (HSZ.out _ (HR.out.rowS.still (Nat.le_refl _) ST.out) ST.out.size).mono ?_
  rintro e w1 ⟨sv, rfl, so, s1⟩
  obtain ⟨As, cs, rfl, hs1, hs2, hs3⟩ := own_formB so
  have S1 := Lib.hid (Still.trans ST.out s1)
  have SO := Lib.hid so
  have R1 := Lib.hid ((HR.out.mono (Q := fun k => k < w.heap.size) (fun k _ hk => hk)).still S1.out)
  have HL : (chunks s b).length ≤ 65536 := by have := chunks_len s b; have := HBL.out; omega
  have I0 : Hid (SpMid w1 w1 s b A n c b (.slice none 0 0) [] [] w.heap.size) := ⟨R1.out, Grow.nil w1, by simp, by simp [HBL.out]⟩
  obtain ⟨M, hM⟩ : ∃ M, M = (chunks s b).length := ⟨_, rfl⟩
  rw [← hM] at SO HL ⊢
  have HM := Lib.hid hM
  clear s1 so HSZ ST hM R1 HR
  go_wp2_with fail
  go_loopw [1, 8, 22] (fun bv lv iv wr => ∃ A' n' c' rest v done xs, bv = .slice A' n' c' ∧ lv = v ∧ iv = .int .i64 (done.length : Nat) ∧ Hid (SpMid w1 wr s b A' n' c' rest v done xs w.heap.size)) (fun bv _ _ _ => match bv with | .slice _ k _ => k | _ => 0)
  case atStart => exact ⟨A, n, c, b, _, [], [], rfl, rfl, rfl, I0⟩
  case round =>
    clear I0
    obtain ⟨A', n', c', rest, v, done, xs, rfl, rfl, rfl, hin⟩ := hrel
    have hlen := hin.out.row.len
    by_cases hz : n' = 0
    · subst hz
      have e0 : rest = [] := List.eq_nil_of_length_eq_zero hlen
      have e1 := hin.out.eq
      rw [e0, chunks_nil, List.append_nil] at e1
      have z1 : ¬ ((done.length : Nat) : Int) < (M : Int) := by have := HM.out; rw [← e1] at this; omega
      have ho := hin.out.gr
      rw [e1] at ho
      have H4 := Lib.hid ho
      clear e0 e1 ho hin hlen
      go_wp2_with fail
      go_ret2
      exact ⟨_, rfl, xs, own_base H4.out.own S1.out.size, H4.out.rows.mono (fun k hk _ => ⟨Nat.le_trans S1.out.size hk.1, hk.2⟩), Still.trans S1.out H4.out.st⟩
    · have hne : rest ≠ [] := by
        intro e
        rw [e] at hlen
        simp at hlen
        omega
      have hp1 := nx_pos s rest [] hne
      have hp2 := nx_le s rest []
      have hcc := chunks_cons s rest hne
      obtain ⟨p, hp⟩ : ∃ p, p = (nx s [] rest).1 := ⟨_, rfl⟩
      rw [← hp] at hp1 hp2 hcc
      have hpn : p ≤ n' := by omega
      have heq := hin.out.eq
      rw [hcc] at heq
      have hM : done.length < M := by
        have := HM.out
        rw [← heq] at this
        simp at this
        omega
      have hget : (intsV (lens (chunks s b)))[done.length]? = some (.int .i64 (p : Nat)) := by
        rw [← heq, lens_get, List.length_take]
        rw [show min p rest.length = p by omega]
      obtain ⟨gs, rfl, hcell⟩ := own_at (still_own SO.out hin.out.gr.st) done.length hM _ hget
      have HPN := Lib.hid (And.intro hp1 hpn)
      have HEQ := Lib.hid heq
      have HLEN := Lib.hid hlen
      have hpc : p ≤ c' := Nat.le_trans hpn hin.out.row.fit
      have HC := Lib.hid (clone_any A' p c' (rest.take p) wr wr.heap.size (hin.out.row.takek hpn).reads (Nat.le_refl _) (by have := hin.out.len; have := HBL.out; omega) (fun e => by have := (hin.out.row.nil e).1; omega))
      have z1 : ((done.length : Nat) : Int) < (M : Int) := by omega
      have z2 : (0 : Int) ≤ (done.length : Int) := by omega
      have z3 : (p : Int) ≤ (n' : Int) := by omega
      have z4 : (0 : Int) ≤ (p : Int) := by omega
      have z5 : (p : Int) ≤ (c' : Int) := by omega
      have z6 : IntKind.i64.wrap ((done.length : Int) + 1) = (done.length : Int) + 1 := by rw [IntKind.wrap_i64]; omega
      have HMM := Lib.hid hM
      have HD : done.length < 1048576 := by omega
      obtain ⟨bb, o, rfl, _⟩ := hin.out.row.at_ (by omega)
      clear hne hp1 hp2 hcc hp hpn heq hlen hget hM hz
      go_wp2_with fail
      refine HC.out.mono ?_
      rintro e w3 ⟨⟨cv, rfl, co⟩, t3⟩
      obtain ⟨Ac, cc, rfl, hc1, hc2, hc3⟩ := own_form co
      have CR := Lib.hid ((RowP.of_own co).mono (Q := fun k => wr.heap.size ≤ k) (fun k hk _ => hk.1))
      have T3 := Lib.hid t3
      have G3 := Lib.hid (hin.out.gr.still t3)
      clear co t3 HC hcell hpc
      go_wp2_with ((first | (guard_target =~ wpList _ _ _ (Oper.mk (some 31) _ _ _ _ _ :: _) _ _; go_must (refine wpList_boxB _ rfl _ rfl _ _ _ rfl ?_)) | (guard_target =~ wpList _ _ _ (Oper.mk (some 32) _ _ _ _ _ :: _) _ _; go_must (refine wpList_oneB _ rfl _ _ rfl w1.heap.size _ _ _ rfl G3.out.own _ rfl rfl HD G3.out.st.size ?_)) | fail))
      intro v' w4 o4 g4 hv4
      have gr4 := hin.out.gr.push T3.out CR.out o4 g4 hv4
      have r4 : RowP w4 (fun k => k < w.heap.size) (some ⟨bb, o, none⟩) n' c' rest := (hin.out.row.still T3.out).keep (fun k hk hk2 => low_push G3.out.own g4 k (by have := S1.out.size; omega) hk2) g4.size
      have eq4 : (done ++ [rest.take p]) ++ chunks s (rest.drop p) = chunks s b := by
        rw [List.append_assoc, List.singleton_append]
        exact HEQ.out
      have len4 : (done ++ [rest.take p]).length + (n' - p) ≤ b.length := by
        have := hin.out.len
        have := HPN.out
        simp only [List.length_append, List.length_singleton]
        omega
      by_cases hck : c' = p
      · have hnp : n' = p := by have := r4.fit; have := HPN.out; omega
        have H5 : Hid (SpMid w1 w4 s b (some ⟨bb, o, none⟩) 0 0 (rest.drop p) v' (done ++ [rest.take p]) (xs ++ [.slice Ac p cc]) w.heap.size) := ⟨r4.endk (by omega), gr4, eq4, by omega⟩
        clear o4 g4 hv4 gr4 r4 eq4 len4 HD hin G3
        subst hnp
        subst hck
        go_wp2_with fail
        go_roundw
        case rel => exact ⟨_, 0, 0, _, v', _, _, rfl, rfl, by simp, H5⟩
        case measure => simp; have := HPN.out; omega
      · have H5 : Hid (SpMid w1 w4 s b (some ⟨bb, o + p, none⟩) (n' - p) (c' - p) (rest.drop p) v' (done ++ [rest.take p]) (xs ++ [.slice Ac p cc]) w.heap.size) := ⟨by have := r4.dropk HPN.out.2; simpa [Addr.add_lit] using this, gr4, eq4, len4⟩
        clear o4 g4 hv4 gr4 r4 eq4 len4 HD hin G3
        go_wp2_with fail
        go_roundw
        case rel => exact ⟨_, n' - p, c' - p, _, v', _, _, rfl, rfl, by simp, H5⟩
        case measure => simp; have := HPN.out; omega
end Go.Proofs.Ytjihnagoebhinaa
