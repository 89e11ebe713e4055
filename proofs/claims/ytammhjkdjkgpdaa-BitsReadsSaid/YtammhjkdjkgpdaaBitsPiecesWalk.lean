/- The walk of BitsPieces: it returns true, and nothing that was there turns. -/
import Derived.Test.YtammhjkdjkgpdaaRead
import Derived.Deep.RegionHeld3
namespace Go.Proofs.Ytammhjkdjkgpdaa
open Go.RowKit
set_option linter.unusedVariables false
set_option linter.unusedSimpArgs false

/-- Integers that came in. -/
theorem ints_of_row {w : World} {a : Option Addr} {len cap : Nat} {zs : List Int} (h : RowIn .i64 w a len cap zs) :
    len ≤ 9223372036854775807 ∧ (∀ i, i < len → ∃ b o y, a = some ⟨b, o, none⟩ ∧ b < w.heap.size ∧ w.cell? ⟨b, o + i, none⟩ = some (.int .i64 y)) := by
  rcases h with ⟨rfl, rfl, rfl, rfl⟩ | ⟨x, rfl, hl, hm, hz, hc, hw⟩
  · exact ⟨by omega, fun i hi => by omega⟩
  · unfold maxLen at hm
    refine ⟨by omega, fun i hi => ?_⟩
    obtain ⟨b, o, sp⟩ := x
    have h00 := hc 0 (by omega)
    have hsp : sp = none := by simpa [Addr.add] using World.cell?_spot h00
    subst hsp
    have h0 := hc i (by omega)
    rw [Addr.add_lit] at h0
    exact ⟨b, o, zs.getD i 0, rfl, by simpa using World.block_lt_of_cell? w _ h0, h0⟩

theorem bytes_ok {w : World} {lo B g : Nat} {l : List UInt8} (h : LiveAny w lo B g l 0) (k : Nat) (hk : k ≤ l.length) :
    Calls Try.prog 30 #[.pointer (some ⟨g, 0, none⟩), .int .i64 k] w fun e w' =>
      ∃ A1, e = .returned (.slice A1 k k) ∧ LiveAny w' lo B g (l.drop k) 0 ∧ Reads w' B A1 k (l.take k) ∧ (A1 = none → k = 0) ∧ w.grownBy w' (some g) := by
  refine (bytes_any h k).mono ?_
  rintro e w' ⟨A1, k', A', n', c', rfl, lv, _, rd, _, nn, gr⟩
  rw [rstep_ok l k false (by simp) hk] at lv rd
  have hkk : k' = k := by have := rd.1; simp only [List.length_take] at this; omega
  subst hkk
  exact ⟨A1, rfl, ⟨_, _, _, lv⟩, rd, nn, gr⟩
theorem LiveAny.drew {w : World} {lo B g : Nat} {l : List UInt8} {x : Int} (h : LiveAny w lo B g l x) : LiveAny w.drew lo B g l x := by
  obtain ⟨A, n, c, h⟩ := h
  exact ⟨A, n, c, h.blk, h.low, h.high, h.reads, h.mine, h.fit, h.cap, h.nil⟩
theorem left_any {w : World} {lo B g : Nat} {l : List UInt8} {x : Int} (h : LiveAny w lo B g l x) :
    Calls Try.prog 32 #[.pointer (some ⟨g, 0, none⟩)] w fun e w' => e = .returned (.int .i64 l.length) ∧ w = w' := by
  obtain ⟨A, n, c, h⟩ := h
  rw [h.reads.1]
  exact left_live h
theorem end_any {w : World} {lo B g : Nat} {l : List UInt8} {x : Int} (h : LiveAny w lo B g l x) :
    Calls Try.prog 34 #[.pointer (some ⟨g, 0, none⟩)] w fun e w' => e = .returned (.int .i64 (endOf l.length x)) ∧ w = w' := by
  obtain ⟨A, n, c, h⟩ := h
  rw [h.reads.1]
  exact end_live h
theorem err_any {w : World} {lo B g : Nat} {l : List UInt8} {x : Int} (h : LiveAny w lo B g l x) :
    Calls Try.prog 33 #[.pointer (some ⟨g, 0, none⟩)] w fun e w' => e = .returned (.int .i64 x) ∧ w = w' := by
  obtain ⟨A, n, c, h⟩ := h
  exact err_live h

/-- A reader stays where its blocks stay. -/
theorem LiveAny.kept {w w' : World} {lo B g : Nat} {l : List UInt8} {x : Int} (h : LiveAny w lo B g l x) (hk : ∀ k, k < B → w'.heap[k]? = w.heap[k]?) : LiveAny w' lo B g l x := by
  obtain ⟨A, n, c, h⟩ := h
  refine ⟨A, n, c, (hk g h.high).trans h.blk, h.low, h.high, h.reads.keep fun p hp => World.cell?_of_block (w := w) (hk p.block hp), ?_, h.fit, h.cap, h.nil⟩
  intro hn
  obtain ⟨b, o, e, hb, _⟩ := h.reads.2 hn
  obtain ⟨b', o', e', hlo, hf⟩ := h.mine hn
  rw [e] at e'
  simp only [Option.some.injEq, Addr.mk.injEq, and_true] at e'
  obtain ⟨rfl, rfl⟩ := e'
  exact ⟨b, o, e, hlo, fun i hi => (World.frozen?_of_block (w := w) (hk b hb)).trans (hf i hi)⟩
theorem quiet_flip {P : Program} {f : FuncId} {args : Array Value} {w : World} {v : Value} (h : Calls P f args w fun e w' => e = .returned v ∧ w = w') : Calls P f args w fun e w' => e = .returned v ∧ w' = w :=
  h.mono fun _ _ ⟨a, b⟩ => ⟨a, b.symm⟩
/-- What the call owns stays where a reader's block alone turns. -/
theorem own_grown {w w' : World} {base g n : Nat} {v : Value} {xs : List Value} (h : w.ownsRow base 5 1 v n xs) (hg : w.grownBy w' (some g)) (hgb : g < base) : w'.ownsRow base 5 1 v n xs := by
  refine h.kept hg ?_
  rcases hv : v.ownBlock with _ | k
  · exact .inl rfl
  · right
    intro e
    have := (h.lt k hv).1
    injection e with e
    omega

set_option maxRecDepth 100000 in
set_option maxHeartbeats 1600000 in
theorem bitsPieces_walk (A0 : Option Addr) (n0 c0 : Nat) (z0 : List Int) (A1 : Option Addr) (n1 c1 : Nat) (z1 : List Int) (w : World) (h0 : RowIn .u8 w A0 n0 c0 z0) (h1 : RowIn .i64 w A1 n1 c1 z1) :
    Calls Try.prog 9 #[.slice A0 n0 c0, .slice A1 n1 c1] w fun e w' => e = .returned (.bool true) ∧ Below w.heap.size w w' := by
  obtain ⟨l0, r0, hc0, hm0, hA0⟩ := reads_of_row h0
  obtain ⟨hn1, hz1⟩ := ints_of_row h1
  obtain ⟨n, l, rl, hn, hnc, hA, hcut⟩ : ∃ n l, Reads w w.heap.size A0 n l ∧ n ≤ 300 ∧ n ≤ c0 ∧ (A0 = none → n = 0 ∧ c0 = 0) ∧ Calls Try.prog 17 #[.slice A0 n0 c0, .int .i64 300] w fun e w' => e = .returned (.slice A0 n c0) ∧ w = w' :=
    ⟨_, _, r0.take 300, by omega, by omega, fun e => ⟨by have := (hA0 e).1; omega, (hA0 e).2⟩, cut_any A0 n0 c0 300 l0 w _ r0 hc0 hm0 (by omega)⟩
  have HC := Lib.hid hcut
  have HZ := Lib.hid hz1
  clear hcut h0 h1 r0 hA0 hm0 hz1
  go_enter Try.func9, Try.ntmps9
  go_wp2_with fail
  refine HC.out.mono ?_
  rintro e w1 ⟨rfl, rfl⟩
  go_wp2_with fail
  refine (open_any A0 n c0 l w _ rl (Nat.le_refl _) (by omega) hA).mono ?_
  rintro e w1 ⟨⟨g, A', c', rfl, lv⟩, s1⟩
  have lv0 : LiveAny w1 w.heap.size w1.heap.size g l 0 := ⟨_, _, _, lv⟩
  have hg : g < w1.heap.size := lv.high
  have hln : l.length = n := rl.1
  clear lv
  go_wp2_with fail
  go_loopw [6, 7] (fun v i wr => ∃ (k : Nat) (L1 L2 : List UInt8), i = .int .i64 k ∧ k ≤ n1 ∧ k ≤ 100 ∧ L1 ++ L2 = l ∧ wr.ownsRow w1.heap.size 5 1 v L1.length (bytesV L1) ∧ LiveAny wr w.heap.size w1.heap.size g L2 0 ∧ Still w wr ∧ w1.heap.size ≤ wr.heap.size) (fun _ i _ => 100 - (intOf i).toNat)
  case atStart => exact ⟨0, [], l, rfl, by omega, by omega, rfl, World.ownsRow_nil _ _ _ _, lv0, s1, Nat.le_refl _⟩
  case round =>
    obtain ⟨k, L1, L2, rfl, hk1, hk2, hL, own, lv, st, hz⟩ := hrel
    by_cases hlt : k < n1 ∧ k < 100
    · obtain ⟨g1, g2⟩ := hlt
      obtain ⟨b, o, y, rfl, hb, hcell⟩ := HZ.out k g1
      have hcell1 : wr.cell? ⟨b, o + k, none⟩ = some (.int .i64 y) := (st.cell (p := ⟨b, o + k, none⟩) hb).trans hcell
      have hsz := s1.size
      have hbg : b ≠ g := by obtain ⟨A2, n2, c2, lvx⟩ := lv; have := lvx.low; omega
      have lvd := lv.drew
      have hl12 : L1.length + L2.length = n := by rw [← List.length_append, hL]; exact hln
      have h300 : L1.length + L2.length ≤ 300 := by omega
      have hgB : g < w1.heap.size := hg
      have HL := Lib.hid hL
      clear hcell hL hl12 lv
      go_wp2_with fail
      go_region_held3 (fun w' => w'.cell? ⟨b, o + k, none⟩ = some (.int .i64 y)) (first | go_keep | assumption)
        (first
          | (go_at_call 32; refine (left_any lvd).mono ?_; rintro e w2 ⟨rfl, rfl⟩)
          | (go_at_call 36; refine (within_any y 0 L2.length _ (by omega)).mono ?_; rintro e w2 ⟨⟨q, hq1, hq2, rfl⟩, rfl⟩; obtain ⟨q, rfl⟩ := Int.eq_ofNat_of_zero_le hq1)
          | (go_at_call 30; refine (bytes_ok lvd q (by omega)).mono ?_; rintro e w2 ⟨A1, rfl, lv2, rd2, nn2, gr2⟩; have hs2 : wr.heap.size ≤ w2.heap.size := gr2.size; have hcell2 : w2.cell? ⟨b, o + k, none⟩ = some (.int .i64 y) := (gr2.cell_far ⟨b, o + k, none⟩ (by simp; omega) (fun e => hbg (by injection e))).trans hcell1)
          | (refine step_adds w2 (by rfl) (.tmp 22) (.tmp 31) (by rfl) w1.heap.size _ L1.length L1 (by rfl) (own_grown own.drew gr2 hgB) A1 q q w1.heap.size (L2.take q) (by rfl) rd2 nn2 (by omega) (Nat.le_trans hz gr2.size) ?_; intro v' w3 own3 gr3 _; have hcell3 : w3.cell? ⟨b, o + k, none⟩ = some (.int .i64 y) := (gr3.cell_far ⟨b, o + k, none⟩ (by simp; omega) (fun e => by have := (own.lt _ e.symm).1; simp at this; omega)).trans hcell2))
      have lv3 : LiveAny w3 w.heap.size w1.heap.size g (L2.drop q) 0 := lv2.kept fun j hj => gr3.block j (by omega) (fun e => by have := (own.lt _ e.symm).1; omega)
      have st3 : Still w w3 := by
        refine ⟨gr3.os.trans (gr2.os.trans st.os), gr3.tape.trans (gr2.tape.trans st.tape), gr3.output.trans (gr2.output.trans st.output), by have := gr3.size; have := st.size; omega, fun j hj => ?_⟩
        have e1 := gr3.block j (by omega) (fun e => by have := (own.lt _ e.symm).1; omega)
        have e2 := gr2.block j (show j < wr.heap.size by omega) (fun e => by injection e with e; obtain ⟨_, _, _, q⟩ := lvd; have := q.low; omega)
        exact e1.trans (e2.trans (st.block j hj))
      have hz3 : w1.heap.size ≤ w3.heap.size := by have := gr3.size; omega
      have own3' : w3.ownsRow w1.heap.size 5 1 v' (L1 ++ L2.take q).length (bytesV (L1 ++ L2.take q)) := by
        rw [List.length_append, List.length_take, show min q L2.length = q by omega]
        exact own3
      have hL3 : (L1 ++ L2.take q) ++ L2.drop q = l := by rw [List.append_assoc, List.take_append_drop]; exact HL.out
      have H3 := Lib.hid hL3
      clear own3 gr3 gr2 rd2 nn2 lv2 own lvd hcell1 hcell2 hcell3 hL3
      go_wp2_with fail
      go_roundw
      case rel => exact ⟨k + 1, L1 ++ L2.take q, L2.drop q, by go_num, by omega, by omega, H3.out, own3', lv3, st3, hz3⟩
      case measure => simp [intOf]; omega
    · have hl12 : L1.length + L2.length = n := by rw [← List.length_append, hL]; exact hln
      have hb1 : L1.length + L2.length ≤ 300 := by omega
      have rlr := rl.still (Nat.le_refl _) st
      have HL := Lib.hid hL
      have hn300 : n ≤ 300 := hn
      have H12 := Lib.hid hl12
      have key : (k < n1 ∧ decide ((k : Int) < 100) = false) ∨ ¬ k < n1 := by
        by_cases c1 : k < n1
        · exact .inl ⟨c1, by simp; omega⟩
        · exact .inr c1
      have hsw : w.heap.size ≤ w1.heap.size := s1.size
      have hg0 : w.heap.size ≤ g := by obtain ⟨_, _, _, q⟩ := lv; exact q.low
      clear hL hl12 lv0 HZ HC hnc hn hlt
      rcases key with ⟨c1, c2⟩ | c1
      all_goals
        go_wp2_with fail
        refine (left_any lv).mono ?_
        rintro e w2 ⟨rfl, rfl⟩
        go_wp2_with fail
        refine (bytes_ok lv L2.length (Nat.le_refl _)).mono ?_
        rintro e w2 ⟨A1', rfl, lv2, rd2, nn2, gr2⟩
        rw [List.take_length] at rd2
        rw [List.drop_length] at lv2
        have hs2 : wr.heap.size ≤ w2.heap.size := gr2.size
        have own2 := own_grown own gr2 hg
        go_wp2_with (at_builtin; go_must (refine wpList_adds _ rfl _ _ rfl w1.heap.size _ L1.length L1 rfl own2 A1' L2.length L2.length w1.heap.size L2 rfl rd2 nn2 (by omega) (Nat.le_trans hz gr2.size) ?_))
        intro v' w3 own3 gr3 _
        have hs3 : w2.heap.size ≤ w3.heap.size := gr3.size
        have lv3 : LiveAny w3 w.heap.size w1.heap.size g [] 0 := lv2.kept fun j hj => gr3.block j (by omega) (fun e => by have := (own.lt _ e.symm).1; omega)
        have st3 : Still w w3 := by
          refine ⟨gr3.os.trans (gr2.os.trans st.os), gr3.tape.trans (gr2.tape.trans st.tape), gr3.output.trans (gr2.output.trans st.output), by omega, fun j hj => ?_⟩
          have e1 := gr3.block j (by omega) (fun e => by have := (own.lt _ e.symm).1; omega)
          have e2 := gr2.block j (by omega) (fun e => by injection e with e; omega)
          exact e1.trans (e2.trans (st.block j hj))
        have rl3 := rl.still (Nat.le_refl _) st3
        rw [HL.out, H12.out] at own3
        obtain ⟨A3, c3, rfl, f1, f2, f3⟩ := own_form own3
        have q3 := Reads.of_own own3
        clear own3 gr3 gr2 rd2 nn2 lv2 own own2 lv rlr
        go_wp2_with fail
        refine (same_yes A3 A0 n c3 c0 l w3 _ _ q3 rl3 (by omega)).mono ?_
        rintro e w4 ⟨rfl, s4⟩
        have lv4 : LiveAny w4 w.heap.size w1.heap.size g [] 0 := lv3.kept fun j hj => s4.block j (by omega)
        clear lv3 q3 rl3
        go_wp2_with fail
        refine (end_any lv4).mono ?_
        rintro e w5 ⟨rfl, rfl⟩
        rw [show endOf ([] : List UInt8).length 0 = 0 from rfl]
        go_wp2_with fail
        refine (left_any lv4).mono ?_
        rintro e w5 ⟨rfl, rfl⟩
        go_wp2_with fail
        refine (lives_yes w4).mono ?_
        rintro e w5 ⟨rfl, s5⟩
        go_wp2_with fail
        go_ret
        exact ⟨rfl, st3.trans (s4.trans s5)⟩
end Go.Proofs.Ytammhjkdjkgpdaa
