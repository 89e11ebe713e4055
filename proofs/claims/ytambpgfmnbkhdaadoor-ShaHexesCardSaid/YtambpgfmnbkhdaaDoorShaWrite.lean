/- Contract: what Write does to a hasher that New made. It proves no statement. -/
import Derived.Test.YtambpgfmnbkhdaaDoorShaSmall
import Derived.Test.YtambpgfmnbkhdaaDoorFar
import Derived.Deep.LoopGhost
import Derived.Deep.RegionLaw
namespace Go.Proofs.YtambpgfmnbkhdaaDoor
open Go.RowKit
set_option linter.unusedVariables false
set_option linter.unusedSimpArgs false

def RestF (w : World) (g B n : Nat) (l : List UInt8) (v : Value) : Prop := ∃ A c, v = .slice A n c ∧ Reads w B A n l ∧ n ≤ c ∧ c ≤ 9223372036854775807 ∧ Far g A n
theorem RestF.grown {w w' : World} {B g n : Nat} {v : Value} {l : List UInt8} (h : RestF w g B n l v) (hg : w.grownBy w' (some g)) : RestF w' g B n l v := by
  obtain ⟨A, c, e, hr, h1, h2, h3⟩ := h
  exact ⟨A, c, e, hr.grown h3 hg, h1, h2, h3⟩
theorem restF_end {w : World} {g B k : Nat} {A : Option Addr} {l : List UInt8} (hl : l.length = k) : RestF w g B 0 (l.drop k) (.slice A 0 0) := by
  refine ⟨A, 0, rfl, ?_, Nat.le_refl _, by omega, fun _ _ h => by omega⟩
  rw [List.drop_of_length_le (by omega)]
  exact Reads.nil0
theorem restF_drop {w : World} {g B n c k b o : Nat} {l : List UInt8} (h : Reads w B (some ⟨b, o, none⟩) n l) (hk : k ≤ n) (hc : n ≤ c) (hm : c ≤ 9223372036854775807) (hf : Far g (some ⟨b, o, none⟩) n) :
    RestF w g B (n - k) (l.drop k) (.slice (some ⟨b, o + k, none⟩) (n - k) (c - k)) := by
  have r := h.dropk hk
  simp only [Option.map_some, Addr.add_lit] at r
  exact ⟨_, _, rfl, r, by omega, by omega, fun ad e hn => by cases e; exact hf ⟨b, o, none⟩ rfl (by omega)⟩
/-- 'copy(h.rest[off:], b)'. -/
theorem wpList_copy_rest {w : World} {ops : Array Oper} {rest : List Oper} {o : Oper} {a : Act} {Q : Exit → Act → World → Prop} (hgd : o.guard = none) (d s : Operand)
    (ho : o.op = .call { callee := .builtin .copy, args := #[d, s], argTypes := #[22, 22] }) (g size off dCap : Nat) (st : S8) (R : List UInt8) (hb : HB w g st R size) (hoff : off ≤ 64)
    (hd : a.eval d = .slice (some ⟨g, 8 + off, none⟩) (64 - off) dCap) (A : Option Addr) (n c B : Nat) (l : List UInt8) (hs : a.eval s = .slice A n c) (hr : Reads w B A n l) (k : Nat) (hk : k = min n (64 - off))
    (h : ∀ w', HB w' g st (R.take off ++ (l.take k ++ R.drop (off + k))) size → w.grownBy w' (some g) → wpList Tryd.prog ops Q rest (a.put o.dst (.int .i64 (k : Int))) w') : wpList Tryd.prog ops Q (o :: rest) a w := by
  have hsz := sizeByte
  have hlk : (l.take k).length = k := by rw [List.length_take, hr.1]; omega
  have hR := hb.len
  by_cases h0 : k = 0
  · subst h0
    refine wpList_copy_nothing hgd d s _ _ ho 5 Tryd.underlying22 hsz _ _ _ _ _ _ hd hs (by show min n (64 - off) = 0; omega) (h w ?_ (World.grownBy.refl _ _))
    rw [List.take_zero, List.nil_append, Nat.add_zero, List.take_append_drop]
    exact hb
  · obtain ⟨b, o', rfl, hbb, hc⟩ := hr.at_ (by omega)
    refine wpList_copy_own hgd d s _ _ ho 5 Tryd.underlying22 hsz g (8 + off) _ _ ⟨b, o', none⟩ n c hd hs _ _ hb.blk (bytesV (l.take k)) (by rw [bytesV_length, hlk]; exact hk) ?_ ?_ (bytesV_one _) ?_
    · intro j u hu
      exact (hr.takek (k := k) (by omega)).news _ rfl (by omega) j u hu
    · rw [bytesV_length, hlk]
      simp only [List.size_toArray, hcells_length _ _ _ hR]
      omega
    · have e : (List.take (8 + off) (hcells st R size) ++ (bytesV (l.take k) ++ List.drop (8 + off + (bytesV (l.take k)).length) (hcells st R size))) = hcells st (R.take off ++ (l.take k ++ R.drop (off + k))) size := by
        have := hcells_splice (s := st) (size := size) hR off (l.take k) (by rw [hlk]; omega)
        rw [hlk] at this
        exact this
      have eg : goInt ((bytesV (l.take k)).length : Int) = Value.int .i64 (k : Int) := by rw [bytesV_length, hlk]; rfl
      have el : (hcells st R size).toArray.toList = hcells st R size := by simp
      rw [eg, el, e]
      refine h _ ⟨?_, ?_⟩ ?_
      · exact setRow_heap w g _ _ _ _ hb.blk
      · simp [hlk, hR]; omega
      · exact ⟨rfl, rfl, rfl, by simp [World.setRow], fun j _ hj => setRow_other w g j _ (fun e => hj (by rw [e]))⟩
/-- A new state laid over the old one. -/
theorem heap_setCells_row (g : Nat) (t : TypeId) : ∀ (vs : List Value) (o : Nat) (cs : List Value) (w : World), w.heap[g]? = some (.cells cs.toArray t (0, 0)) →
    (w.setCells g o vs).heap[g]? = some (.cells ((vs.zipIdx o).foldl (fun cs x => cs.set x.2 x.1) cs).toArray t (0, 0))
  | [], _, _, _, h => h
  | v :: r, o, cs, w, h => by
    rw [World.setCells]
    have h1 := heap_setCell_same w g o _ _ v h
    rw [List.setIfInBounds_toArray] at h1
    exact heap_setCells_row g t r (o + 1) _ _ h1
theorem grown_setCells (g : Nat) : ∀ (vs : List Value) (o : Nat) (w : World), w.grownBy (w.setCells g o vs) (some g)
  | [], _, _ => World.grownBy.refl _ _
  | v :: r, o, w => (grownBy_set w g o v).trans (grown_setCells g r (o + 1) _)
theorem HB.setState {w : World} {g size : Nat} {s : S8} {R : List UInt8} (h : HB w g s R size) (t : S8) : HB (w.setCells g 0 (w32 t.list)) g t R size := by
  refine ⟨?_, h.len⟩
  rw [heap_setCells_row g _ (w32 t.list) 0 _ w h.blk]
  rfl
theorem HB.store {w : World} {g size : Nat} {s : S8} {R : List UInt8} (h : HB w g s R size) (t : S8) (arr : Array Value) (ha : arr = (w32 t.list).toArray) : (storeCells ⟨g, 0, none⟩ arr.toList 0).run Tryd.prog w = .ok () (w.setCells g 0 (w32 t.list)) := by
  subst ha
  have := run_storeCells_cells (P := Tryd.prog) g 0 (w32 t.list) 0 w (fun j hj => by
    have h8 : j < 8 := by rw [w32_length, S8.list_length] at hj; exact hj
    simp [h.statec j h8]) (fun j hj => by simpa using h.frozen j) (w32_one _)
  simpa using this
/-- The table lies elsewhere. -/
theorem Tabs.grown {w w' : World} {g size : Nat} {s : S8} {R : List UInt8} (T : Tabs w) (h : HB w g s R size) (hg : w.grownBy w' (some g)) : Tabs w' := fun i hi => by
  have hne : (0 : Nat) ≠ g := by
    intro e
    have h1 := T 8 (by omega)
    rw [e, h.byte 0 (by omega)] at h1
    injection h1 with h1
    injection h1 with h1 h2
    cases h1
  exact (hg.cell_far ⟨_, i, none⟩ (block_lt_of_cell (T i hi)) (fun e => hne (Option.some.inj e))).trans (T i hi)
/-- One block more. -/
theorem shRun_block (l x blk : List UInt8) (q : Nat) (hq : 64 * q ≤ l.length) (hb : (l ++ x).drop (64 * q) = blk) (h64 : blk.length = 64) : blkN (shRun sh0 l q) blk = shRun sh0 (l ++ x) (q + 1) := by
  show _ = blkN (shRun sh0 (l ++ x) q) (((l ++ x).drop (64 * q)).take 64)
  rw [shRun_append _ _ _ _ hq, hb, List.take_of_length_le (by omega)]

theorem had_end {w : World} {g gk q1 kp1 mn : Nat} {tt t1 b1 R1 : List UInt8} (ht : tt = t1 ++ b1) (hl : t1.length = 64 * q1 + kp1) (hn : b1.length = gk) (h64 : kp1 + gk < 64) (hR : R1.take kp1 = t1.drop (64 * q1)) (hmn : tt.length = mn) (hb2 : mn ≤ 70368744177664)
    (hb : HB w g (shRun sh0 t1 q1) (R1.take kp1 ++ (b1.take gk ++ R1.drop (kp1 + gk))) mn) : Had w g tt := by
  have htl : tt.length = 64 * q1 + (kp1 + gk) := by rw [ht, List.length_append, hl, hn]; omega
  have hq : tt.length / 64 = q1 := by omega
  have hk : tt.length % 64 = kp1 + gk := by omega
  refine ⟨R1.take kp1 ++ (b1.take gk ++ R1.drop (kp1 + gk)), ?_, ?_, by omega⟩
  · rw [hq, hmn, ht, shRun_append _ _ _ _ (by omega)]
    exact hb
  · have e1 : b1.take gk = b1 := List.take_of_length_le (by omega)
    have e2 : (t1.drop (64 * q1)).length = kp1 := by rw [List.length_drop, hl]; omega
    rw [hk, hq, ht, List.drop_append_of_le_length (by omega), hR, e1, ← List.append_assoc, List.take_left' (by rw [List.length_append, e2, hn])]

set_option maxRecDepth 100000 in
set_option maxHeartbeats 1600000 in
theorem write_any (g : Nat) (l b : List UInt8) (A : Option Addr) (n c : Nat) (w : World) (B : Nat) (T : Tabs w) (h : Had w g l) (hr : Reads w B A n b) (hc : n ≤ c) (hm : c ≤ 9223372036854775807) (hf : Far g A n) (hlen : l.length + n ≤ 70368744177664) :
    Calls Tryd.prog 17 #[.pointer (some ⟨g, 0, none⟩), .slice A n c] w fun e w' => e = .returned (.tuple #[]) ∧ Had w' g (l ++ b) ∧ w.grownBy w' (some g) := by
  obtain ⟨R, hb, hR, hll⟩ := h
  obtain ⟨m, hm'⟩ : ∃ m, m = l.length := ⟨_, rfl⟩
  obtain ⟨q, hq⟩ : ∃ q, q = l.length / 64 := ⟨_, rfl⟩
  obtain ⟨kp, hkp⟩ : ∃ k, k = l.length % 64 := ⟨_, rfl⟩
  have hl : l.length = 64 * q + kp := by omega
  have hk64 : kp < 64 := by omega
  rw [← hq, ← hm'] at hb
  rw [← hkp, ← hq] at hR
  obtain ⟨mn, hmn⟩ : ∃ mn, mn = m + n := ⟨_, rfl⟩
  have htl : (l ++ b).length = mn := by rw [List.length_append, hr.1, hmn, hm']
  have hmn2 : mn ≤ 70368744177664 := by omega
  obtain ⟨tt, htt⟩ : ∃ tt, tt = l ++ b := ⟨_, rfl⟩
  rw [← htt] at htl ⊢
  have WK := Lib.hid (works_yes g _ _ R w hb)
  have cz := hb.sizec
  have fz := hb.frozen 72
  have e1 : (m : Int) % 64 = (kp : Int) := by omega
  have e2 : (0 : Int) ≤ (m : Int) := by omega
  have e3 : (m : Int) + (n : Int) = (mn : Int) := by omega
  have e4 : IntKind.i64.wrap (mn : Int) = (mn : Int) := by rw [IntKind.wrap_i64]; omega
  have hb1 := hb.setSize mn
  have gr1 := grownBy_set w g 72 (.int .i64 (mn : Int))
  have hr1 : Reads (w.setCell ⟨g, 72, none⟩ (.int .i64 (mn : Int))) B A n b := hr.grown hf gr1
  have T1 := Tabs.grown T hb gr1
  have HL := Lib.hid hl
  have HR := Lib.hid hR
  have HTT := Lib.hid htt
  have HTL := Lib.hid htl
  have HFAR := Lib.hid hf
  clear hb hm' hq hkp hl hR hmn htl htt hll hr hf T
  go_enter Tryd.func17, Tryd.ntmps17
  go_wp2_with (go_at_call 31; refine WK.out.mono ?_; rintro e w1 ⟨rfl, rfl⟩)
  have E1 := Lib.hid e1
  clear cz fz e1 e2 e3 e4 WK
  generalize w.setCell ⟨g, 72, none⟩ (.int .i64 (mn : Int)) = w1 at *
  have HB1 := Lib.hid hb1
  have GR1 := Lib.hid gr1
  have HR1 := Lib.hid hr1
  have T1 := Lib.hid T1
  clear hb1 gr1 hr1
  go_loopg [1, 4, 5] n (fun gk bv kv nv wr => ∃ (t1 b1 R1 : List UInt8) (kp1 q1 B1 : Nat), tt = t1 ++ b1 ∧ t1.length = 64 * q1 + kp1 ∧ kp1 < 64 ∧ HB wr g (shRun sh0 t1 q1) R1 mn ∧ R1.take kp1 = t1.drop (64 * q1) ∧ kv = .int .i64 kp1 ∧ RestF wr g B1 gk b1 bv ∧ w.grownBy wr (some g) ∧ Tabs wr)
  case atStart => exact ⟨l, b, R, kp, q, B, HTT.out, HL.out, hk64, HB1.out, HR.out, congrArg (Value.int .i64) E1.out, ⟨A, c, rfl, HR1.out, hc, hm, HFAR.out⟩, GR1.out, T1.out⟩
  case round =>
    obtain ⟨t1, b1, R1, kp1, q1, B1, ht1, hl1, hk1, hb, hR1, rfl, ⟨A1, c1, rfl, hr1, hc1, hm1, hf1⟩, gr, TT⟩ := hrel
    have hbl : b1.length = gk := hr1.1
    obtain ⟨sm, hsm⟩ : ∃ sm, sm = kp1 + gk := ⟨_, rfl⟩
    have hgk : gk ≤ mn := by
      have := HTL.out
      rw [ht1, List.length_append] at this
      omega
    have e1 : (kp1 : Int) + (gk : Int) = (sm : Int) := by omega
    have e2 : IntKind.i64.wrap (sm : Int) = (sm : Int) := by rw [IntKind.wrap_i64]; omega
    have z1 : (0 : Int) ≤ (kp1 : Int) := by omega
    have z2 : (kp1 : Int) ≤ 64 := by omega
    have z3 : ¬ 64 = kp1 := by omega
    by_cases h64 : 64 ≤ sm
    · have z4 : (64 : Int) ≤ (sm : Int) := by omega
      obtain ⟨bb, o, rfl, hbb, hcc⟩ := hr1.at_ (by omega)
      clear hcc
      obtain ⟨k, hk⟩ : ∃ k, k = 64 - kp1 := ⟨_, rfl⟩
      have hkg : k ≤ gk := by omega
      have HT1 := Lib.hid ht1
      have HL1 := Lib.hid hl1
      have HBB := Lib.hid hb
      have HRR := Lib.hid hr1
      have HR1' := Lib.hid hR1
      have HF1 := Lib.hid hf1
      have GR := Lib.hid gr
      have HT := Lib.hid TT
      have HK := Lib.hid hk
      have HS := Lib.hid hsm
      have HBL := Lib.hid hbl
      clear ht1 hl1 hb hr1 hR1 hf1 gr TT hsm hbl
      go_upto_region 5 with (guard_target =~ wpList _ _ _ (Oper.mk (some 34) _ _ _ _ _ :: _) _ _; refine wpList_copy_rest rfl (.tmp 32) (.tmp 33) rfl g mn kp1 (64 - kp1) _ R1 HBB.out (by omega) rfl (some ⟨bb, o, none⟩) gk c1 B1 b1 rfl HRR.out k (by omega) ?_; intro w3 hb3 gr3)
      have T3 := Tabs.grown HT.out HBB.out gr3
      have rf3 : RestF w3 g B1 gk b1 (.slice (some ⟨bb, o, none⟩) gk c1) := RestF.grown ⟨_, _, rfl, HRR.out, hc1, hm1, HF1.out⟩ gr3
      have gr4 := GR.out.trans gr3
      obtain ⟨R3, hR3⟩ : ∃ R3, R3 = R1.take kp1 ++ (b1.take k ++ R1.drop (kp1 + k)) := ⟨_, rfl⟩
      rw [← hR3] at hb3
      have hR3l := hb3.len
      have hR3b : (t1 ++ b1.take k).drop (64 * q1) = R3 := by
        have e2 : kp1 + k = 64 := by omega
        have hRl : R1.length = 64 := HBB.out.len
        rw [hR3, e2, List.drop_of_length_le (show R1.length ≤ 64 by omega), List.append_nil, HR1'.out, List.drop_append_of_le_length (by have := HL1.out; omega)]
      have hbt : (b1.take k).length = k := by rw [List.length_take, HBL.out]; omega
      have hl3 : (t1 ++ b1.take k).length = 64 * (q1 + 1) + 0 := by rw [List.length_append, hbt, HL1.out]; omega
      have ht3 : tt = (t1 ++ b1.take k) ++ b1.drop k := by rw [List.append_assoc, List.take_append_drop]; exact HT1.out
      have hblk := shRun_block t1 (b1.take k) R3 q1 (by have := HL1.out; omega) hR3b hR3l
      obtain ⟨S1, hS1⟩ : ∃ S, S = shRun sh0 t1 q1 := ⟨_, rfl⟩
      rw [← hS1] at hb3 hblk
      have hS1f : S1.Fit := by rw [hS1]; exact shRun_fit sh0_fit _ _
      have BHV := fun w T => behind_any S1 R3 w T hS1f hR3l
      rw [hblk] at BHV
      obtain ⟨arrN, hArrN⟩ : ∃ a, a = (w32 (shRun sh0 (t1 ++ b1.take k) (q1 + 1)).list).toArray := ⟨_, rfl⟩
      obtain ⟨bl, hbl⟩ : ∃ a, a = bytesV R3 := ⟨_, rfl⟩
      rw [← hArrN, ← hbl] at BHV
      obtain ⟨sl, hsl⟩ : ∃ a, a = w32 S1.list := ⟨_, rfl⟩
      have r0 : w3.drew.rangeAt g 0 sl := by
        rw [hsl, World.rangeAt_drew]
        intro j v hv
        have hj : j < 8 := by have := (List.getElem?_eq_some_iff.1 hv).1; rwa [w32_length, S8.list_length] at this
        rw [Nat.zero_add, hb3.statec j hj, ← hv, w32_get _ _ (by rw [S8.list_length]; exact hj)]
      have r8 : w3.drew.rangeAt g 8 bl := by
        rw [hbl, World.rangeAt_drew]
        exact hb3.range
      have hi0 : (Tryd.prog.info? 48).map (·.size) = some sl.length := by rw [hsl]; exact sizeState
      have hi8 : (Tryd.prog.info? 49).map (·.size) = some bl.length := by rw [hbl, bytesV_length, hR3l]; exact sizeBlock
      have hiN : (Tryd.prog.info? 48).map (·.size) = some arrN.size := by rw [hArrN]; exact sizeState
      have h1N : arrN.all (·.oneCell') = true := by rw [hArrN]; exact w32_all _
      have hNl : arrN.toList = w32 (shRun sh0 (t1 ++ b1.take k) (q1 + 1)).list := by rw [hArrN]
      have hN8 : arrN.size = 8 := by rw [hArrN]; simp [w32_length, S8.list_length]
      rw [← hsl] at BHV
      have HB3 := Lib.hid hb3
      have T3h := Lib.hid T3
      have RF3 := Lib.hid rf3
      have GR4 := Lib.hid gr4
      have BH := Lib.hid BHV
      have HNL := Lib.hid hNl
      have R0 := Lib.hid r0
      have R8 := Lib.hid r8
      have HI0 := Lib.hid hi0
      have HI8 := Lib.hid hi8
      have HIN := Lib.hid hiN
      have H1N := Lib.hid h1N
      have HN8 := Lib.hid hN8
      have HL3 := Lib.hid hl3
      have HT3 := Lib.hid ht3
      clear hb3 T3 rf3 gr4 gr3 hR3 hR3l hR3b hbt hl3 ht3 hblk hS1 hS1f BHV hArrN hbl hsl r0 r8 hi0 hi8 hiN h1N hNl hN8
      refine wp_region_any (by kernel_rfl) ?_
      change wpAny _ _ _ _ _ _ _ (World.drew _)
      refine wpAny_take (i := 0) (oi := ⟨some 35, .move (.tmp 0), _, _, _, none⟩) (v := ?_) rfl (by kernel_rfl) (by kernel_rfl) (by kernel_rfl) (fun _ _ _ h => h) (Or.inl ⟨by rfl, ?_⟩) ?_
      rotate_left
      · (intro w; go_simp; try with_reducible rfl)
      simp only [Act.put, List.setIfInBounds_toArray, List.set_cons_zero, List.set_cons_succ]
      refine wpAny_take (i := 1) (oi := ⟨some 36, .move (.tmp 0), _, _, _, none⟩) (v := ?_) rfl (by kernel_rfl) (by kernel_rfl) (by kernel_rfl) (fun _ _ _ h => h) (Or.inl ⟨by rfl, ?_⟩) ?_
      rotate_left
      · (intro w; go_simp; try with_reducible rfl)
      simp only [Act.put, List.setIfInBounds_toArray, List.set_cons_zero, List.set_cons_succ]
      refine wpAny_take (i := 2) (oi := ⟨some 37, .nilCheck (.tmp 36), _, _, _, none⟩) (v := ?_) rfl (by kernel_rfl) (by kernel_rfl) (by kernel_rfl) (fun _ _ _ h => h) (Or.inl ⟨by rfl, ?_⟩) ?_
      rotate_left
      · (intro w; go_simp; try with_reducible rfl)
      simp only [Act.put, List.setIfInBounds_toArray, List.set_cons_zero, List.set_cons_succ]
      refine wpAny_take (i := 3) (oi := ⟨some 38, .fieldAddr 51 (.tmp 37) 0, _, _, _, none⟩) (v := ?_) rfl (by kernel_rfl) (by kernel_rfl) (by kernel_rfl) (fun _ _ _ h => h) (Or.inl ⟨by rfl, ?_⟩) ?_
      rotate_left
      · (intro w; go_simp; try with_reducible rfl)
      simp only [Act.put, List.setIfInBounds_toArray, List.set_cons_zero, List.set_cons_succ]
      refine wpAny_take (i := 5) (oi := ⟨some 40, .move (.tmp 0), _, _, _, none⟩) (v := ?_) rfl (by kernel_rfl) (by kernel_rfl) (by kernel_rfl) (fun _ _ _ h => h) (Or.inl ⟨by rfl, ?_⟩) ?_
      rotate_left
      · (intro w; go_simp; try with_reducible rfl)
      simp only [Act.put, List.setIfInBounds_toArray, List.set_cons_zero, List.set_cons_succ]
      refine wpAny_take (i := 6) (oi := ⟨some 41, .nilCheck (.tmp 40), _, _, _, none⟩) (v := ?_) rfl (by kernel_rfl) (by kernel_rfl) (by kernel_rfl) (fun _ _ _ h => h) (Or.inl ⟨by rfl, ?_⟩) ?_
      rotate_left
      · (intro w; go_simp; try with_reducible rfl)
      simp only [Act.put, List.setIfInBounds_toArray, List.set_cons_zero, List.set_cons_succ]
      refine wpAny_take (i := 7) (oi := ⟨some 42, .fieldAddr 51 (.tmp 41) 1, _, _, _, none⟩) (v := ?_) rfl (by kernel_rfl) (by kernel_rfl) (by kernel_rfl) (fun _ _ _ h => h) (Or.inl ⟨by rfl, ?_⟩) ?_
      rotate_left
      · (intro w; go_simp; try with_reducible rfl)
      simp only [Act.put, List.setIfInBounds_toArray, List.set_cons_zero, List.set_cons_succ]
      refine wpAny_ready (rs := [4, 8]) (by kernel_rfl) (by simp) ?_
      refine AllReady.cons (o := ⟨some 39, .load 48 (.tmp 38), _, _, _, none⟩) rfl (fun K hK => ?_) ?_
      · rw [if_pos (by rfl)]
        refine' wp_load_mid _ _ rfl _ _ rfl sl _ ?hc1 ?hu1 ?hd1 ?hi1 ?rest1
        case hc1 => exact R0.out
        case hu1 => exact underState
        case hd1 => rfl
        case hi1 => exact HI0.out
        refine hK _ _ ?_
        clear hK K
        simp only [Act.put, List.setIfInBounds_toArray, List.set_cons_zero, List.set_cons_succ]
        refine wpAny_ready (rs := [8]) (by kernel_rfl) (by simp) ?_
        refine AllReady.cons (o := ⟨some 43, .load 49 (.tmp 42), _, _, _, none⟩) rfl (fun K hK => ?_) ?_
        · rw [if_pos (by rfl)]
          refine' wp_load_mid _ _ rfl _ _ rfl bl _ ?hc2 ?hu2 ?hd2 ?hi2 ?rest2
          case hc2 => exact R8.out
          case hu2 => exact underBlock
          case hd2 => rfl
          case hi2 => exact HI8.out
          refine hK _ _ ?_
          clear hK K
          simp only [Act.put, List.setIfInBounds_toArray, List.set_cons_zero, List.set_cons_succ]
          refine wpAny_ready (rs := [9]) (by kernel_rfl) (by simp) ?_
          refine AllReady.cons (o := ⟨some 44, .call { callee := .value (.func 32), args := #[.tmp 39, .tmp 43], argTypes := #[48, 49] }, _, _, _, none⟩) rfl (fun K hK => ?_) AllReady.nil
          go_simp
          refine (BH.out _ (T3h.out.still ((Still.refl _).drew))).mono ?_
          rintro e w4 ⟨rfl, s4⟩
          have s34 : Still w3 w4 := Still.trans (show Still w3 w3.drew from (Still.refl w3).drew) s4
          refine hK _ _ ?_
          clear hK K
          refine wpAny_take (i := 10) (oi := ⟨some 45, .nilCheck (.tmp 35), _, _, _, none⟩) (v := ?_) rfl (by kernel_rfl) (by kernel_rfl) (by kernel_rfl) (fun _ _ _ h => h) (Or.inl ⟨by rfl, ?_⟩) ?_
          rotate_left
          · (intro w; go_simp; try with_reducible rfl)
          simp only [Act.put, List.setIfInBounds_toArray, List.set_cons_zero, List.set_cons_succ]
          refine wpAny_take (i := 11) (oi := ⟨some 46, .fieldAddr 51 (.tmp 45) 0, _, _, _, none⟩) (v := ?_) rfl (by kernel_rfl) (by kernel_rfl) (by kernel_rfl) (fun _ _ _ h => h) (Or.inl ⟨by rfl, ?_⟩) ?_
          rotate_left
          · (intro w; go_simp; try with_reducible rfl)
          simp only [Act.put, List.setIfInBounds_toArray, List.set_cons_zero, List.set_cons_succ]
          have hb4 := HB3.out.still s34
          have hth : w4.there g 0 arrN.size := fun j hj => by
            rw [Nat.zero_add, hb4.statec j (by rw [← HN8.out]; exact hj)]
            exact ⟨rfl, hb4.frozen j⟩
          have hb5 := hb4.setState (shRun sh0 (t1 ++ b1.take k) (q1 + 1))
          have gr34 : w3.grownBy w4 (some g) := ⟨s34.os, s34.tape, s34.output, s34.size, fun j hj _ => s34.block j hj⟩
          have gr35 := gr34.trans (grown_setCells g (w32 (shRun sh0 (t1 ++ b1.take k) (q1 + 1)).list) 0 w4)
          rw [← HNL.out] at hb5 gr35
          refine wpAny_ready (rs := [12]) (by kernel_rfl) (by simp) ?_
          refine AllReady.cons (o := ⟨none, .store 48 (.tmp 46) (.tmp 44), _, _, _, none⟩) rfl (fun K hK => ?_) AllReady.nil
          rw [if_pos (by rfl)]
          refine wp_store_mid 48 (.tmp 46) (.tmp 44) rfl g 0 arrN rfl rfl hth HIN.out H1N.out ?_
          refine hK _ _ ?_
          clear hK K
          refine wpAny_done (by kernel_rfl) ?_ _
          generalize w4.setCells g 0 arrN.toList = w5 at *
          have rf5 := RF3.out.grown gr35
          have T5 := Tabs.grown T3h.out HB3.out gr35
          have HB5 := Lib.hid hb5
          have GR5 := Lib.hid (GR4.out.trans gr35)
          have T5h := Lib.hid T5
          obtain ⟨A9, c9, e9, hr9, hc9, hm9, hf9⟩ := rf5
          injection e9 with e91 e92 e93
          subst e91 e93
          have HR9 := Lib.hid hr9
          have HF9 := Lib.hid hf9
          have z5 : (0 : Int) ≤ (k : Int) := by omega
          have z6 : (k : Int) ≤ (gk : Int) := by omega
          have z7 : (k : Int) ≤ (c1 : Int) := by omega
          have HKG := Lib.hid (show k ≤ gk ∧ gk ≤ c1 ∧ 1 ≤ k by omega)
          clear hb5 gr35 gr34 hb4 hth s4 s34 T5 hr9 hf9 e92
          by_cases hck : c1 = k
          · subst hck
            obtain rfl : gk = c1 := by have := HKG.out; omega
            go_wp2_with fail
            go_roundg 0
            case measure => have := HKG.out; omega
            case rel => exact ⟨_, _, R3, 0, q1 + 1, B1, HT3.out, HL3.out, by omega, HB5.out, by rw [List.take_zero, List.drop_of_length_le (by have := HL3.out; omega)], rfl, restF_end HBL.out, GR5.out, T5h.out⟩
          · go_wp2_with fail
            go_roundg (gk - k)
            case measure => have := HKG.out; omega
            case rel => exact ⟨_, _, R3, 0, q1 + 1, B1, HT3.out, HL3.out, by omega, HB5.out, by rw [List.take_zero, List.drop_of_length_le (by have := HL3.out; omega)], rfl, (by have ek := HK.out; rw [← ek]; exact restF_drop HR9.out hkg hc1 hm1 HF9.out), GR5.out, T5h.out⟩
        · exact AllReady.nil
      · refine AllReady.cons (o := ⟨some 43, .load 49 (.tmp 42), _, _, _, none⟩) rfl (fun K hK => ?_) ?_
        · rw [if_pos (by rfl)]
          refine' wp_load_mid _ _ rfl _ _ rfl bl _ ?hc3 ?hu3 ?hd3 ?hi3 ?rest3
          case hc3 => exact R8.out
          case hu3 => exact underBlock
          case hd3 => rfl
          case hi3 => exact HI8.out
          refine hK _ _ ?_
          clear hK K
          simp only [Act.put, List.setIfInBounds_toArray, List.set_cons_zero, List.set_cons_succ]
          refine wpAny_ready (rs := [4]) (by kernel_rfl) (by simp) ?_
          refine AllReady.cons (o := ⟨some 39, .load 48 (.tmp 38), _, _, _, none⟩) rfl (fun K hK => ?_) ?_
          · rw [if_pos (by rfl)]
            refine' wp_load_mid _ _ rfl _ _ rfl sl _ ?hc4 ?hu4 ?hd4 ?hi4 ?rest4
            case hc4 => exact R0.out
            case hu4 => exact underState
            case hd4 => rfl
            case hi4 => exact HI0.out
            refine hK _ _ ?_
            clear hK K
            simp only [Act.put, List.setIfInBounds_toArray, List.set_cons_zero, List.set_cons_succ]
            refine wpAny_ready (rs := [9]) (by kernel_rfl) (by simp) ?_
            refine AllReady.cons (o := ⟨some 44, .call { callee := .value (.func 32), args := #[.tmp 39, .tmp 43], argTypes := #[48, 49] }, _, _, _, none⟩) rfl (fun K hK => ?_) AllReady.nil
            go_simp
            refine (BH.out _ (T3h.out.still ((Still.refl _).drew))).mono ?_
            rintro e w4 ⟨rfl, s4⟩
            have s34 : Still w3 w4 := Still.trans (show Still w3 w3.drew from (Still.refl w3).drew) s4
            refine hK _ _ ?_
            clear hK K
            refine wpAny_take (i := 10) (oi := ⟨some 45, .nilCheck (.tmp 35), _, _, _, none⟩) (v := ?_) rfl (by kernel_rfl) (by kernel_rfl) (by kernel_rfl) (fun _ _ _ h => h) (Or.inl ⟨by rfl, ?_⟩) ?_
            rotate_left
            · (intro w; go_simp; try with_reducible rfl)
            simp only [Act.put, List.setIfInBounds_toArray, List.set_cons_zero, List.set_cons_succ]
            refine wpAny_take (i := 11) (oi := ⟨some 46, .fieldAddr 51 (.tmp 45) 0, _, _, _, none⟩) (v := ?_) rfl (by kernel_rfl) (by kernel_rfl) (by kernel_rfl) (fun _ _ _ h => h) (Or.inl ⟨by rfl, ?_⟩) ?_
            rotate_left
            · (intro w; go_simp; try with_reducible rfl)
            simp only [Act.put, List.setIfInBounds_toArray, List.set_cons_zero, List.set_cons_succ]
            have hb4 := HB3.out.still s34
            have hth : w4.there g 0 arrN.size := fun j hj => by
              rw [Nat.zero_add, hb4.statec j (by rw [← HN8.out]; exact hj)]
              exact ⟨rfl, hb4.frozen j⟩
            have hb5 := hb4.setState (shRun sh0 (t1 ++ b1.take k) (q1 + 1))
            have gr34 : w3.grownBy w4 (some g) := ⟨s34.os, s34.tape, s34.output, s34.size, fun j hj _ => s34.block j hj⟩
            have gr35 := gr34.trans (grown_setCells g (w32 (shRun sh0 (t1 ++ b1.take k) (q1 + 1)).list) 0 w4)
            rw [← HNL.out] at hb5 gr35
            refine wpAny_ready (rs := [12]) (by kernel_rfl) (by simp) ?_
            refine AllReady.cons (o := ⟨none, .store 48 (.tmp 46) (.tmp 44), _, _, _, none⟩) rfl (fun K hK => ?_) AllReady.nil
            rw [if_pos (by rfl)]
            refine wp_store_mid 48 (.tmp 46) (.tmp 44) rfl g 0 arrN rfl rfl hth HIN.out H1N.out ?_
            refine hK _ _ ?_
            clear hK K
            refine wpAny_done (by kernel_rfl) ?_ _
            generalize w4.setCells g 0 arrN.toList = w5 at *
            have rf5 := RF3.out.grown gr35
            have T5 := Tabs.grown T3h.out HB3.out gr35
            have HB5 := Lib.hid hb5
            have GR5 := Lib.hid (GR4.out.trans gr35)
            have T5h := Lib.hid T5
            obtain ⟨A9, c9, e9, hr9, hc9, hm9, hf9⟩ := rf5
            injection e9 with e91 e92 e93
            subst e91 e93
            have HR9 := Lib.hid hr9
            have HF9 := Lib.hid hf9
            have z5 : (0 : Int) ≤ (k : Int) := by omega
            have z6 : (k : Int) ≤ (gk : Int) := by omega
            have z7 : (k : Int) ≤ (c1 : Int) := by omega
            have HKG := Lib.hid (show k ≤ gk ∧ gk ≤ c1 ∧ 1 ≤ k by omega)
            clear hb5 gr35 gr34 hb4 hth s4 s34 T5 hr9 hf9 e92
            by_cases hck : c1 = k
            · subst hck
              obtain rfl : gk = c1 := by have := HKG.out; omega
              go_wp2_with fail
              go_roundg 0
              case measure => have := HKG.out; omega
              case rel => exact ⟨_, _, R3, 0, q1 + 1, B1, HT3.out, HL3.out, by omega, HB5.out, by rw [List.take_zero, List.drop_of_length_le (by have := HL3.out; omega)], rfl, restF_end HBL.out, GR5.out, T5h.out⟩
            · go_wp2_with fail
              go_roundg (gk - k)
              case measure => have := HKG.out; omega
              case rel => exact ⟨_, _, R3, 0, q1 + 1, B1, HT3.out, HL3.out, by omega, HB5.out, by rw [List.take_zero, List.drop_of_length_le (by have := HL3.out; omega)], rfl, (by have ek := HK.out; rw [← ek]; exact restF_drop HR9.out hkg hc1 hm1 HF9.out), GR5.out, T5h.out⟩
          · exact AllReady.nil
        · exact AllReady.nil
    · have z4 : (sm : Int) < 64 := by omega
      have HT1 := Lib.hid ht1
      have HL1 := Lib.hid hl1
      have HBB := Lib.hid hb
      have HRR := Lib.hid hr1
      have HR1' := Lib.hid hR1
      have GR := Lib.hid gr
      have HS := Lib.hid hsm
      have HBL := Lib.hid hbl
      clear ht1 hl1 hb hr1 hR1 hf1 gr TT hsm hbl
      go_wp2_with (guard_target =~ wpList _ _ _ (Oper.mk (some 56) _ _ _ _ _ :: _) _ _; refine wpList_copy_rest rfl (.tmp 54) (.tmp 55) rfl g mn kp1 (64 - kp1) _ R1 HBB.out (by omega) rfl A1 gk c1 B1 b1 rfl HRR.out gk (by have := HS.out; omega) ?_; intro w3 hb3 gr3)
      go_end0
      exact ⟨rfl, had_end HT1.out HL1.out HBL.out (by have := HS.out; omega) HR1'.out HTL.out hmn2 hb3, GR.out.trans gr3⟩
end Go.Proofs.YtambpgfmnbkhdaaDoor
