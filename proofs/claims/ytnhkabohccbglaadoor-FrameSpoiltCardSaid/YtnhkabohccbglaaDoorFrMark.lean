/- Contracts: the sums of a text's fronts. It proves no statement. -/
import Derived.Test.YtnhkabohccbglaaDoorFrSameF
import Derived.Test.YtnhkabohccbglaaDoorFar
import Derived.Laws.OwnMore
import Derived.Deep.RegionLaw
import Derived.BigRegion
namespace Go.Proofs.YtnhkabohccbglaaDoor
open Go.RowKit
set_option linter.unusedVariables false
set_option linter.unusedSimpArgs false

/-- Numbers of 32 bits as the model's values. -/
def u32V (l : List Nat) : List Value := l.map (fun (x : Nat) => Value.int .u32 (x : Int))
/-- The sums of the first fronts. -/
def mkS (l : List UInt8) (k : Nat) : List Nat := (List.range k).map (fun j => crcSum (l.take (64 * j)))
theorem mkS_length (l : List UInt8) (k : Nat) : (mkS l k).length = k := by simp [mkS]
theorem mkS_succ (l : List UInt8) (k : Nat) : mkS l (k + 1) = mkS l k ++ [crcSum (l.take (64 * k))] := by simp [mkS, List.range_succ]
theorem mkS_get (l : List UInt8) (k j : Nat) (h : j < k) : (u32V (mkS l k))[j]? = some (.int .u32 (crcSum (l.take (64 * j)) : Nat)) := by simp [u32V, mkS, h]
theorem crcSum_lt (l : List UInt8) : crcSum l < 4294967296 := crcAdd_lt 0 _ (by omega)
/-- A front, out of the one ahead of it. -/
theorem crcSum_front (l : List UInt8) (a b : Nat) (h : a ≤ b) : crcAdd (crcSum (l.take a)) ((l.take b).drop a) = crcSum (l.take b) := by
  have e : l.take b = l.take a ++ (l.take b).drop a := by
    have : l.take a = (l.take b).take a := by rw [List.take_take, Nat.min_eq_left h]
    rw [this, List.take_append_drop]
  conv => rhs; rw [e]
  exact (crcAdd_append 0 _ _).symm
/-- A piece, out of two fronts. -/
theorem crcSum_piece (l : List UInt8) (a b : Nat) (h : a ≤ b) (hb : b ≤ l.length) : crcShift (crcSum (l.take a)) (b - a) ^^^ crcSum (l.take b) = crcSum ((l.take b).drop a) := by
  have h1 := crcAdd_join (crcSum (l.take a)) ((l.take b).drop a)
  rw [crcSum_front l a b h] at h1
  have hl : ((l.take b).drop a).length = b - a := by simp; omega
  rw [hl] at h1
  rw [h1, ← Nat.xor_assoc, Nat.xor_self, Nat.zero_xor]

theorem Tryd.infoU32 : (Tryd.prog.info? 57).map (fun i => (i.zero, i.size, i.bytes)) = some (some (.int .u32 0), 1, 4) := by kernel_rfl
theorem sizeMk : (Tryd.prog.info? 77).map (·.size) = some 2 := by kernel_rfl
theorem underMk : ∃ fs, Tryd.prog.underlying 77 = some (.struct fs) := ⟨_, Tryd.underlying77⟩
/-- 'append(sums, s)', one operation. -/
theorem step_push32 (w : World) {o : Oper} {a : Act} {K : Act → World → Prop} {Q : Exit → Act → World → Prop} (s x : Operand)
    (ho : o.op = .call { callee := .builtin .append, args := #[s, x], argTypes := #[75, 75] })
    (base : Nat) (v : Value) (n : Nat) (xs : List Value) (hs : a.eval s = v) (hown : w.ownsRow base 57 1 v n xs) (gb : Nat) (y : Int)
    (hx : a.eval x = .slice (some ⟨gb, 0, none⟩) 1 1) (hc : w.cell? ⟨gb, 0, none⟩ = some (.int .u32 y)) (hn : n ≤ 1048576) (hbase : base ≤ w.heap.size)
    (h : ∀ v' w', w'.ownsRow base 57 1 v' (n + 1) (xs ++ [.int .u32 y]) → w.grownBy w' v.ownBlock → (v'.ownBlock = v.ownBlock ∨ v'.ownBlock = some w.heap.size) → K (a.put o.dst v') w') :
    o.wp Tryd.prog a w K Q := by
  obtain ⟨i0, hi, hz0, hz1, hz2⟩ := info_parts Tryd.infoU32
  obtain ⟨v', w', hrun, h2, h3, _, h5⟩ := run_append_own_at (P := Tryd.prog) w base 75 o.type 57 i0 _ 1 4 Tryd.underlying75 hi hz0 hz1 hz2 rfl (by decide) v n xs hown ⟨gb, 0, none⟩ 1 1 [.int .u32 y] rfl (fun j u hu => by
    match j, hu with
    | 0, hu => simp at hu; subst hu; simpa [Addr.add] using hc) (by simp [Value.oneCell']) (by unfold maxLen; omega) (by omega) hbase
  unfold Oper.wp execOp
  simp only [ho, resolve, invoke, builtin, Sem.run_bind, Sem.run_pure, Result.andThen_ok, List.map_toArray, List.map_cons, List.map_nil, hs, hx, hrun]
  exact h v' w' h2 h3 h5

/-- 'append(sums, s)', told what stays. -/
theorem run_push32 (w : World) (ty : TypeId) (base gs k cap : Nat) (xs : List Value) (hown : w.ownsRow base 57 1 (.slice (some ⟨gs, 0, none⟩) k cap) k xs) (gb : Nat) (y : Int)
    (hc : w.cell? ⟨gb, 0, none⟩ = some (.int .u32 y)) (hn : k ≤ 1048576) (hbase : base ≤ w.heap.size) :
    ∃ v' w', (Builtin.append_ #[75, 75] ty #[.slice (some ⟨gs, 0, none⟩) k cap, .slice (some ⟨gb, 0, none⟩) 1 1]).run Tryd.prog w = .ok v' w' ∧ w'.ownsRow base 57 1 v' (k + 1) (xs ++ [.int .u32 y]) ∧ w.grownBy w' (some gs) ∧ (v'.ownBlock = some gs ∨ v'.ownBlock = some w.heap.size) ∧ ∀ j, j < k → w'.cell? ⟨gs, j, none⟩ = w.cell? ⟨gs, j, none⟩ := by
  obtain ⟨i0, hi, hz0, hz1, hz2⟩ := info_parts Tryd.infoU32
  have hnews : ∀ (j : Nat) (u : Value), [Value.int .u32 y][j]? = some u → w.cell? ((⟨gb, 0, none⟩ : Addr).add j) = some u := fun j u hu => by
    match j, hu with
    | 0, hu => simp at hu; subst hu; simpa [Addr.add] using hc
  obtain ⟨v', w', hrun, h2, h3, _, h5⟩ := run_append_own_at (P := Tryd.prog) w base 75 ty 57 i0 _ 1 4 Tryd.underlying75 hi hz0 hz1 hz2 rfl (by decide) (.slice (some ⟨gs, 0, none⟩) k cap) k xs hown ⟨gb, 0, none⟩ 1 1 [.int .u32 y] rfl hnews (by simp [Value.oneCell']) (by unfold maxLen; omega) (by omega) hbase
  refine ⟨v', w', hrun, h2, h3, h5, fun j hj => ?_⟩
  have hlt : gs < w.heap.size := (hown.lt gs rfl).2
  rcases hown.2 with ⟨h, _⟩ | ⟨g, cap', cur, e, hbg, hg, hnc, hcm, hcs, htake⟩
  · cases h
  · injection e with e1 _ e3
    obtain rfl : gs = g := by simpa using e1
    subst e3
    by_cases hroom : k + 1 ≤ cap
    · have hr := run_append_room (P := Tryd.prog) w 75 ty 57 i0 Tryd.underlying75 hi gs k cap cur hg ⟨gb, 0, none⟩ 1 1 [.int .u32 y] (by rw [hz1]; rfl) hnews (by simp [Value.oneCell']) hroom (by rw [hz1, hcs]; simp; omega)
      rw [hrun] at hr
      injection hr with hv hw
      subst hv
      have hx : xs.length = k := by have := hown.1; simpa using this
      rw [h2.cellAt j (by omega), hown.cellAt j (by omega), List.getElem?_append_left (by omega)]
    · have holds : ∀ j u, xs[j]? = some u → w.cell? ((⟨gs, 0, none⟩ : Addr).add j) = some u := hown.cells (g := gs) rfl
      have hr := run_append_grow (P := Tryd.prog) w 75 ty 57 i0 _ Tryd.underlying75 hi hz0 ⟨gs, 0, none⟩ k cap xs (by rw [hz1]; exact hown.1) holds ⟨gb, 0, none⟩ 1 1 [.int .u32 y] (by rw [hz1]; rfl) hnews (by omega) (by omega) (growslice_fits (by omega) (by rw [hz2]; omega))
      rw [hrun] at hr
      injection hr with hv hw
      subst hw
      exact World.cell?_alloc_lt w.drew _ ⟨gs, j, none⟩ hlt
theorem step_push32k (w : World) {o : Oper} {a : Act} {K : Act → World → Prop} {Q : Exit → Act → World → Prop} (s x : Operand)
    (ho : o.op = .call { callee := .builtin .append, args := #[s, x], argTypes := #[75, 75] })
    (base gs k cap : Nat) (xs : List Value) (hs : a.eval s = .slice (some ⟨gs, 0, none⟩) k cap) (hown : w.ownsRow base 57 1 (.slice (some ⟨gs, 0, none⟩) k cap) k xs) (gb : Nat) (y : Int)
    (hx : a.eval x = .slice (some ⟨gb, 0, none⟩) 1 1) (hc : w.cell? ⟨gb, 0, none⟩ = some (.int .u32 y)) (hn : k ≤ 1048576) (hbase : base ≤ w.heap.size)
    (h : ∀ v' w', w'.ownsRow base 57 1 v' (k + 1) (xs ++ [.int .u32 y]) → w.grownBy w' (some gs) → (v'.ownBlock = some gs ∨ v'.ownBlock = some w.heap.size) → (∀ j, j < k → w'.cell? ⟨gs, j, none⟩ = w.cell? ⟨gs, j, none⟩) → K (a.put o.dst v') w') :
    o.wp Tryd.prog a w K Q := by
  obtain ⟨v', w', hrun, h2, h3, h4, h5⟩ := run_push32 w o.type base gs k cap xs hown gb y hc hn hbase
  unfold Oper.wp execOp
  simp only [ho, resolve, invoke, builtin, Sem.run_bind, Sem.run_pure, Result.andThen_ok, List.map_toArray, List.map_cons, List.map_nil, hs, hx, hrun]
  exact h v' w' h2 h3 h4 h5

theorem step_push32s (w : World) {ops : Array Oper} {o : Oper} {a : Act} {K : Act → World → Prop} {Q : Exit → Act → World → Prop} {E : Prop} (hgd : o.guard = none) (s x : Operand)
    (ho : o.op = .call { callee := .builtin .append, args := #[s, x], argTypes := #[75, 75] })
    (base gs k cap : Nat) (xs : List Value) (hs : a.eval s = .slice (some ⟨gs, 0, none⟩) k cap) (hown : w.ownsRow base 57 1 (.slice (some ⟨gs, 0, none⟩) k cap) k xs) (gb : Nat) (y : Int)
    (hx : a.eval x = .slice (some ⟨gb, 0, none⟩) 1 1) (hc : w.cell? ⟨gb, 0, none⟩ = some (.int .u32 y)) (hn : k ≤ 1048576) (hbase : base ≤ w.heap.size)
    (h : ∀ v' w', w'.ownsRow base 57 1 v' (k + 1) (xs ++ [.int .u32 y]) → w.grownBy w' (some gs) → (v'.ownBlock = some gs ∨ v'.ownBlock = some w.heap.size) → (∀ j, j < k → w'.cell? ⟨gs, j, none⟩ = w.cell? ⟨gs, j, none⟩) → K (a.put o.dst v') w') :
    if Region.wanted o (yielded ops a.tmps) = true then Oper.wp Tryd.prog o a w K Q else E := by
  have hw : Region.wanted o (yielded ops a.tmps) = true := by simp [Region.wanted, hgd]
  rw [if_pos hw]
  exact step_push32k w s x ho base gs k cap xs hs hown gb y hx hc hn hbase h

/-- The marks at their block: the text, and the sums of k fronts in a row of the call's own; the result's block lies ahead of them. -/
structure MkMid (w W : World) (A : Option Addr) (n c k : Nat) (l : List UInt8) (vs : Value) : Prop where
  blk : Blk W (w.heap.size + 1 + 1) 77 #[.slice A n c, vs]
  res : Blk W w.heap.size 77 #[.slice none 0 0, .slice none 0 0]
  own : W.ownsRow (w.heap.size + 1) 57 1 vs k (u32V (mkS l k))
  ne : vs.ownBlock ≠ some (w.heap.size + 1 + 1)
  still : Still w W

set_option maxRecDepth 100000 in
set_option maxHeartbeats 6400000 in
theorem mark_any (A : Option Addr) (n c : Nat) (l : List UInt8) (w : World) (B : Nat) (hr : Reads w B A n l) (hB : B ≤ w.heap.size) (hn : n ≤ 1048576) (hc : n ≤ c) (hcm : c ≤ 9223372036854775807) (T : Tabs w) :
    Calls Tryd.prog 41 #[.slice A n c] w fun e w' => (∃ vs, e = .returned (.agg #[.slice A n c, vs]) ∧ w'.ownsRow w.heap.size 57 1 vs (n / 64 + 1) (u32V (mkS l (n / 64 + 1)))) ∧ Still w w' := by
  have TT := Lib.hid (fun W (s : Still w W) => T.still s)
  have RR := Lib.hid (fun W (s : Still w W) => hr.still hB s)
  have FC := Lib.hid (show n ≤ 1048576 ∧ n ≤ c ∧ c ≤ 9223372036854775807 ∧ B ≤ w.heap.size ∧ l.length = n from ⟨hn, hc, hcm, hB, hr.1⟩)
  clear hr T
  obtain ⟨w1, hw1⟩ : ∃ w1, w1 = (((w.alloc (.cells #[.slice none 0 0, .slice none 0 0] 77)).alloc (.cells #[.int .u32 0] 57)).alloc (.cells #[.slice A n c, .slice (some ⟨w.heap.size + 1, 0, none⟩) 1 1] 77)) := ⟨_, rfl⟩
  have M0 := Lib.hid (show MkMid w w1 A n c 1 l (.slice (some ⟨w.heap.size + 1, 0, none⟩) 1 1) from by
    have hs : Still w w1 := by rw [hw1]; exact (((Still.refl w).alloc (Nat.le_refl _) _).alloc (by simp) _).alloc (by simp; omega) _
    have o1 : ((w.alloc (.cells #[.slice none 0 0, .slice none 0 0] 77)).alloc (.cells #[.int .u32 0] 57)).ownsRow (w.heap.size + 1) 57 1 (.slice (some ⟨w.heap.size + 1, 0, none⟩) 1 1) 1 (u32V (mkS l 1)) := by
      have h := World.ownsRow_lit (base := w.heap.size + 1) (e := 57) (size := 1) (w.alloc (.cells #[.slice none 0 0, .slice none 0 0] 77)) #[.int .u32 0] 1 (by simp) (by unfold maxLen; omega) rfl
      have e : u32V (mkS l 1) = [.int .u32 0] := by
        have : crcSum [] = 0 := by decide
        simp [u32V, mkS, this]
      rw [e]
      simpa using h
    refine { blk := ?_, res := ?_, own := ?_, ne := by simp [Value.ownBlock], still := hs }
    · rw [hw1]
      have h := Blk.new ((w.alloc (.cells #[.slice none 0 0, .slice none 0 0] 77)).alloc (.cells #[.int .u32 0] 57)) 77 #[.slice A n c, .slice (some ⟨w.heap.size + 1, 0, none⟩) 1 1]
      simpa using h
    · rw [hw1]
      exact ((Blk.new w 77 #[.slice none 0 0, .slice none 0 0]).alloc _).alloc _
    · rw [hw1]
      exact o1.alloc _)
  have HW1 := Lib.hid hw1
  clear hw1 hcm
  go_enter Tryd.func41, Tryd.ntmps41
  go_upto_region 2 with fail
  rw [← HW1.out]
  clear HW1
  go_wp2_with fail
  go_loopw [4] (fun iv wr => ∃ (a k : Nat) (vs : Value), iv = .int .i64 a ∧ a ≤ 1048700 ∧ Hid (a = 64 * k ∧ 1 ≤ k ∧ a ≤ n + 64 ∧ MkMid w wr A n c k l vs)) (fun iv _ => n + 64 - (intOf iv).toNat)
  case atStart => exact ⟨64, 1, _, rfl, by omega, rfl, Nat.le_refl _, by omega, M0.out⟩
  case round =>
    obtain ⟨a, k, vs, rfl, ha9, hh⟩ := hrel
    obtain ⟨hak, hk1, han, hm⟩ := hh.out
    by_cases hlt : a ≤ n
    · have hs := hm.still
      obtain ⟨gs, cs, hvs, hgl, hgs⟩ : ∃ gs cs, vs = .slice (some ⟨gs, 0, none⟩) k cs ∧ w.heap.size + 1 ≤ gs ∧ gs < wr.heap.size := by
        rcases hm.own.2 with ⟨_, h0⟩ | ⟨g, cc, cur, e, h1, h2, _⟩
        · omega
        · exact ⟨g, cc, e, h1, (Array.getElem?_eq_some_iff.1 h2).1⟩
      subst hvs
      obtain ⟨kp, hkp⟩ : ∃ kp, kp = k - 1 := ⟨_, rfl⟩
      obtain ⟨a0, ha0⟩ : ∃ a0, a0 = a - 64 := ⟨_, rfl⟩
      obtain ⟨y, hy⟩ : ∃ y, y = crcSum (l.take a0) := ⟨_, rfl⟩
      have hylt : y < 4294967296 := by rw [hy]; exact crcSum_lt _
      have cA : wr.cell? ⟨w.heap.size + 1 + 1, 1, none⟩ = some (.slice (some ⟨gs, 0, none⟩) k cs) := hm.blk.cell 1
      have cB : wr.cell? ⟨gs, kp, none⟩ = some (.int .u32 (y : Int)) := by
        rw [hm.own.cellAt kp (by omega), mkS_get _ _ _ (by omega), hy, show 64 * kp = a0 by omega]
      obtain ⟨b, o, rfl, hb, _⟩ := (RR.out wr hs).at_ (by omega)
      have FF := Lib.hid (fun W (s : Still wr W) => (show W.cell? ⟨w.heap.size + 1 + 1, 1, none⟩ = some (.slice (some ⟨gs, 0, none⟩) k cs) ∧ W.cell? ⟨gs, kp, none⟩ = some (.int .u32 (y : Int)) from
        ⟨(s.cell (p := ⟨w.heap.size + 1 + 1, 1, none⟩) (by exact hm.blk.lt)).trans cA, (s.cell (p := ⟨gs, kp, none⟩) hgs).trans cB⟩))
      have AD := Lib.hid (fun W (s : Still wr W) => (show Calls Tryd.prog 45 #[.int .u32 y, .slice (some ⟨b, o + a0, none⟩) (a - a0) (c - a0)] W fun e w' => e = .returned (.int .u32 (crcSum (l.take a) : Nat)) ∧ Still W w' by
        have h := crcadd_any y (some ⟨b, o + a0, none⟩) (a - a0) (c - a0) ((l.take a).drop a0) W B (TT.out W (Still.trans hs s)) hylt (by
          have h := ((RR.out W (Still.trans hs s)).takek (k := a) (by omega)).dropk (k := a0) (by omega)
          simpa [Addr.add_lit] using h) (by have := FC.out.2.2.2.1; have := (Still.trans hs s).size; omega) (by omega)
        rw [hy, crcSum_front l a0 a (by omega)] at h
        rw [hy]
        exact h))
      have i1 : IntKind.i64.wrap ((k : Int) - 1) = (kp : Int) := by rw [IntKind.wrap_i64]; omega
      have i2 : IntKind.i64.wrap ((a : Int) - 64) = (a0 : Int) := by rw [IntKind.wrap_i64]; omega
      have z1 : (kp : Int) < (k : Int) := by omega
      have z2 : (a0 : Int) ≤ (a : Int) := by omega
      have z3 : (a : Int) ≤ (c : Int) := by omega
      have z4 : ¬ c = a0 := by omega
      have z5 : (a : Int) ≤ (n : Int) := by omega
      have HM := Lib.hid hm
      have HS := Lib.hid hs
      have HK := Lib.hid (And.intro hak (And.intro hk1 (And.intro hkp ha0)))
      have HG := Lib.hid (And.intro hgl hgs)
      have HLT := Lib.hid hlt
      have KN := Lib.hid (show k ≤ 1048576 by omega)
      have NE := Lib.hid (show w.heap.size + 1 + 1 ≠ gs from fun e => HM.out.ne (by rw [e]; rfl))
      have CALL := Lib.hid (fun (z : Nat) (hz : z = crcSum (l.take a)) (w2 : World) (s2 : Still wr w2) (v4 : Value) (w4 : World) (own4 : w4.ownsRow (w.heap.size + 1) 57 1 v4 (k + 1) (u32V (mkS l k) ++ [.int .u32 (z : Int)])) (gr4 : (w2.alloc (.cells #[.int .u32 (z : Int)] 57)).grownBy w4 (some gs)) (loc4 : v4.ownBlock = some gs ∨ v4.ownBlock = some (w2.alloc (.cells #[.int .u32 (z : Int)] 57)).heap.size) =>
        (show ∃ g4 c4, v4 = .slice (some ⟨g4, 0, none⟩) (k + 1) c4 ∧ w4.cell? ⟨w.heap.size + 1 + 1, 1, none⟩ = some (.slice (some ⟨gs, 0, none⟩) k cs) ∧ w4.frozen? ⟨w.heap.size + 1 + 1, 1, none⟩ = false ∧ MkMid w (w4.setCell ⟨w.heap.size + 1 + 1, 1, none⟩ v4) (some ⟨b, o, none⟩) n c (k + 1) l v4 by
          have s3 : Still wr (w2.alloc (.cells #[.int .u32 (z : Int)] 57)) := s2.alloc s2.size _
          have b3 := HM.out.blk.still s3
          have r3 := HM.out.res.still s3
          have b4 : Blk w4 (w.heap.size + 1 + 1) 77 #[.slice (some ⟨b, o, none⟩) n c, .slice (some ⟨gs, 0, none⟩) k cs] := (gr4.block _ b3.lt (fun e => NE.out (Option.some.inj e))).trans b3
          have r4 : Blk w4 w.heap.size 77 #[.slice none 0 0, .slice none 0 0] := (gr4.block _ r3.lt (fun e => by have := HG.out.1; have := Option.some.inj e; omega)).trans r3
          have hne : v4.ownBlock ≠ some (w.heap.size + 1 + 1) := by
            rcases loc4 with h | h
            · rw [h]; intro e; exact NE.out (Option.some.inj e).symm
            · rw [h]; intro e; have := Option.some.inj e; have := b3.lt; omega
          have st4 : Still w w4 := (Still.trans HS.out s3).grown gr4 (Still.trans HS.out s3).size (fun j e => by have := Option.some.inj e; have := HG.out; omega)
          have o4 : w4.ownsRow (w.heap.size + 1) 57 1 v4 (k + 1) (u32V (mkS l (k + 1))) := by
            rw [mkS_succ, show 64 * k = a by have := HK.out; omega, ← hz]
            unfold u32V at own4 ⊢
            rw [List.map_append]
            exact own4
          obtain ⟨g4, c4, rfl⟩ : ∃ g4 c4, v4 = .slice (some ⟨g4, 0, none⟩) (k + 1) c4 := by
            rcases o4.2 with ⟨_, h0⟩ | ⟨g, cc, cur, e, _⟩
            · omega
            · exact ⟨g, cc, e⟩
          exact ⟨g4, c4, rfl, b4.cell 1, b4.frozen 1, { blk := b4.setc 1 _, res := r4.far (by show w.heap.size ≠ w.heap.size + 1 + 1; omega) _, own := o4.kept (grownBy_set w4 _ _ _) (.inr hne), ne := hne, still := st4.setCell (by show w.heap.size ≤ w.heap.size + 1 + 1; omega) _ }⟩))
      have OK3 := Lib.hid (fun (z : Nat) (w2 : World) (s2 : Still wr w2) => (show (w2.alloc (.cells #[.int .u32 (z : Int)] 57)).ownsRow (w.heap.size + 1) 57 1 (.slice (some ⟨gs, 0, none⟩) k cs) k (u32V (mkS l k)) ∧ (w2.alloc (.cells #[.int .u32 (z : Int)] 57)).cell? ⟨w2.heap.size, 0, none⟩ = some (.int .u32 (z : Int)) ∧ w.heap.size + 1 ≤ (w2.alloc (.cells #[.int .u32 (z : Int)] 57)).heap.size from
        ⟨(HM.out.own.kept (row := none) (grown_still0 s2) (.inr (by simp [Value.ownBlock]))).alloc _, cell_of_row _ w2.heap.size 0 _ _ _ (heap_alloc_new w2 _), by have := HG.out; have := s2.size; simp; omega⟩))
      obtain ⟨z, hz⟩ : ∃ z, z = crcSum (l.take a) := ⟨_, rfl⟩
      rw [← hz] at AD
      have HZ := Lib.hid hz
      clear hh hak hk1 han hm hs hkp ha0 hy hylt hb hgl hgs hlt hn hc hB hz
      go_wp2_with fail
      go_region_law (first
        | (refine step_push32s (w2.alloc (.cells #[.int .u32 (z : Int)] 57)) (by rfl) (.tmp 15) (.tmp 30) (by rfl) (w.heap.size + 1) gs k cs (u32V (mkS l k)) (by rfl) (OK3.out z w2 S2.out).1 w2.heap.size (z : Int) (by rfl) (OK3.out z w2 S2.out).2.1 KN.out (OK3.out z w2 S2.out).2.2 ?_; intro v4 w4 own4 gr4 loc4 _; obtain ⟨g4, c4, hv4, k1, k2, k3⟩ := CALL.out z HZ.out w2 S2.out v4 w4 own4 gr4 loc4; subst hv4; have MID := Lib.hid k3; clear own4 gr4 loc4 k3)
        | (go_simp; go_at_call 45; refine (AD.out _ ((Still.refl wr).drew)).mono ?_; rintro e w2 ⟨rfl, s2⟩; have S2 := Lib.hid (Still.trans ((Still.refl wr).drew) s2); have cA2 := (FF.out w2 S2.out).1; have cB2 := (FF.out w2 S2.out).2; have hA2 : w.heap.size + 1 + 1 < w2.heap.size := World.block_lt_of_cell? w2 _ cA2; have hB2 : gs < w2.heap.size := World.block_lt_of_cell? w2 _ cB2; clear s2))
      all_goals
        go_wp2_with fail
        go_roundw
        case rel => exact ⟨a + 64, k + 1, _, by go_num, by have := HLT.out; have := FC.out; omega, by have := HK.out; omega, by omega, by have := HLT.out; omega, MID.out⟩
        case measure => simp [intOf]; have := HLT.out; omega
    · have hk : k = n / 64 + 1 := by omega
      have hs := hm.still
      obtain ⟨gs, cs, hvs⟩ : ∃ gs cs, vs = .slice (some ⟨gs, 0, none⟩) k cs := by
        rcases hm.own.2 with ⟨_, h0⟩ | ⟨g, cc, cur, e, _⟩
        · omega
        · exact ⟨g, cc, e⟩
      subst hvs
      have p0 : wr.cell? ⟨w.heap.size + 1 + 1, 0, none⟩ = some (.slice A n c) := hm.blk.cell 0
      have p1 : wr.cell? ⟨w.heap.size + 1 + 1, 1, none⟩ = some (.slice (some ⟨gs, 0, none⟩) k cs) := hm.blk.cell 1
      have r0 : wr.cell? ⟨w.heap.size, 0, none⟩ = some (.slice none 0 0) := hm.res.cell 0
      have r1 : wr.cell? ⟨w.heap.size, 1, none⟩ = some (.slice none 0 0) := hm.res.cell 1
      have f0 : wr.frozen? ⟨w.heap.size, 0, none⟩ = false := hm.res.frozen 0
      have f1 : wr.frozen? ⟨w.heap.size, 1, none⟩ = false := hm.res.frozen 1
      have HM := Lib.hid hm
      have HK := Lib.hid hk
      clear hh hm hak hk1 han hk hs
      go_wp2_with fail
      (try simp only [Exit.inBlock, Exit.then])
      have b5 : Blk ((wr.setCell ⟨w.heap.size, 0, none⟩ (.slice A n c)).setCell ⟨w.heap.size, 1, none⟩ (.slice (some ⟨gs, 0, none⟩) k cs)) w.heap.size 77 #[.slice A n c, .slice (some ⟨gs, 0, none⟩) k cs] := (HM.out.res.setc 0 _).setc 1 _
      obtain ⟨fs2, hu2⟩ := underMk
      refine bodyPost_ret (results_cell_row rfl _ _ w.heap.size _ _ _ _ rfl b5 hu2 rfl (by rw [sizeMk]; rfl)) rfl ?_
      refine ⟨⟨_, rfl, ?_⟩, (HM.out.still.setCell (by show w.heap.size ≤ w.heap.size; omega) _).setCell (by show w.heap.size ≤ w.heap.size; omega) _⟩
      rw [← HK.out]
      refine own_rebase0 (B := w.heap.size + 1) ?_ (Nat.le_succ _)
      have hne : (Value.slice (some ⟨gs, 0, none⟩) k cs).ownBlock ≠ some w.heap.size := fun e => by have := (HM.out.own.lt _ e).1; omega
      exact (HM.out.own.kept (grownBy_set wr _ _ _) (.inr hne)).kept (grownBy_set _ _ _ _) (.inr hne)
end Go.Proofs.YtnhkabohccbglaaDoor
