/- Contracts and facts, several texts in one. It proves no statement. -/
import Derived.Test.YtblgphfdicffcaaGreatDoorHfp
import Derived.Lib.Bytealg
import Derived.Sort.Grow
import Derived.Deep.RegionHeld3
import Derived.Deep.DeepMust
import Derived.Test.YtblgphfdicffcaaGreatDoorHfa
import Derived.Deep.QuietTactic
import Derived.Deep.MidRow
import Derived.StillTailTactics
import Derived.Laws.BitsAllLaws
import Derived.Laws.BitsLemmas

/- Contracts: keys compared, by the program and by the document. It proves no statement. -/





namespace Go.Proofs.YtblgphfdicffcaaGreatDoor
open Go.RowKit
set_option linter.unusedVariables false
set_option linter.unusedSimpArgs false

theorem run_loadX {P : Program} {w : World} : ∀ (l : List UInt8) (a : Addr) (acc : ByteArray), (∀ j x, l[j]? = some x → w.cell? (a.add j) = some (.int .u8 (x.toNat : Int))) →
    (Extern.Bytes.loadBytes a l.length acc).run P w = .ok ⟨acc.data ++ l.toArray⟩ w
  | [], a, acc, _ => by simp [Extern.Bytes.loadBytes]
  | x :: l, a, acc, h => by
    have h0 : w.cell? a = some (.int .u8 (x.toNat : Int)) := by
      have := h 0 x rfl
      simpa [Addr.add] using this
    have ih := run_loadX (P := P) (w := w) l (a.add 1) (acc.push x) (fun j y hy => by
      have := h (j + 1) y (by simpa using hy)
      have e : (a.add 1).add j = a.add (j + 1) := by
        unfold Addr.add
        by_cases hj : j = 0
        · subst hj; simp
        · simp [hj]; omega
      rw [e]; exact this)
    have hx : ((x.toNat : Int).toNat).toUInt8 = x := by simp
    simp only [List.length_cons, Extern.Bytes.loadBytes, Sem.run_bind, run_load, h0, Result.andThen, hx]
    rw [ih]
    congr 1
    apply ByteArray.ext
    simp [ByteArray.push]
theorem run_bytesOf {w : World} {B n c : Nat} {b o : Nat} {l : List UInt8} (h : Reads w B (some ⟨b, o, none⟩) n l) (hn : 0 < n) : (Extern.Bytes.bytesOf (.slice (some ⟨b, o, none⟩) n c)).run Tryz.prog w = .ok ⟨l.toArray⟩ w := by
  have hl := h.1
  subst hl
  have e := run_loadX (P := Tryz.prog) (w := w) l ⟨b, o, none⟩ .empty (fun j x hj => by
    rw [Addr.add_lit]
    have hj2 := (List.getElem?_eq_some_iff.1 hj).1
    rw [h.cellAt j hj2]
    congr 3
    simp [List.getD, hj])
  show (Extern.Bytes.loadBytes ⟨b, o, none⟩ l.length .empty).run Tryz.prog w = _
  rw [e]
  congr 1
  apply ByteArray.ext
  show (#[] : Array UInt8) ++ l.toArray = l.toArray
  simp
theorem run_bytealgCompare {w : World} {B n n' c c' b o b' o' : Nat} {l l' : List UInt8} (h : Reads w B (some ⟨b, o, none⟩) n l) (h' : Reads w B (some ⟨b', o', none⟩) n' l') (hn : 0 < n) (hn' : 0 < n') :
    (Extern.BytealgCompare.compare #[.slice (some ⟨b, o, none⟩) n c, .slice (some ⟨b', o', none⟩) n' c']).run Tryz.prog w = .ok (.int .i64 (Lib.compareBytes l l')) w := by
  change Sem.run Tryz.prog (do pure (goInt (Extern.BytealgCompare.cmp (← Extern.Bytes.bytesOf (.slice (some ⟨b, o, none⟩) n c)) (← Extern.Bytes.bytesOf (.slice (some ⟨b', o', none⟩) n' c'))))) w = _
  simp only [Sem.run_bind, run_bytesOf h hn, run_bytesOf h' hn', Sem.run_pure, Result.andThen_ok]
  rw [Lib.cmp_eq]
  rfl
set_option maxRecDepth 100000 in
set_option maxHeartbeats 800000 in
theorem bcompare_any {w : World} {B c c' b b' : Nat} {l l' : List UInt8} (h : Reads w B (some ⟨b, 0, none⟩) 32 l) (h' : Reads w B (some ⟨b', 0, none⟩) 32 l') :
    Calls Tryz.prog 228 #[.slice (some ⟨b, 0, none⟩) 32 c, .slice (some ⟨b', 0, none⟩) 32 c'] w fun e w' => e = .returned (.int .i64 (Lib.compareBytes l l')) ∧ w = w' := by
  have r := run_bytealgCompare (c := c) (c' := c') h h' (by omega) (by omega)
  generalize Lib.compareBytes l l' = z at r ⊢
  clear h h'
  go_enter Tryz.func228, Tryz.ntmps228
  go_wp2_with fail
  rw [run_callFunc_extern Tryz.func273 (by kernel_rfl) (by kernel_rfl) (by kernel_rfl) (e := Extern.BytealgCompare.compare) (by kernel_rfl), r]
  simp only [Result.andThen]
  rw [Oper.upon_value]
  go_wp2_with fail
  go_ret
  exact ⟨rfl, rfl⟩
/-- A world with a key's box. -/
theorem key_reads (w : World) (k : List UInt8) (hk : k.length = 32) : Reads (w.alloc (.cells (bytesV k).toArray 24)) (w.heap.size + 1) (some ⟨w.heap.size, 0, none⟩) 32 k := by
  have := const_reads w k (0, 0)
  rw [hk] at this
  refine ⟨hk, fun _ => ⟨w.heap.size, 0, rfl, by omega, fun i hi => ?_⟩⟩
  rw [(Blk.new w _ _).cell, Nat.zero_add, List.getElem?_toArray, bytesV_get _ _ (by omega)]
set_option maxRecDepth 100000 in
set_option maxHeartbeats 1600000 in
theorem compare_any (k k' : List UInt8) (w : World) (hk : k.length = 32) (hk' : k'.length = 32) :
    Calls Tryz.prog 182 #[.agg (bytesV k).toArray, .agg (bytesV k').toArray] w fun e w' => e = .returned (.int .i64 (Lib.compareBytes k k')) ∧ ∃ q os, w' = (Sort.grow (w.drewN q) os) := by
  obtain ⟨wA, hwA⟩ : ∃ wA, wA = w.alloc (.cells (bytesV k).toArray 24) := ⟨_, rfl⟩
  obtain ⟨wB, hwB⟩ : ∃ wB, wB = wA.alloc (.cells (bytesV k').toArray 24) := ⟨_, rfl⟩
  obtain ⟨g, hg⟩ : ∃ g, g = w.heap.size := ⟨_, rfl⟩
  have zA : wA.heap.size = g + 1 := by rw [hwA, hg]; simp
  have r1 : Reads wB (g + 2) (some ⟨g, 0, none⟩) 32 k := by
    have h1 := key_reads w k hk
    rw [← hwA, ← hg] at h1
    rw [hwB]
    exact (h1.keep (fun p hp => World.cell?_alloc_lt _ _ _ (by omega))).more (by omega)
  have r2 : Reads wB (g + 2) (some ⟨g + 1, 0, none⟩) 32 k' := by
    have h1 := key_reads wA k' hk'
    rwa [← hwB, zA] at h1
  have HC := Lib.hid (fun n => bcompare_any (w := wB.drewN n) (c := 32) (c' := 32) (r1.still (by rw [hwB]; simp [zA]) (still_drewN (Still.refl _) n)) (r2.still (by rw [hwB]; simp [zA]) (still_drewN (Still.refl _) n)))
  have FIN := Lib.hid (show ∀ n, ∃ q os, wB.drewN n = Sort.grow (w.drewN q) os from fun n => ⟨n, #[.cells (bytesV k).toArray 24, .cells (bytesV k').toArray 24], by rw [hwB, hwA, Sort.alloc_eq_grow, Sort.alloc_eq_grow, Sort.grow_grow]; rfl⟩)
  generalize Lib.compareBytes k k' = z at HC ⊢
  have HWA := Lib.hid hwA
  have HWB := Lib.hid hwB
  have HG := Lib.hid hg
  have ZA := Lib.hid zA
  obtain ⟨kv, hkv⟩ : ∃ kv, kv = (bytesV k).toArray := ⟨_, rfl⟩
  obtain ⟨kv', hkv'⟩ : ∃ kv', kv' = (bytesV k').toArray := ⟨_, rfl⟩
  rw [← hkv] at HWA ⊢
  rw [← hkv'] at HWB ⊢
  have al : Tryz.prog.arrayLen 24 = 32 := by kernel_rfl
  clear hwA hwB hg zA r1 r2 hkv hkv' hk hk'
  go_enter Tryz.func182, Tryz.ntmps182
  go_upto_region 1 with (first
    | (guard_target =~ wpList _ _ _ (Oper.mk (some 2) _ _ _ _ _ :: _) _ _; go_must (refine wpList_box_val rfl 24 (.tmp 0) rfl (some 2) rfl kv rfl ?_))
    | (guard_target =~ wpList _ _ _ (Oper.mk (some 3) _ _ _ _ _ :: _) _ _; go_must (refine wpList_box_val rfl 24 (.tmp 1) rfl (some 3) rfl kv' rfl ?_)))
  rw [← HWA.out, ← HG.out, ← HWB.out]
  go_quiet ((go_at_call 228; exact Calls.quiet_of_same ((HC.out _).mono fun _ _ h => ⟨h.1, h.2.symm⟩)))
  go_wp2_with fail
  go_ret
  exact ⟨rfl, FIN.out _⟩
end Go.Proofs.YtblgphfdicffcaaGreatDoor

/- A region that draws its order, whose operations read and whose callees turn nothing that was there, walked once, in the text's order; loads of whole arrays on the way. It proves no statement. -/



namespace Go.Proofs.YtblgphfdicffcaaGreatDoor
open Go Go.RowKit
set_option linter.unusedVariables false
set_option linter.unusedSimpArgs false

/-- A world in which nothing of w has turned. -/
structure StillBy (w : World) where
  W : World
  still : Still w W
instance (w : World) : Inhabited (StillBy w) := ⟨⟨w, Still.refl w⟩⟩
section
variable {P : Program} {ops : Array Oper} {C : World → Prop} {Q : Act → Prop} {a : Act} {o : Oper} {rest : List Oper}
theorem wp_region_quiet_still {id : Nat} {Q : Exit → Act → World → Prop} {w : World} {l : List Oper} (w0 : World) (h0 : Still w0 w) (hm : P.follows .mixedOrders = true) (hB : Region.lexB .any l.toArray = true)
    (h : wpQuiet P l.toArray (fun w' => ∃ p : StillBy w0, w' = p.W) (fun a' => ∀ w', (∃ p : StillBy w0, w' = p.W) → Q .normal a' w') l a) : (Code.region id l.toArray true).wp P Q a w :=
  wp_region_quiet (C := fun w' => ∃ p : StillBy w0, w' = p.W) hm hB ⟨⟨_, h0.drew⟩, rfl⟩ (by simpa using h)
/-- A callee's contract. -/
theorem Calls.stillby {w : World} {f : FuncId} {args : Array Value} {v : Value} (p : StillBy w) (h : Calls P f args p.W fun e w' => e = .returned v ∧ Still p.W w') : Calls P f args p.W fun e w'' => e = .returned v ∧ ∃ q : StillBy w, w'' = q.W :=
  h.mono fun _ w'' ⟨he, hs⟩ => ⟨he, ⟨w'', Still.trans p.still hs⟩, rfl⟩
/-- A load of a row from the middle of a block. -/
theorem quiet_load_mid (hw : Region.wanted o (yielded ops a.tmps) = true) (ty : TypeId) (x : Operand) (ho : o.op = .load ty x)
    (b oo : Nat) (hx : a.eval x = .pointer (some ⟨b, oo, none⟩)) (cs : List Value) (d : TypeDesc) (hc : ∀ w, C w → w.rangeAt b oo cs)
    (hu : P.underlying ty = some d) (hd : d.isRow = true) (hi : (P.info? ty).map (·.size) = some cs.length) (h : wpQuiet P ops C Q rest (a.put o.dst (.agg cs.toArray))) : wpQuiet P ops C Q (o :: rest) a := by
  refine wpQuiet_step fun K hK => ?_
  rw [if_pos hw]
  refine ⟨_, fun w hC => ?_, hK _ h⟩
  unfold Oper.quietAt execOp
  simp only [ho, hx, Instr.loadAt, Instr.sureAddr, Sem.run_bind, Sem.run_pure, Result.andThen_ok, run_loadVar_mid w b oo ty cs d (hc w hC) hu hd hi]
  exact ⟨rfl, rfl⟩
end
end Go.Proofs.YtblgphfdicffcaaGreatDoor

/- Steps of a region with one store at its end: loads of whole arrays, literals. It proves no statement. -/


namespace Go.Proofs.YtblgphfdicffcaaGreatDoor
open Go Go.RowKit
set_option linter.unusedVariables false
set_option linter.unusedSimpArgs false
section
variable {P : Program} {ops : Array Oper} {Q : Act → Prop} {a : Act} {o : Oper} {rest : List Oper} {w : World}
theorem still_value (hw : Region.wanted o (yielded ops a.tmps) = true) (v : Value) (hr : (execOp a.eval o).run P w = .ok (.value v) w) (h : wpStill P ops w Q rest (a.put o.dst v)) : wpStill P ops w Q (o :: rest) a := by
  refine wpStill_step fun K hK => ?_
  rw [if_pos hw]
  unfold Oper.still
  rw [hr, Oper.stillUpon_value]
  exact hK _ h
theorem still_load_mid (hw : Region.wanted o (yielded ops a.tmps) = true) (ty : TypeId) (x : Operand) (ho : o.op = .load ty x)
    (b oo : Nat) (hx : a.eval x = .pointer (some ⟨b, oo, none⟩)) (cs : List Value) (d : TypeDesc) (hc : w.rangeAt b oo cs)
    (hu : P.underlying ty = some d) (hd : d.isRow = true) (hi : (P.info? ty).map (·.size) = some cs.length) (h : wpStill P ops w Q rest (a.put o.dst (.agg cs.toArray))) : wpStill P ops w Q (o :: rest) a := by
  refine still_value hw _ ?_ h
  unfold execOp
  simp only [ho, hx, Instr.loadAt, Instr.sureAddr, Sem.run_bind, Sem.run_pure, Result.andThen_ok, run_loadVar_mid w b oo ty cs d hc hu hd hi]
theorem still_build (hw : Region.wanted o (yielded ops a.tmps) = true) (ty : TypeId) (ps : Array (Nat × Operand)) (ho : o.op = .build ty ps) (cs : Array Value)
    (hb : P.built ty (ps.map fun (i, x) => (i, a.eval x)).toList = some cs) (h : wpStill P ops w Q rest (a.put o.dst (.agg cs))) : wpStill P ops w Q (o :: rest) a := by
  refine still_value hw _ ?_ h
  unfold execOp
  simp only [ho, Sem.run_bind, run_build (P := P) w ty _ _ hb, Result.andThen_ok]
  rfl
end
end Go.Proofs.YtblgphfdicffcaaGreatDoor

/- A list of 32 bytes, written out. It proves no statement. -/

namespace Go.Proofs.YtblgphfdicffcaaGreatDoor
set_option maxRecDepth 100000 in
theorem list32 (K : List UInt8) (h : K.length = 32) : ∃ k0 k1 k2 k3 k4 k5 k6 k7 k8 k9 k10 k11 k12 k13 k14 k15 k16 k17 k18 k19 k20 k21 k22 k23 k24 k25 k26 k27 k28 k29 k30 k31, K = [k0, k1, k2, k3, k4, k5, k6, k7, k8, k9, k10, k11, k12, k13, k14, k15, k16, k17, k18, k19, k20, k21, k22, k23, k24, k25, k26, k27, k28, k29, k30, k31] := by
  match K, h with
  | [k0, k1, k2, k3, k4, k5, k6, k7, k8, k9, k10, k11, k12, k13, k14, k15, k16, k17, k18, k19, k20, k21, k22, k23, k24, k25, k26, k27, k28, k29, k30, k31], _ => exact ⟨k0, k1, k2, k3, k4, k5, k6, k7, k8, k9, k10, k11, k12, k13, k14, k15, k16, k17, k18, k19, k20, k21, k22, k23, k24, k25, k26, k27, k28, k29, k30, k31, rfl⟩
end Go.Proofs.YtblgphfdicffcaaGreatDoor

/- A slot laid, slots made. It proves no statement. -/



namespace Go.Proofs.YtblgphfdicffcaaGreatDoor
open Go.RowKit
set_option linter.unusedVariables false
set_option linter.unusedSimpArgs false

/-- Behind lay. -/
theorem TB.laid {T : TypeId} {m : Nat} {w : World} {g b c : Nat} {S : List Sl} {p : Nat} {s x : Sl} (h : TB T m w g b c S) (hp : S[p]? = some s) (hx : SlOK m x) (hI : Inv m (S.set p x)) (hk : keysN (S.set p x) = keysN S + 1) (hd : deadN (S.set p x) = deadN S) :
    TB T m ((w.setCells b (p * (33 + m)) (slL m x)).setCell ⟨g, 1, none⟩ (.int .i64 (keysN S + 1 : Nat))) g b c (S.set p x) := by
  have c1 := Chg.of_grown (grown_setC (g := b) (slL m x) (p * (33 + m)) w) (S := fun k => k = b) (fun k hk _ => (Option.some.inj hk).symm)
  have b1 := c1.blk h.box (fun e => h.ne e.symm)
  have r1 := h.row.set (fun i s hi => h.inv.slOK hi) hp hx
  refine ⟨?_, ?_, hI, h.ne, by simpa using h.cap⟩
  · have := b1.setc 1 (.int .i64 (keysN S + 1 : Nat))
    rw [hk, hd, List.length_set]
    exact this
  · exact r1.keep ((grownBy_set _ g 1 _).block b r1.lt (fun e => h.ne (Option.some.inj e)))
theorem made_cell (z : Array Value) (n q : Nat) (hz : 0 < z.size) (hq : q < n) : (madeCells z n)[q]? = z[q % z.size]? := by
  have h1 : ¬ n = 0 := by omega
  have h2 : q % z.size < z.size := Nat.mod_lt _ hz
  unfold madeCells
  simp [h1, hq, h2]
theorem SlB.made (w : World) (t : TypeId) (m n : Nat) : SlB (w.alloc (.cells (madeCells (slL m .empty).toArray (n * (33 + m))) t)) w.heap.size m (List.replicate n .empty) := by
  have hl : (slL m .empty).length = 33 + m := slL_len (SlOK.empty m)
  refine ⟨fun i s hi j v hj => ?_, fun q => (Blk.new w t _).frozen q, by simp⟩
  have hin : i < n := by have := (List.getElem?_eq_some_iff.1 hi).1; simpa using this
  have hs := rep_get hi
  subst hs
  have hj2 : j < 33 + m := by have := (List.getElem?_eq_some_iff.1 hj).1; rwa [hl] at this
  have hlt : i * (33 + m) + j < n * (33 + m) := by
    have : (i + 1) * (33 + m) ≤ n * (33 + m) := Nat.mul_le_mul_right _ hin
    rw [Nat.add_mul, Nat.one_mul] at this; omega
  rw [(Blk.new w t _).cell, made_cell _ _ _ (by rw [List.size_toArray, hl]; omega) hlt, List.size_toArray, hl, show (i * (33 + m) + j) % (33 + m) = j from by rw [Nat.mul_comm, Nat.mul_add_mod, Nat.mod_eq_of_lt hj2], List.getElem?_toArray, hj]
end Go.Proofs.YtblgphfdicffcaaGreatDoor

/- Slots with places in memory. It proves no statement. -/

namespace Go.Proofs.YtblgphfdicffcaaGreatDoor.Pl
open Go.RowKit
set_option linter.unusedVariables false
set_option linter.unusedSimpArgs false

abbrev ET : TypeId := 123
/-- A slot's cells: its state, its key, its value. -/
def slL (m : Nat) (s : Sl) : List Value := .int .i64 (s.st : Nat) :: (bytesV s.key ++ (s.val m).map (Value.int .i64))
theorem slL_len {m : Nat} {s : Sl} (h : SlOK m s) : (slL m s).length = 33 + m := by simp [slL, bytesV_length, h.1, h.2]; omega
theorem slL_one (m : Nat) (s : Sl) : ∀ u ∈ slL m s, u.oneCell' = true := by
  intro u hu
  unfold slL at hu
  rcases List.mem_cons.1 hu with rfl | hu
  · rfl
  · rcases List.mem_append.1 hu with hu | hu
    · exact bytesV_one _ u hu
    · exact ints_one _ u hu
theorem slL_0 (m : Nat) (s : Sl) : (slL m s)[0]? = some (.int .i64 (s.st : Nat)) := rfl
theorem slL_key {m : Nat} {s : Sl} {j : Nat} {u : Value} (h : (bytesV s.key)[j]? = some u) : (slL m s)[1 + j]? = some u := by
  unfold slL
  have hj := (List.getElem?_eq_some_iff.1 h).1
  rw [Nat.add_comm, List.getElem?_cons_succ, List.getElem?_append_left hj, h]
theorem slL_val {m : Nat} {s : Sl} (hs : SlOK m s) {j : Nat} {u : Value} (h : ((s.val m).map (Value.int .i64))[j]? = some u) : (slL m s)[33 + j]? = some u := by
  unfold slL
  rw [show 33 + j = (32 + j) + 1 by omega, List.getElem?_cons_succ, List.getElem?_append_right (by rw [bytesV_length, hs.1]; omega), bytesV_length, hs.1, show 32 + j - 32 = j by omega, h]
/-- Slots in block b. -/
structure SlB (w : World) (b m : Nat) (S : List Sl) : Prop where
  at_ : ∀ (i : Nat) (s : Sl), S[i]? = some s → w.rangeAt b (i * (33 + m)) (slL m s)
  fr : ∀ q, w.frozen? ⟨b, q, none⟩ = false
  lt : b < w.heap.size
  ty : ∃ cs, Blk w b ET cs
theorem ty_set {w : World} {b : Nat} : ∀ (vs : List Value) (o : Nat) (w : World), (∃ cs, Blk w b ET cs) → ∃ cs, Blk (w.setCells b o vs) b ET cs
  | [], _, _, h => h
  | v :: vs, o, w, ⟨cs, h⟩ => ty_set (w := w) vs (o + 1) _ ⟨_, h.setc o v⟩
section
variable {w w' : World} {b m : Nat} {S : List Sl}
theorem SlB.st (h : SlB w b m S) {i : Nat} {s : Sl} (hi : S[i]? = some s) : w.cell? ⟨b, i * (33 + m), none⟩ = some (.int .i64 (s.st : Nat)) := by
  have := h.at_ i s hi 0 _ (slL_0 m s)
  simpa using this
theorem SlB.key (h : SlB w b m S) {i : Nat} {s : Sl} (hi : S[i]? = some s) : w.rangeAt b (i * (33 + m) + 1) (bytesV s.key) := fun j u hj => by
  rw [Nat.add_assoc]
  exact h.at_ i s hi (1 + j) u (slL_key hj)
theorem SlB.val (h : SlB w b m S) {i : Nat} {s : Sl} (hi : S[i]? = some s) (hs : SlOK m s) : w.rangeAt b (i * (33 + m) + 33) ((s.val m).map (Value.int .i64)) := fun j u hj => by
  rw [Nat.add_assoc]
  exact h.at_ i s hi (33 + j) u (slL_val hs hj)
theorem SlB.keep (h : SlB w b m S) (hk : w'.heap[b]? = w.heap[b]?) : SlB w' b m S := by
  refine ⟨fun i s hi j v hv => (World.cell?_of_block (w := w) hk).trans (h.at_ i s hi j v hv), fun q => ?_, ?_, by obtain ⟨cs, hc⟩ := h.ty; exact ⟨cs, hk.trans hc⟩⟩
  · have := h.fr q
    unfold World.frozen? at this ⊢
    simp only [hk]
    exact this
  · have h1 := h.lt
    have : w'.heap[b]?.isSome := by rw [hk]; simp [h1]
    simpa using this
theorem SlB.still (h : SlB w b m S) (s : Still w w') : SlB w' b m S := h.keep (s.block b h.lt)
theorem SlB.chg {R : Nat → Prop} (h : SlB w b m S) (c : Chg w w' R) (hb : ¬ R b) : SlB w' b m S := h.keep (c.block b h.lt hb)
theorem SlB.there (h : SlB w b m S) {i : Nat} {s : Sl} (hi : S[i]? = some s) (hs : SlOK m s) : w.there b (i * (33 + m)) (33 + m) := fun j hj =>
  ⟨(h.at_ i s hi).isSome j (by rw [slL_len hs]; exact hj), h.fr _⟩
/-- A slot is written whole. -/
theorem SlB.set (h : SlB w b m S) (hO : ∀ (i : Nat) s, S[i]? = some s → SlOK m s) {i : Nat} {s x : Sl} (hi : S[i]? = some s) (hx : SlOK m x) : SlB (w.setCells b (i * (33 + m)) (slL m x)) b m (S.set i x) := by
  refine ⟨fun q y hq => ?_, fun q => by rw [World.frozen?_setCells]; exact h.fr q, ?_, ty_set (w := w) _ _ _ h.ty⟩
  · by_cases e : i = q
    · subst e
      rw [List.getElem?_set_self (List.getElem?_eq_some_iff.1 hi).1] at hq
      cases hq
      exact World.rangeAt_setCells_same _ _ _ _ (by rw [slL_len hx]; exact h.there hi (hO i s hi))
    · rw [List.getElem?_set_ne e] at hq
      refine World.rangeAt_setCells_apart (h.at_ q y hq) _ _ _ (.inr ?_)
      rw [slL_len hx, slL_len (hO q y hq)]
      rcases Nat.lt_or_gt_of_ne e with h1 | h1
      · right
        have : (i + 1) * (33 + m) ≤ q * (33 + m) := Nat.mul_le_mul_right _ h1
        rw [Nat.add_mul, Nat.one_mul] at this; omega
      · left
        have : (q + 1) * (33 + m) ≤ i * (33 + m) := Nat.mul_le_mul_right _ h1
        rw [Nat.add_mul, Nat.one_mul] at this; omega
  · have h1 := h.lt
    have h2 := (grown_setC (g := b) (slL m x) (i * (33 + m)) w).size
    omega
/-- A slot's value alone is written. -/
theorem SlB.setVal (h : SlB w b m S) (hO : ∀ (i : Nat) s, S[i]? = some s → SlOK m s) {i : Nat} {k : List UInt8} {v v' : List Int} (hi : S[i]? = some (Sl.full k v)) (hv : v'.length = m) : SlB (w.setCells b (i * (33 + m) + 33) (v'.map (Value.int .i64))) b m (S.set i (.full k v')) := by
  have hok := hO i _ hi
  have hvl : v.length = m := hok.2
  refine ⟨fun q y hq => ?_, fun q => by rw [World.frozen?_setCells]; exact h.fr q, ?_, ty_set (w := w) _ _ _ h.ty⟩
  · by_cases e : i = q
    · subst e
      rw [List.getElem?_set_self (List.getElem?_eq_some_iff.1 hi).1] at hq
      cases hq
      intro j u hj
      have hj2 : j < 33 + m := by
        have := (List.getElem?_eq_some_iff.1 hj).1
        rwa [slL_len (m := m) (s := .full k v') ⟨hok.1, hv⟩] at this
      by_cases h33 : j < 33
      · rw [World.cell?_setCells_out b _ _ w ⟨b, i * (33 + m) + j, none⟩ (fun _ _ => by left; show i * (33 + m) + j < i * (33 + m) + 33; omega)]
        refine h.at_ i _ hi j u ?_
        rw [← hj]
        unfold slL
        rcases j with _ | j
        · rfl
        · rw [List.getElem?_cons_succ, List.getElem?_cons_succ, List.getElem?_append_left (by rw [bytesV_length, hok.1]; omega), List.getElem?_append_left (by rw [bytesV_length]; have := hok.1; simp only [Sl.key] at this ⊢; omega)]
          rfl
      · have h4 : ∃ q, j = 33 + q := ⟨j - 33, by omega⟩
        obtain ⟨q, rfl⟩ := h4
        have hq : ((Sl.full k v').val m).map (Value.int .i64) = v'.map (Value.int .i64) := rfl
        have h5 : (v'.map (Value.int .i64))[q]? = some u := by
          rw [← hj]
          unfold slL
          rw [show 33 + q = (32 + q) + 1 by omega, List.getElem?_cons_succ, List.getElem?_append_right (by rw [bytesV_length]; have := hok.1; simp only [Sl.key] at this ⊢; omega), bytesV_length, show (Sl.full k v').key.length = 32 from hok.1, show 32 + q - 32 = q by omega]
          rfl
        rw [← Nat.add_assoc]
        refine World.rangeAt_setCells_same _ _ _ _ (fun j hj => ?_) q u h5
        rw [Nat.add_assoc]
        exact h.there hi hok (33 + j) (by rw [List.length_map, hv] at hj; omega)
    · rw [List.getElem?_set_ne e] at hq
      refine World.rangeAt_setCells_apart (h.at_ q y hq) _ _ _ (.inr ?_)
      rw [List.length_map, hv, slL_len (hO q y hq)]
      rcases Nat.lt_or_gt_of_ne e with h1 | h1
      · right
        have : (i + 1) * (33 + m) ≤ q * (33 + m) := Nat.mul_le_mul_right _ h1
        rw [Nat.add_mul, Nat.one_mul] at this; omega
      · left
        have : (q + 1) * (33 + m) ≤ i * (33 + m) := Nat.mul_le_mul_right _ h1
        rw [Nat.add_mul, Nat.one_mul] at this; omega
  · have h1 := h.lt
    have h2 := (grown_setC (g := b) (v'.map (Value.int .i64)) (i * (33 + m) + 33) w).size
    omega
end
/-- A table at g, its slots in block b. -/
structure TB (T : TypeId) (m : Nat) (w : World) (g b c : Nat) (S : List Sl) : Prop where
  box : Blk w g T #[.slice (some ⟨b, 0, none⟩) S.length c, .int .i64 (keysN S : Nat), .int .i64 (deadN S : Nat)]
  row : SlB w b m S
  inv : Inv m S
  ne : b ≠ g
  cap : S.length ≤ c ∧ c ≤ 9223372036854775807
section
variable {T : TypeId} {m : Nat} {w w' : World} {g b c : Nat} {S : List Sl}
theorem TB.still (h : TB T m w g b c S) (s : Still w w') : TB T m w' g b c S := ⟨h.box.still s, h.row.still s, h.inv, h.ne, h.cap⟩
theorem TB.chg {R : Nat → Prop} (h : TB T m w g b c S) (k : Chg w w' R) (hg : ¬ R g) (hb : ¬ R b) : TB T m w' g b c S := ⟨k.blk h.box hg, h.row.chg k hb, h.inv, h.ne, h.cap⟩
theorem TB.c0 (h : TB T m w g b c S) : w.cell? ⟨g, 0, none⟩ = some (.slice (some ⟨b, 0, none⟩) S.length c) := h.box.cell 0
theorem TB.c1 (h : TB T m w g b c S) : w.cell? ⟨g, 1, none⟩ = some (.int .i64 (keysN S : Nat)) := h.box.cell 1
theorem TB.c2 (h : TB T m w g b c S) : w.cell? ⟨g, 2, none⟩ = some (.int .i64 (deadN S : Nat)) := h.box.cell 2
theorem TB.len8 (h : TB T m w g b c S) : 8 ≤ S.length := h.inv.len8
end
/-- Behind lay. -/
theorem TB.laid {T : TypeId} {m : Nat} {w : World} {g b c : Nat} {S : List Sl} {p : Nat} {s x : Sl} (h : TB T m w g b c S) (hp : S[p]? = some s) (hx : SlOK m x) (hI : Inv m (S.set p x)) (hk : keysN (S.set p x) = keysN S + 1) (hd : deadN (S.set p x) = deadN S) :
    TB T m ((w.setCells b (p * (33 + m)) (slL m x)).setCell ⟨g, 1, none⟩ (.int .i64 (keysN S + 1 : Nat))) g b c (S.set p x) := by
  have c1 := Chg.of_grown (grown_setC (g := b) (slL m x) (p * (33 + m)) w) (S := fun k => k = b) (fun k hk _ => (Option.some.inj hk).symm)
  have b1 := c1.blk h.box (fun e => h.ne e.symm)
  have r1 := h.row.set (fun i s hi => h.inv.slOK hi) hp hx
  refine ⟨?_, ?_, hI, h.ne, by simpa using h.cap⟩
  · have := b1.setc 1 (.int .i64 (keysN S + 1 : Nat))
    rw [hk, hd, List.length_set]
    exact this
  · exact r1.keep ((grownBy_set _ g 1 _).block b r1.lt (fun e => h.ne (Option.some.inj e)))
theorem SlB.made (w : World) (m n : Nat) : SlB (w.alloc (.cells (madeCells (slL m .empty).toArray (n * (33 + m))) ET)) w.heap.size m (List.replicate n .empty) := by
  have hl : (slL m .empty).length = 33 + m := slL_len (SlOK.empty m)
  refine ⟨fun i s hi j v hj => ?_, fun q => (Blk.new w ET _).frozen q, by simp, ⟨_, Blk.new w ET _⟩⟩
  have hin : i < n := by have := (List.getElem?_eq_some_iff.1 hi).1; simpa using this
  have hs := rep_get hi
  subst hs
  have hj2 : j < 33 + m := by have := (List.getElem?_eq_some_iff.1 hj).1; rwa [hl] at this
  have hlt : i * (33 + m) + j < n * (33 + m) := by
    have : (i + 1) * (33 + m) ≤ n * (33 + m) := Nat.mul_le_mul_right _ hin
    rw [Nat.add_mul, Nat.one_mul] at this; omega
  rw [(Blk.new w ET _).cell, made_cell _ _ _ (by rw [List.size_toArray, hl]; omega) hlt, List.size_toArray, hl, show (i * (33 + m) + j) % (33 + m) = j from by rw [Nat.mul_comm, Nat.mul_add_mod, Nat.mod_eq_of_lt hj2], List.getElem?_toArray, hj]
end Go.Proofs.YtblgphfdicffcaaGreatDoor.Pl

/- Contracts: a table's home, its searches. It proves no statement. -/





namespace Go.Proofs.YtblgphfdicffcaaGreatDoor.Pl
open Go.RowKit
set_option linter.unusedVariables false
set_option linter.unusedSimpArgs false

theorem works_yes {T : TypeId} {m : Nat} {w : World} {g b c : Nat} {S : List Sl} (h : TB T m w g b c S) :
    Calls Tryz.prog 112 #[.pointer (some ⟨g, 0, none⟩)] w fun e w' => e = .returned (.bool true) ∧ w = w' := by
  have k0 := h.c0
  have h8 := h.len8
  have d1 : 0 < S.length := by omega
  obtain ⟨n, hn⟩ : ∃ n, n = S.length := ⟨_, rfl⟩
  rw [← hn] at k0 d1
  clear h h8 hn
  go_enter Tryz.func112, Tryz.ntmps112
  go_wp2_with fail
  go_ret
  exact ⟨rfl, rfl⟩
theorem or_shift (x y s : Nat) (hx : x < 2 ^ s) (hy : y < 256) (hs : s ≤ 24) : bits .or .u64 (x : Int) ((y * 2 ^ s : Nat) : Int) = ((x + y * 2 ^ s : Nat) : Int) := by
  have hp : 2 ^ s ≤ 2 ^ 24 := Nat.pow_le_pow_right (by omega) hs
  have h1 : y * 2 ^ s < 256 * 2 ^ s := Nat.mul_lt_mul_of_pos_right hy (Nat.two_pow_pos s)
  rw [u64_or_nat _ _ (by omega) (by omega)]
  congr 1
  rw [Nat.or_comm, Nat.mul_comm, ← Nat.two_pow_add_eq_or_of_lt hx]
  omega
set_option maxRecDepth 100000 in
set_option maxHeartbeats 1600000 in
theorem home_any {T : TypeId} {m : Nat} {w : World} {g b c : Nat} {S : List Sl} (h : TB T m w g b c S) (k : List UInt8) (hk : k.length = 32) (hS : S.length ≤ 1099511627776) :
    Calls Tryz.prog 167 #[.pointer (some ⟨g, 0, none⟩), .agg (bytesV k).toArray] w fun e w' => e = .returned (.int .i64 (pos k S.length 0 : Nat)) ∧ Still w w' := by
  rw [pos_zero]
  obtain ⟨wA, hwA⟩ : ∃ wA, wA = w.alloc (.cells (bytesV k).toArray 24) := ⟨_, rfl⟩
  obtain ⟨gk, hg⟩ : ∃ gk, gk = w.heap.size := ⟨_, rfl⟩
  have SA : Still w wA := by rw [hwA]; exact (Still.refl w).alloc (Nat.le_refl _) _
  have r1 := key_reads w k hk
  rw [← hwA, ← hg] at r1
  have c0 := r1.cellAt 0 (by omega)
  have c1 := r1.cellAt 1 (by omega)
  have c2 := r1.cellAt 2 (by omega)
  have c3 := r1.cellAt 3 (by omega)
  rw [Nat.zero_add] at c0 c1 c2 c3
  have k0 := (h.still SA).c0
  have h8 := h.len8
  have E : homeN k = (k.getD 0 0).toNat + 256 * (k.getD 1 0).toNat + 65536 * (k.getD 2 0).toNat + 16777216 * (k.getD 3 0).toNat := rfl
  have l0 := (k.getD 0 0).toNat_lt
  have l1 := (k.getD 1 0).toNat_lt
  have l2 := (k.getD 2 0).toNat_lt
  have l3 := (k.getD 3 0).toNat_lt
  obtain ⟨x0, e0⟩ : ∃ x, x = (k.getD 0 0).toNat := ⟨_, rfl⟩
  obtain ⟨x1, e1⟩ : ∃ x, x = (k.getD 1 0).toNat := ⟨_, rfl⟩
  obtain ⟨x2, e2⟩ : ∃ x, x = (k.getD 2 0).toNat := ⟨_, rfl⟩
  obtain ⟨x3, e3⟩ : ∃ x, x = (k.getD 3 0).toNat := ⟨_, rfl⟩
  rw [← e0] at c0 E l0
  rw [← e1] at c1 E l1
  rw [← e2] at c2 E l2
  rw [← e3] at c3 E l3
  clear e0 e1 e2 e3
  have o1 := or_shift x0 x1 8 (by omega) l1 (by omega)
  have o2 := or_shift (x0 + x1 * 2 ^ 8) x2 16 (by omega) l2 (by omega)
  have o3 := or_shift (x0 + x1 * 2 ^ 8 + x2 * 2 ^ 16) x3 24 (by omega) l3 (by omega)
  obtain ⟨n, hn⟩ : ∃ n, n = S.length := ⟨_, rfl⟩
  rw [← hn] at k0 h8 hS ⊢
  obtain ⟨y1, f1⟩ : ∃ y, y = x0 + x1 * 2 ^ 8 := ⟨_, rfl⟩
  rw [← f1] at o1 o2 o3
  obtain ⟨y2, f2⟩ : ∃ y, y = y1 + x2 * 2 ^ 16 := ⟨_, rfl⟩
  rw [← f2] at o2 o3
  obtain ⟨y3, f3⟩ : ∃ y, y = y2 + x3 * 2 ^ 24 := ⟨_, rfl⟩
  rw [← f3] at o3
  have E3 : homeN k = y3 := by rw [E, f3, f2, f1]; omega
  rw [E3]
  have b3 : y3 < 4294967296 := by omega
  obtain ⟨z1, g1⟩ : ∃ z : Int, z = (x1 : Int) * 256 := ⟨_, rfl⟩
  obtain ⟨z2, g2⟩ : ∃ z : Int, z = (x2 : Int) * 65536 := ⟨_, rfl⟩
  obtain ⟨z3, g3⟩ : ∃ z : Int, z = (x3 : Int) * 16777216 := ⟨_, rfl⟩
  rw [show ((x1 * 2 ^ 8 : Nat) : Int) = (x1 : Int) * 256 by simp] at o1
  rw [show ((x2 * 2 ^ 16 : Nat) : Int) = (x2 : Int) * 65536 by simp] at o2
  rw [show ((x3 * 2 ^ 24 : Nat) : Int) = (x3 : Int) * 16777216 by simp] at o3
  have w1 : IntKind.u64.wrap ((x1 : Int) * 256) = (x1 : Int) * 256 := by rw [IntKind.wrap_u64]; omega
  have w2 : IntKind.u64.wrap ((x2 : Int) * 65536) = (x2 : Int) * 65536 := by rw [IntKind.wrap_u64]; omega
  have w3 : IntKind.u64.wrap ((x3 : Int) * 16777216) = (x3 : Int) * 16777216 := by rw [IntKind.wrap_u64]; omega
  have HW := Lib.hid (show wrap64 ((y3 : Int) % (n : Int)) = ((y3 % n : Nat) : Int) from by
    have hlt : y3 % n < n := Nat.mod_lt _ (by omega)
    rw [← Int.natCast_emod]
    unfold wrap64
    omega)
  have d1 : (0 : Int) < (n : Int) := by omega
  have d1' : ¬ (n : Int) = 0 := by omega
  have d1'' : ¬ n = 0 := by omega
  have d2 : (n : Int) ≤ 1099511627776 := by omega
  have d3 : (y3 : Int) < 4294967296 := by omega
  have HWA := Lib.hid hwA
  have HG := Lib.hid hg
  have HSA := Lib.hid SA
  obtain ⟨kv, hkv⟩ : ∃ kv, kv = (bytesV k).toArray := ⟨_, rfl⟩
  rw [← hkv] at HWA ⊢
  clear hwA hg SA r1 h hkv hk E E3 f1 f2 f3 hn g1 g2 g3 h8 hS b3
  go_enter Tryz.func167, Tryz.ntmps167
  go_upto_region 1 with (guard_target =~ wpList _ _ _ (Oper.mk (some 3) _ _ _ _ _ :: _) _ _; go_must (refine wpList_box_val rfl 24 (.tmp 1) rfl (some 3) rfl kv rfl ?_))
  rw [← HWA.out, ← HG.out]
  go_wp2_with fail
  go_ret
  refine ⟨?_, HSA.out⟩
  show Ending.returned (.int .i64 (wrap64 ((y3 : Int) % (n : Int)))) = _
  rw [HW.out]
set_option maxRecDepth 100000 in
set_option maxHeartbeats 1600000 in
theorem ends_any {m : Nat} {w : World} {b i o : Nat} {S : List Sl} {s : Sl} (h : SlB w b m S) (hi : S[i]? = some s) (ho : o = i * (33 + m)) (hs : SlOK m s) (k : List UInt8) (hk : k.length = 32) :
    Calls Tryz.prog 168 #[.pointer (some ⟨b, o, none⟩), .agg (bytesV k).toArray] w fun e w' => e = .returned (.bool (s.ends k)) ∧ Still w w' := by
  obtain ⟨wA, hwA⟩ : ∃ wA, wA = w.alloc (.cells (bytesV k).toArray 24) := ⟨_, rfl⟩
  obtain ⟨gk, hg⟩ : ∃ gk, gk = w.heap.size := ⟨_, rfl⟩
  have SA : Still w wA := by rw [hwA]; exact (Still.refl w).alloc (Nat.le_refl _) _
  have r1 := box_key w k
  rw [← hwA, ← hg] at r1
  have hA := h.still SA
  have k0 := hA.st hi
  have kk := hA.key hi
  rw [← ho] at k0 kk
  have LB := Lib.hid (fun W (hW : ∃ n, W = wA.drewN n) => show W.rangeAt gk 0 (bytesV k) from by obtain ⟨n, rfl⟩ := hW; exact r1)
  have LK := Lib.hid (fun W (hW : ∃ n, W = wA.drewN n) => show W.rangeAt b (o + 1) (bytesV s.key) from by obtain ⟨n, rfl⟩ := hW; exact kk)
  have H32 := Lib.hid (show (Tryz.prog.info? 24).map (·.size) = some (bytesV s.key).length ∧ (Tryz.prog.info? 24).map (·.size) = some (bytesV k).length from ⟨by rw [size32, bytesV_length, hs.1], by rw [size32, bytesV_length, hk]⟩)
  have EQ := Lib.hid (fun W => eql_ids W s.key k hs.1 hk)
  have HWA := Lib.hid hwA
  have HG := Lib.hid hg
  have HSA := Lib.hid (fun n => still_drewN SA n)
  obtain ⟨kv, hkv⟩ : ∃ kv, kv = (bytesV k).toArray := ⟨_, rfl⟩
  rw [← hkv] at HWA EQ ⊢
  cases s with
  | empty =>
    simp only [Sl.st, Sl.ends] at k0 ⊢
    clear hwA hg SA r1 h hkv hA kk hs hi ho hk LB LK EQ H32
    go_enter Tryz.func168, Tryz.ntmps168
    go_upto_region 1 with (guard_target =~ wpList _ _ _ (Oper.mk (some 3) _ _ _ _ _ :: _) _ _; go_must (refine wpList_box_val rfl 24 (.tmp 1) rfl (some 3) rfl kv rfl ?_))
    rw [← HWA.out, ← HG.out]
    go_quiet (fail)
    go_wp2_with fail
    go_ret
    exact ⟨rfl, HSA.out _⟩
  | dead =>
    simp only [Sl.st, Sl.ends] at k0 ⊢
    clear hwA hg SA r1 h hkv hA kk hs hi ho hk LB LK EQ H32
    go_enter Tryz.func168, Tryz.ntmps168
    go_upto_region 1 with (guard_target =~ wpList _ _ _ (Oper.mk (some 3) _ _ _ _ _ :: _) _ _; go_must (refine wpList_box_val rfl 24 (.tmp 1) rfl (some 3) rfl kv rfl ?_))
    rw [← HWA.out, ← HG.out]
    go_quiet (fail)
    go_wp2_with fail
    go_ret
    exact ⟨rfl, HSA.out _⟩
  | full k' v =>
    simp only [Sl.st, Sl.ends, Sl.key] at k0 LK EQ ⊢
    obtain ⟨kq, hkq⟩ : ∃ kq, kq = (bytesV k').toArray := ⟨_, rfl⟩
    rw [← hkq] at EQ
    have KQ := Lib.hid hkq
    have KV := Lib.hid hkv
    have eq := EQ.out
    clear hwA hg SA r1 h hkv hA kk hs hi ho hk EQ hkq
    go_enter Tryz.func168, Tryz.ntmps168
    go_upto_region 1 with (guard_target =~ wpList _ _ _ (Oper.mk (some 3) _ _ _ _ _ :: _) _ _; go_must (refine wpList_box_val rfl 24 (.tmp 1) rfl (some 3) rfl kv rfl ?_))
    rw [← HWA.out, ← HG.out]
    refine wp_region_quiet_lit (by kernel_rfl) (by kernel_rfl) ?_
    repeat (first
      | (guard_target =~ wpQuiet _ _ _ _ (Oper.mk (some 20) _ _ _ _ _ :: _) _; go_must (refine quiet_load_mid (by kernel_rfl) 24 (.tmp 19) rfl b (o + 1) (by kernel_rfl) (bytesV k') _ LK.out under32 rfl H32.out.1 ?_); rw [← KQ.out])
      | (guard_target =~ wpQuiet _ _ _ _ (Oper.mk (some 21) _ _ _ _ _ :: _) _; go_must (refine quiet_load_mid (by kernel_rfl) 24 (.tmp 3) rfl gk 0 (by kernel_rfl) (bytesV k) _ LB.out under32 rfl H32.out.2 ?_); rw [← KV.out])
      | quiet_step (fail))
    refine wpQuiet_nil ?_
    intro _ hw'
    obtain ⟨nq, hw''⟩ := hw'
    subst hw''
    go_wp2_with fail
    go_ret
    exact ⟨rfl, HSA.out _⟩
set_option maxRecDepth 100000 in
set_option maxHeartbeats 3200000 in
theorem search_any {T : TypeId} {w : World} {g b c : Nat} {S : List Sl} (h : TB T 3 w g b c S) (k : List UInt8) (hk : k.length = 32) (hS : S.length ≤ 1099511627776) (j : Nat) (hj : Stop S k j) :
    Calls Tryz.prog 113 #[.pointer (some ⟨g, 0, none⟩), .agg (bytesV k).toArray] w fun e w' => e = .returned (.tuple #[.int .i64 (pos k S.length j : Nat), .int .i64 (j + 1 : Nat)]) ∧ Still w w' := by
  obtain ⟨wA, hwA⟩ : ∃ wA, wA = w.alloc (.cells (bytesV k).toArray 24) := ⟨_, rfl⟩
  obtain ⟨gk, hg⟩ : ∃ gk, gk = w.heap.size := ⟨_, rfl⟩
  have SA : Still w wA := by rw [hwA]; exact (Still.refl w).alloc (Nat.le_refl _) _
  have r1 := box_key w k
  rw [← hwA, ← hg] at r1
  have hA := h.still SA
  have h8 := h.len8
  have lt := hj.lt
  have HM := Lib.hid (fun W (s : Still wA W) => home_any (hA.still s) k hk hS)
  have ED := Lib.hid (fun W (s : Still wA W) (i : Nat) (hi : i < S.length) => ends_any (o := i * 36) (hA.still s).row (slot_eq hi) rfl (h.inv.slOK (slot_eq hi)) k hk)
  have K0 := Lib.hid (fun W (s : Still wA W) => (hA.still s).c0)
  have LB := Lib.hid (fun W (s : Still wA W) => show W.rangeAt gk 0 (bytesV k) from fun j u hj => (s.cell (p := ⟨gk, 0 + j, none⟩) (by rw [hwA]; simp [hg])).trans (r1 j u hj))
  have H32 := Lib.hid (show (Tryz.prog.info? 24).map (·.size) = some (bytesV k).length from by rw [size32, bytesV_length, hk])
  have HJ := Lib.hid hj
  have HWA := Lib.hid hwA
  have HG := Lib.hid hg
  have HSA := Lib.hid SA
  obtain ⟨kv, hkv⟩ : ∃ kv, kv = (bytesV k).toArray := ⟨_, rfl⟩
  rw [← hkv] at HWA HM ED ⊢
  have KV := Lib.hid hkv
  obtain ⟨n, hn⟩ : ∃ n, n = S.length := ⟨_, rfl⟩
  rw [← hn] at h8 lt hS HM ED K0 ⊢
  have PZ := Lib.hid (pos_zero k n)
  have PN := Lib.hid (pos_next k n)
  have PL := Lib.hid (fun i => pos_lt k (n := n) i (by omega))
  have NO := Lib.hid (show ∀ i, i < j → (slot S (pos k n i)).ends k = false from by rw [hn]; exact hj.no)
  have YES := Lib.hid (show (slot S (pos k n j)).ends k = true from by rw [hn]; exact hj.yes)
  clear hwA hg SA r1 h hkv hA hj hn hk
  go_enter Tryz.func113, Tryz.ntmps113
  go_upto_region 1 with (guard_target =~ wpList _ _ _ (Oper.mk (some 3) _ _ _ _ _ :: _) _ _; go_must (refine wpList_box_val rfl 24 (.tmp 1) rfl (some 3) rfl kv rfl ?_))
  rw [← HWA.out, ← HG.out]
  go_wp2_with (first
    | (guard_target =~ wpList _ _ _ (Oper.mk (some 9) _ _ _ _ _ :: _) _ _; go_must (refine wpList_load_mid rfl 24 (.tmp 3) rfl gk 0 rfl (bytesV k) _ (LB.out _ (Still.refl _)) under32 rfl H32.out ?_); rw [← KV.out])
    | (go_at_call 167; refine (HM.out _ (Still.refl _)).mono ?_; rintro e w1 ⟨rfl, s1⟩; have S1 := Lib.hid s1; clear s1))
  go_loopw [6, 7] (fun av sv wr => ∃ i : Nat, i ≤ j ∧ av = .int .i64 (pos k n i : Nat) ∧ sv = .int .i64 (i + 1 : Nat) ∧ Hid (Still wA wr)) (fun _ sv _ => j + 1 - (intOf sv).toNat)
  case atStart => exact ⟨0, by omega, rfl, rfl, S1⟩
  case round =>
    obtain ⟨i, hi, rfl, rfl, SW⟩ := hrel
    have HP := Lib.hid (PL.out i)
    have kk : ∀ p : StillBy wA, p.W.cell? ⟨g, 0, none⟩ = some (.slice (some ⟨b, 0, none⟩) n c) := fun p => K0.out _ p.still
    have d0 : pos k n i < n := PL.out i
    rcases Nat.lt_or_ge i j with hlt | hge
    · have EE := Lib.hid (fun (p : StillBy wA) => ED.out p.W p.still (pos k n i) (PL.out i))
      rw [NO.out i hlt] at EE
      have PN := Lib.hid (PN.out i)
      obtain ⟨x, hx⟩ : ∃ x, x = pos k n i := ⟨_, rfl⟩
      rw [← hx] at EE PN d0 ⊢
      have d1 : (x : Int) < (n : Int) := by omega
      have d2 : (n : Int) ≤ 1099511627776 := by omega
      have d3 : (i : Int) < 1099511627776 := by omega
      have d4 : ¬ n = 0 := by omega
      have d5 : ¬ (n : Int) = 0 := by omega
      clear hx
      go_upto_region 2 with fail
      refine wp_region_quiet_still wA SW.out (by kernel_rfl) (by kernel_rfl) ?_
      repeat (first
        | (guard_target =~ wpQuiet _ _ _ _ (Oper.mk (some 17) _ _ _ _ _ :: _) _; go_must (refine quiet_load_mid (by kernel_rfl) 24 (.tmp 3) rfl gk 0 (by kernel_rfl) (bytesV k) _ (fun W hW => by obtain ⟨p, rfl⟩ := hW; exact LB.out _ p.still) under32 rfl H32.out ?_); rw [← KV.out])
        | quiet_step ((go_at_call 168; exact Calls.stillby _ (EE.out _))))
      refine wpQuiet_nil ?_
      intro wq hw'
      have SQ := Lib.hid (show Still wA wq from by obtain ⟨p, rfl⟩ := hw'; exact p.still)
      clear hw'
      have k1 : wq.cell? ⟨g, 0, none⟩ = some (.slice (some ⟨b, 0, none⟩) n c) := K0.out _ SQ.out
      clear kk
      go_wp2_with fail
      go_roundw
      case rel => exact ⟨i + 1, by omega, by rw [PN.out]; simp, by go_num, SQ⟩
      case measure => simp [intOf]; omega
    · have hij : i = j := by omega
      subst hij
      have EE := Lib.hid (fun (p : StillBy wA) => ED.out p.W p.still (pos k n i) (PL.out i))
      rw [YES.out] at EE
      obtain ⟨x, hx⟩ : ∃ x, x = pos k n i := ⟨_, rfl⟩
      rw [← hx] at EE d0 ⊢
      have d1 : (x : Int) < (n : Int) := by omega
      have HX := Lib.hid hx
      clear hx
      go_upto_region 2 with fail
      refine wp_region_quiet_still wA SW.out (by kernel_rfl) (by kernel_rfl) ?_
      repeat (first
        | (guard_target =~ wpQuiet _ _ _ _ (Oper.mk (some 17) _ _ _ _ _ :: _) _; go_must (refine quiet_load_mid (by kernel_rfl) 24 (.tmp 3) rfl gk 0 (by kernel_rfl) (bytesV k) _ (fun W hW => by obtain ⟨p, rfl⟩ := hW; exact LB.out _ p.still) under32 rfl H32.out ?_); rw [← KV.out])
        | quiet_step ((go_at_call 168; exact Calls.stillby _ (EE.out _))))
      refine wpQuiet_nil ?_
      intro wq hw'
      have SQ := Lib.hid (show Still wA wq from by obtain ⟨p, rfl⟩ := hw'; exact p.still)
      clear hw'
      clear kk
      go_wp2_with fail
      go_ret2
      exact ⟨by rw [← HX.out]; first | rfl | simp, Still.trans HSA.out SQ.out⟩
end Go.Proofs.YtblgphfdicffcaaGreatDoor.Pl

/- Contracts: a key looked up. It proves no statement. -/

namespace Go.Proofs.YtblgphfdicffcaaGreatDoor.Pl
open Go.RowKit
set_option linter.unusedVariables false
set_option linter.unusedSimpArgs false

set_option maxRecDepth 100000 in
set_option maxHeartbeats 3200000 in
theorem find_at {T : TypeId} {w : World} {g b c : Nat} {S : List Sl} (h : TB T 3 w g b c S) (k : List UInt8) (hk : k.length = 32) (hS : S.length ≤ 1099511627776) (j : Nat) (hj : Stop S k j) (q : Bool) (s : Sl) (hs : S[pos k S.length j]? = some s) (hq : s.isFull = q) :
    Calls Tryz.prog 58 #[.pointer (some ⟨g, 0, none⟩), .agg (bytesV k).toArray] w fun e w' => e = .returned (.pointer (if q then some ⟨b, pos k S.length j * 36, none⟩ else none)) ∧ Still w w' := by
  obtain ⟨wA, hwA⟩ : ∃ wA, wA = w.alloc (.cells (bytesV k).toArray 24) := ⟨_, rfl⟩
  obtain ⟨gk, hg⟩ : ∃ gk, gk = w.heap.size := ⟨_, rfl⟩
  have SA : Still w wA := by rw [hwA]; exact (Still.refl w).alloc (Nat.le_refl _) _
  have r1 := box_key w k
  rw [← hwA, ← hg] at r1
  have hA := h.still SA
  have h8 := h.len8
  have SE := Lib.hid (fun W (s : Still wA W) => search_any (hA.still s) k hk hS j hj)
  have WY := Lib.hid (fun W (s : Still wA W) => works_yes (hA.still s))
  have K0 := Lib.hid (fun W (s : Still wA W) => (hA.still s).c0)
  have KS := Lib.hid (fun W (s' : Still wA W) => show W.cell? ⟨b, pos k S.length j * 36, none⟩ = some (.int .i64 (s.st : Nat)) from (hA.still s').row.st hs)
  have d0 := pos_lt k (n := S.length) j (by omega)
  have H32 := Lib.hid (show (Tryz.prog.info? 24).map (·.size) = some (bytesV k).length from by rw [size32, bytesV_length, hk])
  have HWA := Lib.hid hwA
  have HG := Lib.hid hg
  have HSA := Lib.hid SA
  have RB := Lib.hid r1
  obtain ⟨kv, hkv⟩ : ∃ kv, kv = (bytesV k).toArray := ⟨_, rfl⟩
  rw [← hkv] at HWA SE ⊢
  have KV := Lib.hid hkv
  obtain ⟨n, hn⟩ : ∃ n, n = S.length := ⟨_, rfl⟩
  rw [← hn] at h8 hS SE K0 KS d0 ⊢
  obtain ⟨x, hx⟩ : ∃ x, x = pos k n j := ⟨_, rfl⟩
  rw [← hx] at SE KS d0 ⊢
  have d1 : (x : Int) < (n : Int) := by omega
  have ST : (q = true → s.st = 2) ∧ (q = false → s.st = 0 ∨ s.st = 1) := by
    subst hq
    cases s <;> simp [Sl.isFull, Sl.st]
  obtain ⟨y, hy⟩ : ∃ y, y = s.st := ⟨_, rfl⟩
  rw [← hy] at KS ST
  clear hwA hg SA r1 h hkv hA hn hk hj hx hy hs hq
  have go : ∀ (q : Bool) (y : Nat) (hy : (y == 2) = q) (hyq : (((y : Nat) : Int) != 2) = !q) (KS : Hid (∀ W, Still wA W → W.cell? ⟨b, x * 36, none⟩ = some (.int .i64 (y : Nat)))), Calls Tryz.prog 58 #[.pointer (some ⟨g, 0, none⟩), .agg kv] w fun e w' => e = .returned (.pointer (if q then some ⟨b, x * 36, none⟩ else none)) ∧ Still w w' := by
    clear ST KS q y
    intro q y hy hyq KS
    clear hy
    go_enter Tryz.func58, Tryz.ntmps58
    go_upto_region 1 with (guard_target =~ wpList _ _ _ (Oper.mk (some 3) _ _ _ _ _ :: _) _ _; go_must (refine wpList_box_val rfl 24 (.tmp 1) rfl (some 3) rfl kv rfl ?_))
    rw [← HWA.out, ← HG.out]
    cases q
    all_goals
      simp only [Bool.not_true, Bool.not_false] at hyq
      go_wp2_with (first
        | (guard_target =~ wpList _ _ _ (Oper.mk (some 13) _ _ _ _ _ :: _) _ _; go_must (refine wpList_load_mid rfl 24 (.tmp 3) rfl gk 0 rfl (bytesV k) _ RB.out under32 rfl H32.out ?_); rw [← KV.out])
        | (go_at_call 112; refine (WY.out _ (Still.refl _)).mono ?_; rintro e w1 ⟨rfl, rfl⟩)
        | (go_at_call 113; refine (SE.out _ (Still.refl _)).mono ?_; rintro e w1 ⟨rfl, s1⟩; have S1 := Lib.hid s1; have k1 := K0.out _ s1; have k2 := KS.out _ s1; clear s1))
      go_ret
      exact ⟨rfl, Still.trans HSA.out S1.out⟩
  cases q
  · rcases ST.2 rfl with h | h
    · exact go false y (by rw [h]; rfl) (by rw [h]; rfl) KS
    · exact go false y (by rw [h]; rfl) (by rw [h]; rfl) KS
  · exact go true y (by rw [ST.1 rfl]; rfl) (by rw [ST.1 rfl]; rfl) KS
end Go.Proofs.YtblgphfdicffcaaGreatDoor.Pl

/- A key of a call lies in a box. It proves no statement. -/

namespace Go.Proofs.YtblgphfdicffcaaGreatDoor
open Go.RowKit
set_option linter.unusedVariables false
set_option linter.unusedSimpArgs false

/-- A key of a call lies in a box. -/
structure KeyBox (w wA : World) (gk : Nat) (k : List UInt8) (kv : Array Value) : Prop where
  hwA : wA = w.alloc (.cells kv 24)
  hgk : gk = w.heap.size
  hkv : kv = (bytesV k).toArray
  still : Still w wA
  reads : ∀ W, Still wA W → W.rangeAt gk 0 (bytesV k)
  size : (Tryz.prog.info? 24).map (·.size) = some (bytesV k).length
theorem keyBox (w : World) (k : List UInt8) (hk : k.length = 32) : ∃ wA gk kv, KeyBox w wA gk k kv :=
  ⟨_, _, _, rfl, rfl, rfl, (Still.refl w).alloc (Nat.le_refl _) _, fun W s q u hq => (s.cell (p := ⟨w.heap.size, 0 + q, none⟩) (by simp)).trans (box_key w k q u hq), by rw [size32, bytesV_length, hk]⟩
end Go.Proofs.YtblgphfdicffcaaGreatDoor

/- A key and a value of a call lie in boxes. It proves no statement. -/

namespace Go.Proofs.YtblgphfdicffcaaGreatDoor
open Go.RowKit
set_option linter.unusedVariables false
set_option linter.unusedSimpArgs false

def intsV (v : List Int) : Array Value := (v.map (Value.int .i64)).toArray
/-- A key and a value of a call lie in boxes. -/
structure KvBox (w wB : World) (gk gv : Nat) (k : List UInt8) (v : List Int) (T : TypeId) (kv vv : Array Value) : Prop where
  eq : wB = (w.alloc (.cells kv 24)).alloc (.cells vv T)
  hgk : gk = w.heap.size
  hgv : gv = (w.alloc (.cells kv 24)).heap.size
  hkv : kv = (bytesV k).toArray
  hvv : vv = intsV v
  still : Still w wB
  reads : ∀ W, Still wB W → W.rangeAt gk 0 (bytesV k)
  vals : ∀ W, Still wB W → W.rangeAt gv 0 (v.map (Value.int .i64))
  size : (Tryz.prog.info? 24).map (·.size) = some (bytesV k).length
  lt : gk < wB.heap.size ∧ gv < wB.heap.size
theorem kvBox (w : World) (k : List UInt8) (v : List Int) (T : TypeId) (hk : k.length = 32) : ∃ wB gk gv kv vv, KvBox w wB gk gv k v T kv vv := by
  obtain ⟨wA, gk, kv, KA⟩ := keyBox w k hk
  have SB : Still wA (wA.alloc (.cells (intsV v) T)) := (Still.refl wA).alloc (Nat.le_refl _) _
  refine ⟨wA.alloc (.cells (intsV v) T), gk, wA.heap.size, kv, _, by rw [← KA.hwA], KA.hgk, by rw [← KA.hwA], KA.hkv, rfl, Still.trans KA.still SB, fun W s => KA.reads W (Still.trans SB s), fun W s q u hq => ?_, KA.size, ?_⟩
  · have e : (wA.alloc (.cells (intsV v) T)).cell? ⟨wA.heap.size, 0 + q, none⟩ = some u := by
      rw [Nat.zero_add, (Blk.new wA T (intsV v)).cell, intsV, List.getElem?_toArray, hq]
    exact (s.cell (p := ⟨wA.heap.size, 0 + q, none⟩) (by simp)).trans e
  · have h1 := KA.still.size
    have h2 : gk < wA.heap.size := by rw [KA.hwA, KA.hgk]; simp
    have h3 : (wA.alloc (.cells (intsV v) T)).heap.size = wA.heap.size + 1 := by simp
    omega
end Go.Proofs.YtblgphfdicffcaaGreatDoor
