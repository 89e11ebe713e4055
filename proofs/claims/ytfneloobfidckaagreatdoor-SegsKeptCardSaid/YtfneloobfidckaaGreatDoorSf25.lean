/- Contracts and facts, several texts in one. It proves no statement. -/
import Derived.Test.YtfneloobfidckaaGreatDoorSf00
import Derived.Test.YtfneloobfidckaaGreatDoorSf06
import Derived.Deep.MidRow
import Derived.Deep.WholeRow
import Derived.Deep.DeepCutAuto
import Derived.Great.BuildSlice
import Derived.Great.Walk
import Derived.Stop.BytesEq
import Derived.Outline
import Derived.Deep.DeepMust

/- Entries as values; what frame's check says of one, and its size. It proves no statement. -/








namespace Go.Proofs.YtfneloobfidckaaGreatDoor
open Go.RowKit
set_option linter.unusedVariables false
set_option linter.unusedSimpArgs false

/-- An entry's cells: its tag, its key's 32 bytes, its data. -/
def entL (t : Int) (K : List UInt8) (v : Value) : List Value := .int .i64 t :: (bytesV K ++ [v])
def entV (t : Int) (K : List UInt8) (v : Value) : Array Value := (entL t K v).toArray
theorem under32 : Tryz.prog.underlying 41 = some (.array 32 5) := by kernel_rfl
theorem size32 : (Tryz.prog.info? 41).map (·.size) = some 32 := by kernel_rfl
theorem sizeEnt : (Tryz.prog.info? 44).map (·.size) = some 34 := by kernel_rfl
theorem underEnt : ∃ fs, Tryz.prog.underlying 44 = some (.struct fs) := ⟨_, Tryz.underlying44⟩
theorem entV_size (t : Int) (K : List UInt8) (v : Value) (h : K.length = 32) : (entV t K v).size = 34 := by simp [entV, entL, bytesV_length, h]
theorem entV_0 (t : Int) (K : List UInt8) (v : Value) : (entV t K v)[0]? = some (.int .i64 t) := by simp [entV, entL]
theorem entV_33 (t : Int) (K : List UInt8) (v : Value) (h : K.length = 32) : (entV t K v)[33]? = some v := by
  unfold entV entL
  rw [List.getElem?_toArray, List.getElem?_cons_succ, List.getElem?_append_right (by rw [bytesV_length]; omega), bytesV_length, h]
  rfl
theorem entV_key (t : Int) (K : List UInt8) (v u : Value) (j : Nat) (h : (bytesV K)[j]? = some u) : (entV t K v)[1 + j]? = some u := by
  unfold entV entL
  have hj := (List.getElem?_eq_some_iff.1 h).1
  rw [List.getElem?_toArray, Nat.add_comm, List.getElem?_cons_succ, List.getElem?_append_left hj, h]
theorem entV_one (t : Int) (K : List UInt8) (v : Value) (h : v.oneCell' = true) : (entV t K v).all (·.oneCell') = true := by
  unfold entV
  refine all_oneCell_toArray fun u hu => ?_
  unfold entL at hu
  rcases List.mem_cons.1 hu with rfl | hu
  · rfl
  · rcases List.mem_append.1 hu with hu | hu
    · unfold bytesV at hu
      obtain ⟨b, _, rfl⟩ := List.mem_map.1 hu
      rfl
    · rw [List.mem_singleton.1 hu]; exact h
/-- A box that holds an entry. -/
def EntB (w : World) (g : Nat) (t : Int) (K : List UInt8) (v : Value) : Prop := Blk w g 44 (entV t K v)
theorem EntB.tag {w : World} {g : Nat} {t : Int} {K : List UInt8} {v : Value} (h : EntB w g t K v) : w.cell? ⟨g, 0, none⟩ = some (.int .i64 t) := (Blk.cell h 0).trans (entV_0 t K v)
theorem EntB.data {w : World} {g : Nat} {t : Int} {K : List UInt8} {v : Value} (h : EntB w g t K v) (hK : K.length = 32) : w.cell? ⟨g, 33, none⟩ = some v := (Blk.cell h 33).trans (entV_33 t K v hK)
theorem EntB.key {w : World} {g : Nat} {t : Int} {K : List UInt8} {v : Value} (h : EntB w g t K v) : w.rangeAt g 1 (bytesV K) := fun j u hj => (Blk.cell h (1 + j)).trans (entV_key t K v u j hj)
theorem EntB.new (w : World) (t : Int) (K : List UInt8) (v : Value) : EntB (w.alloc (.cells (entV t K v) 44)) w.heap.size t K v := Blk.new _ _ _
theorem EntB.still {w w' : World} {g : Nat} {t : Int} {K : List UInt8} {v : Value} (h : EntB w g t K v) (s : Still w w') : EntB w' g t K v := Blk.still h s
theorem wpList_box_val {P : Program} {ops : Array Oper} {rest : List Oper} {o : Oper} {a : Act} {w : World} {Q : Exit → Act → World → Prop} (hg : o.guard = none) (t : TypeId) (x : Operand) (ho : o.op = .box t x) (dst : Option Tmp) (hdst : o.dst = dst) (cs : Array Value)
    (hx : a.eval x = .agg cs) (h : wpList P ops Q rest (a.put dst (.pointer (some ⟨w.heap.size, 0, none⟩))) (w.alloc (.cells cs t))) : wpList P ops Q (o :: rest) a w := by
  refine Go.Great.wpList_runTo hg dst hdst _ _ ?_ h
  unfold execOp
  simp [ho, hx, Instr.box, Value.cells, newVar, newRow, Sem.run_bind]
/-- A load of a range, where the operation's guard holds. -/
theorem load_midG {P : Program} {ops : Array Oper} {rest : List Oper} {op : Oper} {a : Act} {w : World} {Q : Exit → Act → World → Prop} (hw : Region.wanted op (yielded ops a.tmps) = true) (ty : TypeId) (x : Operand) (ho : op.op = .load ty x)
    (b o : Nat) (hx : a.eval x = .pointer (some ⟨b, o, none⟩)) (cs : List Value) (d : TypeDesc) (hc : w.rangeAt b o cs)
    (hu : P.underlying ty = some d) (hd : d.isRow = true) (hi : (P.info? ty).map (·.size) = some cs.length)
    (h : wpList P ops Q rest (a.put op.dst (.agg cs.toArray)) w) : wpList P ops Q (op :: rest) a w := by
  unfold wpList
  rw [if_pos hw]
  exact .inl (wp_load_mid ty x ho b o hx cs d hc hu hd hi h)
/-- A load of a whole row, where the operation's guard holds. -/
theorem load_rowG {P : Program} {ops : Array Oper} {rest : List Oper} {o : Oper} {a : Act} {w : World} {Q : Exit → Act → World → Prop} (hw : Region.wanted o (yielded ops a.tmps) = true) (ty : TypeId) (x : Operand) (ho : o.op = .load ty x)
    (g : Nat) (hx : a.eval x = .pointer (some ⟨g, 0, none⟩)) (t : TypeId) (cs : Array Value) (fr : Nat × Nat) (d : TypeDesc) (hg : w.heap[g]? = some (.cells cs t fr))
    (hu : P.underlying ty = some d) (hd : (match d with | .struct _ | .array _ _ => true | _ => false) = true) (hi : (P.info? ty).map (·.size) = some cs.size)
    (h : wpList P ops Q rest (a.put o.dst (.agg cs)) w) : wpList P ops Q (o :: rest) a w := by
  unfold wpList
  rw [if_pos hw]
  exact .inl (wp_load_row ty x ho g hx t cs fr d hg hu hd hi h)
theorem Tryz.infoByte0 : (Tryz.prog.info? 5).map (fun i => (i.zero, i.size, i.bytes)) = some (some (.int .u8 0), 1, 1) := by kernel_rfl
theorem sizeByteRun (w : World) : (sizeOf 5).run Tryz.prog w = .ok 1 w := by
  obtain ⟨i0, hi, _, hz, _⟩ := info_parts Tryz.infoByte0
  simp [sizeOf, typeInfo, hi, hz]
theorem eql_ids (w : World) (xs ys : List UInt8) (hx : xs.length = 32) (hy : ys.length = 32) :
    (binOp .eql 41 (.agg (bytesV xs).toArray) (.agg (bytesV ys).toArray)).run Tryz.prog w = .ok (.bool (decide (xs = ys))) w := by
  refine (run_eql_bytes w 41 5 32 under32 (by kernel_rfl) sizeByteRun xs ys hx hy).trans ?_
  congr 2
  rw [Bool.eq_iff_iff]
  simp
/-- The error of an entry. -/
def ckE (t : Int) (K : List UInt8) (n : Nat) : Int :=
  if t = 0 then (if 16384 < n then 5 else 0) else if t = 1 then (if n = 0 then 0 else 4) else if t = 2 then (if n = 0 ∧ K = List.replicate 32 0 then 0 else 4) else 4
theorem zeroID : (bytesV (List.replicate 32 0)).toArray = #[.int .u8 0, .int .u8 0, .int .u8 0, .int .u8 0, .int .u8 0, .int .u8 0, .int .u8 0, .int .u8 0, .int .u8 0, .int .u8 0, .int .u8 0, .int .u8 0, .int .u8 0, .int .u8 0, .int .u8 0, .int .u8 0, .int .u8 0, .int .u8 0, .int .u8 0, .int .u8 0, .int .u8 0, .int .u8 0, .int .u8 0, .int .u8 0, .int .u8 0, .int .u8 0, .int .u8 0, .int .u8 0, .int .u8 0, .int .u8 0, .int .u8 0, .int .u8 0] := by rfl

set_option maxRecDepth 100000 in
set_option maxHeartbeats 1600000 in
theorem check_any (t : Int) (K : List UInt8) (A : Option Addr) (n c : Nat) (w : World) (hK : K.length = 32) (hn : n ≤ 1048576) :
    Calls Tryz.prog 119 #[.agg (entV t K (.slice A n c))] w fun e w' => e = .returned (.int .i64 (ckE t K n)) ∧ Still w w' := by
  obtain ⟨g, hg⟩ : ∃ g, g = w.heap.size := ⟨_, rfl⟩
  obtain ⟨wA, hwA⟩ : ∃ wA, wA = w.alloc (.cells (entV t K (.slice A n c)) 44) := ⟨_, rfl⟩
  have SA := Lib.hid (show Still w wA by rw [hwA]; exact (Still.refl w).alloc (Nat.le_refl _) _)
  have eb : EntB wA g t K (.slice A n c) := by rw [hwA, hg]; exact EntB.new _ _ _ _
  have k0 : wA.cell? ⟨g, 0, none⟩ = some (.int .i64 t) := eb.tag
  have k33 : wA.cell? ⟨g, 33, none⟩ = some (.slice A n c) := eb.data hK
  have RNG := Lib.hid eb.key
  have HK := Lib.hid hK
  have HWA := Lib.hid hwA
  have HG := Lib.hid hg
  have d1 : (n : Int) ≤ 1048576 := by omega
  obtain ⟨ent, hent⟩ : ∃ ent, ent = entV t K (.slice A n c) := ⟨_, rfl⟩
  rw [← hent] at HWA ⊢
  have EQ : Hid (∀ w : World, (binOp .eql 41 (.agg (bytesV K).toArray) (.agg (bytesV (List.replicate 32 0)).toArray)).run Tryz.prog w = .ok (.bool (decide (K = List.replicate 32 0))) w) := Lib.hid fun w => eql_ids w K _ hK (by simp)
  clear hwA hg eb hK hn hent
  go_enter Tryz.func119, Tryz.ntmps119
  go_upto_region 1 with (guard_target =~ wpList _ _ _ (Oper.mk _ (Op.box _ _) _ _ _ _ :: _) _ _; go_must (refine wpList_box_val rfl 44 (.tmp 0) rfl (some 1) rfl ent rfl ?_))
  rw [← HWA.out, ← HG.out]
  clear HWA HG
  by_cases h0 : t = 0
  · subst h0
    by_cases hb : 16384 < n
    · have d2 : (16384 : Int) < (n : Int) := by omega
      have e : ckE 0 K n = 5 := by unfold ckE; rw [if_pos rfl, if_pos hb]
      have HE := Lib.hid e
      go_wp2_with fail
      go_ret
      exact ⟨by first | rfl | (rw [HE.out]; try rfl), SA.out⟩
    · have d2 : ¬ (16384 : Int) < (n : Int) := by omega
      have e : ckE 0 K n = 0 := by unfold ckE; rw [if_pos rfl, if_neg hb]
      have HE := Lib.hid e
      go_wp2_with fail
      go_ret
      exact ⟨by first | rfl | (rw [HE.out]; try rfl), SA.out⟩
  have b0 : (t == 0) = false := by simpa using h0
  by_cases h1 : t = 1
  · subst h1
    by_cases hz : n = 0
    · subst hz
      have e : ckE 1 K 0 = 0 := by unfold ckE; rw [if_neg (by decide), if_pos rfl, if_pos rfl]
      have HE := Lib.hid e
      go_wp2_with fail
      go_ret
      exact ⟨by first | rfl | (rw [HE.out]; try rfl), SA.out⟩
    · have d2 : ((n : Int) == 0) = false := by simp; omega
      have e : ckE 1 K n = 4 := by unfold ckE; rw [if_neg (by decide), if_pos rfl, if_neg hz]
      have HE := Lib.hid e
      go_wp2_with fail
      go_ret
      exact ⟨by first | rfl | (rw [HE.out]; try rfl), SA.out⟩
  have b1 : (t == 1) = false := by simpa using h1
  by_cases h2 : t = 2
  · subst h2
    by_cases hz : n = 0
    · subst hz
      have e : ckE 2 K 0 = if K = List.replicate 32 0 then 0 else 4 := by unfold ckE; rw [if_neg (by decide), if_neg (by decide), if_pos rfl]; simp
      have HE := Lib.hid e
      obtain ⟨kv, hkv⟩ : ∃ kv, kv = (bytesV K).toArray := ⟨_, rfl⟩
      have HKV := Lib.hid hkv
      have hq : Hid (∀ w : World, (binOp .eql 41 (.agg kv) (.agg (bytesV (List.replicate 32 0)).toArray)).run Tryz.prog w = .ok (.bool (decide (K = List.replicate 32 0))) w) := by rw [hkv]; exact EQ
      rw [zeroID] at hq
      have hq2 := hq.out
      clear hkv hq EQ
      by_cases hk : K = List.replicate 32 0
      · have HKK := Lib.hid hk
        rw [decide_eq_true hk] at hq2
        clear hk
        go_wp2_with (guard_target =~ wpList _ _ _ (Oper.mk (some 25) _ _ _ _ _ :: _) _ _; go_must (refine load_midG (by kernel_rfl) 41 (.tmp 24) rfl g 1 rfl (bytesV K) _ RNG.out under32 rfl (by rw [size32, bytesV_length, HK.out]) ?_; rw [← HKV.out]))
        go_ret
        exact ⟨by first | rfl | (rw [HE.out, if_pos HKK.out]; try rfl), SA.out⟩
      · have HKK := Lib.hid hk
        rw [decide_eq_false hk] at hq2
        clear hk
        go_wp2_with (guard_target =~ wpList _ _ _ (Oper.mk (some 25) _ _ _ _ _ :: _) _ _; go_must (refine load_midG (by kernel_rfl) 41 (.tmp 24) rfl g 1 rfl (bytesV K) _ RNG.out under32 rfl (by rw [size32, bytesV_length, HK.out]) ?_; rw [← HKV.out]))
        go_ret
        exact ⟨by first | rfl | (rw [HE.out, if_neg HKK.out]; try rfl), SA.out⟩
    · have d2 : ((n : Int) == 0) = false := by simp; omega
      have e : ckE 2 K n = 4 := by unfold ckE; rw [if_neg (by decide), if_neg (by decide), if_pos rfl, if_neg (fun h => hz h.1)]
      have HE := Lib.hid e
      go_wp2_with fail
      go_ret
      exact ⟨by first | rfl | (rw [HE.out]; try rfl), SA.out⟩
  have b2 : (t == 2) = false := by simpa using h2
  have e : ckE t K n = 4 := by unfold ckE; rw [if_neg h0, if_neg h1, if_neg h2]
  have HE := Lib.hid e
  clear h0 h1 h2
  go_wp2_with fail
  go_ret
  exact ⟨by first | rfl | (rw [HE.out]; try rfl), SA.out⟩
/-- How many bytes an entry has. -/
def szE (t : Int) (K : List UInt8) (n : Nat) : Nat := if ckE t K n ≠ 0 then 0 else if t = 2 then 9 else 41 + n

set_option maxRecDepth 100000 in
set_option maxHeartbeats 1600000 in
theorem size_any (t : Int) (K : List UInt8) (A : Option Addr) (n c : Nat) (w : World) (hK : K.length = 32) (hn : n ≤ 1048576) :
    Calls Tryz.prog 50 #[.agg (entV t K (.slice A n c))] w fun e w' => e = .returned (.int .i64 (szE t K n : Nat)) ∧ Still w w' := by
  obtain ⟨g, hg⟩ : ∃ g, g = w.heap.size := ⟨_, rfl⟩
  obtain ⟨wA, hwA⟩ : ∃ wA, wA = w.alloc (.cells (entV t K (.slice A n c)) 44) := ⟨_, rfl⟩
  have SA := Lib.hid (show Still w wA by rw [hwA]; exact (Still.refl w).alloc (Nat.le_refl _) _)
  have EB := Lib.hid (show EntB wA g t K (.slice A n c) by rw [hwA, hg]; exact EntB.new _ _ _ _)
  have HK := Lib.hid hK
  have HWA := Lib.hid hwA
  have HG := Lib.hid hg
  have d1 : (n : Int) ≤ 1048576 := by omega
  have CK := Lib.hid (check_any t K A n c wA hK hn)
  obtain ⟨ent, hent⟩ : ∃ ent, ent = entV t K (.slice A n c) := ⟨_, rfl⟩
  have ESZ := Lib.hid (show ent.size = 34 by rw [hent]; exact entV_size _ _ _ hK)
  have EBB := Lib.hid (show Blk wA g 44 ent by rw [hent]; exact EB.out)
  rw [← hent] at HWA CK ⊢
  obtain ⟨fs, hu⟩ := underEnt
  have HU := Lib.hid hu
  obtain ⟨ck, hck⟩ : ∃ ck, ck = ckE t K n := ⟨_, rfl⟩
  have HS := Lib.hid (show szE t K n = if ck ≠ 0 then 0 else if t = 2 then 9 else 41 + n by rw [hck]; rfl)
  rw [← hck] at CK
  clear hwA hg hK hn hent hu hck
  go_enter Tryz.func50, Tryz.ntmps50
  go_upto_region 1 with (guard_target =~ wpList _ _ _ (Oper.mk _ (Op.box _ _) _ _ _ _ :: _) _ _; go_must (refine wpList_box_val rfl 44 (.tmp 0) rfl (some 1) rfl ent rfl ?_))
  rw [← HWA.out, ← HG.out]
  clear HWA HG
  go_wp2_with (guard_target =~ wpList _ _ _ (Oper.mk (some 4) _ _ _ _ _ :: _) _ _; go_must (refine wpList_load_row rfl 44 (.tmp 1) rfl g rfl _ _ _ _ EBB.out HU.out rfl (by rw [sizeEnt, ESZ.out]) ?_))
  refine CK.out.mono ?_
  rintro e w1 ⟨rfl, s1⟩
  have S1 := Lib.hid (SA.out.trans s1)
  have EB1 := Lib.hid (EB.out.still s1)
  have k0 : w1.cell? ⟨g, 0, none⟩ = some (.int .i64 t) := EB1.out.tag
  have k33 : w1.cell? ⟨g, 33, none⟩ = some (.slice A n c) := EB1.out.data HK.out
  clear s1 CK
  by_cases h0 : ck = 0
  · subst h0
    by_cases h2 : t = 2
    · subst h2
      clear k33
      go_wp2_with fail
      go_ret
      exact ⟨by first | rfl | (simp [HS.out]; try rfl), S1.out⟩
    · have b2 : (t == 2) = false := by simpa using h2
      have H2 := Lib.hid h2
      clear h2
      have w1 : IntKind.i64.wrap (41 + (n : Int)) = 41 + (n : Int) := by rw [IntKind.wrap_i64]; omega
      go_wp2_with fail
      go_ret
      exact ⟨by first | rfl | (rw [HS.out, if_neg (by decide), if_neg H2.out, Int.natCast_add]; try rfl), S1.out⟩
  · have b0 : (ck == 0) = false := by simpa using h0
    have b1 : (ck != 0) = true := by simpa using h0
    have H0 := Lib.hid h0
    clear h0
    go_wp2_with fail
    go_ret
    exact ⟨by first | rfl | (rw [HS.out, if_pos H0.out]; try rfl), S1.out⟩
end Go.Proofs.YtfneloobfidckaaGreatDoor

/- Contracts: which numbers of bytes make a number. It proves no statement. -/



namespace Go.Proofs.YtfneloobfidckaaGreatDoor
open Go.RowKit
set_option linter.unusedVariables false
set_option linter.unusedSimpArgs false

theorem fits_yes (n : Int) (w : World) (h1 : 1 ≤ n) (h2 : n ≤ 8) :
    Calls Tryz.prog 193 #[.int .i64 n] w fun e w' => e = .returned (.bool true) ∧ w = w' := by
  go_enter Tryz.func193, Tryz.ntmps193
  go_wp2
  go_ret
  exact ⟨rfl, rfl⟩
theorem fits_no (n : Int) (w : World) (h : n < 1 ∨ 8 < n) :
    Calls Tryz.prog 193 #[.int .i64 n] w fun e w' => e = .returned (.bool false) ∧ w = w' := by
  rcases h with h | h
  · go_enter Tryz.func193, Tryz.ntmps193
    go_wp2
    go_ret
    exact ⟨rfl, rfl⟩
  · have h1 : 1 ≤ n := by omega
    have h2 : decide (n ≤ 8) = false := by simp; omega
    go_enter Tryz.func193, Tryz.ntmps193
    go_wp2
    go_ret
    exact ⟨rfl, rfl⟩
end Go.Proofs.YtfneloobfidckaaGreatDoor

/- Contracts: a number as bytes. It proves no statement. -/



namespace Go.Proofs.YtfneloobfidckaaGreatDoor
open Go.RowKit
set_option linter.unusedVariables false

def leBytes (x n : Nat) : List UInt8 := (List.range n).map (fun i => UInt8.ofNat (x / 2 ^ (8 * i)))
theorem leBytes_length (x n : Nat) : (leBytes x n).length = n := by simp [leBytes]
theorem leBytes_succ (x n : Nat) : leBytes x (n + 1) = leBytes x n ++ [UInt8.ofNat (x / 2 ^ (8 * n))] := by simp [leBytes, List.range_succ]

theorem byte_cast (y : Nat) : ((UInt8.ofNat y).toNat : Int) = (y : Int) % 256 := by simp
theorem le_cast (x k : Nat) : ((UInt8.ofNat (x / 2 ^ (8 * k))).toNat : Int) = (x : Int) / 2 ^ (8 * k) % 256 := by
  rw [byte_cast]; simp

theorem put_step {w : World} {B g x n k : Nat} (hk : k < n) (h : w.ownsRow B 5 1 (.slice (some ⟨g, 0, none⟩) n n) n (bytesV (leBytes x k ++ List.replicate (n - k) 0))) :
    (w.setCell ⟨g, k, none⟩ (.int .u8 ((UInt8.ofNat (x / 2 ^ (8 * k))).toNat : Int))).ownsRow B 5 1 (.slice (some ⟨g, 0, none⟩) n n) n (bytesV (leBytes x (k + 1) ++ List.replicate (n - (k + 1)) 0)) := by
  have hs := (h.stored k (.int .u8 ((UInt8.ofNat (x / 2 ^ (8 * k))).toNat : Int))).1
  rw [bytesV_set] at hs
  have e : (leBytes x k ++ List.replicate (n - k) 0).set k (UInt8.ofNat (x / 2 ^ (8 * k))) = leBytes x (k + 1) ++ List.replicate (n - (k + 1)) 0 := by
    rw [leBytes_succ, List.set_append_right _ _ (by simp [leBytes_length])]
    obtain ⟨m, rfl⟩ : ∃ m, n = k + 1 + m := ⟨n - (k + 1), by omega⟩
    simp [leBytes_length, show k + 1 + m - k = m + 1 by omega, List.replicate_succ]
  rw [e] at hs
  exact hs

set_option maxRecDepth 100000 in
set_option maxHeartbeats 400000 in
theorem put_yes (x n : Nat) (w : World) (hx : x < 18446744073709551616) (h1 : 1 ≤ n) (h2 : n ≤ 8) :
    Calls Tryz.prog 140 #[.int .u64 x, .int .i64 n] w fun e w' =>
      e = .returned (.slice (some ⟨w.heap.size, 0, none⟩) n n) ∧ w'.ownsRow w.heap.size 5 1 (.slice (some ⟨w.heap.size, 0, none⟩) n n) n (bytesV (leBytes x n)) ∧ Still w w' := by
  obtain ⟨i0, hi, hz0, hz1, hz2⟩ := info_parts Tryz.infoByte
  obtain ⟨B, hB⟩ : ∃ B, B = w.heap.size := ⟨_, rfl⟩
  have HX := Lib.hid hx
  clear hx
  go_enter Tryz.func140, Tryz.ntmps140
  go_wp2_with (first | (go_at_call 193; refine (fits_yes _ _ (by omega) (by omega)).mono ?_; rintro e w' ⟨rfl, rfl⟩) | (at_make; go_must (refine wpList_make_full _ rfl _ _ 42 rfl w.heap.size 5 i0 (.int .u8 0) 1 Tryz.underlying42 hi hz0 hz1 _ _ _ _ n rfl rfl rfl rfl ?c1 ?c2 ?c3 ?_)))
  case c1 => rw [hz2]; omega
  case c2 => unfold maxLen; omega
  case c3 => exact Nat.le_refl _
  intro w1 hown hgrow
  have hst : Still w w1 := (Below.refl _ _).grown hgrow (Nat.le_refl _) (by intro k hk; cases hk)
  clear hgrow
  go_wp2_with fail
  go_loopw [6, 14] (fun _ i wr => ∃ k : Nat, k ≤ n ∧ i = .int .i64 k ∧ wr.ownsRow w.heap.size 5 1 (.slice (some ⟨w.heap.size, 0, none⟩) n n) n (bytesV (leBytes x k ++ List.replicate (n - k) 0)) ∧ Still w wr)
    (fun _ i _ => n - (intOf i).toNat)
  case atStart => exact ⟨0, Nat.zero_le _, rfl, by
    rw [toList_madeCells_one, bytesV_rep] at hown
    simpa [leBytes] using hown, hst⟩
  case round =>
    obtain ⟨k, hk, rfl, hownr, hstr⟩ := hrel
    have hc : k < n → wr.cell? ⟨w.heap.size, k, none⟩ = some (.int .u8 (((leBytes x k ++ List.replicate (n - k) 0).getD k 0).toNat : Int)) := fun h => by
      rw [hownr.cellAt k (by omega), bytesV_get _ _ (by simp [leBytes_length]; omega)]
    have hf : wr.frozen? ⟨w.heap.size, k, none⟩ = false := hownr.frozenAt k
    go_wp2_with fail
    · have hlt : k < n := by assumption
      go_roundw
      case rel => exact ⟨k + 1, by omega, by go_num, by
        have h := put_step hlt hownr
        rw [le_cast] at h
        exact h, hstr.setCell (Nat.le_refl _) _⟩
      case measure => simp [intOf]; omega
    · obtain rfl : k = n := by omega
      go_ret
      exact ⟨rfl, by simpa using hownr, hstr⟩
theorem put_no (x : Nat) (n : Int) (w : World) (h : n < 1 ∨ 8 < n) :
    Calls Tryz.prog 140 #[.int .u64 x, .int .i64 n] w fun e w' => e = .returned (.slice none 0 0) ∧ w = w' := by
  go_enter Tryz.func140, Tryz.ntmps140
  go_wp2_with (go_at_call 193; refine (fits_no _ _ h).mono ?_; rintro e w' ⟨rfl, rfl⟩)
  go_ret
  exact ⟨rfl, rfl⟩
end Go.Proofs.YtfneloobfidckaaGreatDoor
