/- Contracts and facts, several texts in one. It proves no statement. -/
import Derived.Test.YtblgphfdicffcaaGreatDoorHfq
import Derived.Test.YtblgphfdicffcaaGreatDoorHfp
import Derived.Test.YtblgphfdicffcaaGreatDoorHfe
import Derived.Laws.CopyOwn
import Derived.Lib.Bytealg
import Derived.Test.YtblgphfdicffcaaGreatDoorHfo

/- Contracts: a key laid, a new table (of places). It proves no statement. -/


namespace Go.Proofs.YtblgphfdicffcaaGreatDoor.Pl
open Go.RowKit
set_option linter.unusedVariables false
set_option linter.unusedSimpArgs false

set_option maxRecDepth 100000 in
theorem built_full (K : List UInt8) (hK : K.length = 32) (v : List Int) (hv : v.length = 3) : Tryz.prog.built 123 [(0, .int .i64 2), (1, .agg (bytesV K).toArray), (2, .agg (intsV v))] = some (slL 3 (.full K v)).toArray := by
  obtain ⟨k0, k1, k2, k3, k4, k5, k6, k7, k8, k9, k10, k11, k12, k13, k14, k15, k16, k17, k18, k19, k20, k21, k22, k23, k24, k25, k26, k27, k28, k29, k30, k31, rfl⟩ := list32 K hK
  obtain ⟨a, b, c, rfl⟩ : ∃ a b c, v = [a, b, c] := by
    match v, hv with
    | [a, b, c], _ => exact ⟨a, b, c, rfl⟩
  clear hv
  kernel_rfl
theorem sizeSlot : (Tryz.prog.info? 123).map (·.size) = some 36 := by kernel_rfl
theorem sizeVal : (Tryz.prog.info? 38).map (·.size) = some 3 := by kernel_rfl
theorem underVal : ∃ fs, Tryz.prog.underlying 38 = some (.struct fs) := ⟨_, Tryz.underlying38⟩
abbrev TT : TypeId := 175
set_option maxRecDepth 100000 in
set_option maxHeartbeats 3200000 in
theorem lay_any {w : World} {g b c : Nat} {S : List Sl} (h : TB TT 3 w g b c S) (k : List UInt8) (v : List Int) (hv : v.length = 3) (hk : k.length = 32) (hS : S.length ≤ 1099511627776) (j : Nat) (hj : Stop S k j) (hp : S[pos k S.length j]? = some Sl.empty) (hl : 4 * (keysN S + 1 + deadN S) ≤ 3 * S.length) :
    Calls Tryz.prog 154 #[.pointer (some ⟨g, 0, none⟩), .agg (bytesV k).toArray, .agg (intsV v)] w fun e w' => e = .returned (.tuple #[]) ∧ TB TT 3 w' g b c (S.set (pos k S.length j) (.full k v)) ∧ Chg w w' (fun q => q = g ∨ q = b) := by
  obtain ⟨wA, gk, gv, kv, vv, KB⟩ := kvBox w k v 38 hk
  have SA := KB.still
  have hA := h.still SA
  have h8 := h.len8
  have SE := Lib.hid (search_any hA k hk hS j hj)
  have d0 := pos_lt k (n := S.length) j (by omega)
  have xok : SlOK 3 (.full k v) := ⟨hk, hv⟩
  obtain ⟨I, K1, D1, _⟩ := h.inv.more hj hp hk (v := v) hv hl
  have KBN : keysN S ≤ S.length := by have := h.inv.load; omega
  have TAIL := Lib.hid (fun W (s : Still wA W) => (hA.still s).laid hp xok I K1 D1)
  have TH := Lib.hid (fun W (s : Still wA W) => (hA.still s).row.there hp (SlOK.empty 3))
  have K0 := Lib.hid (fun W (s : Still wA W) => (hA.still s).c0)
  have CH := Lib.hid (fun W (s : Still wA W) => show Blk (W.setCells b (pos k S.length j * (33 + 3)) (slL 3 (.full k v))) g TT _ ∧ Chg w ((W.setCells b (pos k S.length j * (33 + 3)) (slL 3 (.full k v))).setCell ⟨g, 1, none⟩ (.int .i64 (keysN S + 1 : Nat))) (fun q => q = g ∨ q = b) from by
    have c1 := Chg.of_grown (grown_setC (g := b) (slL 3 (.full k v)) (pos k S.length j * (33 + 3)) W) (S := fun q => q = g ∨ q = b) (fun k hk _ => .inr (Option.some.inj hk).symm)
    refine ⟨(Chg.of_grown (grown_setC (g := b) (slL 3 (.full k v)) (pos k S.length j * (33 + 3)) W) (S := fun q => q = b) (fun k hk _ => (Option.some.inj hk).symm)).blk (hA.still s).box (fun e => h.ne e.symm), ?_⟩
    exact ((Chg.of_still (Still.trans SA s) _).trans c1 (fun _ _ h => h)).trans (Chg.of_grown (grownBy_set _ g 1 _) (S := fun q => q = g ∨ q = b) (fun k hk _ => .inl (Option.some.inj hk).symm)) (fun _ _ h => h))
  have BF := Lib.hid (built_full k hk v hv)
  have HB := Lib.hid KB
  obtain ⟨fs, hu⟩ := underVal
  have UV := Lib.hid hu
  have SV := Lib.hid (show (Tryz.prog.info? 38).map (·.size) = some (v.map (Value.int .i64)).length from by rw [sizeVal, List.length_map, hv])
  have HSL := Lib.hid (show (slL 3 (.full k v)).length = 36 from slL_len xok)
  rw [← KB.hkv] at SE BF ⊢
  rw [← KB.hvv] at BF ⊢
  obtain ⟨sl, hsl⟩ : ∃ sl, sl = slL 3 (.full k v) := ⟨_, rfl⟩
  have H1 := Lib.hid (show sl.toArray.all (·.oneCell') = true from by rw [hsl]; exact all_oneCell_toArray (fun v hv => slL_one _ _ v hv))
  rw [← hsl] at TAIL CH BF HSL
  obtain ⟨y, hy⟩ : ∃ y, y = pos k S.length j := ⟨_, rfl⟩
  rw [← hy] at SE TAIL TH CH d0 ⊢
  obtain ⟨n, hn⟩ : ∃ n, n = S.length := ⟨_, rfl⟩
  rw [← hn] at h8 hS K0 KBN d0
  obtain ⟨kn, hkn⟩ : ∃ kn, kn = keysN S := ⟨_, rfl⟩
  have KN := Lib.hid hkn
  rw [← hkn] at KBN TAIL CH
  have d1 : (y : Int) < (n : Int) := by omega
  have d3 : (kn : Int) ≤ 1099511627776 := by omega
  clear SA h hA hn hk hj hy hp hl I K1 D1 xok hsl hkn KB hu hv
  go_enter Tryz.func154, Tryz.ntmps154
  go_upto_region 1 with (first
    | (guard_target =~ wpList _ _ _ (Oper.mk (some 4) _ _ _ _ _ :: _) _ _; go_must (refine wpList_box_val rfl 24 (.tmp 1) rfl (some 4) rfl kv rfl ?_))
    | (guard_target =~ wpList _ _ _ (Oper.mk (some 5) _ _ _ _ _ :: _) _ _; go_must (refine wpList_box_val rfl 38 (.tmp 2) rfl (some 5) rfl vv rfl ?_)))
  rw [← HB.out.eq, ← HB.out.hgv, ← HB.out.hgk]
  go_upto_region 2 with (first
    | (guard_target =~ wpList _ _ _ (Oper.mk (some 10) _ _ _ _ _ :: _) _ _; go_must (refine wpList_load_mid rfl 24 (.tmp 4) rfl gk 0 rfl (bytesV k) _ (HB.out.reads _ (Still.refl _)) under32 rfl HB.out.size ?_); rw [← HB.out.hkv])
    | (go_at_call 113; refine SE.out.mono ?_; rintro e w1 ⟨rfl, s1⟩; have S1 := Lib.hid s1; clear s1))
  have k0 : w1.drew.cell? ⟨g, 0, none⟩ = some (.slice (some ⟨b, 0, none⟩) n c) := K0.out _ S1.out.drew
  have S2 := Lib.hid (show Still wA w1.drew from S1.out.drew)
  refine wp_region_still_tail 9 (by kernel_rfl) (by kernel_rfl) ?_
  simp only [List.take_succ_cons, List.take_zero, List.drop_succ_cons, List.drop_zero]
  change wpStill _ _ w1.drew _ _ _
  repeat (first
    | (guard_target =~ wpStill _ _ _ _ (Oper.mk (some 19) _ _ _ _ _ :: _) _; go_must (refine still_load_mid (by kernel_rfl) 24 (.tmp 4) rfl gk 0 (by kernel_rfl) (bytesV k) _ (HB.out.reads _ S2.out) under32 rfl HB.out.size ?_); rw [← HB.out.hkv])
    | (guard_target =~ wpStill _ _ _ _ (Oper.mk (some 20) _ _ _ _ _ :: _) _; go_must (refine still_load_mid (by kernel_rfl) 38 (.tmp 5) rfl gv 0 (by kernel_rfl) (v.map (Value.int .i64)) _ (HB.out.vals _ S2.out) UV.out rfl SV.out ?_); change wpStill _ _ _ _ _ (Act.put _ _ (.agg (intsV v))); rw [← HB.out.hvv])
    | (guard_target =~ wpStill _ _ _ _ (Oper.mk (some 21) _ _ _ _ _ :: _) _; go_must (refine still_build (by kernel_rfl) 123 _ rfl sl.toArray (by simp only [List.map_toArray, List.map_cons, List.map_nil]; exact BF.out) ?_))
    | still_step)
  refine wpStill_nil ?_
  change wpList _ _ _ _ _ w1.drew
  refine wpList_store_mid rfl 123 (.tmp 22) (.tmp 21) rfl b (y * 36) sl.toArray rfl rfl (by rw [List.size_toArray, HSL.out]; exact TH.out _ S2.out) (by rw [sizeSlot, List.size_toArray, HSL.out]) H1.out ?_
  refine wpList_nil ?_
  rw [show sl.toArray.toList = sl from rfl]
  obtain ⟨B3, C3⟩ := CH.out _ S2.out
  have T3 := Lib.hid (TAIL.out _ S2.out)
  have C3 := Lib.hid C3
  change Blk (w1.drew.setCells b (y * 36) sl) _ _ _ at B3
  change Hid (TB TT 3 ((w1.drew.setCells b (y * 36) sl).setCell ⟨g, 1, none⟩ (.int .i64 (kn + 1 : Nat))) _ _ _ _) at T3
  change Hid (Chg w ((w1.drew.setCells b (y * 36) sl).setCell ⟨g, 1, none⟩ (.int .i64 (kn + 1 : Nat))) _) at C3
  obtain ⟨w3, hw3⟩ : ∃ w3, w3 = w1.drew.setCells b (y * 36) sl := ⟨_, rfl⟩
  rw [← hw3] at B3 T3 C3 ⊢
  have q1 : w3.cell? ⟨g, 1, none⟩ = some (.int .i64 (kn : Nat)) := B3.cell 1
  have f1 : w3.frozen? ⟨g, 1, none⟩ = false := B3.frozen 1
  clear hw3 B3 k0
  go_wp2_with fail
  go_end0
  exact ⟨rfl, T3.out, C3.out⟩
theorem Tryz.infoSlotPl : (Tryz.prog.info? 123).map (fun i => (i.zero, i.size, i.bytes)) = some (some (.agg (slL 3 .empty).toArray), 36, 64) := by kernel_rfl
theorem run_made (n : Nat) (hn : n ≤ 68719476738) (w : World) : (Instr.makeSlice 173 (.int .i64 (n : Int)) (.int .i64 (n : Int))).run Tryz.prog w = .ok (.slice (some ⟨w.heap.size, 0, none⟩) n n) (w.alloc (.cells (madeCells (slL 3 .empty).toArray (n * 36)) 123)) := by
  obtain ⟨i0, hi, hz0, hz1, hz2⟩ := info_parts Tryz.infoSlotPl
  have h := run_make (P := Tryz.prog) w 173 123 i0 _ Tryz.underlying173 hi hz0 .i64 .i64 n n (by omega) (Int.le_refl _) (by rw [hz2]; omega) (by omega)
  simp only [Int.toNat_natCast] at h
  rw [hz1] at h
  exact h
theorem built_table (A : Option Addr) (n c : Nat) : Tryz.prog.built 175 [(0, .slice A n c)] = some #[.slice A n c, .int .i64 0, .int .i64 0] := by kernel_rfl
set_option maxRecDepth 100000 in
theorem new_any (w : World) : Calls Tryz.prog 48 #[] w fun e w' => ∃ g b, e = .returned (.pointer (some ⟨g, 0, none⟩)) ∧ TB TT 3 w' g b 8 (List.replicate 8 .empty) ∧ Still w w' ∧ w.heap.size ≤ g ∧ w.heap.size ≤ b := by
  have hm := run_made 8 (by omega) w
  obtain ⟨wA, hwA⟩ : ∃ wA, wA = w.alloc (.cells (madeCells (slL 3 .empty).toArray (8 * 36)) 123) := ⟨_, rfl⟩
  have R := SlB.made w 3 8
  rw [show 8 * (33 + 3) = 8 * 36 from rfl, ← hwA] at R
  have SA : Still w wA := by rw [hwA]; exact (Still.refl w).alloc (Nat.le_refl _) _
  have zA : wA.heap.size = w.heap.size + 1 := by rw [hwA]; simp
  rw [← hwA] at hm
  have FIN := Lib.hid (show ∃ g b, Ending.returned (.pointer (some ⟨wA.heap.size, 0, none⟩)) = Ending.returned (.pointer (some ⟨g, 0, none⟩)) ∧ TB TT 3 (wA.alloc (.cells #[.slice (some ⟨w.heap.size, 0, none⟩) 8 8, .int .i64 0, .int .i64 0] TT)) g b 8 (List.replicate 8 .empty) ∧ Still w (wA.alloc (.cells #[.slice (some ⟨w.heap.size, 0, none⟩) 8 8, .int .i64 0, .int .i64 0] TT)) ∧ w.heap.size ≤ g ∧ w.heap.size ≤ b from
    ⟨wA.heap.size, w.heap.size, rfl, ⟨by have := Blk.new wA TT #[.slice (some ⟨w.heap.size, 0, none⟩) 8 8, .int .i64 0, .int .i64 0]; rw [keysN_rep, deadN_rep]; exact this, R.still ((Still.refl wA).alloc (Nat.le_refl _) _), Inv.rep 3 0, by omega, by simp⟩, Still.trans SA ((Still.refl wA).alloc (Nat.le_refl _) _), by omega, by omega⟩)
  have BT := Lib.hid (built_table (some ⟨w.heap.size, 0, none⟩) 8 8)
  have HM := Lib.hid hm
  clear hm R SA zA hwA
  go_enter Tryz.func48, Tryz.ntmps48
  go_upto_region 1 with fail
  refine wp_region_lit ?_
  refine Go.Great.wpList_runTo rfl (some 1) rfl (.slice (some ⟨w.heap.size, 0, none⟩) 8 8) wA ?_ ?_
  · unfold execOp
    have h := HM.out
    simp only [Sem.run_bind]
    first
      | (rw [show (Instr.makeSlice 173 (Act.eval { tmps := #[Value.pointer none, undef, undef, undef], defers := [] } (Operand.const (Value.int IntKind.i64 8))) (Act.eval { tmps := #[Value.pointer none, undef, undef, undef], defers := [] } (Operand.const (Value.int IntKind.i64 8)))) = Instr.makeSlice 173 (.int .i64 ((8 : Nat) : Int)) (.int .i64 ((8 : Nat) : Int)) from rfl, h]; rfl)
      | trace_state
  refine wpList_buildTo rfl 175 _ rfl (some 2) rfl #[.slice (some ⟨w.heap.size, 0, none⟩) 8 8, .int .i64 0, .int .i64 0] (by simp only [List.map_toArray, List.map_cons, List.map_nil]; exact BT.out) ?_
  refine wpList_box_val rfl 175 (.tmp 2) rfl (some 3) rfl #[.slice (some ⟨w.heap.size, 0, none⟩) 8 8, .int .i64 0, .int .i64 0] rfl ?_
  go_wp2_with fail
  go_ret
  exact FIN.out
end Go.Proofs.YtblgphfdicffcaaGreatDoor.Pl

/- Mathematics: a table made anew. It proves no statement. -/

namespace Go.Proofs.YtblgphfdicffcaaGreatDoor
set_option linter.unusedVariables false
set_option linter.unusedSimpArgs false

/-- As many slots as so many keys ask for. -/
def NewCap (k n : Nat) : Prop := ∃ e, n = 8 * 2 ^ e ∧ 2 * k + 1 ≤ n ∧ (e = 0 ∨ n < 4 * k + 2)
theorem NewCap.bd {k n : Nat} (h : NewCap k n) : 8 ≤ n ∧ 2 * k + 1 ≤ n ∧ (n = 8 ∨ n < 4 * k + 2) := by
  obtain ⟨e, rfl, h2, h3⟩ := h
  have := Nat.two_pow_pos e
  refine ⟨by omega, h2, ?_⟩
  rcases h3 with rfl | h3
  · exact .inl rfl
  · exact .inr h3
theorem NewCap.uniq {k n n' : Nat} (h : NewCap k n) (h' : NewCap k n') : n = n' := by
  obtain ⟨e, rfl, h2, h3⟩ := h
  obtain ⟨e', rfl, h2', h3'⟩ := h'
  rcases Nat.lt_trichotomy e e' with hlt | rfl | hlt
  · have : 2 ^ (e + 1) ≤ 2 ^ e' := Nat.pow_le_pow_right (by omega) hlt
    rw [Nat.pow_succ] at this
    rcases h3' with rfl | h3'
    · omega
    · omega
  · rfl
  · have : 2 ^ (e' + 1) ≤ 2 ^ e := Nat.pow_le_pow_right (by omega) hlt
    rw [Nat.pow_succ] at this
    rcases h3 with rfl | h3
    · omega
    · omega
theorem keysN_take_succ {S : List Sl} {i : Nat} {s : Sl} (h : S[i]? = some s) : keysN (S.take (i + 1)) = keysN (S.take i) + (if s.isFull then 1 else 0) := by
  unfold keysN
  rw [List.take_add_one, h, List.countP_append]
  simp [List.countP_cons, List.countP_nil]
theorem keysN_take_le (S : List Sl) (i : Nat) : keysN (S.take i) ≤ keysN S := by
  unfold keysN
  have := List.countP_append (p := Sl.isFull) (l₁ := S.take i) (l₂ := S.drop i)
  rw [List.take_append_drop] at this
  omega
/-- Behind i of the elder slots. -/
structure Ren (m n : Nat) (S : List Sl) (i : Nat) (Si : List Sl) : Prop where
  len : Si.length = n
  inv : Inv m Si
  dead : deadN Si = 0
  keys : keysN Si = keysN (S.take i)
  mem : ∀ z : List UInt8 × List Int, z ∈ fulls Si ↔ ∃ q, q < i ∧ S[q]? = some (Sl.full z.1 z.2)
theorem Ren.start {m k n : Nat} (S : List Sl) (h : NewCap k n) : Ren m n S 0 (List.replicate n .empty) := by
  obtain ⟨e, rfl, _⟩ := h
  exact ⟨by simp, Inv.rep m e, deadN_rep _, by rw [keysN_rep]; rfl, fun z => by rw [fulls_rep]; simp⟩
theorem Ren.skip {m n i : Nat} {S Si : List Sl} (h : Ren m n S i Si) {s : Sl} (hs : S[i]? = some s) (hf : s.isFull = false) : Ren m n S (i + 1) Si := by
  refine ⟨h.len, h.inv, h.dead, by rw [keysN_take_succ hs, hf, h.keys]; simp, fun z => ?_⟩
  rw [h.mem]
  constructor
  · rintro ⟨q, hq, e⟩; exact ⟨q, by omega, e⟩
  · rintro ⟨q, hq, e⟩
    refine ⟨q, ?_, e⟩
    rcases Nat.lt_or_ge q i with h1 | h1
    · exact h1
    · have : q = i := by omega
      subst this
      rw [hs] at e
      cases e
      cases hf
section
variable {m n i j : Nat} {S Si : List Sl} {k : List UInt8} {v : List Int}
theorem Ren.new (h : Ren m n S i Si) (hI : Inv m S) (hs : S[i]? = some (.full k v)) (v' : List Int) : (k, v') ∉ fulls Si := by
  intro hm
  obtain ⟨q, hq, e⟩ := (h.mem _).1 hm
  have := (hI.at_uniq e hs).1
  omega
theorem Ren.room (h : Ren m n S i Si) (hc : NewCap (keysN S) n) (hs : S[i]? = some (.full k v)) : 4 * (keysN Si + 1 + deadN Si) ≤ 3 * Si.length := by
  have h1 := keysN_take_succ hs
  have h2 := keysN_take_le S (i + 1)
  have hb := hc.bd
  simp [Sl.isFull] at h1
  rw [h.dead, h.len, h.keys]
  omega
theorem Ren.stop (h : Ren m n S i Si) (hI : Inv m S) (hs : S[i]? = some (.full k v)) : ∃ j, Stop Si k j ∧ Si[pos k Si.length j]? = some Sl.empty := by
  obtain ⟨j, hj⟩ := h.inv.stop_ex k
  refine ⟨j, hj, ?_⟩
  rcases h.inv.find hj with ⟨v', e⟩ | ⟨e, _⟩
  · exact absurd (mem_fulls.2 ⟨_, e⟩) (h.new hI hs v')
  · exact e
theorem Ren.step (h : Ren m n S i Si) (hI : Inv m S) (hc : NewCap (keysN S) n) (hs : S[i]? = some (.full k v)) (hj : Stop Si k j) (he : Si[pos k Si.length j]? = some Sl.empty) : Ren m n S (i + 1) (Si.set (pos k Si.length j) (.full k v)) := by
  obtain ⟨hk, hv, _⟩ := hI.probe i k v hs
  obtain ⟨I, K, D, M⟩ := h.inv.more hj he hk hv (h.room hc hs)
  refine ⟨by rw [List.length_set]; exact h.len, I, by rw [D]; exact h.dead, by rw [K, keysN_take_succ hs, h.keys]; simp [Sl.isFull], fun z => ?_⟩
  rw [M, h.mem]
  constructor
  · rintro (rfl | ⟨q, hq, e⟩)
    · exact ⟨i, by omega, hs⟩
    · exact ⟨q, by omega, e⟩
  · rintro ⟨q, hq, e⟩
    rcases Nat.lt_or_ge q i with h1 | h1
    · exact .inr ⟨q, h1, e⟩
    · have : q = i := by omega
      subst this
      rw [hs] at e
      cases e
      exact .inl rfl
theorem Ren.all (h : Ren m n S S.length Si) : keysN Si = keysN S ∧ ∀ z, z ∈ fulls Si ↔ z ∈ fulls S := by
  refine ⟨by rw [h.keys, List.take_length], fun z => ?_⟩
  rw [h.mem, mem_fulls]
  constructor
  · rintro ⟨q, _, e⟩; exact ⟨q, e⟩
  · rintro ⟨q, e⟩; exact ⟨q, (List.getElem?_eq_some_iff.1 e).1, e⟩
end
end Go.Proofs.YtblgphfdicffcaaGreatDoor

/- Contract: a table made anew (of places). It proves no statement. -/




namespace Go.Proofs.YtblgphfdicffcaaGreatDoor.Pl
open Go.RowKit
set_option linter.unusedVariables false
set_option linter.unusedSimpArgs false

theorem wpList_made {ops : Array Oper} {rest : List Oper} {o : Oper} {a : Act} {w : World} {Q : Exit → Act → World → Prop} (hg : o.guard = none) (x : Operand) (ho : o.op = .makeSlice 173 x x) (dst : Option Tmp) (hdst : o.dst = dst) (n : Nat) (hx : a.eval x = .int .i64 (n : Int)) (hn : n ≤ 68719476738)
    (h : wpList Tryz.prog ops Q rest (a.put dst (.slice (some ⟨w.heap.size, 0, none⟩) n n)) (w.alloc (.cells (madeCells (slL 3 .empty).toArray (n * 36)) 123))) : wpList Tryz.prog ops Q (o :: rest) a w := by
  refine Go.Great.wpList_runTo hg dst hdst _ _ ?_ h
  unfold execOp
  simp only [ho, hx, Sem.run_bind, run_made n hn w, Result.andThen_ok]
  rfl
/-- What holds in the loop over the elder slots. -/
structure RenW (w wr : World) (g b b2 n : Nat) (S : List Sl) (i : Nat) (Si : List Sl) : Prop where
  tb : TB TT 3 wr g b2 n Si
  ren : Ren 3 n S i Si
  row : SlB wr b 3 S
  chg : Chg w wr (fun q => q = g)
  ne : b2 ≠ b
  new : w.heap.size ≤ b2
section
variable {w wr wC W : World} {g b b2 n i : Nat} {S Si : List Sl}
theorem RenW.skip (h : RenW w wr g b b2 n S i Si) (s : Still wr wC) {x : Sl} (hx : S[i]? = some x) (hf : x.isFull = false) : RenW w wC g b b2 n S (i + 1) Si :=
  ⟨h.tb.still s, h.ren.skip hx hf, h.row.still s, h.chg.trans (Chg.of_still s _) (fun _ _ h => h), h.ne, h.new⟩
theorem RenW.next (h : RenW w wr g b b2 n S i Si) (s : Still wr wC) (hI : Inv 3 S) (hc : NewCap (keysN S) n) {k : List UInt8} {v : List Int} {j : Nat} (hs : S[i]? = some (.full k v)) (hj : Stop Si k j) (he : Si[pos k Si.length j]? = some Sl.empty)
    (hb : b ≠ g) (T : TB TT 3 W g b2 n (Si.set (pos k Si.length j) (.full k v))) (C : Chg wC W (fun q => q = g ∨ q = b2)) : RenW w W g b b2 n S (i + 1) (Si.set (pos k Si.length j) (.full k v)) :=
  ⟨T, h.ren.step hI hc hs hj he, (h.row.still s).chg C (fun e => by
    rcases e with e | e
    · exact hb e
    · exact h.ne e.symm), (h.chg.trans (Chg.of_still s _) (fun _ _ h => h)).trans C (fun x hx e => by
    rcases e with e | e
    · exact e
    · exact absurd hx (by have := h.new; omega)), h.ne, h.new⟩
end
theorem setRow_slot {w : World} {z : Array Value} {s : Sl} (hs : SlOK 3 s) (E : TypeId) : Blk ((w.alloc (.cells z E)).setRow w.heap.size (slL 3 s).toArray) w.heap.size E (slL 3 s).toArray := setRow_heap _ _ _ _ _ _ (heap_alloc_new w _)
theorem slot_aggRow : ∃ fs, Tryz.prog.underlying 123 = some (.struct fs) := ⟨_, Tryz.underlying123⟩
set_option maxRecDepth 100000 in
set_option maxHeartbeats 6400000 in
theorem renew_any {w : World} {g b c : Nat} {S : List Sl} (h : TB TT 3 w g b c S) (hS : S.length ≤ 17179869184) :
    Calls Tryz.prog 153 #[.pointer (some ⟨g, 0, none⟩)] w fun e w' => e = .returned (.tuple #[]) ∧ ∃ b2 n S2, TB TT 3 w' g b2 n S2 ∧ Ren 3 n S S.length S2 ∧ NewCap (keysN S) n ∧ Chg w w' (fun q => q = g) ∧ w.heap.size ≤ b2 := by
  have k0 := h.c0
  have k1 := h.c1
  have KB : keysN S ≤ S.length := by have := h.inv.load; omega
  have hI := Lib.hid h.inv
  have HR := Lib.hid h.row
  have HB := Lib.hid h.box
  have HNE := Lib.hid h.ne
  have GLT := Lib.hid h.box.lt
  obtain ⟨kn, hkn⟩ : ∃ kn, kn = keysN S := ⟨_, rfl⟩
  rw [← hkn] at k1 KB HB ⊢
  have KN := Lib.hid hkn
  obtain ⟨N, hN⟩ : ∃ N, N = S.length := ⟨_, rfl⟩
  rw [← hN] at k0 KB HB hS ⊢
  have HN := Lib.hid hN
  obtain ⟨dn, hdn⟩ : ∃ dn, dn = deadN S := ⟨_, rfl⟩
  rw [← hdn] at HB
  have d3 : (kn : Int) ≤ 17179869184 := by omega
  have d4 : (N : Int) ≤ 17179869184 := by omega
  clear h hkn hN hdn
  go_enter Tryz.func153, Tryz.ntmps153
  go_wp2_with fail
  go_loop [2] (fun nv => ∃ n : Nat, nv = .int .i64 n ∧ n < 68719476738 ∧ Hid (∃ e, n = 8 * 2 ^ e ∧ (e = 0 ∨ n < 4 * kn + 2))) (fun nv => 2 * kn + 1 - (intOf nv).toNat)
  case atStart => exact ⟨8, rfl, by omega, Lib.hid ⟨0, rfl, .inl rfl⟩⟩
  case round =>
    obtain ⟨n, rfl, hn, he⟩ := hrel
    have hn0 : 0 < n := by
      obtain ⟨e, he, _⟩ := he.out
      have := Nat.two_pow_pos e
      omega
    have d5 : (n : Int) < 68719476738 := by omega
    by_cases hlt : n < 2 * kn + 1
    · have d6 : (n : Int) < 2 * (kn : Int) + 1 := by omega
      go_wp2_with fail
      go_round
      case rel =>
        refine ⟨n * 2, by go_num, by omega, ?_⟩
        obtain ⟨e, he, _⟩ := he.out
        exact Lib.hid ⟨e + 1, by rw [he, Nat.pow_succ]; omega, .inr (by omega)⟩
      case measure => simp [intOf]; omega
    · have d6 : ¬ (n : Int) < 2 * (kn : Int) + 1 := by omega
      have NC := Lib.hid (show NewCap kn n from by obtain ⟨e, he, h2⟩ := he.out; exact ⟨e, he, by omega, h2⟩)
      clear he hlt
      obtain ⟨b2, hb2⟩ : ∃ b2, b2 = w.heap.size := ⟨_, rfl⟩
      obtain ⟨wA, hwA⟩ : ∃ wA, wA = w.alloc (.cells (madeCells (slL 3 .empty).toArray (n * 36)) 123) := ⟨_, rfl⟩
      have hm := run_made n (by omega) w
      rw [← hwA, ← hb2] at hm
      have RA := SlB.made w 3 n
      rw [show n * (33 + 3) = n * 36 from rfl, ← hwA, ← hb2] at RA
      have SA : Still w wA := by rw [hwA]; exact (Still.refl w).alloc (Nat.le_refl _) _
      have BA := HB.out.still SA
      have B3 := ((BA.setc 0 (.slice (some ⟨b2, 0, none⟩) n n)).setc 1 (.int .i64 0)).setc 2 (.int .i64 0)
      obtain ⟨wB, hwB⟩ : ∃ wB, wB = ((wA.setCell ⟨g, 0, none⟩ (.slice (some ⟨b2, 0, none⟩) n n)).setCell ⟨g, 1, none⟩ (.int .i64 0)).setCell ⟨g, 2, none⟩ (.int .i64 0) := ⟨_, rfl⟩
      rw [← hwB] at B3
      have gr := ((grownBy_set wA g 0 (.slice (some ⟨b2, 0, none⟩) n n)).trans (grownBy_set _ g 1 (.int .i64 0))).trans (grownBy_set _ g 2 (.int .i64 0))
      rw [← hwB] at gr
      have CH : Chg w wB (fun q => q = g) := (Chg.of_still SA _).trans (Chg.of_grown gr (S := fun q => q = g) (fun k hk _ => (Option.some.inj hk).symm)) (fun _ _ h => h)
      have gne : b2 ≠ g := by have := GLT.out; omega
      have bne : b2 ≠ b := by have := HR.out.lt; omega
      have R0 := Ren.start (m := 3) S NC.out
      have START := Lib.hid (show RenW w wB g b b2 n S 0 (List.replicate n .empty) from ⟨⟨by
        have e1 : keysN (List.replicate n Sl.empty) = 0 := keysN_rep n
        have e2 : deadN (List.replicate n Sl.empty) = 0 := deadN_rep n
        rw [e1, e2, R0.len]
        exact B3, RA.keep (gr.block b2 RA.lt (fun e => gne (Option.some.inj e))), R0.inv, gne, by rw [R0.len]; omega⟩, R0, (HR.out.still SA).keep (gr.block b (HR.out.still SA).lt (fun e => HNE.out (Option.some.inj e))), CH, bne, by omega⟩)
      have q0 := BA.cell 0
      have q1 := BA.cell 1
      have q2 := BA.cell 2
      have f0 := BA.frozen 0
      have f1 := BA.frozen 1
      have f2 := BA.frozen 2
      simp only [List.getElem?_toArray, List.getElem?_cons_succ, List.getElem?_cons_zero] at q0 q1 q2
      have HM := Lib.hid hm
      have HWB := Lib.hid hwB
      have HB2 := Lib.hid (show b2 = w.heap.size ∧ w.heap.size ≤ b2 from ⟨hb2, by omega⟩)
      have HWA := Lib.hid hwA
      clear hm RA SA BA B3 hwB gr CH gne R0 hwA hb2
      go_upto_region 5 with (guard_target =~ wpList _ _ _ (Oper.mk (some 24) _ _ _ _ _ :: _) _ _; go_must (refine wpList_made rfl (.tmp 23) rfl (some 24) rfl n rfl (by have := NC.out.bd; omega) ?_; rw [← HWA.out, ← HB2.out.1]))
      rw [← HWB.out]
      clear q0 q1 q2 f0 f1 f2 k0 k1
      go_wp2_with fail
      go_loopw [33] (fun iv wr => ∃ i : Nat, i ≤ N ∧ iv = .int .i64 i ∧ Hid (∃ Si, RenW w wr g b b2 n S i Si)) (fun iv _ => N - (intOf iv).toNat)
      case atStart => exact ⟨0, by omega, rfl, Lib.hid ⟨_, START.out⟩⟩
      case round =>
        obtain ⟨i, hi, rfl, RR⟩ := hrel
        have d7 : (i : Int) ≤ (N : Int) := by omega
        by_cases hlt : i < N
        · have d8 : (i : Int) < (N : Int) := by omega
          obtain ⟨Si, R⟩ := RR.out
          have hs : S[i]? = some (slot S i) := slot_eq (by have := HN.out; omega)
          obtain ⟨s, hss⟩ : ∃ s, s = slot S i := ⟨_, rfl⟩
          rw [← hss] at hs
          have ok : SlOK 3 s := hI.out.slOK hs
          have RNG := Lib.hid (show wr.rangeAt b (i * 36) (slL 3 s) from R.row.at_ i s hs)
          have HR1 := Lib.hid R
          have HS := Lib.hid hs
          have SL := Lib.hid (slL_len ok)
          have ONE := Lib.hid (show (slL 3 s).toArray.all (·.oneCell') = true from all_oneCell_toArray (fun v hv => slL_one _ _ v hv))
          obtain ⟨sl, hsl⟩ : ∃ sl, sl = (slL 3 s).toArray := ⟨_, rfl⟩
          have SLE := Lib.hid hsl
          obtain ⟨fs, hu⟩ := slot_aggRow
          have HU := Lib.hid hu
          obtain ⟨gs, hgs⟩ : ∃ gs, gs = wr.heap.size := ⟨_, rfl⟩
          have GS := Lib.hid hgs
          obtain ⟨wC, hwC⟩ : ∃ wC, wC = (wr.alloc (.cells (slL 3 .empty).toArray 123)).setRow gs sl := ⟨_, rfl⟩
          have HWC := Lib.hid hwC
          have SC : Still wr wC := by rw [hwC, hgs]; exact below_setRow ((Still.refl wr).alloc (Nat.le_refl _) _) (Nat.le_refl _) _
          have BC : Blk wC gs 123 sl := by rw [hwC, hgs]; exact setRow_heap _ _ _ _ _ _ (heap_alloc_new wr _)
          have st0 : wC.cell? ⟨gs, 0, none⟩ = some (.int .i64 (s.st : Nat)) := by rw [BC.cell, hsl]; rfl
          have HSC := Lib.hid SC
          have HBC := Lib.hid BC
          clear RR R hs hss ok hsl hu hgs hwC SC BC
          go_upto_region 8 with (first
            | (guard_target =~ wpList _ _ _ (Oper.mk (some 36) _ _ _ _ _ :: _) _ _; go_must (refine wpList_load_mid rfl 123 (.tmp 35) rfl b (i * 36) rfl (slL 3 s) _ RNG.out HU.out rfl (by rw [sizeSlot, SL.out]) ?_); rw [← SLE.out])
            | (guard_target =~ wpList _ _ _ (Oper.mk (some 5) _ _ _ _ _ :: _) _ _; go_must (refine wpList_alloc_arr rfl 123 rfl (some 5) rfl (slL 3 .empty  ).toArray 36 (by kernel_rfl) ?_); rw [← GS.out])
            | (guard_target =~ wpList _ _ _ (Oper.mk none (Op.store _ _ _) _ _ _ _ :: _) _ _; go_must (refine wpList_store_rowTo rfl 123 (.tmp 5) (.tmp 36) rfl rfl gs sl rfl rfl 123 (slL 3 .empty).toArray (by rw [GS.out]; exact heap_alloc_new wr _) (by rw [sizeSlot, SLE.out, List.size_toArray, SL.out]) (by rw [SLE.out, List.size_toArray, List.size_toArray, SL.out]; exact slL_len (SlOK.empty 3)) (by rw [SLE.out]; exact ONE.out) ?_)))
          rw [← HWC.out]
          cases s with
          | empty =>
            simp only [Sl.st] at st0
            clear hn d5 d3 hn0
            go_wp2_with fail
            go_roundw
            case rel => exact ⟨i + 1, by omega, by go_num, Lib.hid ⟨Si, HR1.out.skip HSC.out HS.out rfl⟩⟩
            case measure => simp [intOf]; omega
          | dead =>
            simp only [Sl.st] at st0
            clear hn d5 d3 hn0
            go_wp2_with fail
            go_roundw
            case rel => exact ⟨i + 1, by omega, by go_num, Lib.hid ⟨Si, HR1.out.skip HSC.out HS.out rfl⟩⟩
            case measure => simp [intOf]; omega
          | full k v =>
            obtain ⟨hk, hv, _⟩ := hI.out.probe i k v HS.out
            obtain ⟨j, hj, he⟩ := HR1.out.ren.stop hI.out HS.out
            have room := HR1.out.ren.room (by rw [← KN.out]; exact NC.out) HS.out
            have LAY := Lib.hid (lay_any (HR1.out.tb.still HSC.out) k v hv hk (by rw [HR1.out.ren.len]; omega) j hj he room)
            have NEXT := Lib.hid (fun W T C => HR1.out.next HSC.out hI.out (by rw [← KN.out]; exact NC.out) HS.out hj he HNE.out (W := W) T C)
            have RV := Lib.hid (show wC.rangeAt gs 33 (v.map (Value.int .i64)) from fun q u hq => by
              rw [HBC.out.cell, SLE.out, List.getElem?_toArray]
              exact slL_val (m := 3) (s := .full k v) ⟨hk, hv⟩ hq)
            obtain ⟨fv, huv⟩ := underVal
            have UV := Lib.hid huv
            have SV := Lib.hid (show (Tryz.prog.info? 38).map (·.size) = some (v.map (Value.int .i64)).length from by rw [sizeVal, List.length_map, hv])
            have RK := Lib.hid (show wC.rangeAt gs 1 (bytesV k) from fun q u hq => by
              rw [HBC.out.cell, SLE.out, List.getElem?_toArray]
              exact slL_key (m := 3) (s := .full k v) hq)
            have H32 := Lib.hid (show (Tryz.prog.info? 24).map (·.size) = some (bytesV k).length from by rw [size32, bytesV_length, hk])
            simp only [Sl.st] at st0
            clear hk hv hj he room hn d5 d3 hn0 huv
            go_wp2_with (first
              | (guard_target =~ wpList _ _ _ (Oper.mk (some 42) _ _ _ _ _ :: _) _ _; go_must (refine wpList_load_mid rfl 24 (.tmp 41) rfl gs 1 rfl (bytesV k) _ RK.out under32 rfl H32.out ?_))
              | (guard_target =~ wpList _ _ _ (Oper.mk (some 44) _ _ _ _ _ :: _) _ _; go_must (refine wpList_load_mid rfl 38 (.tmp 43) rfl gs 33 rfl (v.map (Value.int .i64)) _ RV.out UV.out rfl SV.out ?_))
              | (go_at_call 154; refine LAY.out.mono ?_; rintro e w3 ⟨rfl, t3, c3⟩; have N3 := Lib.hid (NEXT.out _ t3 c3); clear t3 c3))
            go_roundw
            case rel => exact ⟨i + 1, by omega, by go_num, Lib.hid ⟨_, N3.out⟩⟩
            case measure => simp [intOf]; omega
        · have d8 : ¬ (i : Int) < (N : Int) := by omega
          obtain ⟨Si, R⟩ := RR.out
          have iN : i = N := by omega
          subst iN
          have FIN := Lib.hid (show ∃ b2 n S2, TB TT 3 wr g b2 n S2 ∧ Ren 3 n S i S2 ∧ NewCap kn n ∧ Chg w wr (fun q => q = g) ∧ w.heap.size ≤ b2 from ⟨b2, n, Si, R.tb, R.ren, NC.out, R.chg, R.new⟩)
          clear R RR
          go_wp2_with fail
          go_end0
          exact ⟨rfl, FIN.out⟩
end Go.Proofs.YtblgphfdicffcaaGreatDoor.Pl

/- Mathematics: keys in their order, lists of keys and values that rise, what a table holds. It proves no statement. -/


namespace Go.Proofs.YtblgphfdicffcaaGreatDoor
open Go.Lib
set_option linter.unusedVariables false
set_option linter.unusedSimpArgs false

theorem cmp_self : ∀ a : List UInt8, compareBytes a a = 0
  | [] => rfl
  | x :: a => by simp [compareBytes, UInt8.lt_irrefl, cmp_self a]
theorem cmp_eq : ∀ {a b : List UInt8}, compareBytes a b = 0 → a = b
  | [], [], _ => rfl
  | [], _ :: _, h => by simp [compareBytes] at h
  | _ :: _, [], h => by simp [compareBytes] at h
  | x :: a, y :: b, h => by
    unfold compareBytes at h
    by_cases h1 : x < y
    · rw [if_pos h1] at h; simp at h
    · rw [if_neg h1] at h
      by_cases h2 : y < x
      · rw [if_pos h2] at h; simp at h
      · rw [if_neg h2] at h
        have e : x = y := UInt8.le_antisymm (UInt8.not_lt.1 h2) (UInt8.not_lt.1 h1)
        rw [e, cmp_eq h]
theorem cmp_flip : ∀ a b : List UInt8, compareBytes a b = - compareBytes b a
  | [], [] => rfl
  | [], _ :: _ => rfl
  | _ :: _, [] => rfl
  | x :: a, y :: b => by
    unfold compareBytes
    by_cases h1 : x < y
    · have h2 : ¬ y < x := fun h => UInt8.lt_irrefl x (UInt8.lt_trans h1 h)
      rw [if_pos h1, if_neg h2, if_pos h1]
    · by_cases h2 : y < x
      · rw [if_neg h1, if_pos h2, if_pos h2]; rfl
      · rw [if_neg h1, if_neg h2, if_neg h2, if_neg h1, cmp_flip a b]
theorem cmp_trans : ∀ {a b c : List UInt8}, compareBytes a b < 0 → compareBytes b c < 0 → compareBytes a c < 0
  | [], [], _, h, _ => by simp [compareBytes] at h
  | [], _ :: _, [], _, h => by simp [compareBytes] at h
  | [], _ :: _, _ :: _, _, _ => by simp [compareBytes]
  | _ :: _, [], _, h, _ => by simp [compareBytes] at h
  | _ :: _, _ :: _, [], _, h => by simp [compareBytes] at h
  | x :: a, y :: b, z :: c, h1, h2 => by
    unfold compareBytes at h1 h2 ⊢
    by_cases xy : x < y
    · by_cases yz : y < z
      · rw [if_pos (UInt8.lt_trans xy yz)]; omega
      · rw [if_neg yz] at h2
        by_cases zy : z < y
        · rw [if_pos zy] at h2; omega
        · have e : y = z := UInt8.le_antisymm (UInt8.not_lt.1 zy) (UInt8.not_lt.1 yz)
          rw [if_pos (by rw [← e]; exact xy)]; omega
    · rw [if_neg xy] at h1
      by_cases yx : y < x
      · rw [if_pos yx] at h1; omega
      · have e : x = y := UInt8.le_antisymm (UInt8.not_lt.1 yx) (UInt8.not_lt.1 xy)
        subst e
        rw [if_neg yx] at h1
        by_cases yz : x < z
        · rw [if_pos yz]; omega
        · rw [if_neg yz] at h2 ⊢
          by_cases zy : z < x
          · rw [if_pos zy] at h2; omega
          · rw [if_neg zy] at h2 ⊢
            exact cmp_trans h1 h2
/-- Ahead. -/
def ltK (a b : List UInt8) : Bool := decide (compareBytes a b < 0)
theorem ltK_irrefl (a : List UInt8) : ltK a a = false := by simp [ltK, cmp_self]
theorem ltK_trans {a b c : List UInt8} (h1 : ltK a b = true) (h2 : ltK b c = true) : ltK a c = true := by
  simp [ltK] at *
  exact cmp_trans h1 h2
theorem ltK_tri {a b : List UInt8} (h : a ≠ b) (h1 : ltK a b = false) : ltK b a = true := by
  simp [ltK] at *
  have := cmp_flip a b
  have h0 : compareBytes a b ≠ 0 := fun e => h (cmp_eq e)
  omega
theorem ltK_asym {a b : List UInt8} (h : ltK a b = true) : ltK b a = false := by
  cases hc : ltK b a with
  | false => rfl
  | true => have := ltK_trans h hc; rw [ltK_irrefl] at this; cases this
theorem ltK_ne {a b : List UInt8} (h : ltK a b = true) : a ≠ b := fun e => by rw [e, ltK_irrefl] at h; cases h

abbrev KV := List UInt8 × List Int
def Rise (L : List KV) : Prop := L.Pairwise (fun a b => ltK a.1 b.1 = true)
def insL (k : List UInt8) (v : List Int) : List KV → List KV
  | [] => [(k, v)]
  | z :: r => if z.1 = k then (k, v) :: r else if ltK k z.1 then (k, v) :: z :: r else z :: insL k v r
def delL (k : List UInt8) (L : List KV) : List KV := L.filter (fun z => !decide (z.1 = k))
def hasL (k : List UInt8) (L : List KV) : Bool := L.any (fun z => decide (z.1 = k))
theorem hasL_iff {k : List UInt8} {L : List KV} : hasL k L = true ↔ ∃ v, (k, v) ∈ L := by
  unfold hasL
  rw [List.any_eq_true]
  constructor
  · rintro ⟨z, hz, e⟩
    have e := of_decide_eq_true e
    exact ⟨z.2, by rw [← e]; exact hz⟩
  · rintro ⟨v, hv⟩; exact ⟨_, hv, by simp⟩
theorem hasL_no {k : List UInt8} {L : List KV} : hasL k L = false ↔ ∀ v, (k, v) ∉ L := by
  constructor
  · intro h v hv
    have := hasL_iff.2 ⟨v, hv⟩
    rw [h] at this; cases this
  · intro h
    cases hc : hasL k L with
    | false => rfl
    | true => obtain ⟨v, hv⟩ := hasL_iff.1 hc; exact absurd hv (h v)
theorem Rise.uniq {L : List KV} (h : Rise L) {k : List UInt8} {v v' : List Int} (h1 : (k, v) ∈ L) (h2 : (k, v') ∈ L) : v = v' := by
  induction L with
  | nil => cases h1
  | cons z r ih =>
    obtain ⟨hz, hr⟩ := List.pairwise_cons.1 h
    rcases List.mem_cons.1 h1 with e1 | h1 <;> rcases List.mem_cons.1 h2 with e2 | h2
    · rw [← e1] at e2; cases e2; rfl
    · have := hz _ h2; rw [← e1, ltK_irrefl] at this; cases this
    · have := hz _ h1; rw [← e2, ltK_irrefl] at this; cases this
    · exact ih hr h1 h2
theorem mem_insL {k : List UInt8} {v : List Int} {L : List KV} (h : Rise L) (z : KV) : z ∈ insL k v L ↔ z = (k, v) ∨ (z ∈ L ∧ z.1 ≠ k) := by
  induction L with
  | nil => simp [insL]
  | cons y r ih =>
    obtain ⟨hy, hr⟩ := List.pairwise_cons.1 h
    unfold insL
    by_cases e : y.1 = k
    · rw [if_pos e, List.mem_cons, List.mem_cons]
      constructor
      · rintro (rfl | hz)
        · exact .inl rfl
        · exact .inr ⟨.inr hz, fun e2 => by have := ltK_ne (hy z hz); rw [e, e2] at this; exact this rfl⟩
      · rintro (rfl | ⟨rfl | hz, hne⟩)
        · exact .inl rfl
        · exact absurd e hne
        · exact .inr hz
    · rw [if_neg e]
      by_cases l : ltK k y.1 = true
      · rw [if_pos l, List.mem_cons]
        constructor
        · rintro (rfl | hz)
          · exact .inl rfl
          · refine .inr ⟨hz, fun e2 => ?_⟩
            rcases List.mem_cons.1 hz with rfl | hz
            · exact e e2
            · have := ltK_trans l (hy z hz); rw [e2, ltK_irrefl] at this; cases this
        · rintro (rfl | ⟨hz, _⟩)
          · exact .inl rfl
          · exact .inr hz
      · rw [if_neg l, List.mem_cons, ih hr, List.mem_cons]
        constructor
        · rintro (rfl | rfl | ⟨hz, hne⟩)
          · exact .inr ⟨.inl rfl, e⟩
          · exact .inl rfl
          · exact .inr ⟨.inr hz, hne⟩
        · rintro (rfl | ⟨rfl | hz, hne⟩)
          · exact .inr (.inl rfl)
          · exact .inl rfl
          · exact .inr (.inr ⟨hz, hne⟩)
theorem Rise.ins {k : List UInt8} {v : List Int} {L : List KV} (h : Rise L) : Rise (insL k v L) := by
  induction L with
  | nil => simp [insL, Rise]
  | cons y r ih =>
    obtain ⟨hy, hr⟩ := List.pairwise_cons.1 h
    unfold insL
    by_cases e : y.1 = k
    · rw [if_pos e]
      exact List.pairwise_cons.2 ⟨fun z hz => by show ltK k z.1 = true; rw [← e]; exact hy z hz, hr⟩
    · rw [if_neg e]
      by_cases l : ltK k y.1 = true
      · rw [if_pos l]
        exact List.pairwise_cons.2 ⟨fun z hz => by
          rcases List.mem_cons.1 hz with rfl | hz
          · exact l
          · exact ltK_trans l (hy z hz), h⟩
      · rw [if_neg l]
        refine List.pairwise_cons.2 ⟨fun z hz => ?_, ih hr⟩
        rcases (mem_insL hr z).1 hz with rfl | ⟨hz, _⟩
        · exact ltK_tri (fun e2 => e e2.symm) (by simpa using l)
        · exact hy z hz
theorem insL_len {k : List UInt8} {v : List Int} {L : List KV} (h : Rise L) : (insL k v L).length = if hasL k L then L.length else L.length + 1 := by
  induction L with
  | nil => rfl
  | cons y r ih =>
    obtain ⟨hy, hr⟩ := List.pairwise_cons.1 h
    have hc : hasL k (y :: r) = (decide (y.1 = k) || hasL k r) := rfl
    unfold insL
    by_cases e : y.1 = k
    · rw [if_pos e, hc]; simp [e]
    · rw [if_neg e, hc]
      by_cases l : ltK k y.1 = true
      · have : hasL k r = false := hasL_no.2 fun v hv => by have := ltK_trans l (hy _ hv); rw [ltK_irrefl] at this; cases this
        rw [if_pos l]; simp [e, this]
      · rw [if_neg l, List.length_cons, ih hr]
        simp only [e, decide_false, Bool.false_or, List.length_cons]
        split <;> rfl
theorem mem_delL {k : List UInt8} {L : List KV} (z : KV) : z ∈ delL k L ↔ z ∈ L ∧ z.1 ≠ k := by
  unfold delL
  rw [List.mem_filter]
  simp
theorem Rise.del {k : List UInt8} {L : List KV} (h : Rise L) : Rise (delL k L) := h.filter _
theorem delL_none {k : List UInt8} {L : List KV} (h : hasL k L = false) : delL k L = L := by
  unfold delL
  rw [List.filter_eq_self]
  intro z hz
  have : z.1 ≠ k := fun e => hasL_no.1 h z.2 (by rw [← e]; exact hz)
  simp [this]
theorem delL_len {k : List UInt8} {L : List KV} (h : Rise L) (hk : hasL k L = true) : (delL k L).length + 1 = L.length := by
  induction L with
  | nil => cases hk
  | cons y r ih =>
    obtain ⟨hy, hr⟩ := List.pairwise_cons.1 h
    have hc : hasL k (y :: r) = (decide (y.1 = k) || hasL k r) := rfl
    by_cases e : y.1 = k
    · have hn : hasL k r = false := hasL_no.2 fun v hv => by have := hy _ hv; rw [e, ltK_irrefl] at this; cases this
      have : delL k (y :: r) = delL k r := by simp [delL, e]
      rw [this, delL_none hn]; rfl
    · have : delL k (y :: r) = y :: delL k r := by simp [delL, e]
      rw [hc] at hk
      simp [e] at hk
      rw [this, List.length_cons, List.length_cons, ih hr hk]
/-- What a table holds. -/
structure Abs (S : List Sl) (L : List KV) : Prop where
  rise : Rise L
  len : keysN S = L.length
  mem : ∀ z, z ∈ fulls S ↔ z ∈ L
theorem Abs.rep (n : Nat) : Abs (List.replicate n .empty) [] := ⟨List.Pairwise.nil, keysN_rep n, fun z => by rw [fulls_rep]⟩
section
variable {m : Nat} {S : List Sl} {L : List KV} {k : List UInt8} {v v' : List Int}
theorem Abs.at_ (a : Abs S L) {p : Nat} (hp : S[p]? = some (.full k v)) : (k, v) ∈ L := (a.mem _).1 (mem_fulls.2 ⟨p, hp⟩)
theorem Abs.find (a : Abs S L) (h : Inv m S) {j : Nat} (s : Stop S k j) : (hasL k L = true ∧ ∃ v, S[pos k S.length j]? = some (Sl.full k v) ∧ (k, v) ∈ L) ∨ (hasL k L = false ∧ S[pos k S.length j]? = some Sl.empty) := by
  rcases h.find s with ⟨v, e⟩ | ⟨e, hn⟩
  · have := a.at_ e
    exact .inl ⟨hasL_iff.2 ⟨v, this⟩, v, e, this⟩
  · exact .inr ⟨hasL_no.2 fun v hv => hn v ((a.mem _).2 hv), e⟩
theorem Abs.over (a : Abs S L) (h : Inv m S) {p : Nat} (hp : S[p]? = some (Sl.full k v)) (hv : v'.length = m) : Abs (S.set p (.full k v')) (insL k v' L) := by
  obtain ⟨_, K, _, M⟩ := h.over hp hv
  have hk : hasL k L = true := hasL_iff.2 ⟨v, a.at_ hp⟩
  exact ⟨a.rise.ins, by rw [K, insL_len a.rise, hk, if_pos rfl]; exact a.len, fun z => by rw [M, mem_insL a.rise, a.mem]⟩
theorem Abs.more (a : Abs S L) (h : Inv m S) {j : Nat} (s : Stop S k j) (hp : S[pos k S.length j]? = some Sl.empty) (hk32 : k.length = 32) (hv : v.length = m) (hl : 4 * (keysN S + 1 + deadN S) ≤ 3 * S.length) :
    Abs (S.set (pos k S.length j) (.full k v)) (insL k v L) := by
  obtain ⟨_, K, _, M⟩ := h.more s hp hk32 hv hl
  have hn : hasL k L = false := by
    rcases a.find h s with ⟨_, v, e, _⟩ | ⟨e, _⟩
    · rw [hp] at e; cases e
    · exact e
  refine ⟨a.rise.ins, by rw [K, insL_len a.rise, hn, a.len]; rfl, fun z => ?_⟩
  rw [M, mem_insL a.rise, a.mem]
  constructor
  · rintro (rfl | hz)
    · exact .inl rfl
    · exact .inr ⟨hz, fun e => hasL_no.1 hn z.2 (by rw [← e]; exact hz)⟩
  · rintro (rfl | ⟨hz, _⟩)
    · exact .inl rfl
    · exact .inr hz
theorem Abs.less (a : Abs S L) (h : Inv m S) {p : Nat} (hp : S[p]? = some (Sl.full k v)) : Abs (S.set p .dead) (delL k L) := by
  obtain ⟨_, K, _, M⟩ := h.less hp
  have hk : hasL k L = true := hasL_iff.2 ⟨v, a.at_ hp⟩
  have := delL_len a.rise hk
  exact ⟨a.rise.del, by have := a.len; omega, fun z => by rw [M, mem_delL, a.mem]⟩
theorem Abs.ren (a : Abs S L) {n : Nat} {S2 : List Sl} (r : Ren m n S S.length S2) : Abs S2 L := ⟨a.rise, r.all.1.trans a.len, fun z => (r.all.2 z).trans (a.mem z)⟩
end
/-- What Put makes of the slots and the dead ones. -/
def PutR (k : List UInt8) (L : List KV) (cp dd cp' dd' : Nat) : Prop :=
  if hasL k L then cp' = cp ∧ dd' = dd else if 3 * cp < 4 * (L.length + dd + 1) then NewCap L.length cp' ∧ dd' = 0 else cp' = cp ∧ dd' = dd
/-- What Delete makes of them. -/
def DelR (k : List UInt8) (L : List KV) (cp dd cp' dd' : Nat) : Prop :=
  if hasL k L then (if 8 < cp ∧ 8 * (delL k L).length < cp then NewCap (delL k L).length cp' ∧ dd' = 0 else cp' = cp ∧ dd' = dd + 1) else cp' = cp ∧ dd' = dd
def Gd (L : List KV) (cp : Nat) : Prop := cp ≤ 8 ∨ cp ≤ 8 * L.length
theorem PutR.gd {k : List UInt8} {v : List Int} {L : List KV} {cp dd cp' dd' : Nat} (h : PutR k L cp dd cp' dd') (hr : Rise L) (g : Gd L cp) : Gd (insL k v L) cp' := by
  unfold PutR at h
  unfold Gd at *
  rw [insL_len hr]
  split at h
  · rename_i hk
    rw [hk, if_pos rfl, h.1]; exact g
  · rename_i hk
    have hk : hasL k L = false := by simpa using hk
    rw [hk]
    simp only [Bool.false_eq_true, if_false]
    split at h
    · have := h.1.bd; omega
    · omega
theorem DelR.gd {k : List UInt8} {L : List KV} {cp dd cp' dd' : Nat} (h : DelR k L cp dd cp' dd') (hr : Rise L) (g : Gd L cp) : Gd (delL k L) cp' := by
  unfold DelR at h
  unfold Gd at *
  split at h
  · split at h
    · have := h.1.bd; omega
    · omega
  · rename_i hk
    rw [delL_none (by simpa using hk)]
    omega
end Go.Proofs.YtblgphfdicffcaaGreatDoor

/- Contracts: a table (of places) by what it holds: New, Len. It proves no statement. -/


namespace Go.Proofs.YtblgphfdicffcaaGreatDoor.Pl
open Go.RowKit
set_option linter.unusedVariables false
set_option linter.unusedSimpArgs false

/-- A table at g, its slots in block b, that holds L. -/
structure Tb (w : World) (g b : Nat) (L : List KV) (cp dd : Nat) : Prop where
  ex : ∃ c S, TB TT 3 w g b c S ∧ Abs S L ∧ S.length = cp ∧ deadN S = dd
  gd : Gd L cp
section
variable {w w' : World} {g b cp dd : Nat} {L : List KV}
theorem Tb.still (h : Tb w g b L cp dd) (s : Still w w') : Tb w' g b L cp dd := by
  obtain ⟨⟨c, S, t, r⟩, gd⟩ := h
  exact ⟨⟨c, S, t.still s, r⟩, gd⟩
theorem Tb.chg {R : Nat → Prop} (h : Tb w g b L cp dd) (c : Chg w w' R) (hg : ¬ R g) (hb : ¬ R b) : Tb w' g b L cp dd := by
  obtain ⟨⟨c', S, t, r⟩, gd⟩ := h
  exact ⟨⟨c', S, t.chg c hg hb, r⟩, gd⟩
theorem Tb.glt (h : Tb w g b L cp dd) : g < w.heap.size := by obtain ⟨⟨c', S, t, r⟩, gd⟩ := h; exact t.box.lt
theorem Tb.blt (h : Tb w g b L cp dd) : b < w.heap.size := by obtain ⟨⟨c', S, t, r⟩, gd⟩ := h; exact t.row.lt
theorem Tb.bty (h : Tb w g b L cp dd) : ∃ cs, Blk w b ET cs := by obtain ⟨⟨c', S, t, r⟩, gd⟩ := h; exact t.row.ty
theorem Tb.gty (h : Tb w g b L cp dd) : ∃ cs, Blk w g TT cs := by obtain ⟨⟨c', S, t, r⟩, gd⟩ := h; exact ⟨_, t.box⟩
theorem Tb.rise (h : Tb w g b L cp dd) : Rise L := by obtain ⟨⟨c', S, t, a, _⟩, gd⟩ := h; exact a.rise
theorem Tb.ne (h : Tb w g b L cp dd) : b ≠ g := by obtain ⟨⟨c', S, t, r⟩, gd⟩ := h; exact t.ne
theorem Tb.load (h : Tb w g b L cp dd) : 8 ≤ cp ∧ 4 * (L.length + dd) ≤ 3 * cp := by
  obtain ⟨⟨c', S, t, a, rfl, rfl⟩, gd⟩ := h
  have h1 := t.inv.load
  rw [a.len] at h1
  exact ⟨t.len8, h1⟩
theorem Tb.new {g b : Nat} (h : TB TT 3 w g b 8 (List.replicate 8 .empty)) : Tb w g b [] 8 0 := ⟨⟨8, _, h, Abs.rep 8, by simp, deadN_rep 8⟩, .inl (Nat.le_refl _)⟩
theorem Tb.cpb (h : Tb w g b L cp dd) (hl : L.length ≤ 1073741824) : cp ≤ 8589934592 := by have := h.gd; unfold Gd at this; omega
end
theorem tnew_any (w : World) : Calls Tryz.prog 48 #[] w fun e w' => ∃ g b, e = .returned (.pointer (some ⟨g, 0, none⟩)) ∧ Tb w' g b [] 8 0 ∧ Still w w' ∧ w.heap.size ≤ g ∧ w.heap.size ≤ b :=
  (new_any w).mono fun _ _ ⟨g, b, he, t, s, h1, h2⟩ => ⟨g, b, he, Tb.new t, s, h1, h2⟩
end Go.Proofs.YtblgphfdicffcaaGreatDoor.Pl

/- Contracts: hints where there is no medium, no log, no state. It proves no statement. -/




namespace Go.Proofs.YtblgphfdicffcaaGreatDoor
open Go.RowKit Go.Maps Go.WideMaps Go.Sort
set_option linter.unusedVariables false
set_option linter.unusedSimpArgs false

theorem hcheck_no (w : World) : Calls Tryz.prog 79 #[.pointer none] w fun e w' => e = .returned (.int .i64 1) ∧ w = w' := by
  have SZ := Lib.hid (size_nil ⟨#[]⟩ w)
  go_enter Tryz.func79, Tryz.ntmps79
  go_wp2_with fail
  refine SZ.out.mono ?_
  rintro e w1 ⟨rfl, rfl⟩
  go_wp2_with fail
  go_ret
  exact ⟨rfl, rfl⟩
theorem bytes_nil {M : Me} (hoff : M.off = false) (hne : nFind M.now [] = none) : M.bytes ⟨#[]⟩ = ([], 9) := by
  unfold Me.bytes Me.find
  rw [if_neg (by rw [hoff]; decide)]
  have : nFind M.now (⟨#[]⟩ : ByteArray).data.toList = none := hne
  rw [this]
theorem hcheck_on {w : World} {base g : Nat} {own : Own} {M : Me} (h : MedI w base own g M) (hok : M.ok) (hoff : M.off = false) (hne : nFind M.now [] = none) :
    Calls Tryz.prog 79 #[.pointer (some ⟨g, 0, none⟩)] w fun e w' => e = .returned (.int .i64 0) ∧ w = w' := by
  have SZ := Lib.hid (size_M ⟨#[]⟩ h hok (by decide))
  rw [bytes_nil hoff hne] at SZ
  clear h hok hoff hne
  go_enter Tryz.func79, Tryz.ntmps79
  go_wp2_with fail
  refine SZ.out.mono ?_
  rintro e w1 ⟨rfl, rfl⟩
  go_wp2_with fail
  go_ret
  exact ⟨rfl, rfl⟩
theorem cap_nil (w : World) : Calls Tryz.prog 80 #[.pointer none] w fun e w' => e = .returned (.int .i64 0) ∧ w = w' := by
  have WK : Hid (Calls Tryz.prog 112 #[.pointer none] w fun e w' => e = .returned (.bool false) ∧ w = w') := Lib.hid (by
    go_enter Tryz.func112, Tryz.ntmps112
    go_wp2_with fail
    go_ret
    exact ⟨rfl, rfl⟩)
  go_enter Tryz.func80, Tryz.ntmps80
  go_wp2_with fail
  refine WK.out.mono ?_
  rintro e w1 ⟨rfl, rfl⟩
  go_wp2_with fail
  go_ret
  exact ⟨rfl, rfl⟩
theorem cap_any {w : World} {g b cp dd : Nat} {L : List KV} (h : Pl.Tb w g b L cp dd) :
    Calls Tryz.prog 80 #[.pointer (some ⟨g, 0, none⟩)] w fun e w' => e = .returned (.int .i64 (cp : Nat)) ∧ w = w' := by
  obtain ⟨⟨c, S, t, a, rfl, rfl⟩, gd⟩ := h
  have k1 := t.c0
  have WY := Lib.hid (Pl.works_yes t)
  clear a t gd
  go_enter Tryz.func80, Tryz.ntmps80
  go_wp2_with (go_at_call 112; refine WY.out.mono ?_; rintro e w1 ⟨rfl, rfl⟩)
  go_ret
  exact ⟨rfl, rfl⟩
/-- Save without a medium. -/
theorem save_nomed (P : Value) (w : World) (hP : ∃ g, P = .pointer (some ⟨g, 0, none⟩)) : Calls Tryz.prog 34 #[.pointer none, P] w fun e w' => e = .returned (.int .i64 1) ∧ Still w w' := by
  obtain ⟨g, rfl⟩ := hP
  have CK := Lib.hid (fun W => hcheck_no W)
  have SA := Lib.hid (show Still w (w.alloc (.cells #[.pointer (some ⟨g, 0, none⟩)] 28)) from (Still.refl w).alloc (Nat.le_refl _) _)
  go_enter Tryz.func34, Tryz.ntmps34
  go_wp2_with fail
  refine (CK.out _).mono ?_
  rintro e w1 ⟨rfl, rfl⟩
  go_wp2_with fail
  go_ret
  exact ⟨rfl, SA.out⟩
/-- Save without a state. -/
theorem save_nostate {w : World} {base g : Nat} {own : Own} {M : Me} (h : MedI w base own g M) (hok : M.ok) (hoff : M.off = false) (hne : nFind M.now [] = none) : Calls Tryz.prog 34 #[.pointer (some ⟨g, 0, none⟩), .pointer none] w fun e w' => e = .returned (.int .i64 1) ∧ Still w w' := by
  have SA := Lib.hid (show Still w (w.alloc (.cells #[.pointer none] 28)) from (Still.refl w).alloc (Nat.le_refl _) _)
  have CK := Lib.hid (fun W (s : Still w W) => hcheck_on (h.still s) hok hoff hne)
  clear h hok hoff hne
  go_enter Tryz.func34, Tryz.ntmps34
  go_wp2_with fail
  refine (CK.out _ SA.out).mono ?_
  rintro e w1 ⟨rfl, rfl⟩
  go_wp2_with fail
  go_ret
  exact ⟨rfl, SA.out⟩
/-- Save of a state without an index. -/
theorem save_noindex {w : World} {base g gs : Nat} {own : Own} {M : Me} (h : MedI w base own g M) (hok : M.ok) (hoff : M.off = false) (hne : nFind M.now [] = none) (n : Int) (hs : Blk w gs 44 #[.int .i64 n, .pointer none, .slice none 0 0, .slice none 0 0]) :
    Calls Tryz.prog 34 #[.pointer (some ⟨g, 0, none⟩), .pointer (some ⟨gs, 0, none⟩)] w fun e w' => e = .returned (.int .i64 1) ∧ Still w w' := by
  have SA := Lib.hid (show Still w (w.alloc (.cells #[.pointer (some ⟨gs, 0, none⟩)] 28)) from (Still.refl w).alloc (Nat.le_refl _) _)
  have CK := Lib.hid (fun W (s : Still w W) => hcheck_on (h.still s) hok hoff hne)
  have c1 : (w.alloc (.cells #[.pointer (some ⟨gs, 0, none⟩)] 28)).cell? ⟨gs, 1, none⟩ = some (.pointer none) := (hs.still SA.out).cell 1
  have CP := Lib.hid (fun W => cap_nil W)
  clear h hok hoff hne hs
  go_enter Tryz.func34, Tryz.ntmps34
  go_wp2_with fail
  refine (CK.out _ SA.out).mono ?_
  rintro e w1 ⟨rfl, rfl⟩
  go_wp2_with fail
  refine (CP.out _).mono ?_
  rintro e w1 ⟨rfl, rfl⟩
  go_wp2_with fail
  go_ret
  exact ⟨rfl, SA.out⟩
/-- Save of a state of no commit. -/
theorem save_arg {w : World} {base g gs gt bt cp dd : Nat} {own : Own} {M : Me} {L : List KV} (h : MedI w base own g M) (hok : M.ok) (hoff : M.off = false) (hne : nFind M.now [] = none) (T : SgT0 w) (hs : Blk w gs 44 #[.int .i64 (-1), .pointer (some ⟨gt, 0, none⟩), .slice none 0 0, .slice none 0 0]) (t : Pl.Tb w gt bt L cp dd) (hcp : 0 < cp ∧ cp ≤ 1048576) :
    Calls Tryz.prog 34 #[.pointer (some ⟨g, 0, none⟩), .pointer (some ⟨gs, 0, none⟩)] w fun e w' => e = .returned (.int .i64 2) ∧ Still w w' := by
  have SA := Lib.hid (show Still w (w.alloc (.cells #[.pointer (some ⟨gs, 0, none⟩)] 28)) from (Still.refl w).alloc (Nat.le_refl _) _)
  have CK := Lib.hid (fun W (s : Still w W) => hcheck_on (h.still s) hok hoff hne)
  have c1 : (w.alloc (.cells #[.pointer (some ⟨gs, 0, none⟩)] 28)).cell? ⟨gs, 1, none⟩ = some (.pointer (some ⟨gt, 0, none⟩)) := (hs.still SA.out).cell 1
  have c0 : (w.alloc (.cells #[.pointer (some ⟨gs, 0, none⟩)] 28)).cell? ⟨gs, 0, none⟩ = some (.int .i64 (-1)) := (hs.still SA.out).cell 0
  have CP := Lib.hid (fun W (s : Still w W) => cap_any (t.still s))
  have IX := Lib.hid (fun W (s : Still w W) => idx_any (-1) W (T.still s))
  rw [nameF_out idxF (by decide)] at IX
  have d1 : (cp : Int) ≤ 1048576 := by omega
  have d2 : ((cp : Int) == 0) = false := by rw [beq_eq_false_iff_ne]; omega
  clear h hok hoff hne hs t T
  go_enter Tryz.func34, Tryz.ntmps34
  go_wp2_with fail
  refine (CK.out _ SA.out).mono ?_
  rintro e w1 ⟨rfl, rfl⟩
  go_wp2_with fail
  refine (CP.out _ SA.out).mono ?_
  rintro e w1 ⟨rfl, rfl⟩
  go_wp2_with fail
  refine (IX.out _ SA.out).mono ?_
  rintro e w2 ⟨rfl, s2⟩
  have S2 := Lib.hid (Still.trans SA.out s2)
  clear s2
  go_wp2_with fail
  go_ret
  exact ⟨rfl, S2.out⟩
theorem newest_no (w : World) : Calls Tryz.prog 35 #[.pointer none] w fun e w' => e = .returned (.int .i64 (-1)) ∧ Still w w' := by
  have LI := Lib.hid (list_nil w)
  go_enter Tryz.func35, Tryz.ntmps35
  go_wp2_with fail
  refine LI.out.mono ?_
  rintro e w1 ⟨rfl, s1⟩
  have S1 := Lib.hid s1
  clear s1
  go_wp2_with fail
  go_loopw [3, 11] (fun nv iv wr => nv = .int .i64 (-1) ∧ iv = .int .i64 0 ∧ wr = w1) (fun _ _ _ => 0)
  case atStart => exact ⟨rfl, rfl, rfl⟩
  case round =>
    obtain ⟨rfl, rfl, rfl⟩ := hrel
    go_wp2_with fail
    go_ret
    exact ⟨rfl, S1.out⟩
theorem clean_no (w : World) : Calls Tryz.prog 49 #[.pointer none] w fun e w' => e = .returned (.int .i64 1) ∧ w = w' := by
  have CK := Lib.hid (hcheck_no w)
  go_enter Tryz.func49, Tryz.ntmps49
  go_wp2_with fail
  refine CK.out.mono ?_
  rintro e w1 ⟨rfl, rfl⟩
  go_wp2_with fail
  go_ret
  exact ⟨rfl, rfl⟩
/-- Load of a log that no call made. -/
theorem load_no (P m : Value) (n : Int) (w : World) (h : NoLog w P) : Calls Tryz.prog 36 #[P, m, .int .i64 n] w fun e w' => e = .returned (.tuple #[.pointer none, .int .i64 1]) ∧ w = w' := by
  have BY := Lib.hid (lbytes_no P (-1) w h)
  clear h
  go_enter Tryz.func36, Tryz.ntmps36
  go_wp2_with fail
  refine BY.out.mono ?_
  rintro e w1 ⟨rfl, rfl⟩
  go_wp2_with fail
  go_ret2
  exact ⟨rfl, rfl⟩
end Go.Proofs.YtblgphfdicffcaaGreatDoor
