/- Contracts: keys compared, by the program and by the document. It proves no statement. -/
import Derived.Test.YtlebancjgjcfjaaTbMem
import Derived.Lib.Bytealg
import Derived.Sort.Grow
import Derived.Deep.RegionHeld3
import Derived.Deep.DeepMust
namespace Go.Proofs.Ytlebancjgjcfjaa
open Go.RowKit
set_option linter.unusedVariables false
set_option linter.unusedSimpArgs false

theorem run_loadX {P : Program} {w : World} : ∀ (l : List UInt8) (a : Addr) (acc : ByteArray), (∀ j x, l[j]? = some x → w.cell? (a.add j) = some (.int .u8 (x.toNat : Int))) →
    (Extern.Bytes.loadBytes a l.length acc).run P w = .ok ⟨acc.data ++ l.toArray⟩ w
  | [], a, acc, _ => by simp [Extern.Bytes.loadBytes]
  | x :: l, a, acc, h => by
    have h0 : w.cell? a = some (.int .u8 (x.toNat : Int)) := by
      have := h 0 x rfl
      simpa [Addr.add] using this
    have ih := run_loadX (P := P) (w := w) l (a.add 1) (acc.push x) (fun j y hy => by
      have := h (j + 1) y (by simpa using hy)
      have e : (a.add 1).add j = a.add (j + 1) := by
        unfold Addr.add
        by_cases hj : j = 0
        · subst hj; simp
        · simp [hj]; omega
      rw [e]; exact this)
    have hx : ((x.toNat : Int).toNat).toUInt8 = x := by simp
    simp only [List.length_cons, Extern.Bytes.loadBytes, Sem.run_bind, run_load, h0, Result.andThen, hx]
    rw [ih]
    congr 1
    apply ByteArray.ext
    simp [ByteArray.push]
theorem run_bytesOf {w : World} {B n c : Nat} {b o : Nat} {l : List UInt8} (h : Reads w B (some ⟨b, o, none⟩) n l) (hn : 0 < n) : (Extern.Bytes.bytesOf (.slice (some ⟨b, o, none⟩) n c)).run Try.prog w = .ok ⟨l.toArray⟩ w := by
  have hl := h.1
  subst hl
  have e := run_loadX (P := Try.prog) (w := w) l ⟨b, o, none⟩ .empty (fun j x hj => by
    rw [Addr.add_lit]
    have hj2 := (List.getElem?_eq_some_iff.1 hj).1
    rw [h.cellAt j hj2]
    congr 3
    simp [List.getD, hj])
  show (Extern.Bytes.loadBytes ⟨b, o, none⟩ l.length .empty).run Try.prog w = _
  rw [e]
  congr 1
  apply ByteArray.ext
  show (#[] : Array UInt8) ++ l.toArray = l.toArray
  simp
theorem run_bytealgCompare {w : World} {B n n' c c' b o b' o' : Nat} {l l' : List UInt8} (h : Reads w B (some ⟨b, o, none⟩) n l) (h' : Reads w B (some ⟨b', o', none⟩) n' l') (hn : 0 < n) (hn' : 0 < n') :
    (Extern.BytealgCompare.compare #[.slice (some ⟨b, o, none⟩) n c, .slice (some ⟨b', o', none⟩) n' c']).run Try.prog w = .ok (.int .i64 (Lib.compareBytes l l')) w := by
  change Sem.run Try.prog (do pure (goInt (Extern.BytealgCompare.cmp (← Extern.Bytes.bytesOf (.slice (some ⟨b, o, none⟩) n c)) (← Extern.Bytes.bytesOf (.slice (some ⟨b', o', none⟩) n' c'))))) w = _
  simp only [Sem.run_bind, run_bytesOf h hn, run_bytesOf h' hn', Sem.run_pure, Result.andThen_ok]
  rw [Lib.cmp_eq]
  rfl
set_option maxRecDepth 100000 in
set_option maxHeartbeats 800000 in
theorem bcompare_any {w : World} {B c c' b b' : Nat} {l l' : List UInt8} (h : Reads w B (some ⟨b, 0, none⟩) 32 l) (h' : Reads w B (some ⟨b', 0, none⟩) 32 l') :
    Calls Try.prog 43 #[.slice (some ⟨b, 0, none⟩) 32 c, .slice (some ⟨b', 0, none⟩) 32 c'] w fun e w' => e = .returned (.int .i64 (Lib.compareBytes l l')) ∧ w = w' := by
  have r := run_bytealgCompare (c := c) (c' := c') h h' (by omega) (by omega)
  generalize Lib.compareBytes l l' = z at r ⊢
  clear h h'
  go_enter Try.func43, Try.ntmps43
  go_wp2_with fail
  rw [run_callFunc_extern Try.func52 (by kernel_rfl) (by kernel_rfl) (by kernel_rfl) (e := Extern.BytealgCompare.compare) (by kernel_rfl), r]
  simp only [Result.andThen]
  rw [Oper.upon_value]
  go_wp2_with fail
  go_ret
  exact ⟨rfl, rfl⟩
/-- A world with a key's box. -/
theorem key_reads (w : World) (k : List UInt8) (hk : k.length = 32) : Reads (w.alloc (.cells (bytesV k).toArray 43)) (w.heap.size + 1) (some ⟨w.heap.size, 0, none⟩) 32 k := by
  have := const_reads w k (0, 0)
  rw [hk] at this
  refine ⟨hk, fun _ => ⟨w.heap.size, 0, rfl, by omega, fun i hi => ?_⟩⟩
  rw [(Blk.new w _ _).cell, Nat.zero_add, List.getElem?_toArray, bytesV_get _ _ (by omega)]
set_option maxRecDepth 100000 in
set_option maxHeartbeats 1600000 in
theorem compare_any (k k' : List UInt8) (w : World) (hk : k.length = 32) (hk' : k'.length = 32) :
    Calls Try.prog 38 #[.agg (bytesV k).toArray, .agg (bytesV k').toArray] w fun e w' => e = .returned (.int .i64 (Lib.compareBytes k k')) ∧ ∃ q os, w' = (Sort.grow (w.drewN q) os) := by
  obtain ⟨wA, hwA⟩ : ∃ wA, wA = w.alloc (.cells (bytesV k).toArray 43) := ⟨_, rfl⟩
  obtain ⟨wB, hwB⟩ : ∃ wB, wB = wA.alloc (.cells (bytesV k').toArray 43) := ⟨_, rfl⟩
  obtain ⟨g, hg⟩ : ∃ g, g = w.heap.size := ⟨_, rfl⟩
  have zA : wA.heap.size = g + 1 := by rw [hwA, hg]; simp
  have r1 : Reads wB (g + 2) (some ⟨g, 0, none⟩) 32 k := by
    have h1 := key_reads w k hk
    rw [← hwA, ← hg] at h1
    rw [hwB]
    exact (h1.keep (fun p hp => World.cell?_alloc_lt _ _ _ (by omega))).more (by omega)
  have r2 : Reads wB (g + 2) (some ⟨g + 1, 0, none⟩) 32 k' := by
    have h1 := key_reads wA k' hk'
    rwa [← hwB, zA] at h1
  have HC := Lib.hid (fun n => bcompare_any (w := wB.drewN n) (c := 32) (c' := 32) (r1.still (by rw [hwB]; simp [zA]) (still_drewN (Still.refl _) n)) (r2.still (by rw [hwB]; simp [zA]) (still_drewN (Still.refl _) n)))
  have FIN := Lib.hid (show ∀ n, ∃ q os, wB.drewN n = Sort.grow (w.drewN q) os from fun n => ⟨n, #[.cells (bytesV k).toArray 43, .cells (bytesV k').toArray 43], by rw [hwB, hwA, Sort.alloc_eq_grow, Sort.alloc_eq_grow, Sort.grow_grow]; rfl⟩)
  generalize Lib.compareBytes k k' = z at HC ⊢
  have HWA := Lib.hid hwA
  have HWB := Lib.hid hwB
  have HG := Lib.hid hg
  have ZA := Lib.hid zA
  obtain ⟨kv, hkv⟩ : ∃ kv, kv = (bytesV k).toArray := ⟨_, rfl⟩
  obtain ⟨kv', hkv'⟩ : ∃ kv', kv' = (bytesV k').toArray := ⟨_, rfl⟩
  rw [← hkv] at HWA ⊢
  rw [← hkv'] at HWB ⊢
  have al : Try.prog.arrayLen 43 = 32 := by kernel_rfl
  clear hwA hwB hg zA r1 r2 hkv hkv' hk hk'
  go_enter Try.func38, Try.ntmps38
  go_upto_region 1 with (first
    | (guard_target =~ wpList _ _ _ (Oper.mk (some 2) _ _ _ _ _ :: _) _ _; go_must (refine wpList_box_val rfl 43 (.tmp 0) rfl (some 2) rfl kv rfl ?_))
    | (guard_target =~ wpList _ _ _ (Oper.mk (some 3) _ _ _ _ _ :: _) _ _; go_must (refine wpList_box_val rfl 43 (.tmp 1) rfl (some 3) rfl kv' rfl ?_)))
  rw [← HWA.out, ← HG.out, ← HWB.out]
  go_quiet ((go_at_call 43; exact Calls.quiet_of_same ((HC.out _).mono fun _ _ h => ⟨h.1, h.2.symm⟩)))
  go_wp2_with fail
  go_ret
  exact ⟨rfl, FIN.out _⟩
end Go.Proofs.Ytlebancjgjcfjaa
