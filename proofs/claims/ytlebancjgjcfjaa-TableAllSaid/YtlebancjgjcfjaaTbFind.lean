/- Contracts: a key looked up. It proves no statement. -/
import Derived.Test.YtlebancjgjcfjaaTbFn
namespace Go.Proofs.Ytlebancjgjcfjaa
open Go.RowKit
set_option linter.unusedVariables false
set_option linter.unusedSimpArgs false

set_option maxRecDepth 100000 in
set_option maxHeartbeats 3200000 in
theorem find_at {T : TypeId} {w : World} {g b c : Nat} {S : List Sl} (h : TB T 1 w g b c S) (k : List UInt8) (hk : k.length = 32) (hS : S.length ≤ 1099511627776) (j : Nat) (hj : Stop S k j) (q : Bool) (s : Sl) (hs : S[pos k S.length j]? = some s) (hq : s.isFull = q) :
    Calls Try.prog 33 #[.pointer (some ⟨g, 0, none⟩), .agg (bytesV k).toArray] w fun e w' => e = .returned (.pointer (if q then some ⟨b, pos k S.length j * 34, none⟩ else none)) ∧ Still w w' := by
  obtain ⟨wA, hwA⟩ : ∃ wA, wA = w.alloc (.cells (bytesV k).toArray 43) := ⟨_, rfl⟩
  obtain ⟨gk, hg⟩ : ∃ gk, gk = w.heap.size := ⟨_, rfl⟩
  have SA : Still w wA := by rw [hwA]; exact (Still.refl w).alloc (Nat.le_refl _) _
  have r1 := box_key w k
  rw [← hwA, ← hg] at r1
  have hA := h.still SA
  have h8 := h.len8
  have SE := Lib.hid (fun W (s : Still wA W) => search_any (hA.still s) k hk hS j hj)
  have WY := Lib.hid (fun W (s : Still wA W) => works_yes (hA.still s))
  have K0 := Lib.hid (fun W (s : Still wA W) => (hA.still s).c0)
  have KS := Lib.hid (fun W (s' : Still wA W) => show W.cell? ⟨b, pos k S.length j * 34, none⟩ = some (.int .i64 (s.st : Nat)) from (hA.still s').row.st hs)
  have d0 := pos_lt k (n := S.length) j (by omega)
  have H32 := Lib.hid (show (Try.prog.info? 43).map (·.size) = some (bytesV k).length from by rw [size32, bytesV_length, hk])
  have HWA := Lib.hid hwA
  have HG := Lib.hid hg
  have HSA := Lib.hid SA
  have RB := Lib.hid r1
  obtain ⟨kv, hkv⟩ : ∃ kv, kv = (bytesV k).toArray := ⟨_, rfl⟩
  rw [← hkv] at HWA SE ⊢
  have KV := Lib.hid hkv
  obtain ⟨n, hn⟩ : ∃ n, n = S.length := ⟨_, rfl⟩
  rw [← hn] at h8 hS SE K0 KS d0 ⊢
  obtain ⟨x, hx⟩ : ∃ x, x = pos k n j := ⟨_, rfl⟩
  rw [← hx] at SE KS d0 ⊢
  have d1 : (x : Int) < (n : Int) := by omega
  have ST : (q = true → s.st = 2) ∧ (q = false → s.st = 0 ∨ s.st = 1) := by
    subst hq
    cases s <;> simp [Sl.isFull, Sl.st]
  obtain ⟨y, hy⟩ : ∃ y, y = s.st := ⟨_, rfl⟩
  rw [← hy] at KS ST
  clear hwA hg SA r1 h hkv hA hn hk hj hx hy hs hq
  have go : ∀ (q : Bool) (y : Nat) (hy : (y == 2) = q) (hyq : (((y : Nat) : Int) != 2) = !q) (KS : Hid (∀ W, Still wA W → W.cell? ⟨b, x * 34, none⟩ = some (.int .i64 (y : Nat)))), Calls Try.prog 33 #[.pointer (some ⟨g, 0, none⟩), .agg kv] w fun e w' => e = .returned (.pointer (if q then some ⟨b, x * 34, none⟩ else none)) ∧ Still w w' := by
    clear ST KS q y
    intro q y hy hyq KS
    clear hy
    go_enter Try.func33, Try.ntmps33
    go_upto_region 1 with (guard_target =~ wpList _ _ _ (Oper.mk (some 3) _ _ _ _ _ :: _) _ _; go_must (refine wpList_box_val rfl 43 (.tmp 1) rfl (some 3) rfl kv rfl ?_))
    rw [← HWA.out, ← HG.out]
    cases q
    all_goals
      simp only [Bool.not_true, Bool.not_false] at hyq
      go_wp2_with (first
        | (guard_target =~ wpList _ _ _ (Oper.mk (some 13) _ _ _ _ _ :: _) _ _; go_must (refine wpList_load_mid rfl 43 (.tmp 3) rfl gk 0 rfl (bytesV k) _ RB.out under32 rfl H32.out ?_); rw [← KV.out])
        | (go_at_call 24; refine (WY.out _ (Still.refl _)).mono ?_; rintro e w1 ⟨rfl, rfl⟩)
        | (go_at_call 41; refine (SE.out _ (Still.refl _)).mono ?_; rintro e w1 ⟨rfl, s1⟩; have S1 := Lib.hid s1; have k1 := K0.out _ s1; have k2 := KS.out _ s1; clear s1))
      go_ret
      exact ⟨rfl, Still.trans HSA.out S1.out⟩
  cases q
  · rcases ST.2 rfl with h | h
    · exact go false y (by rw [h]; rfl) (by rw [h]; rfl) KS
    · exact go false y (by rw [h]; rfl) (by rw [h]; rfl) KS
  · exact go true y (by rw [ST.1 rfl]; rfl) (by rw [ST.1 rfl]; rfl) KS
end Go.Proofs.Ytlebancjgjcfjaa
