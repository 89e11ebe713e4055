/- Contracts: a table by what it holds: Get, Put, Delete, Len, Cap, Dead, Steps. It proves no statement. -/
import Derived.Test.YthkgnkcedoigiaaTbRenew
import Derived.Test.YthkgnkcedoigiaaTbL
namespace Go.Proofs.Ythkgnkcedoigiaa
open Go.RowKit
set_option linter.unusedVariables false
set_option linter.unusedSimpArgs false

/-- A table at g, its slots in block b, that holds L. -/
structure Tb (w : World) (g b : Nat) (L : List KV) (cp dd : Nat) : Prop where
  ex : ∃ c S, TB TT 1 w g b c S ∧ Abs S L ∧ S.length = cp ∧ deadN S = dd
  gd : Gd L cp
section
variable {w w' : World} {g b cp dd : Nat} {L : List KV}
theorem Tb.still (h : Tb w g b L cp dd) (s : Still w w') : Tb w' g b L cp dd := by
  obtain ⟨⟨c, S, t, r⟩, gd⟩ := h
  exact ⟨⟨c, S, t.still s, r⟩, gd⟩
theorem Tb.chg {R : Nat → Prop} (h : Tb w g b L cp dd) (c : Chg w w' R) (hg : ¬ R g) (hb : ¬ R b) : Tb w' g b L cp dd := by
  obtain ⟨⟨c', S, t, r⟩, gd⟩ := h
  exact ⟨⟨c', S, t.chg c hg hb, r⟩, gd⟩
theorem Tb.glt (h : Tb w g b L cp dd) : g < w.heap.size := by obtain ⟨⟨c', S, t, r⟩, gd⟩ := h; exact t.box.lt
theorem Tb.blt (h : Tb w g b L cp dd) : b < w.heap.size := by obtain ⟨⟨c', S, t, r⟩, gd⟩ := h; exact t.row.lt
theorem Tb.rise (h : Tb w g b L cp dd) : Rise L := by obtain ⟨⟨c', S, t, a, _⟩, gd⟩ := h; exact a.rise
theorem Tb.ne (h : Tb w g b L cp dd) : b ≠ g := by obtain ⟨⟨c', S, t, r⟩, gd⟩ := h; exact t.ne
theorem Tb.load (h : Tb w g b L cp dd) : 8 ≤ cp ∧ 4 * (L.length + dd) ≤ 3 * cp := by
  obtain ⟨⟨c', S, t, a, rfl, rfl⟩, gd⟩ := h
  have h1 := t.inv.load
  rw [a.len] at h1
  exact ⟨t.len8, h1⟩
theorem Tb.new {g b : Nat} (h : TB TT 1 w g b 8 (List.replicate 8 .empty)) : Tb w g b [] 8 0 := ⟨⟨8, _, h, Abs.rep 8, by simp, deadN_rep 8⟩, .inl (Nat.le_refl _)⟩
theorem Tb.cpb (h : Tb w g b L cp dd) (hl : L.length ≤ 1073741824) : cp ≤ 8589934592 := by have := h.gd; unfold Gd at this; omega
end
theorem tnew_any (w : World) : Calls Try.prog 12 #[] w fun e w' => ∃ g b, e = .returned (.pointer (some ⟨g, 0, none⟩)) ∧ Tb w' g b [] 8 0 ∧ Still w w' ∧ w.heap.size ≤ g ∧ w.heap.size ≤ b :=
  (new_any w).mono fun _ _ ⟨g, b, he, t, s, h1, h2⟩ => ⟨g, b, he, Tb.new t, s, h1, h2⟩
theorem len_any {w : World} {g b cp dd : Nat} {L : List KV} (h : Tb w g b L cp dd) :
    Calls Try.prog 22 #[.pointer (some ⟨g, 0, none⟩)] w fun e w' => e = .returned (.int .i64 (L.length : Nat)) ∧ w = w' := by
  obtain ⟨⟨c, S, t, a, rfl, rfl⟩, gd⟩ := h
  have k1 := t.c1
  rw [a.len] at k1
  have WY := Lib.hid (works_yes t)
  clear a t gd
  go_enter Try.func22, Try.ntmps22
  go_wp2_with (go_at_call 40; refine WY.out.mono ?_; rintro e w1 ⟨rfl, rfl⟩)
  go_ret
  exact ⟨rfl, rfl⟩
theorem dead_any {w : World} {g b cp dd : Nat} {L : List KV} (h : Tb w g b L cp dd) :
    Calls Try.prog 23 #[.pointer (some ⟨g, 0, none⟩)] w fun e w' => e = .returned (.int .i64 (dd : Nat)) ∧ w = w' := by
  obtain ⟨⟨c, S, t, a, rfl, rfl⟩, gd⟩ := h
  have k1 := t.c2
  have WY := Lib.hid (works_yes t)
  clear a t gd
  go_enter Try.func23, Try.ntmps23
  go_wp2_with (go_at_call 40; refine WY.out.mono ?_; rintro e w1 ⟨rfl, rfl⟩)
  go_ret
  exact ⟨rfl, rfl⟩
theorem cap_any {w : World} {g b cp dd : Nat} {L : List KV} (h : Tb w g b L cp dd) :
    Calls Try.prog 25 #[.pointer (some ⟨g, 0, none⟩)] w fun e w' => e = .returned (.int .i64 (cp : Nat)) ∧ w = w' := by
  obtain ⟨⟨c, S, t, a, rfl, rfl⟩, gd⟩ := h
  have k1 := t.c0
  have WY := Lib.hid (works_yes t)
  clear a t gd
  go_enter Try.func25, Try.ntmps25
  go_wp2_with (go_at_call 40; refine WY.out.mono ?_; rintro e w1 ⟨rfl, rfl⟩)
  go_ret
  exact ⟨rfl, rfl⟩
set_option maxRecDepth 100000 in
set_option maxHeartbeats 1600000 in
theorem steps_any {w : World} {g b cp dd : Nat} {L : List KV} (h : Tb w g b L cp dd) (k : List UInt8) (hk : k.length = 32) (hl : L.length ≤ 1073741824) :
    Calls Try.prog 24 #[.pointer (some ⟨g, 0, none⟩), .agg (bytesV k).toArray] w fun e w' => ∃ j : Nat, e = .returned (.int .i64 (j + 1 : Nat)) ∧ j ≤ L.length + dd ∧ Still w w' := by
  have hcp := h.cpb hl
  obtain ⟨⟨c, S, t, a, rfl, rfl⟩, gd⟩ := h
  obtain ⟨j, hj⟩ := t.inv.stop_ex k
  have hle := hj.steps
  rw [a.len] at hle
  obtain ⟨wA, hwA⟩ : ∃ wA, wA = w.alloc (.cells (bytesV k).toArray 32) := ⟨_, rfl⟩
  obtain ⟨gk, hg⟩ : ∃ gk, gk = w.heap.size := ⟨_, rfl⟩
  have SA : Still w wA := by rw [hwA]; exact (Still.refl w).alloc (Nat.le_refl _) _
  have r1 := box_key w k
  rw [← hwA, ← hg] at r1
  have SE := Lib.hid (search_any (t.still SA) k hk (by omega) j hj)
  have WY := Lib.hid (works_yes (t.still SA))
  have H32 := Lib.hid (show (Try.prog.info? 32).map (·.size) = some (bytesV k).length from by rw [size32, bytesV_length, hk])
  have HLE := Lib.hid hle
  have HWA := Lib.hid hwA
  have HG := Lib.hid hg
  have HSA := Lib.hid SA
  have RB := Lib.hid r1
  obtain ⟨kv, hkv⟩ : ∃ kv, kv = (bytesV k).toArray := ⟨_, rfl⟩
  rw [← hkv] at HWA SE ⊢
  have KV := Lib.hid hkv
  generalize pos k S.length j = x at SE
  generalize deadN S = dd at HLE ⊢
  clear hwA hg SA r1 t a hkv gd hle hj hcp hl hk
  go_enter Try.func24, Try.ntmps24
  go_upto_region 1 with (guard_target =~ wpList _ _ _ (Oper.mk (some 3) _ _ _ _ _ :: _) _ _; go_must (refine wpList_box_val rfl 32 (.tmp 1) rfl (some 3) rfl kv rfl ?_))
  rw [← HWA.out, ← HG.out]
  go_wp2_with (first
    | (guard_target =~ wpList _ _ _ (Oper.mk (some 12) _ _ _ _ _ :: _) _ _; go_must (refine wpList_load_mid rfl 32 (.tmp 3) rfl gk 0 rfl (bytesV k) _ RB.out under32 rfl H32.out ?_); rw [← KV.out])
    | (go_at_call 40; refine WY.out.mono ?_; rintro e w1 ⟨rfl, rfl⟩)
    | (go_at_call 45; refine SE.out.mono ?_; rintro e w1 ⟨rfl, s1⟩; have S1 := Lib.hid s1; clear s1))
  go_ret
  exact ⟨j, rfl, HLE.out, Still.trans HSA.out S1.out⟩
end Go.Proofs.Ythkgnkcedoigiaa
