/- Contracts of the document's own table: its slots, where a key stands. It proves no statement. -/
import Derived.Test.YthkgnkcedoigiaaTbP2
import Derived.Test.YthkgnkcedoigiaaTbOrd
namespace Go.Proofs.Ythkgnkcedoigiaa
open Go.RowKit
set_option linter.unusedVariables false
set_option linter.unusedSimpArgs false

theorem NewCap.odd {k c cp : Nat} (h : NewCap k c) (f : Nat) (hf : cp = 8 * 2 ^ f) (h8 : 8 < cp) (hk : 8 * k < cp) (hg : cp ≤ 8 * (k + 1)) : SlotsR k c := by
  obtain ⟨e, rfl, h2, h3⟩ := h
  obtain ⟨q, hq⟩ : ∃ q, f = q + 1 := by
    cases f with
    | zero => omega
    | succ q => exact ⟨q, rfl⟩
  subst hq
  rw [Nat.pow_succ] at hf
  have := Nat.two_pow_pos q
  have := Nat.two_pow_pos e
  refine ⟨e, rfl, by omega, ?_⟩
  rcases h3 with h3 | h3
  · exact .inl h3
  · refine .inr ?_
    cases e with
    | zero => simp at h3 ⊢; omega
    | succ e => rw [Nat.pow_succ] at h3 ⊢; omega
set_option maxHeartbeats 800000 in
theorem slots_any (w : World) (n : Nat) (hn : n ≤ 1048576) :
    Calls Try.prog 44 #[.int .i64 (n : Nat)] w fun e w' => (∃ c : Nat, e = .returned (.int .i64 (c : Nat)) ∧ SlotsR n c) ∧ Still w w' := by
  have d1 : (n : Int) ≤ 1048576 := by omega
  have d2 : IntKind.i64.wrap (2 * (n : Int)) = 2 * (n : Int) := by rw [IntKind.wrap_i64]; omega
  go_enter Try.func44, Try.ntmps44
  go_wp2_with fail
  go_loopw [3] (fun cv wr => ∃ c : Nat, c ≤ 4194312 ∧ cv = .int .i64 c ∧ Hid (∃ e, c = 8 * 2 ^ e ∧ (e = 0 ∨ c < 4 * n)) ∧ wr = w) (fun cv _ => 2 * n + 8 - (intOf cv).toNat)
  case atStart => exact ⟨8, by omega, rfl, Lib.hid ⟨0, rfl, .inl rfl⟩, rfl⟩
  case round =>
    obtain ⟨c, hc, rfl, HC, rfl⟩ := hrel
    have d3 : (c : Int) ≤ 4194312 := by omega
    have d5 : IntKind.i64.wrap ((c : Int) + (c : Int)) = (c : Int) + (c : Int) := by rw [IntKind.wrap_i64]; omega
    by_cases hlt : c < 2 * n
    · have d4 : (c : Int) < 2 * (n : Int) := by omega
      have HC2 := Lib.hid (show ∃ e, 2 * c = 8 * 2 ^ e ∧ (e = 0 ∨ 2 * c < 4 * n) from by
        obtain ⟨e, he, _⟩ := HC.out
        exact ⟨e + 1, by rw [Nat.pow_succ]; omega, .inr (by omega)⟩)
      have C8 := Lib.hid (show 8 ≤ c from by obtain ⟨e, he, _⟩ := HC.out; have := Nat.two_pow_pos e; omega)
      go_wp2_with fail
      go_roundw
      case rel => exact ⟨2 * c, by omega, by congr 1; omega, HC2, trivial⟩
      case measure => have := C8.out; simp [intOf]; omega
    · have d4 : ¬ (c : Int) < 2 * (n : Int) := by omega
      have FIN := Lib.hid (show SlotsR n c from by
        obtain ⟨e, he, h3⟩ := HC.out
        exact ⟨e, he, by omega, h3⟩)
      go_wp2_with fail
      go_ret
      exact ⟨⟨c, rfl, FIN.out⟩, Still.refl _⟩
theorem hasL_take {k : List UInt8} {L : List KV} {i : Nat} {z : KV} (h : L[i]? = some z) (h0 : hasL k (L.take i) = false) (hz : z.1 ≠ k) : hasL k (L.take (i + 1)) = false := by
  rw [List.take_add_one, h]
  unfold hasL at *
  simp [h0, hz]
set_option maxRecDepth 100000 in
set_option maxHeartbeats 1600000 in
theorem at_any {w : World} {gx cp dd : Nat} {v : Value} {L : List KV} (h : RT w gx v L cp dd) (k : List UInt8) (hk : k.length = 32) (hl : L.length ≤ 1048576) :
    Calls Try.prog 13 #[.pointer (some ⟨gx, 0, none⟩), .agg (bytesV k).toArray] w fun e w' => (∃ a : Int, e = .returned (.int .i64 a) ∧ AtIs L k a) ∧ Still w w' := by
  obtain ⟨wA, gk, kv, KB⟩ := keyBox w k hk
  obtain ⟨A, c, rfl, hnc, hc, hz⟩ := h.form
  have C0 := Lib.hid (fun W (s : Still wA W) => show W.cell? ⟨gx, 0, none⟩ = some (.slice A L.length c) from (h.still (Still.trans KB.still s)).box.cell 0)
  have ROW := Lib.hid (fun i z (hi : L[i]? = some z) => show ∃ b, A = some ⟨b, 0, none⟩ ∧ ∀ W, Still wA W → W.rangeAt b (i * 33) (bytesV z.1) from by
    obtain ⟨b, hb, h1, h2, h3⟩ := hz i z hi
    exact ⟨b, hb, fun W s j u hj => h3 W ((Still.trans KB.still s).block b h2) j u (prL_key hj)⟩)
  have OK := Lib.hid h.ok
  have HK := Lib.hid hk
  obtain ⟨n, hn⟩ : ∃ n, n = L.length := ⟨_, rfl⟩
  rw [← hn] at C0 hl hnc
  have HN := Lib.hid hn
  have HB := Lib.hid KB
  rw [← KB.hkv]
  have d3 : (n : Int) ≤ 1048576 := by omega
  clear KB hz hn h hk
  go_enter Try.func13, Try.ntmps13
  go_upto_region 1 with (guard_target =~ wpList _ _ _ (Oper.mk (some 3) _ _ _ _ _ :: _) _ _; go_must (refine wpList_box_val rfl 32 (.tmp 1) rfl (some 3) rfl kv rfl ?_))
  rw [← HB.out.hwA, ← HB.out.hgk]
  go_wp2_with fail
  go_loopw [5] (fun iv wr => ∃ i : Nat, i ≤ n ∧ iv = .int .i64 i ∧ Hid (hasL k (L.take i) = false) ∧ Hid (Still wA wr)) (fun iv _ => n - (intOf iv).toNat)
  case atStart => exact ⟨0, by omega, rfl, Lib.hid rfl, Lib.hid (Still.refl _)⟩
  case round =>
    obtain ⟨i, hi, rfl, HT, SW⟩ := hrel
    have cc : wr.cell? ⟨gx, 0, none⟩ = some (.slice A n c) := C0.out _ SW.out
    by_cases hlt : i < n
    · have d1 : (i : Int) < (n : Int) := by omega
      obtain ⟨z, hz⟩ : ∃ z, L[i]? = some z := ⟨_, List.getElem?_eq_getElem (by have := HN.out; omega)⟩
      obtain ⟨b, rfl, RK⟩ := ROW.out i z hz
      have hz32 := (OK.out z (List.mem_of_getElem? hz)).1
      have RZ := Lib.hid (fun W (hW : ∃ p : StillBy wA, W = p.W) => show W.rangeAt b (i * 33) (bytesV z.1) from by obtain ⟨q, rfl⟩ := hW; exact RK _ q.still)
      have H32 := Lib.hid (show (Try.prog.info? 32).map (·.size) = some (bytesV z.1).length from by rw [size32, bytesV_length, hz32])
      have qq : ∀ p : StillBy wA, p.W.cell? ⟨gx, 0, none⟩ = some (.slice (some ⟨b, 0, none⟩) n c) := fun p => C0.out _ p.still
      have ee := fun W => eql_ids W z.1 k hz32 HK.out
      rw [← HB.out.hkv] at ee
      obtain ⟨zv, hzv⟩ : ∃ zv, zv = (bytesV z.1).toArray := ⟨_, rfl⟩
      rw [← hzv] at ee
      have HZV := Lib.hid hzv
      have HZ := Lib.hid hz
      by_cases he : z.1 = k
      · have FIN := Lib.hid (show AtIs L k (i : Int) from .inr ⟨i, z.2, by rw [← he]; exact hz, rfl⟩)
        rw [show decide (z.1 = k) = true by simp [he]] at ee
        clear RK hz32 hzv hz he hlt hi
        go_upto_region 4 with fail
        refine wp_region_quiet_still wA SW.out (by kernel_rfl) (by kernel_rfl) ?_
        repeat (first
          | (guard_target =~ wpQuiet _ _ _ _ (Oper.mk (some 22) _ _ _ _ _ :: _) _; go_must (refine quiet_load_mid (by kernel_rfl) 32 (.tmp 21) rfl b (i * 33) (by kernel_rfl) (bytesV z.1) _ RZ.out under32 rfl H32.out ?_); rw [← HZV.out])
          | (guard_target =~ wpQuiet _ _ _ _ (Oper.mk (some 23) _ _ _ _ _ :: _) _; go_must (refine quiet_load_mid (by kernel_rfl) 32 (.tmp 3) rfl gk 0 (by kernel_rfl) (bytesV k) _ (fun W hW => by obtain ⟨p, rfl⟩ := hW; exact HB.out.reads _ p.still) under32 rfl HB.out.size ?_); rw [← HB.out.hkv])
          | quiet_step (fail))
        refine wpQuiet_nil ?_
        intro wq hw'
        have SQ := Lib.hid (show Still wA wq from by obtain ⟨p, rfl⟩ := hw'; exact p.still)
        clear hw' ee qq cc
        go_wp2_with fail
        go_ret
        exact ⟨⟨i, rfl, FIN.out⟩, Still.trans HB.out.still SQ.out⟩
      · have HT2 := Lib.hid (hasL_take hz HT.out he)
        rw [show decide (z.1 = k) = false by simp [he]] at ee
        clear RK hz32 hzv hz he hlt
        go_upto_region 4 with fail
        refine wp_region_quiet_still wA SW.out (by kernel_rfl) (by kernel_rfl) ?_
        repeat (first
          | (guard_target =~ wpQuiet _ _ _ _ (Oper.mk (some 22) _ _ _ _ _ :: _) _; go_must (refine quiet_load_mid (by kernel_rfl) 32 (.tmp 21) rfl b (i * 33) (by kernel_rfl) (bytesV z.1) _ RZ.out under32 rfl H32.out ?_); rw [← HZV.out])
          | (guard_target =~ wpQuiet _ _ _ _ (Oper.mk (some 23) _ _ _ _ _ :: _) _; go_must (refine quiet_load_mid (by kernel_rfl) 32 (.tmp 3) rfl gk 0 (by kernel_rfl) (bytesV k) _ (fun W hW => by obtain ⟨p, rfl⟩ := hW; exact HB.out.reads _ p.still) under32 rfl HB.out.size ?_); rw [← HB.out.hkv])
          | quiet_step (fail))
        refine wpQuiet_nil ?_
        intro wq hw'
        have SQ := Lib.hid (show Still wA wq from by obtain ⟨p, rfl⟩ := hw'; exact p.still)
        clear hw' ee qq cc
        go_wp2_with fail
        go_roundw
        case rel => exact ⟨i + 1, by omega, by go_num, HT2, SQ⟩
        case measure => simp [intOf]; omega
    · have hin : i = n := by omega
      have FIN := Lib.hid (show AtIs L k (-1) from .inl ⟨by have := HT.out; rwa [hin, HN.out, List.take_length] at this, rfl⟩)
      subst hin
      clear hlt
      go_wp2_with fail
      go_ret
      exact ⟨⟨_, rfl, FIN.out⟩, Still.trans HB.out.still SW.out⟩
end Go.Proofs.Ythkgnkcedoigiaa
