/- Contract: a table and the document's own table are alike. It proves no statement. -/
import Derived.Test.YthkgnkcedoigiaaTbPuN
import Derived.Test.YthkgnkcedoigiaaTbDlX
import Derived.Test.YthkgnkcedoigiaaQuiet3
namespace Go.Proofs.Ythkgnkcedoigiaa
open Go.RowKit
set_option linter.unusedVariables false
set_option linter.unusedSimpArgs false

attribute [local irreducible] Go.wpQuiet
set_option maxRecDepth 100000 in
set_option maxHeartbeats 6400000 in
theorem alike_any {w : World} {g b gx cp dd : Nat} {v : Value} {L : List KV} (h : Tb w g b L cp dd) (r : RT w gx v L cp dd) (hl : L.length ≤ 65536) :
    Calls Try.prog 19 #[.pointer (some ⟨g, 0, none⟩), .pointer (some ⟨gx, 0, none⟩)] w fun e w' => e = .returned (.bool true) ∧ Still w w' := by
  obtain ⟨A, c, rfl, hnc, hc, hz⟩ := r.form
  have LE := Lib.hid (fun (q : StillBy w) => show Calls Try.prog 22 #[.pointer (some ⟨g, 0, none⟩)] q.W fun e w3 => e = .returned (.int .i64 (L.length : Nat)) ∧ Still q.W w3 from (len_any (h.still q.still)).mono fun e w3 ⟨he, hw⟩ => ⟨he, by rw [← hw]; exact Still.refl _⟩)
  have CA := Lib.hid (fun (q : StillBy w) => show Calls Try.prog 25 #[.pointer (some ⟨g, 0, none⟩)] q.W fun e w3 => e = .returned (.int .i64 (cp : Nat)) ∧ Still q.W w3 from (cap_any (h.still q.still)).mono fun e w3 ⟨he, hw⟩ => ⟨he, by rw [← hw]; exact Still.refl _⟩)
  have DE := Lib.hid (fun (q : StillBy w) => show Calls Try.prog 23 #[.pointer (some ⟨g, 0, none⟩)] q.W fun e w3 => e = .returned (.int .i64 (dd : Nat)) ∧ Still q.W w3 from (dead_any (h.still q.still)).mono fun e w3 ⟨he, hw⟩ => ⟨he, by rw [← hw]; exact Still.refl _⟩)
  have KY := Lib.hid (fun W (s : Still w W) => keys_any (h.still s) hl)
  have qq0 : ∀ p : StillBy w, p.W.cell? ⟨gx, 0, none⟩ = some (.slice A L.length c) := fun p => (r.still p.still).cells.1
  have qq1 : ∀ p : StillBy w, p.W.cell? ⟨gx, 1, none⟩ = some (.int .i64 (cp : Nat)) := fun p => (r.still p.still).cells.2.1
  have qq2 : ∀ p : StillBy w, p.W.cell? ⟨gx, 2, none⟩ = some (.int .i64 (dd : Nat)) := fun p => (r.still p.still).cells.2.2.1
  have C0 := Lib.hid (fun W (s : Still w W) => show W.cell? ⟨gx, 0, none⟩ = some (.slice A L.length c) from (r.still s).cells.1)
  have GY := Lib.hid (fun W (s : Still w W) (k : List UInt8) (x : Int) (hk : k.length = 32) (hx : (k, [x]) ∈ L) => get_yes (h.still s) k x hk (by omega) hx)
  have K32 := Lib.hid h.key32
  have ROW := Lib.hid (fun i (hi : i < L.length) => show ∃ K x b, L[i]? = some (K, [x]) ∧ K.length = 32 ∧ A = some ⟨b, 0, none⟩ ∧ ∀ W, Still w W → W.rangeAt b (i * 33) (prL (K, [x])) from by
    have hz1 : L[i]? = some L[i] := List.getElem?_eq_getElem hi
    obtain ⟨b, hb, h1, h2, h3⟩ := hz i _ hz1
    have ok := r.ok _ (List.mem_of_getElem? hz1)
    obtain ⟨x, hx⟩ := prV_one ok
    have e : L[i] = (L[i].1, [x]) := by rw [← hx]
    refine ⟨L[i].1, x, b, by rw [← e]; exact hz1, ok.1, hb, fun W s => ?_⟩
    rw [← e]
    exact h3 W (s.block b h2))
  obtain ⟨n, hn⟩ : ∃ n, n = L.length := ⟨_, rfl⟩
  have HN := Lib.hid hn
  rw [← hn] at LE C0 qq0 hl hnc KY ROW
  have d1 : (n : Int) ≤ 65536 := by omega
  have d2 : (n : Int) ≤ (c : Int) := by omega
  clear h r hz hn
  go_enter Try.func19, Try.ntmps19
  go_upto_region 1 with fail
  refine wp_region_quiet_still w (Still.refl _) (by kernel_rfl) (by kernel_rfl) ?_
  repeat (quiet_step ((first | (go_at_call 22; with_reducible exact Calls.stillby _ (LE.out _)) | (go_at_call 25; with_reducible exact Calls.stillby _ (CA.out _)) | (go_at_call 23; with_reducible exact Calls.stillby _ (DE.out _)))))
  refine wpQuiet_nil ?_
  intro wq hw'
  have SQ := Lib.hid (show Still w wq from by obtain ⟨p, rfl⟩ := hw'; exact p.still)
  clear hw' qq0 qq1 qq2
  go_upto_region 4 with (go_at_call 29; refine (KY.out _ SQ.out).mono ?_; rintro e w2 ⟨kv0, rfl, own2, s2⟩; have S2 := Lib.hid (Still.trans SQ.out s2); have OW2 := Lib.hid own2; clear own2 s2)
  have KR := Lib.hid (KeyRow.of_own (w := w2) (v := kv0) (L := L) (by have := OW2.out; rw [HN.out] at this; exact this) K32.out)
  obtain ⟨A2, c2, rfl, hc2, hcm2, hr2⟩ := KR.out.ex
  rw [← HN.out] at hc2 hr2 OW2 ⊢
  have KEYS := Lib.hid (fun i z (hi : L[i]? = some z) => show ∃ g2, A2 = some ⟨g2, 0, none⟩ ∧ ∀ W, Still w2 W → W.rangeAt g2 (i * 32) (bytesV z.1) from by
    obtain ⟨g2, e, hg, hh⟩ := hr2 (by have := (List.getElem?_eq_some_iff.1 hi).1; have := HN.out; omega)
    exact ⟨g2, e, fun W s j u hj => (s.cell (p := ⟨g2, i * 32 + j, none⟩) hg).trans (hh i z hi j u hj)⟩)
  have d3 : (n : Int) ≤ (c2 : Int) := by omega
  clear KR hr2 OW2
  go_wp2_with fail
  go_loopw [6] (fun iv wr => ∃ i : Nat, i ≤ n ∧ iv = .int .i64 i ∧ Hid (Still w2 wr)) (fun iv _ => n - (intOf iv).toNat)
  case atStart => exact ⟨0, by omega, rfl, Lib.hid (Still.refl _)⟩
  case round =>
    obtain ⟨i, hi, rfl, SW⟩ := hrel
    have cc := C0.out _ (Still.trans S2.out SW.out)
    by_cases hlt : i < n
    · have d4 : (i : Int) < (n : Int) := by omega
      have d5 : ¬ (n : Int) ≤ (i : Int) := by omega
      obtain ⟨K, x, bx, hz, hk, rfl, RP⟩ := ROW.out i hlt
      obtain ⟨g2, rfl, RK⟩ := KEYS.out i _ hz
      have GT := Lib.hid (GY.out wr (Still.trans S2.out SW.out) K x hk (List.mem_of_getElem? hz))
      have RP1 := Lib.hid (show wr.rangeAt bx (i * 33) (bytesV K) from fun j u hj => RP wr (Still.trans S2.out SW.out) j u (prL_key hj))
      have HS := Lib.hid (show (Try.prog.info? 32).map (·.size) = some (bytesV K).length from by rw [size32, bytesV_length, hk])
      have ne := fun W => neq_ids W K K hk hk
      rw [show (!decide (K = K)) = false by simp] at ne
      obtain ⟨kv, hkv⟩ : ∃ kv, kv = (bytesV K).toArray := ⟨_, rfl⟩
      have HKV := Lib.hid hkv
      rw [← hkv] at ne GT
      have RPH := Lib.hid (fun W (s : Still w2 W) => RP W (Still.trans S2.out s))
      have RKH := Lib.hid RK
      have HK := Lib.hid hk
      have HDC := Lib.hid (show decide (n ≤ i) = false from decide_eq_false (by omega))
      clear hz hk RP RK hkv hlt
      go_upto_region 8 with (first
        | (guard_target =~ wpList _ _ _ (Oper.mk (some 55) _ _ _ _ _ :: _) _ _; go_must (refine wpList_load_mid rfl 32 (.tmp 54) rfl bx (i * 33) rfl (bytesV K) _ RP1.out under32 rfl HS.out ?_); rw [← HKV.out])
        | (go_at_call 18; with_reducible refine GT.out.mono ?_; rintro e w3 ⟨rfl, s3⟩; have S3 := Lib.hid (Still.trans SW.out s3); clear s3))
      have qq0 : ∀ p : StillBy w3, p.W.cell? ⟨gx, 0, none⟩ = some (.slice (some ⟨bx, 0, none⟩) n c) := fun p => C0.out _ (Still.trans S2.out (Still.trans S3.out p.still))
      have qqv : ∀ p : StillBy w3, p.W.cell? ⟨bx, i * 33 + 32, none⟩ = some (.int .i64 x) := fun p => RPH.out _ (Still.trans S3.out p.still) 32 _ (prL_val HK.out)
      have R91 := Lib.hid (fun W (hW : ∃ p : StillBy w3, W = p.W) => show W.rangeAt bx (i * 33) (bytesV K) from by obtain ⟨q, rfl⟩ := hW; exact fun j u hj => RPH.out _ (Still.trans S3.out q.still) j u (prL_key hj))
      have R83 := Lib.hid (fun W (hW : ∃ p : StillBy w3, W = p.W) => show W.rangeAt g2 (i * 32) (bytesV K) from by obtain ⟨q, rfl⟩ := hW; exact RKH.out _ (Still.trans S3.out q.still))
      refine wp_region_quiet_still w3 (Still.refl _) (by kernel_rfl) (by kernel_rfl) ?_
      repeat (first
        | (guard_target =~ wpQuiet _ _ _ _ (Oper.mk (some 83) _ _ _ _ _ :: _) _; go_must (refine quiet_load_mid (by kernel_rfl) 32 (.tmp 82) rfl g2 (i * 32) (by kernel_rfl) (bytesV K) _ R83.out under32 rfl HS.out ?_); rw [← HKV.out])
        | (guard_target =~ wpQuiet _ _ _ _ (Oper.mk (some 91) _ _ _ _ _ :: _) _; go_must (refine quiet_load_mid (by kernel_rfl) 32 (.tmp 90) rfl bx (i * 33) (by kernel_rfl) (bytesV K) _ R91.out under32 rfl HS.out ?_); rw [← HKV.out])
        | quiet_step (fail))
      rw [show decide (n ≤ i) = false from HDC.out]
      repeat (first
        | (guard_target =~ wpQuiet _ _ _ _ (Oper.mk (some 83) _ _ _ _ _ :: _) _; go_must (refine quiet_load_mid (by kernel_rfl) 32 (.tmp 82) rfl g2 (i * 32) (by kernel_rfl) (bytesV K) _ R83.out under32 rfl HS.out ?_); rw [← HKV.out])
        | (guard_target =~ wpQuiet _ _ _ _ (Oper.mk (some 91) _ _ _ _ _ :: _) _; go_must (refine quiet_load_mid (by kernel_rfl) 32 (.tmp 90) rfl bx (i * 33) (by kernel_rfl) (bytesV K) _ R91.out under32 rfl HS.out ?_); rw [← HKV.out])
        | quiet_step (fail))
      refine wpQuiet_nil ?_
      intro wq2 hw'
      have SQ2 := Lib.hid (show Still w2 wq2 from by obtain ⟨p, rfl⟩ := hw'; exact Still.trans S3.out p.still)
      clear hw' ne qq0 qqv cc
      go_wp2_with fail
      go_roundw
      case rel => exact ⟨i + 1, by omega, by go_num, SQ2⟩
      case measure => simp [intOf]; omega
    · have hjn : i = n := by omega
      subst hjn
      clear hlt
      go_wp2_with fail
      go_ret
      exact ⟨rfl, Still.trans S2.out SW.out⟩
end Go.Proofs.Ythkgnkcedoigiaa
