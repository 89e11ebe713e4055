/- Contract: what a hasher that New made answers. It proves no statement. -/
import Derived.Test.YtbnbpfbgoicogaaXxhJoin
namespace Go.Proofs.Ytbnbpfbgoicogaa
open Go.RowKit
set_option linter.unusedVariables false
set_option linter.unusedSimpArgs false

set_option maxRecDepth 100000 in
set_option maxHeartbeats 1600000 in
theorem msum_any (g seed : Nat) (l : List UInt8) (w : World) (h : Had w g seed l) (hs : seed < m64) :
    Calls Try.prog 16 #[.pointer (some ⟨g, 0, none⟩)] w fun e w' => e = .returned (.int .u64 (xxSum l seed : Nat)) ∧ Still w w' := by
  obtain ⟨R, hb, hR, hlen⟩ := h
  obtain ⟨n, hn⟩ : ∃ n, n = l.length := ⟨_, rfl⟩
  obtain ⟨kp, hkp⟩ : ∃ k, k = l.length % 32 := ⟨_, rfl⟩
  have hk32 : kp < 32 := by omega
  obtain ⟨v, hv⟩ : ∃ v : Nat → Nat, v = fun k => xRun (xLane0 seed k) k l (l.length / 32) := ⟨_, rfl⟩
  have hvl : ∀ k, v k < m64 := fun k => by rw [hv]; exact xRun_lt _ _ _ _ (xLane0_lt _ _ hs)
  obtain ⟨r, hr⟩ : ∃ r, r = l.drop (32 * (l.length / 32)) := ⟨_, rfl⟩
  have hsum : xxSum l seed = xFin (xTail (((if 32 ≤ n then xHead v else (seed + xP5) % m64) + n) % m64) r) := by rw [hr, hv, hn]; rfl
  rw [← hv, ← hkp, ← hn] at hb
  rw [← hkp, ← hr] at hR
  rw [← hn] at hlen
  clear hv hn hkp hr
  obtain ⟨x0, hx0⟩ : ∃ x0, x0 = if 32 ≤ n then xHead v else (seed + xP5) % m64 := ⟨_, rfl⟩
  have hx0l : x0 < m64 := by rw [hx0]; split; exact xHead_lt _; exact Nat.mod_lt _ (by decide)
  rw [← hx0] at hsum
  obtain ⟨x1', hx1⟩ : ∃ x, x = (x0 + n) % m64 := ⟨_, rfl⟩
  have hx1l : x1' < m64 := by rw [hx1]; exact Nat.mod_lt _ (by decide)
  have ea := wrap_add x0 n
  rw [← hx1] at ea hsum
  have hfl : xTail x1' r < m64 := by
    unfold xTail
    exact xEnd_lt _ _ (xEights_lt _ _ _ hx1l)
  obtain ⟨f, hf⟩ : ∃ f, f = xFin (xTail x1' r) := ⟨_, rfl⟩
  rw [hsum, ← hf]
  clear hsum hx1
  have e5 : IntKind.u64.wrap ((seed : Int) + 2870177450012600261) = (((seed + xP5) % m64 : Nat) : Int) := wrap_add seed xP5
  generalize hz5 : (seed + xP5) % m64 = z5 at *
  have JN := Lib.hid (joined_any g seed n kp v R w hb hvl)
  generalize xHead v = hd at JN hx0
  have cs := hb.seedc
  have cz := hb.sizec
  have ck := hb.keptc
  have cm := hb.made
  have HX0 := Lib.hid hx0
  have HB0 := Lib.hid hb
  have HR := Lib.hid hR
  have HF := Lib.hid hf
  have hzw : (0 : Int) ≤ (n : Int) := by omega
  clear hx0 hb hR hf hz5 hvl
  go_enter Try.func16, Try.ntmps16
  go_upto_if 22 with fail
  go_cut [3] (fun s3 wx => s3 = .int .u64 (x0 : Nat) ∧ Still w wx)
  case first =>
    by_cases h32 : 32 ≤ n
    · have e := HX0.out
      rw [if_pos h32] at e
      subst e
      go_wp2_with fail
      refine JN.out.mono ?_
      rintro e w1 ⟨rfl, st⟩
      go_wp2_with fail
      go_meet
      case rel => exact ⟨rfl, st⟩
    · have e := HX0.out
      rw [if_neg h32] at e
      subst e
      go_wp2_with fail
      go_meet
      case rel => exact ⟨rfl, Still.refl _⟩
  case rest =>
    obtain ⟨rfl, st⟩ := hcut
    have hb := HB0.out.still st
    have rd : Reads wc (g + 1) (some ⟨g, 6, none⟩) kp r := by
      have := hb.reads.takek (k := kp) (by omega)
      rwa [HR.out] at this
    have T := Lib.hid (fun m : Nat => (withRest_any (some ⟨g, 6, none⟩) kp 32 r x1' (wc.drewN m) (g + 1) (rd.keep fun _ _ => rfl) (by omega) (by omega) (by omega) hx1l).mono fun e w' h => (⟨h.1, h.2.symm⟩ : e = _ ∧ w' = wc.drewN m))
    have FN := Lib.hid (fun m : Nat => (finished_any (xTail x1' r) (wc.drewN m) hfl).mono fun e w' h => (⟨h.1, h.2.symm⟩ : e = _ ∧ w' = wc.drewN m))
    rw [← HF.out] at FN
    generalize xTail x1' r = y at T FN
    clear cs cz ck cm
    have cz := hb.sizec
    have ck := hb.keptc
    have ST := Lib.hid st
    have z1 : (0 : Int) ≤ (kp : Int) := by omega
    have z2 : (kp : Int) ≤ 32 := by omega
    clear hb rd st hx0l hx1l hfl HR HF HX0 HB0 JN e5
    go_wp2_with fail
    go_quiet ((first | (go_at_call 26; exact Calls.quiet_of_same (T.out _)) | (go_at_call 25; exact Calls.quiet_of_same (FN.out _))))
    go_wp2_with fail
    go_ret
    exact ⟨rfl, still_drewN ST.out _⟩
end Go.Proofs.Ytbnbpfbgoicogaa
