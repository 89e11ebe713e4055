/- The walk of TableLast: it returns true, and nothing that was there turns. -/
import Derived.Test.YthkgnkcedoigiaaTbPlayed
import Derived.Test.YthkgnkcedoigiaaQuiet3
namespace Go.Proofs.Ythkgnkcedoigiaa
open Go.RowKit
set_option linter.unusedVariables false
set_option linter.unusedSimpArgs false

/-- What was put last. -/
def LastIs (l : List Dq) (i : Nat) (k : List UInt8) (v : Int) (th : Bool) : Prop := hasL k (playL (l.take i)) = th ∧ (th = true → (k, [v]) ∈ playL (l.take i))
theorem LastIs.start (l : List Dq) (k : List UInt8) : LastIs l 0 k 0 false := ⟨rfl, fun h => by cases h⟩
theorem LastIs.same {l : List Dq} {i : Nat} {k : List UInt8} {x : Dq} (hx : l[i]? = some x) (he : x.K = k) : LastIs l (i + 1) k x.v (x.k != 1) := by
  unfold LastIs
  rw [playL_succ hx]
  subst he
  by_cases h1 : x.k = 1
  · rw [if_pos h1]
    have e : (x.k != 1) = false := by simp [h1]
    rw [e]
    exact ⟨hasL_no.2 fun v hv => ((mem_delL _).1 hv).2 rfl, fun h => by cases h⟩
  · rw [if_neg h1]
    have e : (x.k != 1) = true := by simpa using h1
    have hm : (x.K, [x.v]) ∈ insL x.K [x.v] (playL (l.take i)) := (mem_insL (playL_rise _) _).2 (.inl rfl)
    rw [e]
    exact ⟨hasL_iff.2 ⟨_, hm⟩, fun _ => hm⟩
theorem LastIs.other {l : List Dq} {i : Nat} {k : List UInt8} {v : Int} {th : Bool} {x : Dq} (h : LastIs l i k v th) (hx : l[i]? = some x) (he : ¬ x.K = k) : LastIs l (i + 1) k v th := by
  unfold LastIs at *
  rw [playL_succ hx]
  have key : ∀ u, (k, u) ∈ (if x.k = 1 then delL x.K (playL (l.take i)) else insL x.K [x.v] (playL (l.take i))) ↔ (k, u) ∈ playL (l.take i) := by
    intro u
    split
    · rw [mem_delL]
      exact ⟨fun h => h.1, fun h => ⟨h, fun e => he e.symm⟩⟩
    · rw [mem_insL (playL_rise _)]
      constructor
      · rintro (e | h)
        · cases e; exact absurd rfl he
        · exact h.1
      · intro h
        exact .inr ⟨h, fun e => he e.symm⟩
  refine ⟨?_, fun ht => (key _).2 (h.2 ht)⟩
  rw [← h.1, Bool.eq_iff_iff, hasL_iff, hasL_iff]
  constructor
  · rintro ⟨u, hu⟩; exact ⟨u, (key u).1 hu⟩
  · rintro ⟨u, hu⟩; exact ⟨u, (key u).2 hu⟩
set_option maxRecDepth 100000 in
set_option maxHeartbeats 6400000 in
theorem tableLast_walk (a0 : Option Addr) (len0 cap0 : Nat) (L0 : List Dq) (l1 : List UInt8) (w : World) (w0 : DqRow w a0 len0 cap0 L0) (w1 : l1.length = 32) :
    Calls Try.prog 4 #[.slice a0 len0 cap0, .agg (bytesV l1).toArray] w fun e w' => e = .returned (.bool true) ∧ Below w.heap.size w w' := by
  obtain ⟨wA, gk, kv, KB⟩ := keyBox w l1 w1
  obtain ⟨nn, hnn⟩ : ∃ nn, nn = min len0 300 := ⟨_, rfl⟩
  have hlen := w0.len
  have DR := w0
  have FW := Lib.hid (few_any a0 len0 cap0 300)
  have FEW := Lib.hid (fun W => FW.out W w0.fit w0.cap (by omega))
  rw [← hnn] at FEW
  -- the row behind few
  have R2 : DqRow w a0 nn cap0 (L0.take 300) := ⟨fun i x hx => w0.at_ i x (by rw [List.getElem?_take] at hx; split at hx; exact hx; cases hx), by rw [List.length_take]; omega, by have := w0.fit; omega, w0.cap⟩
  obtain ⟨l, hl⟩ : ∃ l, l = L0.take 300 := ⟨_, rfl⟩
  rw [← hl] at R2
  have hn3 : nn ≤ 300 := by omega
  have PL := Lib.hid (played_any a0 nn cap0 300 l w wA (by omega) R2 KB.still)
  rw [show min nn 300 = nn by omega, show l.take 300 = l by rw [hl, List.take_take, Nat.min_self]] at PL
  have AT := Lib.hid (fun i (hi : i < nn) => show ∃ x, l[i]? = some x ∧ ∃ b o, a0 = some ⟨b, o, none⟩ ∧ DqAt w w.heap.size b (o + i * 34) x from by
    have h1 : i < l.length := by have := R2.len; omega
    exact ⟨l[i], List.getElem?_eq_getElem h1, R2.at_ i _ (List.getElem?_eq_getElem h1)⟩)
  have LI := Lib.hid (fun (q : World) => lives_any q)
  have HB := Lib.hid KB
  have HL := Lib.hid w1
  have fit : nn ≤ cap0 := R2.fit
  have d8 : (nn : Int) ≤ 300 := by omega
  have d9 : (nn : Int) ≤ (cap0 : Int) := by omega
  rw [← KB.hkv]
  have LEN := Lib.hid R2.len
  clear KB w1 w0 hnn hlen DR FW R2 hl fit
  go_enter Try.func4, Try.ntmps4
  go_upto_region 1 with (guard_target =~ wpList _ _ _ (Oper.mk (some 3) _ _ _ _ _ :: _) _ _; go_must (refine wpList_box_val rfl 32 (.tmp 1) rfl (some 3) rfl kv rfl ?_))
  rw [← HB.out.hwA, ← HB.out.hgk]
  go_wp2_with (first
    | (go_at_call 11; refine (FEW.out _).mono ?_; rintro e w2 ⟨rfl, rfl⟩)
    | (go_at_call 21; refine PL.out.mono ?_; rintro e w2 ⟨g, rfl, p2⟩; have P2 := Lib.hid p2; clear p2))
  go_loopw [6, 7, 8] (fun vv tv iv wr => ∃ i : Nat, ∃ v : Int, ∃ th : Bool, i ≤ nn ∧ iv = .int .i64 i ∧ vv = .int .i64 v ∧ tv = .bool th ∧ Hid (LastIs l i l1 v th) ∧ Hid (Still w2 wr)) (fun _ _ iv _ => nn - (intOf iv).toNat)
  case atStart => exact ⟨0, 0, false, by omega, rfl, rfl, rfl, Lib.hid (LastIs.start _ _), Lib.hid (Still.refl _)⟩
  case round =>
    obtain ⟨i, v, th, hi, rfl, rfl, rfl, LI2, SW⟩ := hrel
    by_cases hlt : i < nn
    · obtain ⟨x, hx, b0, o, hA, D⟩ := AT.out i hlt
      subst hA
      have D1 : ∀ W, Still w2 W → DqAt W w.heap.size b0 (o + i * 34) x := fun W s => D.still (Nat.le_refl _) (Still.trans HB.out.still (Still.trans P2.out.still s))
      have DD := Lib.hid D1
      have HS := Lib.hid (show (Try.prog.info? 32).map (·.size) = some (bytesV x.K).length from by rw [size32, bytesV_length, D.len])
      have RK := Lib.hid (fun W (hW : ∃ q : StillBy w2, W = q.W) => show W.rangeAt gk 0 (bytesV l1) from by obtain ⟨q, rfl⟩ := hW; exact HB.out.reads _ (Still.trans P2.out.still q.still))
      have RX := Lib.hid (fun W (hW : ∃ q : StillBy w2, W = q.W) => show W.rangeAt b0 (o + i * 34 + 1) (bytesV x.K) from by obtain ⟨q, rfl⟩ := hW; exact (D1 _ q.still).key)
      have eq := fun W => eql_ids W x.K l1 D.len HL.out
      obtain ⟨xv, hxv⟩ : ∃ xv, xv = (bytesV x.K).toArray := ⟨_, rfl⟩
      have HXV := Lib.hid hxv
      rw [← HB.out.hkv, ← hxv] at eq
      have d1 : (i : Int) < (nn : Int) := by omega
      have HX := Lib.hid hx
      clear D1 D hxv hx hlt
      by_cases he : x.K = l1
      · rw [show decide (x.K = l1) = true from decide_eq_true he] at eq
        have HE := Lib.hid he
        clear he
        go_upto_region 9 with fail
        refine wp_region_quiet_still w2 SW.out (by kernel_rfl) (by kernel_rfl) ?_
        repeat (first
          | (guard_target =~ wpQuiet _ _ _ _ (Oper.mk (some 27) _ _ _ _ _ :: _) _; go_must (refine quiet_load_mid (by kernel_rfl) 32 (.tmp 26) rfl b0 (o + i * 34 + 1) (by kernel_rfl) (bytesV x.K) _ RX.out under32 rfl HS.out ?_); rw [← HXV.out])
          | (guard_target =~ wpQuiet _ _ _ _ (Oper.mk (some 28) _ _ _ _ _ :: _) _; go_must (refine quiet_load_mid (by kernel_rfl) 32 (.tmp 3) rfl gk 0 (by kernel_rfl) (bytesV l1) _ RK.out under32 rfl HB.out.size ?_); rw [← HB.out.hkv])
          | quiet_step ((fail)))
        refine wpQuiet_nil ?_
        intro wq hw'
        have SQ := Lib.hid (show Still w2 wq from by obtain ⟨p, rfl⟩ := hw'; exact p.still)
        clear hw'
        have kk : ∀ q : StillBy w2, q.W.cell? ⟨b0, o + i * 34, none⟩ = some (.int .i64 x.k) := fun q => (DD.out _ q.still).kind
        have vv : ∀ q : StillBy w2, q.W.cell? ⟨b0, o + i * 34 + 33, none⟩ = some (.int .i64 x.v) := fun q => (DD.out _ q.still).val
        clear eq
        have NX := Lib.hid (LastIs.same HX.out HE.out)
        go_upto_region 10 with fail
        refine wp_region_quiet_still w2 SQ.out (by kernel_rfl) (by kernel_rfl) ?_
        repeat (first
          | quiet_step ((fail)))
        refine wpQuiet_nil ?_
        intro wr2 hw'
        have SR := Lib.hid (show Still w2 wr2 from by obtain ⟨p, rfl⟩ := hw'; exact p.still)
        clear hw'
        clear kk vv
        go_wp2_with fail
        go_roundw
        case rel => exact ⟨i + 1, x.v, _, by omega, by go_num, rfl, rfl, NX, SR⟩
        case measure => simp [intOf]; omega
      · rw [show decide (x.K = l1) = false from decide_eq_false he] at eq
        have HE := Lib.hid he
        clear he
        go_upto_region 9 with fail
        refine wp_region_quiet_still w2 SW.out (by kernel_rfl) (by kernel_rfl) ?_
        repeat (first
          | (guard_target =~ wpQuiet _ _ _ _ (Oper.mk (some 27) _ _ _ _ _ :: _) _; go_must (refine quiet_load_mid (by kernel_rfl) 32 (.tmp 26) rfl b0 (o + i * 34 + 1) (by kernel_rfl) (bytesV x.K) _ RX.out under32 rfl HS.out ?_); rw [← HXV.out])
          | (guard_target =~ wpQuiet _ _ _ _ (Oper.mk (some 28) _ _ _ _ _ :: _) _; go_must (refine quiet_load_mid (by kernel_rfl) 32 (.tmp 3) rfl gk 0 (by kernel_rfl) (bytesV l1) _ RK.out under32 rfl HB.out.size ?_); rw [← HB.out.hkv])
          | quiet_step ((fail)))
        refine wpQuiet_nil ?_
        intro wq hw'
        have SQ := Lib.hid (show Still w2 wq from by obtain ⟨p, rfl⟩ := hw'; exact p.still)
        clear hw'
        clear eq
        have NX := Lib.hid (LI2.out.other HX.out HE.out)
        go_wp2_with fail
        go_roundw
        case rel => exact ⟨i + 1, v, th, by omega, by go_num, rfl, rfl, NX, SQ⟩
        case measure => simp [intOf]; omega
    · have hin : i = nn := by omega
      subst hin
      obtain ⟨⟨b, cp, dd, T, hb⟩, sw, hg⟩ := P2.out
      have hlen := playL_len l i
      have lst := LI2.out
      have T2 := T.still SW.out
      have S2 := Lib.hid sw
      cases th with
      | true =>
        have GE := Lib.hid (get_yes T2 l1 v HL.out (by omega) (lst.2 rfl))
        have RK := Lib.hid (HB.out.reads wr (Still.trans sw SW.out))
        rw [← HB.out.hkv] at GE
        clear T T2 lst hlen hb hg sw hlt
        go_wp2_with (first
          | (guard_target =~ wpList _ _ _ (Oper.mk (some 43) _ _ _ _ _ :: _) _ _; go_must (refine wpList_load_mid rfl 32 (.tmp 3) rfl gk 0 rfl (bytesV l1) _ RK.out under32 rfl HB.out.size ?_); rw [← HB.out.hkv])
          | (go_at_call 18; refine GE.out.mono ?_; rintro e w4 ⟨rfl, s4⟩; have S4 := Lib.hid s4; clear s4)
          | (go_at_call 20; refine (LI.out _).mono ?_; rintro e w9 ⟨rfl, s9⟩; have S9 := Lib.hid s9; clear s9))
        go_ret
        exact ⟨rfl, Still.trans HB.out.still (Still.trans S2.out (Still.trans SW.out (Still.trans S4.out S9.out)))⟩
      | false =>
        have GE := Lib.hid (get_no T2 l1 HL.out (by omega) lst.1)
        have RK := Lib.hid (HB.out.reads wr (Still.trans sw SW.out))
        rw [← HB.out.hkv] at GE
        clear T T2 lst hlen hb hg sw hlt
        go_wp2_with (first
          | (guard_target =~ wpList _ _ _ (Oper.mk (some 43) _ _ _ _ _ :: _) _ _; go_must (refine wpList_load_mid rfl 32 (.tmp 3) rfl gk 0 rfl (bytesV l1) _ RK.out under32 rfl HB.out.size ?_); rw [← HB.out.hkv])
          | (go_at_call 18; refine GE.out.mono ?_; rintro e w4 ⟨rfl, s4⟩; have S4 := Lib.hid s4; clear s4)
          | (go_at_call 20; refine (LI.out _).mono ?_; rintro e w9 ⟨rfl, s9⟩; have S9 := Lib.hid s9; clear s9))
        go_ret
        exact ⟨rfl, Still.trans HB.out.still (Still.trans S2.out (Still.trans SW.out (Still.trans S4.out S9.out)))⟩
end Go.Proofs.Ythkgnkcedoigiaa
