/- Contract: the places of all keys of a table, by rising keys. It proves no statement. -/
import Derived.Test.YtlebancjgjcfjaaTbRise
import Derived.Test.YtlebancjgjcfjaaAllocArr
import Derived.Laws.CopyOwn
namespace Go.Proofs.Ytlebancjgjcfjaa
open Go.RowKit
set_option linter.unusedVariables false
set_option linter.unusedSimpArgs false

theorem own_low {w : World} {base base' z n : Nat} {e : TypeId} {v : Value} {xs : List Value} (h : w.ownsRow base e z v n xs) (hb : base' ≤ base) : w.ownsRow base' e z v n xs := by
  refine ⟨h.1, ?_⟩
  rcases h.2 with h0 | ⟨g, c, cur, h1, h2, h3⟩
  · exact .inl h0
  · exact .inr ⟨g, c, cur, h1, Nat.le_trans hb h2, h3⟩
theorem own_keep {w w' : World} {base z n : Nat} {e : TypeId} {v : Value} {xs : List Value} (h : w.ownsRow base e z v n xs) (s : Still w w') : w'.ownsRow base e z v n xs := by
  refine ⟨h.1, ?_⟩
  rcases h.2 with h0 | ⟨g, c, cur, h1, h2, h3, h4⟩
  · exact .inl h0
  · exact .inr ⟨g, c, cur, h1, h2, (s.block g (Array.getElem?_eq_some_iff.1 h3).1).trans h3, h4⟩
theorem still_own {w w1 w2 : World} {base : Nat} {r : Option Nat} (s : Below base w w1) (g : w1.grownBy w2 r) (hb : base ≤ w1.heap.size) (hr : ∀ k, r = some k → base ≤ k) : Below base w w2 := Below.grown s g hb hr
theorem natV_snoc (l : List Nat) (p : Nat) : natV (l ++ [p]) = natV l ++ [.int .i64 (p : Int)] := by simp [natV]
theorem slot_row : ∃ fs, Try.prog.underlying 82 = some (.struct fs) := ⟨_, Try.underlying82⟩
theorem sizeSlot2 : (Try.prog.info? 82).map (·.size) = some 34 := by kernel_rfl
/-- The places behind i slots. -/
structure RisW (wA wr : World) (base : Nat) (S : List Sl) (i : Nat) (v : Value) : Prop where
  own : wr.ownsRow base 3 1 v (idxL S i).length (natV (idxL S i))
  still : Below base wA wr
set_option maxRecDepth 100000 in
set_option maxHeartbeats 6400000 in
theorem rising_any {T : TypeId} {w : World} {g b c : Nat} {S : List Sl} (h : TB T 1 w g b c S) (hS : S.length ≤ 1048576) :
    Calls Try.prog 42 #[.pointer (some ⟨g, 0, none⟩)] w fun e w' => ∃ v, e = .returned v ∧ w'.ownsRow w.heap.size 3 1 v (posL S).length (natV (posL S)) ∧ Still w w' := by
  obtain ⟨wA, hwA⟩ : ∃ wA, wA = w.alloc (.cells #[.pointer (some ⟨g, 0, none⟩)] 23) := ⟨_, rfl⟩
  obtain ⟨tb, htb⟩ : ∃ tb, tb = w.heap.size := ⟨_, rfl⟩
  have SA : Still w wA := by rw [hwA]; exact (Still.refl w).alloc (Nat.le_refl _) _
  have zA : wA.heap.size = tb + 1 := by rw [hwA, htb]; simp
  have cT : wA.cell? ⟨tb, 0, none⟩ = some (.pointer (some ⟨g, 0, none⟩)) := by rw [hwA, htb]; exact (Blk.new w _ _).cell 0
  have hA := h.still SA
  have hgl : g < tb := by have := h.box.lt; omega
  have hbl : b < tb := by have := h.row.lt; omega
  have c0 := hA.c0
  have WY := Lib.hid (works_yes hA)
  have HT := Lib.hid hA
  have HWA := Lib.hid hwA
  have HTB := Lib.hid htb
  have HSA := Lib.hid SA
  have CT := Lib.hid (fun W (s : Below (tb + 1) wA W) => show W.cell? ⟨tb, 0, none⟩ = some (.pointer (some ⟨g, 0, none⟩)) from (s.cell (p := ⟨tb, 0, none⟩) (by simp only; omega)).trans cT)
  have TW := Lib.hid (fun W (s : Below (tb + 1) wA W) => show W.cell? ⟨g, 0, none⟩ = some (.slice (some ⟨b, 0, none⟩) S.length c) ∧ SlB W b 1 S from ⟨(s.cell (p := ⟨g, 0, none⟩) (by simp only; omega)).trans hA.c0, hA.row.keep (s.block b (by omega))⟩)
  have hI := Lib.hid h.inv
  have HGB := Lib.hid (show g < tb + 1 ∧ b < tb + 1 from ⟨by omega, by omega⟩)
  have ZA := Lib.hid zA
  obtain ⟨N, hN⟩ : ∃ N, N = S.length := ⟨_, rfl⟩
  have HN := Lib.hid hN
  rw [← hN] at c0 hS TW
  have d4 : (N : Int) ≤ 1048576 := by omega
  clear hwA htb SA zA h hA hgl hbl hN
  go_enter Try.func42, Try.ntmps42
  go_upto_region 1 with fail
  rw [← HWA.out, ← HTB.out]
  go_wp2_with (go_at_call 24; refine WY.out.mono ?_; rintro e w1 ⟨rfl, rfl⟩)
  go_loopw [3, 14] (fun lv iv wr => ∃ i : Nat, ∃ v : Value, i ≤ N ∧ iv = .int .i64 i ∧ v = lv ∧ Hid (RisW wA wr (tb + 1) S i v)) (fun _ iv _ => N - (intOf iv).toNat)
  case atStart => exact ⟨0, _, by omega, rfl, rfl, Lib.hid ⟨World.ownsRow_nil _ _ _ _, Below.refl _ _⟩⟩
  case round =>
    obtain ⟨i, v, hi, rfl, rfl, RW⟩ := hrel
    by_cases hlt : i < N
    · have d8 : (i : Int) < (N : Int) := by omega
      have hs : S[i]? = some (slot S i) := slot_eq (by have := HN.out; omega)
      have hsucc := idxL_succ S i
      obtain ⟨s, hss⟩ : ∃ s, s = slot S i := ⟨_, rfl⟩
      rw [← hss] at hs hsucc
      have ok : SlOK 1 s := hI.out.slOK hs
      have RNG := Lib.hid (show wr.rangeAt b (i * 34) (slL 1 s) from (TW.out _ RW.out.still).2.at_ i s hs)
      have SL := Lib.hid (slL_len ok)
      have ONE := Lib.hid (show (slL 1 s).toArray.all (·.oneCell') = true from all_oneCell_toArray (fun v hv => slL_one _ _ v hv))
      obtain ⟨sl, hsl⟩ : ∃ sl, sl = (slL 1 s).toArray := ⟨_, rfl⟩
      have SLE := Lib.hid hsl
      obtain ⟨fs, hu⟩ := slot_row
      have HU := Lib.hid hu
      obtain ⟨gs, hgs⟩ : ∃ gs, gs = wr.heap.size := ⟨_, rfl⟩
      have GS := Lib.hid hgs
      obtain ⟨wC, hwC⟩ : ∃ wC, wC = (wr.alloc (.cells (slL 1 .empty).toArray 82)).setRow gs sl := ⟨_, rfl⟩
      have HWC := Lib.hid hwC
      have SC : Still wr wC := by rw [hwC, hgs]; exact below_setRow ((Still.refl wr).alloc (Nat.le_refl _) _) (Nat.le_refl _) _
      have BC : Blk wC gs 82 sl := by rw [hwC, hgs]; exact setRow_heap _ _ _ _ _ _ (heap_alloc_new wr _)
      have st0 : wC.cell? ⟨gs, 0, none⟩ = some (.int .i64 (s.st : Nat)) := by rw [BC.cell, hsl]; rfl
      have hbz : tb + 1 ≤ wr.heap.size := by have := RW.out.still.size; have := ZA.out; omega
      have RC := Lib.hid (show RisW wA wC (tb + 1) S i v from ⟨own_keep RW.out.own SC, RW.out.still.trans (SC.mono hbz)⟩)
      have HSC := Lib.hid (show tb + 1 ≤ wC.heap.size from Nat.le_trans hbz SC.size)
      have CNT := Lib.hid (show (idxL S i).length < 1048576 from by have := idxL_len S i; omega)
      have HSUC := Lib.hid hsucc
      clear hs hss ok hsl hu hgs hwC SC BC hbz hsucc
      go_upto_region 7 with (first
        | (guard_target =~ wpList _ _ _ (Oper.mk (some 18) _ _ _ _ _ :: _) _ _; go_must (refine wpList_load_mid rfl 82 (.tmp 17) rfl b (i * 34) rfl (slL 1 s) _ RNG.out HU.out rfl (by rw [sizeSlot2, SL.out]) ?_); rw [← SLE.out])
        | (guard_target =~ wpList _ _ _ (Oper.mk (some 5) _ _ _ _ _ :: _) _ _; go_must (refine wpList_alloc_arr rfl 82 rfl (some 5) rfl (slL 1 .empty).toArray 34 (by kernel_rfl) ?_); rw [← GS.out])
        | (guard_target =~ wpList _ _ _ (Oper.mk none (Op.store _ _ _) _ _ _ _ :: _) _ _; go_must (refine wpList_store_rowTo rfl 82 (.tmp 5) (.tmp 18) rfl rfl gs sl rfl rfl 82 (slL 1 .empty).toArray (by rw [GS.out]; exact heap_alloc_new wr _) (by rw [sizeSlot2, SLE.out, List.size_toArray, SL.out]) (by rw [SLE.out, List.size_toArray, List.size_toArray, SL.out]; exact slL_len (SlOK.empty 1)) (by rw [SLE.out]; exact ONE.out) ?_)))
      rw [← HWC.out]
      cases s with
      | empty =>
        simp only [Sl.st] at st0
        go_wp2_with fail
        go_roundw
        case rel => exact ⟨i + 1, v, by omega, by go_num, rfl, Lib.hid (by have h := HSUC.out; simp only [Sl.isFull, Bool.false_eq_true, if_false, List.append_nil] at h; exact ⟨by rw [h]; exact RC.out.own, RC.out.still⟩)⟩
        case measure => simp [intOf]; omega
      | dead =>
        simp only [Sl.st] at st0
        go_wp2_with fail
        go_roundw
        case rel => exact ⟨i + 1, v, by omega, by go_num, rfl, Lib.hid (by have h := HSUC.out; simp only [Sl.isFull, Bool.false_eq_true, if_false, List.append_nil] at h; exact ⟨by rw [h]; exact RC.out.own, RC.out.still⟩)⟩
        case measure => simp [intOf]; omega
      | full k u =>
        simp only [Sl.st] at st0
        go_wp2_with (at_builtin; go_must (refine wpList_oneI wC rfl (.tmp 22) (.tmp 24) rfl (tb + 1) v (idxL S i).length (natV (idxL S i)) rfl RC.out.own (.int .i64 (i : Int)) rfl rfl CNT.out HSC.out ?_))
        intro v' w' own' gr' _
        have NX := Lib.hid (show RisW wA w' (tb + 1) S (i + 1) v' from by
          have h := HSUC.out
          simp only [Sl.isFull, if_true] at h
          refine ⟨by rw [h, List.length_append, natV_snoc]; exact own', still_own RC.out.still gr' HSC.out (fun k hk => ?_)⟩
          exact ((RC.out.own).lt k hk).1)
        have e1 : (v' = .slice none 0 0 → False) := fun e => by
          subst e
          have := own'.1
          rcases own'.2 with ⟨_, h0⟩ | ⟨_, _, _, h0, _⟩
          · omega
          · cases h0
        clear own' gr' e1
        go_wp2_with fail
        go_roundw
        case rel => exact ⟨i + 1, v', by omega, by go_num, rfl, NX⟩
        case measure => simp [intOf]; omega
    · have iN : i = N := by omega
      subst iN
      have SO := Lib.hid (sort_any (base := tb + 1) (v := v) hI.out (by have := HN.out; omega) (CT.out _ RW.out.still) (by rw [← HN.out]; exact (TW.out _ RW.out.still).1) (TW.out _ RW.out.still).2 (by rw [← HN.out]; exact RW.out.own) (by omega) HGB.out.1 HGB.out.2 (by have := RW.out.still.size; have := ZA.out; omega))
      have SB := Lib.hid (show ∀ w', Below (tb + 1) wr w' → Still w w' from fun w' h => Below.trans HSA.out ((RW.out.still.trans h).mono (by have := HTB.out; omega)))
      clear hlt
      go_wp2_with (go_at_call 50; with_reducible refine SO.out.mono ?_; rintro e w5 ⟨rfl, own5, s5⟩; have O5 := Lib.hid own5; have S5 := Lib.hid (SB.out _ s5); clear own5 s5)
      go_ret
      exact ⟨v, rfl, own_low O5.out (by have := HTB.out; omega), S5.out⟩
end Go.Proofs.Ytlebancjgjcfjaa
