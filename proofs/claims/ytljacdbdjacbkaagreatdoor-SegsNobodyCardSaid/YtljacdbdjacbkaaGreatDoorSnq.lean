/- Contracts and facts, several texts in one. It proves no statement. -/
import Derived.Test.YtljacdbdjacbkaaGreatDoorSnp
import Derived.Test.YtljacdbdjacbkaaGreatDoorSne
import Derived.Test.YtljacdbdjacbkaaGreatDoorSnb

/- A medium's calls, where nothing stands against them: Sync, SyncDir, All. It proves no statement. -/

namespace Go.Proofs.YtljacdbdjacbkaaGreatDoor
open Go.RowKit Go.Maps Go.WideMaps Go.Sort
set_option linter.unusedVariables false
set_option linter.unusedSimpArgs false

/-- A file whose bytes are fast. -/
def Fi.synced (F : Fi) : Fi := ⟨F.now, F.now, []⟩
theorem Fi.len {F : Fi} (h : F.ok) : F.now.length ≤ 16777216 := by rw [h.1]; exact h.2.len
theorem Fi.synced_ok {F : Fi} (h : F.ok) : F.synced.ok := ⟨rfl, ChOK.nil (Fi.len h)⟩
set_option maxHeartbeats 800000 in
theorem sync_I {w : World} {base g : Nat} {own : Own} {M : Me} (s : ByteArray) (gf : Nat) (F : Fi) (h : MedI w base own g M) (hok : M.ok) (hoff : M.off = false) (hl0 : M.left ≠ 0) (hs : s.size ≤ maxLen) (hlk : nFind M.now s.data.toList = some gf) (hF : M.fs gf = some F) :
    Calls Tryz.prog 68 #[.pointer (some ⟨g, 0, none⟩), .string s] w fun e w' => e = .returned (.int .i64 0) ∧ Chg w w' (fun b => own b ≠ none) ∧ ∃ own' : Own, (∀ b, b < w.heap.size → own' b = own b) ∧ MedI w' base own' g (M.wrote gf F.synced) := by
  obtain ⟨hdir, hfi, hdom, hlow, hnog⟩ := h
  obtain ⟨bn, bf, wv, ns, nn, nf, d1, d2, d3, d4, d5, d6, d7, d8, d9, d10, d11, d12⟩ := hdir
  obtain ⟨q1, q2, q3, nv, fv, wtv, cs, f1, f2, f3, f4, f5, f6, f7, f8, f9⟩ := hfi gf F hF
  have hgg : gf ≠ g := fun e => by rw [e, hnog] at hF; cases hF
  have hgl := Blk.lt f1
  obtain ⟨Aw, cw, rfl⟩ := own_formV f4
  rw [hoff] at d1
  have key : ∀ b k, own b = some (gf, k) → b ≠ g := fun b k hb e => by rw [e, d9] at hb; simp at hb; exact hgg hb.1.symm
  refine (sync_ok d1 hok.left.2 hl0 s hs nn (nmD M.now) d2 gf F.wait.length cw Aw nv fv (look_found hlk) f1 hgg (fun W w' => ∃ fv', FileB w' gf nv fv' (.slice none 0 0) ∧ w'.ownsRow base 5 1 fv' F.now.length (bytesV F.now) ∧ Chg W w' (fun b => b = gf ∨ fv.ownBlock = some b) ∧ (fv'.ownBlock = fv.ownBlock ∨ ∃ j, fv'.ownBlock = some j ∧ W.heap.size ≤ j)) ?_).mono ?_
  · intro W c
    have hs := fsettle_all (w := W) gf nv fv (.slice Aw F.wait.length cw) base F.wait.length F.wait.length F.fast F.wait cs (fun j b => own b = some (gf, 4 + j)) (c.blk f1 hgg) (c.own f4 (fun b hb => key b 3 (f9 b hb))) (f5.keep c (fun j b hb => key b _ hb)) rfl (c.own f3 (fun b hb => key b 2 (f8 b hb))) (fun b hb i e => by rw [f8 b hb] at e; simp at e; omega) (fun i e => by rw [f6] at e; simp at e; omega) (Nat.le_trans hlow c.size) (Nat.le_refl _) q3 q2.2
    rw [List.take_length, ← q2.1] at hs
    exact hs
  · rintro e w' ⟨he, W, m1, c1, fv', fb, r1, c2, l1⟩
    have ch : Chg w w' (fun b => b = g ∨ b = gf ∨ fv.ownBlock = some b) := (c1.mono (fun b _ h => .inl h)).trans c2 (fun b _ h => .inr h)
    have hgs : ∀ b, (b = g ∨ b = gf ∨ fv.ownBlock = some b) → b = g ∨ ∃ k, own b = some (gf, k) ∧ (k = 0 ∨ k = 2) := by
      rintro b (h | h | h)
      · exact .inl h
      · exact .inr ⟨0, by rw [h]; exact f6, .inl rfl⟩
      · exact .inr ⟨2, f8 b h, .inr rfl⟩
    have hg2 : ∀ b k, own b = some (g, k) → ¬ (b = gf ∨ fv.ownBlock = some b) := by
      rintro b k hb (h | h)
      · rw [h, f6] at hb; simp at hb; exact hgg hb.1
      · rw [f8 b h] at hb; simp at hb; exact hgg hb.1
    obtain ⟨own', ho⟩ : ∃ own' : Own, own' = fun b => if w.heap.size ≤ b ∧ fv'.ownBlock = some b then some (gf, 2) else own b := ⟨_, rfl⟩
    have hold : ∀ b, b < w.heap.size → own' b = own b := by
      intro b hb
      rw [ho]
      show (if _ then _ else own b) = _
      rw [if_neg (fun e => by omega)]
    have hfv : ∀ b, fv'.ownBlock = some b → own' b = some (gf, 2) := by
      intro b hb
      rcases l1 with h | ⟨j, h, hj⟩
      · rw [h] at hb
        rw [hold b (f3.lt b hb).2]
        exact f8 b hb
      · have e : j = b := by rw [h] at hb; injection hb
        subst e
        rw [ho]
        show (if _ then _ else _) = _
        rw [if_pos ⟨Nat.le_trans c1.size hj, h⟩]
    have hdm : ∀ b, own' b ≠ none → base ≤ b ∧ b < w'.heap.size := by
      intro b hb
      rw [ho] at hb
      change (if _ then _ else own b) ≠ none at hb
      split at hb
      · rename_i e; exact r1.lt b e.2
      · have := hdom b hb; have := ch.size; omega
    clear ho
    refine ⟨he, ch.mono (fun b _ hb => by rcases hgs b hb with h | ⟨k, h, _⟩; rw [h, d9]; simp; rw [h]; simp), own', hold, ⟨?_, ?_, hdm, Nat.le_trans hlow ch.size, ?_⟩⟩
    · have hg' : ∀ b k, own b = some (g, k) → b ≠ g → ¬ (b = g ∨ b = gf ∨ fv.ownBlock = some b) := by
        rintro b k hb hne (h | h)
        · exact hne h
        · exact hg2 b k hb h
      have m2 : MedB w' g M.room bn bf wv (stepL M.left) M.off := by
        rw [hoff]
        exact c2.blk m1 (hg2 g 0 d9)
      refine ⟨bn, bf, wv, ns, nn, nf, m2, ch.nm d2 (hg' bn 1 d10 (nm_ne d2 d1)), ch.nm d3 (hg' bf 2 d11 (nm_ne d3 d1)), by show nn ≤ M.cnt + 1; omega, by show nf + M.wait.length ≤ M.cnt + 1; omega, ch.own d6 (fun b hb => hg' b 3 (d12 b hb) (fun e => own_neM d1 d6 (by decide) (by rw [hb, e]))), d7, by show M.wait.length ≤ M.cnt + 1; omega, by rw [hold g (Blk.lt d1)]; exact d9, by rw [hold bn d2.lt]; exact d10, by rw [hold bf d3.lt]; exact d11, fun b hb => by rw [hold b (d6.lt b hb).2]; exact d12 b hb⟩
    · refine hfi.turn ch gf ?_ hold _ ⟨q1, Fi.synced_ok q2, by show 0 ≤ 1000000; omega, ?_⟩
      · intro b y k hs hy hfs e
        rcases hgs b hs with h | ⟨q, hq, _⟩
        · rw [h, d9] at e; simp at e; rw [← e.1] at hfs; exact hfs hnog
        · rw [hq] at e; simp at e; exact hy e.1.symm
      · refine ⟨nv, fv', .slice none 0 0, [], fb, ch.own f2 (fun b hb hs => ?_), r1, World.ownsRow_nil _ _ _ _, HasC.nil _ _ _, by rw [hold gf hgl]; exact f6, fun b hb => by rw [hold b (f2.lt b hb).2]; exact f7 b hb, hfv, fun b hb => by simp [Value.ownBlock] at hb⟩
        rcases hgs b hs with h | ⟨q, hq, hq2⟩
        · exact key b 1 (f7 b hb) h
        · rw [f7 b hb] at hq; simp at hq; omega
    · show upd M.fs gf _ g = none
      rw [upd_other _ _ (fun e => hgg e.symm)]
      exact hnog
def Me.syncedDir (M : Me) : Me := { M with left := stepL M.left, fast := M.now, wait := [] }
theorem Me.syncedDir_ok {M : Me} (h : M.ok) (h0 : M.left ≠ 0) : M.syncedDir.ok where
  rn := h.rn
  rf := h.rn
  ff := fun p hp => by
    have hp' : p ∈ M.now := hp
    rw [h.eq] at hp'
    exact steps_files h.ff h.fw p hp'
  fw := fun x hx => by cases hx
  eq := rfl
  room := h.room
  left := stepL_ok h.left h0
  len := by
    have h1 := steps_length M.fast M.wait
    have h2 := h.len
    show M.now.length + 0 ≤ M.cnt
    rw [h.eq]
    omega
theorem syncDir_I {w : World} {base g : Nat} {own : Own} {M : Me} (h : MedI w base own g M) (hok : M.ok) (hoff : M.off = false) (hl0 : M.left ≠ 0) (hcnt : M.cnt ≤ 1000000) :
    Calls Tryz.prog 69 #[.pointer (some ⟨g, 0, none⟩)] w fun e w' => e = .returned (.int .i64 0) ∧ Chg w w' (fun b => own b ≠ none) ∧ MedI w' base own g M.syncedDir := by
  obtain ⟨hdir, hfi, hdom, hlow, hnog⟩ := h
  obtain ⟨bn, bf, wv, ns, nn, nf, d1, d2, d3, d4, d5, d6, d7, d8, d9, d10, d11, d12⟩ := hdir
  obtain ⟨Aw, cw, rfl⟩ := own_formV d6
  rw [hoff] at d1
  have hfg : bf ≠ g := nm_ne d3 d1
  have hbg : bn ≠ g := nm_ne d2 d1
  have hbb : bn ≠ bf := fun e => by rw [e, d11] at d10; simp at d10
  refine (syncDir_ok M.wait.length cw Aw d1 hok.left.2 hl0 (fun W w' => MedB w' g M.room bn bf (.slice none 0 0) (stepR M.left false).1 false ∧ NM w' bf (nf + M.wait.length) (nmD M.now) ∧ Chg W w' (fun b => b = g ∨ b = bf)) ?_).mono ?_
  · intro W m c
    have hs := msettle_all (w := W) base M.wait.length nf M.wait ns M.fast m (c.own d6 (fun b hb e => own_neM d1 d6 (by decide) (by rw [hb, e]))) d7 (c.nm d3 hfg) (by omega) (Nat.le_refl _)
    rw [List.take_length, ← hok.eq] at hs
    exact hs
  · rintro e w' ⟨he, W, m1, c1, m2, n2, c2⟩
    have ch : Chg w w' (fun b => b = g ∨ b = bf) := (c1.mono (fun b _ h => .inl h)).trans c2 (fun b _ h => h)
    have hS : ∀ b, (b = g ∨ b = bf) → ∃ k, own b = some (g, k) := by
      rintro b (rfl | rfl)
      · exact ⟨0, d9⟩
      · exact ⟨2, d11⟩
    refine ⟨he, ch.mono (fun b _ hb => by obtain ⟨k, hk⟩ := hS b hb; rw [hk]; simp), ⟨?_, ?_, fun b hb => ⟨(hdom b hb).1, Nat.lt_of_lt_of_le (hdom b hb).2 ch.size⟩, Nat.le_trans hlow ch.size, hnog⟩⟩
    · have m3 : MedB w' g M.room bn bf (.slice none 0 0) (stepL M.left) M.off := by rw [hoff]; exact m2
      exact ⟨bn, bf, .slice none 0 0, [], nn, nf + M.wait.length, m3, ch.nm d2 (by rintro (h | h); exact hbg h; exact hbb h), n2, d4, by show nf + M.wait.length + 0 ≤ M.cnt; omega, World.ownsRow_nil _ _ _ _, HasN.nil, Nat.zero_le _, d9, d10, d11, fun b hb => by simp [Value.ownBlock] at hb⟩
    · exact hfi.keep ch (fun b gf k F hs hF e => by
        obtain ⟨q, hq⟩ := hS b hs
        rw [hq] at e
        simp at e
        rw [← e.1, hnog] at hF
        cases hF)
theorem all_I {w : World} {base g : Nat} {own : Own} {M : Me} (s : ByteArray) (gf : Nat) (F : Fi) (h : MedI w base own g M) (hoff : M.off = false) (hs : s.size ≤ maxLen) (hlk : nFind M.now s.data.toList = some gf) (hF : M.fs gf = some F) :
    Calls Tryz.prog 94 #[.pointer (some ⟨g, 0, none⟩), .string s] w fun e w' => (∃ v, e = .returned (.tuple #[v, .int .i64 0]) ∧ w'.ownsRow w.heap.size 5 1 v F.now.length (bytesV F.now)) ∧ Still w w' := by
  obtain ⟨hdir, hfi, hdom, hlow, hnog⟩ := h
  obtain ⟨bn, bf, wv, ns, nn, nf, d1, d2, d3, d4, d5, d6, d7, d8, d9, d10, d11, d12⟩ := hdir
  obtain ⟨q1, q2, q3, nv, fv, wtv, cs, f1, f2, f3, f4, f5, f6, f7, f8, f9⟩ := hfi gf F hF
  rw [hoff] at d1
  have := Fi.len q2
  exact all_ok d1 s hs nn (nmD M.now) d2 gf F.now.length base nv fv wtv F.now (look_found hlk) f1 f2 (by omega)
end Go.Proofs.YtljacdbdjacbkaaGreatDoor

/- Contracts: a medium's calls where works or find answers an error. It proves no statement. -/


namespace Go.Proofs.YtljacdbdjacbkaaGreatDoor
open Go.RowKit Go.Maps Go.WideMaps
set_option linter.unusedVariables false
set_option linter.unusedSimpArgs false

theorem create_err (P : Value) (s : ByteArray) (w : World) (E : Int) (b1 : (E != 0) = true) (h : Calls Tryz.prog 77 #[P] w fun e w' => e = .returned (.int .i64 E) ∧ w = w') : Calls Tryz.prog 150 #[P, .string s] w fun e w' => e = .returned (.int .i64 E) ∧ w = w' := by
  have HW := Lib.hid h
  clear h
  go_enter Tryz.func150, Tryz.ntmps150
  go_wp2_with fail
  refine HW.out.mono ?_
  rintro e w1 ⟨rfl, rfl⟩
  go_wp2_with fail
  go_ret
  exact ⟨rfl, rfl⟩
theorem append_err (P : Value) (s : ByteArray) (A : Option Addr) (n c : Nat) (w : World) (E : Int) (b1 : (E != 0) = true) (h : Calls Tryz.prog 103 #[P, .string s] w fun e w' => e = .returned (.tuple #[.pointer none, .int .i64 E]) ∧ w = w') : Calls Tryz.prog 151 #[P, .string s, .slice A n c] w fun e w' => e = .returned (.int .i64 E) ∧ w = w' := by
  have HW := Lib.hid h
  clear h
  go_enter Tryz.func151, Tryz.ntmps151
  go_wp2_with fail
  refine HW.out.mono ?_
  rintro e w1 ⟨rfl, rfl⟩
  go_wp2_with fail
  go_ret
  exact ⟨rfl, rfl⟩
theorem remove_err (P : Value) (s : ByteArray) (w : World) (E : Int) (b1 : (E != 0) = true) (h : Calls Tryz.prog 103 #[P, .string s] w fun e w' => e = .returned (.tuple #[.pointer none, .int .i64 E]) ∧ w = w') : Calls Tryz.prog 117 #[P, .string s] w fun e w' => e = .returned (.int .i64 E) ∧ w = w' := by
  have HW := Lib.hid h
  clear h
  go_enter Tryz.func117, Tryz.ntmps117
  go_wp2_with fail
  refine HW.out.mono ?_
  rintro e w1 ⟨rfl, rfl⟩
  go_wp2_with fail
  go_ret
  exact ⟨rfl, rfl⟩
theorem sync_err (P : Value) (s : ByteArray) (w : World) (E : Int) (b1 : (E != 0) = true) (h : Calls Tryz.prog 103 #[P, .string s] w fun e w' => e = .returned (.tuple #[.pointer none, .int .i64 E]) ∧ w = w') : Calls Tryz.prog 68 #[P, .string s] w fun e w' => e = .returned (.int .i64 E) ∧ w = w' := by
  have HW := Lib.hid h
  clear h
  go_enter Tryz.func68, Tryz.ntmps68
  go_wp2_with fail
  refine HW.out.mono ?_
  rintro e w1 ⟨rfl, rfl⟩
  go_wp2_with fail
  go_ret
  exact ⟨rfl, rfl⟩
theorem syncDir_err (P : Value) (w : World) (E : Int) (b1 : (E != 0) = true) (h : Calls Tryz.prog 77 #[P] w fun e w' => e = .returned (.int .i64 E) ∧ w = w') : Calls Tryz.prog 69 #[P] w fun e w' => e = .returned (.int .i64 E) ∧ w = w' := by
  have HW := Lib.hid h
  clear h
  go_enter Tryz.func69, Tryz.ntmps69
  go_wp2_with fail
  refine HW.out.mono ?_
  rintro e w1 ⟨rfl, rfl⟩
  go_wp2_with fail
  go_ret
  exact ⟨rfl, rfl⟩
theorem read_err (P : Value) (s : ByteArray) (x y : Int) (w : World) (E : Int) (b1 : (E != 0) = true) (h : Calls Tryz.prog 103 #[P, .string s] w fun e w' => e = .returned (.tuple #[.pointer none, .int .i64 E]) ∧ w = w') : Calls Tryz.prog 88 #[P, .string s, .int .i64 x, .int .i64 y] w fun e w' => e = .returned (.tuple #[.slice none 0 0, .int .i64 E]) ∧ w = w' := by
  have HW := Lib.hid h
  clear h
  go_enter Tryz.func88, Tryz.ntmps88
  go_wp2_with fail
  refine HW.out.mono ?_
  rintro e w1 ⟨rfl, rfl⟩
  go_wp2_with fail
  go_ret2
  exact ⟨rfl, rfl⟩
theorem all_err (P : Value) (s : ByteArray) (w : World) (E : Int) (b1 : (E != 0) = true) (h : Calls Tryz.prog 103 #[P, .string s] w fun e w' => e = .returned (.tuple #[.pointer none, .int .i64 E]) ∧ w = w') : Calls Tryz.prog 94 #[P, .string s] w fun e w' => e = .returned (.tuple #[.slice none 0 0, .int .i64 E]) ∧ w = w' := by
  have HW := Lib.hid h
  clear h
  go_enter Tryz.func94, Tryz.ntmps94
  go_wp2_with fail
  refine HW.out.mono ?_
  rintro e w1 ⟨rfl, rfl⟩
  go_wp2_with fail
  go_ret2
  exact ⟨rfl, rfl⟩
theorem list_err (P : Value) (w : World) (E : Int) (b1 : (E != 0) = true) (h : Calls Tryz.prog 77 #[P] w fun e w' => e = .returned (.int .i64 E) ∧ w = w') : Calls Tryz.prog 43 #[P] w fun e w' => e = .returned (.slice none 0 0) ∧ w = w' := by
  have HW := Lib.hid h
  clear h
  go_enter Tryz.func43, Tryz.ntmps43
  go_wp2_with fail
  refine HW.out.mono ?_
  rintro e w1 ⟨rfl, rfl⟩
  go_wp2_with fail
  go_ret
  exact ⟨rfl, rfl⟩
theorem used_err (P : Value) (w : World) (E : Int) (b1 : (E != 0) = true) (h : Calls Tryz.prog 77 #[P] w fun e w' => e = .returned (.int .i64 E) ∧ w = w') : Calls Tryz.prog 42 #[P] w fun e w' => e = .returned (.int .i64 0) ∧ w = w' := by
  have HW := Lib.hid h
  clear h
  go_enter Tryz.func42, Tryz.ntmps42
  go_wp2_with fail
  refine HW.out.mono ?_
  rintro e w1 ⟨rfl, rfl⟩
  go_wp2_with fail
  go_ret
  exact ⟨rfl, rfl⟩
theorem setRoom_err (P : Value) (x : Int) (w : World) (E : Int) (b1 : (E != 0) = true) (h : Calls Tryz.prog 77 #[P] w fun e w' => e = .returned (.int .i64 E) ∧ w = w') : Calls Tryz.prog 41 #[P, .int .i64 x] w fun e w' => e = .returned (.int .i64 E) ∧ w = w' := by
  have HW := Lib.hid h
  clear h
  go_enter Tryz.func41, Tryz.ntmps41
  go_wp2_with fail
  refine HW.out.mono ?_
  rintro e w1 ⟨rfl, rfl⟩
  go_wp2_with fail
  go_ret
  exact ⟨rfl, rfl⟩
theorem arm_err (P : Value) (x : Int) (w : World) (E : Int) (b1 : (E != 0) = true) (h : Calls Tryz.prog 77 #[P] w fun e w' => e = .returned (.int .i64 E) ∧ w = w') : Calls Tryz.prog 25 #[P, .int .i64 x] w fun e w' => e = .returned (.int .i64 E) ∧ w = w' := by
  have HW := Lib.hid h
  clear h
  go_enter Tryz.func25, Tryz.ntmps25
  go_wp2_with fail
  refine HW.out.mono ?_
  rintro e w1 ⟨rfl, rfl⟩
  go_wp2_with fail
  go_ret
  exact ⟨rfl, rfl⟩
end Go.Proofs.YtljacdbdjacbkaaGreatDoor
