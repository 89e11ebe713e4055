/- Contracts and facts, several texts in one. It proves no statement. -/
import Derived.Test.YtblgphfdicffcaaGreatDoorHfh
import Derived.Test.YtblgphfdicffcaaGreatDoorHfc
import Derived.Test.YtblgphfdicffcaaGreatDoorHfb
import Derived.Test.YtblgphfdicffcaaGreatDoorHfd
import Derived.Test.YtblgphfdicffcaaGreatDoorHfa
import Derived.Deep.Upon
import Derived.Test.YtblgphfdicffcaaGreatDoorHff

/- A medium's calls, where nothing stands against them: Sync, SyncDir, All. It proves no statement. -/

namespace Go.Proofs.YtblgphfdicffcaaGreatDoor
open Go.RowKit Go.Maps Go.WideMaps Go.Sort
set_option linter.unusedVariables false
set_option linter.unusedSimpArgs false

/-- A file whose bytes are fast. -/
def Fi.synced (F : Fi) : Fi := ⟨F.now, F.now, []⟩
theorem Fi.len {F : Fi} (h : F.ok) : F.now.length ≤ 16777216 := by rw [h.1]; exact h.2.len
theorem Fi.synced_ok {F : Fi} (h : F.ok) : F.synced.ok := ⟨rfl, ChOK.nil (Fi.len h)⟩
set_option maxHeartbeats 800000 in
theorem sync_I {w : World} {base g : Nat} {own : Own} {M : Me} (s : ByteArray) (gf : Nat) (F : Fi) (h : MedI w base own g M) (hok : M.ok) (hoff : M.off = false) (hl0 : M.left ≠ 0) (hs : s.size ≤ maxLen) (hlk : nFind M.now s.data.toList = some gf) (hF : M.fs gf = some F) :
    Calls Tryz.prog 101 #[.pointer (some ⟨g, 0, none⟩), .string s] w fun e w' => e = .returned (.int .i64 0) ∧ Chg w w' (fun b => own b ≠ none) ∧ ∃ own' : Own, (∀ b, b < w.heap.size → own' b = own b) ∧ MedI w' base own' g (M.wrote gf F.synced) := by
  obtain ⟨hdir, hfi, hdom, hlow, hnog⟩ := h
  obtain ⟨bn, bf, wv, ns, nn, nf, d1, d2, d3, d4, d5, d6, d7, d8, d9, d10, d11, d12⟩ := hdir
  obtain ⟨q1, q2, q3, nv, fv, wtv, cs, f1, f2, f3, f4, f5, f6, f7, f8, f9⟩ := hfi gf F hF
  have hgg : gf ≠ g := fun e => by rw [e, hnog] at hF; cases hF
  have hgl := Blk.lt f1
  obtain ⟨Aw, cw, rfl⟩ := own_formV f4
  rw [hoff] at d1
  have key : ∀ b k, own b = some (gf, k) → b ≠ g := fun b k hb e => by rw [e, d9] at hb; simp at hb; exact hgg hb.1.symm
  refine (sync_ok d1 hok.left.2 hl0 s hs nn (nmD M.now) d2 gf F.wait.length cw Aw nv fv (look_found hlk) f1 hgg (fun W w' => ∃ fv', FileB w' gf nv fv' (.slice none 0 0) ∧ w'.ownsRow base 5 1 fv' F.now.length (bytesV F.now) ∧ Chg W w' (fun b => b = gf ∨ fv.ownBlock = some b) ∧ (fv'.ownBlock = fv.ownBlock ∨ ∃ j, fv'.ownBlock = some j ∧ W.heap.size ≤ j)) ?_).mono ?_
  · intro W c
    have hs := fsettle_all (w := W) gf nv fv (.slice Aw F.wait.length cw) base F.wait.length F.wait.length F.fast F.wait cs (fun j b => own b = some (gf, 4 + j)) (c.blk f1 hgg) (c.own f4 (fun b hb => key b 3 (f9 b hb))) (f5.keep c (fun j b hb => key b _ hb)) rfl (c.own f3 (fun b hb => key b 2 (f8 b hb))) (fun b hb i e => by rw [f8 b hb] at e; simp at e; omega) (fun i e => by rw [f6] at e; simp at e; omega) (Nat.le_trans hlow c.size) (Nat.le_refl _) q3 q2.2
    rw [List.take_length, ← q2.1] at hs
    exact hs
  · rintro e w' ⟨he, W, m1, c1, fv', fb, r1, c2, l1⟩
    have ch : Chg w w' (fun b => b = g ∨ b = gf ∨ fv.ownBlock = some b) := (c1.mono (fun b _ h => .inl h)).trans c2 (fun b _ h => .inr h)
    have hgs : ∀ b, (b = g ∨ b = gf ∨ fv.ownBlock = some b) → b = g ∨ ∃ k, own b = some (gf, k) ∧ (k = 0 ∨ k = 2) := by
      rintro b (h | h | h)
      · exact .inl h
      · exact .inr ⟨0, by rw [h]; exact f6, .inl rfl⟩
      · exact .inr ⟨2, f8 b h, .inr rfl⟩
    have hg2 : ∀ b k, own b = some (g, k) → ¬ (b = gf ∨ fv.ownBlock = some b) := by
      rintro b k hb (h | h)
      · rw [h, f6] at hb; simp at hb; exact hgg hb.1
      · rw [f8 b h] at hb; simp at hb; exact hgg hb.1
    obtain ⟨own', ho⟩ : ∃ own' : Own, own' = fun b => if w.heap.size ≤ b ∧ fv'.ownBlock = some b then some (gf, 2) else own b := ⟨_, rfl⟩
    have hold : ∀ b, b < w.heap.size → own' b = own b := by
      intro b hb
      rw [ho]
      show (if _ then _ else own b) = _
      rw [if_neg (fun e => by omega)]
    have hfv : ∀ b, fv'.ownBlock = some b → own' b = some (gf, 2) := by
      intro b hb
      rcases l1 with h | ⟨j, h, hj⟩
      · rw [h] at hb
        rw [hold b (f3.lt b hb).2]
        exact f8 b hb
      · have e : j = b := by rw [h] at hb; injection hb
        subst e
        rw [ho]
        show (if _ then _ else _) = _
        rw [if_pos ⟨Nat.le_trans c1.size hj, h⟩]
    have hdm : ∀ b, own' b ≠ none → base ≤ b ∧ b < w'.heap.size := by
      intro b hb
      rw [ho] at hb
      change (if _ then _ else own b) ≠ none at hb
      split at hb
      · rename_i e; exact r1.lt b e.2
      · have := hdom b hb; have := ch.size; omega
    clear ho
    refine ⟨he, ch.mono (fun b _ hb => by rcases hgs b hb with h | ⟨k, h, _⟩; rw [h, d9]; simp; rw [h]; simp), own', hold, ⟨?_, ?_, hdm, Nat.le_trans hlow ch.size, ?_⟩⟩
    · have hg' : ∀ b k, own b = some (g, k) → b ≠ g → ¬ (b = g ∨ b = gf ∨ fv.ownBlock = some b) := by
        rintro b k hb hne (h | h)
        · exact hne h
        · exact hg2 b k hb h
      have m2 : MedB w' g M.room bn bf wv (stepL M.left) M.off := by
        rw [hoff]
        exact c2.blk m1 (hg2 g 0 d9)
      refine ⟨bn, bf, wv, ns, nn, nf, m2, ch.nm d2 (hg' bn 1 d10 (nm_ne d2 d1)), ch.nm d3 (hg' bf 2 d11 (nm_ne d3 d1)), by show nn ≤ M.cnt + 1; omega, by show nf + M.wait.length ≤ M.cnt + 1; omega, ch.own d6 (fun b hb => hg' b 3 (d12 b hb) (fun e => own_neM d1 d6 (by decide) (by rw [hb, e]))), d7, by show M.wait.length ≤ M.cnt + 1; omega, by rw [hold g (Blk.lt d1)]; exact d9, by rw [hold bn d2.lt]; exact d10, by rw [hold bf d3.lt]; exact d11, fun b hb => by rw [hold b (d6.lt b hb).2]; exact d12 b hb⟩
    · refine hfi.turn ch gf ?_ hold _ ⟨q1, Fi.synced_ok q2, by show 0 ≤ 1000000; omega, ?_⟩
      · intro b y k hs hy hfs e
        rcases hgs b hs with h | ⟨q, hq, _⟩
        · rw [h, d9] at e; simp at e; rw [← e.1] at hfs; exact hfs hnog
        · rw [hq] at e; simp at e; exact hy e.1.symm
      · refine ⟨nv, fv', .slice none 0 0, [], fb, ch.own f2 (fun b hb hs => ?_), r1, World.ownsRow_nil _ _ _ _, HasC.nil _ _ _, by rw [hold gf hgl]; exact f6, fun b hb => by rw [hold b (f2.lt b hb).2]; exact f7 b hb, hfv, fun b hb => by simp [Value.ownBlock] at hb⟩
        rcases hgs b hs with h | ⟨q, hq, hq2⟩
        · exact key b 1 (f7 b hb) h
        · rw [f7 b hb] at hq; simp at hq; omega
    · show upd M.fs gf _ g = none
      rw [upd_other _ _ (fun e => hgg e.symm)]
      exact hnog
def Me.syncedDir (M : Me) : Me := { M with left := stepL M.left, fast := M.now, wait := [] }
theorem Me.syncedDir_ok {M : Me} (h : M.ok) (h0 : M.left ≠ 0) : M.syncedDir.ok where
  rn := h.rn
  rf := h.rn
  ff := fun p hp => by
    have hp' : p ∈ M.now := hp
    rw [h.eq] at hp'
    exact steps_files h.ff h.fw p hp'
  fw := fun x hx => by cases hx
  eq := rfl
  room := h.room
  left := stepL_ok h.left h0
  len := by
    have h1 := steps_length M.fast M.wait
    have h2 := h.len
    show M.now.length + 0 ≤ M.cnt
    rw [h.eq]
    omega
theorem syncDir_I {w : World} {base g : Nat} {own : Own} {M : Me} (h : MedI w base own g M) (hok : M.ok) (hoff : M.off = false) (hl0 : M.left ≠ 0) (hcnt : M.cnt ≤ 1000000) :
    Calls Tryz.prog 85 #[.pointer (some ⟨g, 0, none⟩)] w fun e w' => e = .returned (.int .i64 0) ∧ Chg w w' (fun b => own b ≠ none) ∧ MedI w' base own g M.syncedDir := by
  obtain ⟨hdir, hfi, hdom, hlow, hnog⟩ := h
  obtain ⟨bn, bf, wv, ns, nn, nf, d1, d2, d3, d4, d5, d6, d7, d8, d9, d10, d11, d12⟩ := hdir
  obtain ⟨Aw, cw, rfl⟩ := own_formV d6
  rw [hoff] at d1
  have hfg : bf ≠ g := nm_ne d3 d1
  have hbg : bn ≠ g := nm_ne d2 d1
  have hbb : bn ≠ bf := fun e => by rw [e, d11] at d10; simp at d10
  refine (syncDir_ok M.wait.length cw Aw d1 hok.left.2 hl0 (fun W w' => MedB w' g M.room bn bf (.slice none 0 0) (stepR M.left false).1 false ∧ NM w' bf (nf + M.wait.length) (nmD M.now) ∧ Chg W w' (fun b => b = g ∨ b = bf)) ?_).mono ?_
  · intro W m c
    have hs := msettle_all (w := W) base M.wait.length nf M.wait ns M.fast m (c.own d6 (fun b hb e => own_neM d1 d6 (by decide) (by rw [hb, e]))) d7 (c.nm d3 hfg) (by omega) (Nat.le_refl _)
    rw [List.take_length, ← hok.eq] at hs
    exact hs
  · rintro e w' ⟨he, W, m1, c1, m2, n2, c2⟩
    have ch : Chg w w' (fun b => b = g ∨ b = bf) := (c1.mono (fun b _ h => .inl h)).trans c2 (fun b _ h => h)
    have hS : ∀ b, (b = g ∨ b = bf) → ∃ k, own b = some (g, k) := by
      rintro b (rfl | rfl)
      · exact ⟨0, d9⟩
      · exact ⟨2, d11⟩
    refine ⟨he, ch.mono (fun b _ hb => by obtain ⟨k, hk⟩ := hS b hb; rw [hk]; simp), ⟨?_, ?_, fun b hb => ⟨(hdom b hb).1, Nat.lt_of_lt_of_le (hdom b hb).2 ch.size⟩, Nat.le_trans hlow ch.size, hnog⟩⟩
    · have m3 : MedB w' g M.room bn bf (.slice none 0 0) (stepL M.left) M.off := by rw [hoff]; exact m2
      exact ⟨bn, bf, .slice none 0 0, [], nn, nf + M.wait.length, m3, ch.nm d2 (by rintro (h | h); exact hbg h; exact hbb h), n2, d4, by show nf + M.wait.length + 0 ≤ M.cnt; omega, World.ownsRow_nil _ _ _ _, HasN.nil, Nat.zero_le _, d9, d10, d11, fun b hb => by simp [Value.ownBlock] at hb⟩
    · exact hfi.keep ch (fun b gf k F hs hF e => by
        obtain ⟨q, hq⟩ := hS b hs
        rw [hq] at e
        simp at e
        rw [← e.1, hnog] at hF
        cases hF)
theorem all_I {w : World} {base g : Nat} {own : Own} {M : Me} (s : ByteArray) (gf : Nat) (F : Fi) (h : MedI w base own g M) (hoff : M.off = false) (hs : s.size ≤ maxLen) (hlk : nFind M.now s.data.toList = some gf) (hF : M.fs gf = some F) :
    Calls Tryz.prog 147 #[.pointer (some ⟨g, 0, none⟩), .string s] w fun e w' => (∃ v, e = .returned (.tuple #[v, .int .i64 0]) ∧ w'.ownsRow w.heap.size 5 1 v F.now.length (bytesV F.now)) ∧ Still w w' := by
  obtain ⟨hdir, hfi, hdom, hlow, hnog⟩ := h
  obtain ⟨bn, bf, wv, ns, nn, nf, d1, d2, d3, d4, d5, d6, d7, d8, d9, d10, d11, d12⟩ := hdir
  obtain ⟨q1, q2, q3, nv, fv, wtv, cs, f1, f2, f3, f4, f5, f6, f7, f8, f9⟩ := hfi gf F hF
  rw [hoff] at d1
  have := Fi.len q2
  exact all_ok d1 s hs nn (nmD M.now) d2 gf F.now.length base nv fv wtv F.now (look_found hlk) f1 f2 (by omega)
end Go.Proofs.YtblgphfdicffcaaGreatDoor

/- Contracts: a medium's calls where works or find answers an error. It proves no statement. -/


namespace Go.Proofs.YtblgphfdicffcaaGreatDoor
open Go.RowKit Go.Maps Go.WideMaps
set_option linter.unusedVariables false
set_option linter.unusedSimpArgs false

theorem create_err (P : Value) (s : ByteArray) (w : World) (E : Int) (b1 : (E != 0) = true) (h : Calls Tryz.prog 99 #[P] w fun e w' => e = .returned (.int .i64 E) ∧ w = w') : Calls Tryz.prog 142 #[P, .string s] w fun e w' => e = .returned (.int .i64 E) ∧ w = w' := by
  have HW := Lib.hid h
  clear h
  go_enter Tryz.func142, Tryz.ntmps142
  go_wp2_with fail
  refine HW.out.mono ?_
  rintro e w1 ⟨rfl, rfl⟩
  go_wp2_with fail
  go_ret
  exact ⟨rfl, rfl⟩
theorem append_err (P : Value) (s : ByteArray) (A : Option Addr) (n c : Nat) (w : World) (E : Int) (b1 : (E != 0) = true) (h : Calls Tryz.prog 117 #[P, .string s] w fun e w' => e = .returned (.tuple #[.pointer none, .int .i64 E]) ∧ w = w') : Calls Tryz.prog 206 #[P, .string s, .slice A n c] w fun e w' => e = .returned (.int .i64 E) ∧ w = w' := by
  have HW := Lib.hid h
  clear h
  go_enter Tryz.func206, Tryz.ntmps206
  go_wp2_with fail
  refine HW.out.mono ?_
  rintro e w1 ⟨rfl, rfl⟩
  go_wp2_with fail
  go_ret
  exact ⟨rfl, rfl⟩
theorem rename_err (P : Value) (s t : ByteArray) (w : World) (E : Int) (b1 : (E != 0) = true) (h : Calls Tryz.prog 117 #[P, .string s] w fun e w' => e = .returned (.tuple #[.pointer none, .int .i64 E]) ∧ w = w') : Calls Tryz.prog 144 #[P, .string s, .string t] w fun e w' => e = .returned (.int .i64 E) ∧ w = w' := by
  have HW := Lib.hid h
  clear h
  go_enter Tryz.func144, Tryz.ntmps144
  go_wp2_with fail
  refine HW.out.mono ?_
  rintro e w1 ⟨rfl, rfl⟩
  go_wp2_with fail
  go_ret
  exact ⟨rfl, rfl⟩
theorem remove_err (P : Value) (s : ByteArray) (w : World) (E : Int) (b1 : (E != 0) = true) (h : Calls Tryz.prog 117 #[P, .string s] w fun e w' => e = .returned (.tuple #[.pointer none, .int .i64 E]) ∧ w = w') : Calls Tryz.prog 141 #[P, .string s] w fun e w' => e = .returned (.int .i64 E) ∧ w = w' := by
  have HW := Lib.hid h
  clear h
  go_enter Tryz.func141, Tryz.ntmps141
  go_wp2_with fail
  refine HW.out.mono ?_
  rintro e w1 ⟨rfl, rfl⟩
  go_wp2_with fail
  go_ret
  exact ⟨rfl, rfl⟩
theorem sync_err (P : Value) (s : ByteArray) (w : World) (E : Int) (b1 : (E != 0) = true) (h : Calls Tryz.prog 117 #[P, .string s] w fun e w' => e = .returned (.tuple #[.pointer none, .int .i64 E]) ∧ w = w') : Calls Tryz.prog 101 #[P, .string s] w fun e w' => e = .returned (.int .i64 E) ∧ w = w' := by
  have HW := Lib.hid h
  clear h
  go_enter Tryz.func101, Tryz.ntmps101
  go_wp2_with fail
  refine HW.out.mono ?_
  rintro e w1 ⟨rfl, rfl⟩
  go_wp2_with fail
  go_ret
  exact ⟨rfl, rfl⟩
theorem syncDir_err (P : Value) (w : World) (E : Int) (b1 : (E != 0) = true) (h : Calls Tryz.prog 99 #[P] w fun e w' => e = .returned (.int .i64 E) ∧ w = w') : Calls Tryz.prog 85 #[P] w fun e w' => e = .returned (.int .i64 E) ∧ w = w' := by
  have HW := Lib.hid h
  clear h
  go_enter Tryz.func85, Tryz.ntmps85
  go_wp2_with fail
  refine HW.out.mono ?_
  rintro e w1 ⟨rfl, rfl⟩
  go_wp2_with fail
  go_ret
  exact ⟨rfl, rfl⟩
theorem read_err (P : Value) (s : ByteArray) (x y : Int) (w : World) (E : Int) (b1 : (E != 0) = true) (h : Calls Tryz.prog 117 #[P, .string s] w fun e w' => e = .returned (.tuple #[.pointer none, .int .i64 E]) ∧ w = w') : Calls Tryz.prog 60 #[P, .string s, .int .i64 x, .int .i64 y] w fun e w' => e = .returned (.tuple #[.slice none 0 0, .int .i64 E]) ∧ w = w' := by
  have HW := Lib.hid h
  clear h
  go_enter Tryz.func60, Tryz.ntmps60
  go_wp2_with fail
  refine HW.out.mono ?_
  rintro e w1 ⟨rfl, rfl⟩
  go_wp2_with fail
  go_ret2
  exact ⟨rfl, rfl⟩
theorem all_err (P : Value) (s : ByteArray) (w : World) (E : Int) (b1 : (E != 0) = true) (h : Calls Tryz.prog 117 #[P, .string s] w fun e w' => e = .returned (.tuple #[.pointer none, .int .i64 E]) ∧ w = w') : Calls Tryz.prog 147 #[P, .string s] w fun e w' => e = .returned (.tuple #[.slice none 0 0, .int .i64 E]) ∧ w = w' := by
  have HW := Lib.hid h
  clear h
  go_enter Tryz.func147, Tryz.ntmps147
  go_wp2_with fail
  refine HW.out.mono ?_
  rintro e w1 ⟨rfl, rfl⟩
  go_wp2_with fail
  go_ret2
  exact ⟨rfl, rfl⟩
theorem list_err (P : Value) (w : World) (E : Int) (b1 : (E != 0) = true) (h : Calls Tryz.prog 99 #[P] w fun e w' => e = .returned (.int .i64 E) ∧ w = w') : Calls Tryz.prog 68 #[P] w fun e w' => e = .returned (.slice none 0 0) ∧ w = w' := by
  have HW := Lib.hid h
  clear h
  go_enter Tryz.func68, Tryz.ntmps68
  go_wp2_with fail
  refine HW.out.mono ?_
  rintro e w1 ⟨rfl, rfl⟩
  go_wp2_with fail
  go_ret
  exact ⟨rfl, rfl⟩
theorem used_err (P : Value) (w : World) (E : Int) (b1 : (E != 0) = true) (h : Calls Tryz.prog 99 #[P] w fun e w' => e = .returned (.int .i64 E) ∧ w = w') : Calls Tryz.prog 251 #[P] w fun e w' => e = .returned (.int .i64 0) ∧ w = w' := by
  have HW := Lib.hid h
  clear h
  go_enter Tryz.func251, Tryz.ntmps251
  go_wp2_with fail
  refine HW.out.mono ?_
  rintro e w1 ⟨rfl, rfl⟩
  go_wp2_with fail
  go_ret
  exact ⟨rfl, rfl⟩
theorem arm_err (P : Value) (x : Int) (w : World) (E : Int) (b1 : (E != 0) = true) (h : Calls Tryz.prog 99 #[P] w fun e w' => e = .returned (.int .i64 E) ∧ w = w') : Calls Tryz.prog 41 #[P, .int .i64 x] w fun e w' => e = .returned (.int .i64 E) ∧ w = w' := by
  have HW := Lib.hid h
  clear h
  go_enter Tryz.func41, Tryz.ntmps41
  go_wp2_with fail
  refine HW.out.mono ?_
  rintro e w1 ⟨rfl, rfl⟩
  go_wp2_with fail
  go_ret
  exact ⟨rfl, rfl⟩
end Go.Proofs.YtblgphfdicffcaaGreatDoor

/- Contracts: a medium's calls where their own errors stand against them; Arm, SetRoom, Power, Room, Read. It proves no statement. -/





namespace Go.Proofs.YtblgphfdicffcaaGreatDoor
open Go.RowKit Go.Maps Go.WideMaps
set_option linter.unusedVariables false
set_option linter.unusedSimpArgs false

theorem works_on {w : World} {g : Nat} {room : Int} {bn bf : Nat} {wv : Value} {left : Int} (h : MedB w g room bn bf wv left false) : Calls Tryz.prog 99 #[.pointer (some ⟨g, 0, none⟩)] w fun e w' => e = .returned (.int .i64 0) ∧ w = w' := works_yes h
theorem works_off {w : World} {g : Nat} {room : Int} {bn bf : Nat} {wv : Value} {left : Int} (h : MedB w g room bn bf wv left true) : Calls Tryz.prog 99 #[.pointer (some ⟨g, 0, none⟩)] w fun e w' => e = .returned (.int .i64 12) ∧ w = w' := works_yes h
theorem find_off {w : World} {g : Nat} {room : Int} {bn bf : Nat} {wv : Value} {left : Int} (h : MedB w g room bn bf wv left true) (s : ByteArray) (n : Nat) (D : DataW Unit) (hown : NM w bn n D) (hs : s.size ≤ maxLen) : Calls Tryz.prog 117 #[.pointer (some ⟨g, 0, none⟩), .string s] w fun e w' => e = .returned (.tuple #[.pointer none, .int .i64 12]) ∧ w = w' := find_yes h s n D hown hs
theorem find_none {w : World} {g : Nat} {room : Int} {bn bf : Nat} {wv : Value} {left : Int} (h : MedB w g room bn bf wv left false) (s : ByteArray) (n : Nat) (D : DataW Unit) (hown : NM w bn n D) (hs : s.size ≤ maxLen) (hlk : look D s = -1) : Calls Tryz.prog 117 #[.pointer (some ⟨g, 0, none⟩), .string s] w fun e w' => e = .returned (.tuple #[.pointer none, .int .i64 9]) ∧ w = w' := by
  have FD := find_yes h s n D hown hs
  rw [hlk] at FD
  exact FD
theorem find_there {w : World} {g : Nat} {room : Int} {bn bf : Nat} {wv : Value} {left : Int} (h : MedB w g room bn bf wv left false) (s : ByteArray) (n : Nat) (D : DataW Unit) (hown : NM w bn n D) (hs : s.size ≤ maxLen) (gf : Nat) (hlk : look D s = (gf : Int)) : Calls Tryz.prog 117 #[.pointer (some ⟨g, 0, none⟩), .string s] w fun e w' => e = .returned (.tuple #[.pointer (some ⟨gf, 0, none⟩), .int .i64 0]) ∧ w = w' := by
  have FD := find_yes h s n D hown hs
  rw [hlk, show findV false (gf : Int) = pv (gf : Int) from rfl, pv_at, show findE false (gf : Int) = if (gf : Int) < 0 then 9 else 0 from rfl, if_neg (by omega)] at FD
  exact FD
def roomOK (x : Int) : Bool := decide (0 ≤ x ∧ x ≤ 16777216)
theorem rename_bad (P fv : Value) (s t : ByteArray) (ht : t.size ≤ 9223372036854775807) (hn : nmOK t.data.toList = false) (w : World) (h : Calls Tryz.prog 117 #[P, .string s] w fun e w' => e = .returned (.tuple #[fv, .int .i64 0]) ∧ w = w') : Calls Tryz.prog 144 #[P, .string s, .string t] w fun e w' => e = .returned (.int .i64 7) ∧ w = w' := by
  have HW := Lib.hid h
  have IN := Lib.hid (isName_any t ht w)
  rw [hn] at IN
  clear h ht hn
  go_enter Tryz.func144, Tryz.ntmps144
  go_wp2_with fail
  refine HW.out.mono ?_
  rintro e w1 ⟨rfl, rfl⟩
  go_wp2_with fail
  refine IN.out.mono ?_
  rintro e w1 ⟨rfl, rfl⟩
  go_wp2_with fail
  go_ret
  exact ⟨rfl, rfl⟩
theorem create_bad (P : Value) (s : ByteArray) (hs : s.size ≤ 9223372036854775807) (hn : nmOK s.data.toList = false) (w : World) (h : Calls Tryz.prog 99 #[P] w fun e w' => e = .returned (.int .i64 0) ∧ w = w') : Calls Tryz.prog 142 #[P, .string s] w fun e w' => e = .returned (.int .i64 7) ∧ w = w' := by
  have HW := Lib.hid h
  have IN := Lib.hid (isName_any s hs w)
  rw [hn] at IN
  clear h hs hn
  go_enter Tryz.func142, Tryz.ntmps142
  go_wp2_with fail
  refine HW.out.mono ?_
  rintro e w1 ⟨rfl, rfl⟩
  go_wp2_with fail
  refine IN.out.mono ?_
  rintro e w1 ⟨rfl, rfl⟩
  go_wp2_with fail
  go_ret
  exact ⟨rfl, rfl⟩
theorem create_there {w : World} {g : Nat} {room : Int} {bn bf : Nat} {wv : Value} {left : Int} (h : MedB w g room bn bf wv left false) (s : ByteArray) (n : Nat) (D : DataW Unit) (hown : NM w bn n D) (hs : s.size ≤ maxLen) (hnm : nmOK s.data.toList = true) (gf : Nat) (hlook : look D s = (gf : Int)) :
    Calls Tryz.prog 142 #[.pointer (some ⟨g, 0, none⟩), .string s] w fun e w' => e = .returned (.int .i64 10) ∧ w = w' := by
  have WK := Lib.hid (works_on h)
  have IN := Lib.hid (isName_any s hs w)
  rw [hnm] at IN
  have c1 : w.cell? ⟨g, 1, none⟩ = some (.map (some bn)) := Blk.cell h 1
  have HS := Lib.hid hs
  have HL := Lib.hid hlook
  have HO := Lib.hid hown
  clear h hown hs hnm hlook
  go_enter Tryz.func142, Tryz.ntmps142
  go_wp2_with fail
  refine WK.out.mono ?_
  rintro e w2 ⟨rfl, rfl⟩
  go_wp2_with fail
  refine IN.out.mono ?_
  rintro e w2 ⟨rfl, rfl⟩
  go_wp2_with (at_lookup; go_must (refine wpList_look rfl (.tmp 20) (.tmp 21) rfl bn n D rfl HO.out s rfl HS.out ?_; intro f hf hlk; rw [HL.out] at hlk; subst hlk; rw [pv_at]; clear hf))
  go_ret
  exact ⟨rfl, rfl⟩
theorem create_many {w : World} {g : Nat} {room : Int} {bn bf : Nat} {wv : Value} {left : Int} (h : MedB w g room bn bf wv left false) (s : ByteArray) (n : Nat) (D : DataW Unit) (hown : NM w bn n D) (hs : s.size ≤ maxLen) (hnm : nmOK s.data.toList = true) (hlook : look D s = -1) (hsz : 500 ≤ Maps.size D) :
    Calls Tryz.prog 142 #[.pointer (some ⟨g, 0, none⟩), .string s] w fun e w' => e = .returned (.int .i64 16) ∧ w = w' := by
  have WK := Lib.hid (works_on h)
  have IN := Lib.hid (isName_any s hs w)
  rw [hnm] at IN
  have c1 : w.cell? ⟨g, 1, none⟩ = some (.map (some bn)) := Blk.cell h 1
  have HS := Lib.hid hs
  have HL := Lib.hid hlook
  have HO := Lib.hid hown
  have hsz2 : 500 ≤ (Maps.size D : Int) := by omega
  clear h hown hs hnm hlook hsz
  go_enter Tryz.func142, Tryz.ntmps142
  go_wp2_with fail
  refine WK.out.mono ?_
  rintro e w2 ⟨rfl, rfl⟩
  go_wp2_with fail
  refine IN.out.mono ?_
  rintro e w2 ⟨rfl, rfl⟩
  go_wp2_with (first
    | (at_lookup; go_must (refine wpList_look rfl (.tmp 20) (.tmp 21) rfl bn n D rfl HO.out s rfl HS.out ?_; intro f hf hlk; rw [HL.out] at hlk; subst hlk; rw [pv_nil]))
    | (at_len; go_must (refine wpList_len_own _ rfl _ 133 rfl 9 153 underNames ptrElem bn n D rfl HO.out ?_)))
  go_ret
  exact ⟨rfl, rfl⟩
theorem arm_arg {P : Value} {w : World} (x : Int) (hx : x < 0) (h : Calls Tryz.prog 99 #[P] w fun e w' => e = .returned (.int .i64 0) ∧ w = w') :
    Calls Tryz.prog 41 #[P, .int .i64 x] w fun e w' => e = .returned (.int .i64 2) ∧ w = w' := by
  have HW := Lib.hid h
  clear h
  go_enter Tryz.func41, Tryz.ntmps41
  go_wp2_with fail
  refine HW.out.mono ?_
  rintro e w1 ⟨rfl, rfl⟩
  go_wp2_with fail
  go_ret
  exact ⟨rfl, rfl⟩
theorem arm_ok {w : World} {g : Nat} {room : Int} {bn bf : Nat} {wv : Value} {left : Int} (h : MedB w g room bn bf wv left false) (x : Int) (hx : 0 ≤ x) :
    Calls Tryz.prog 41 #[.pointer (some ⟨g, 0, none⟩), .int .i64 x] w fun e w' => e = .returned (.int .i64 0) ∧ MedB w' g room bn bf wv x false ∧ w.grownBy w' (some g) := by
  have HW := Lib.hid (works_on h)
  have c4 : w.cell? ⟨g, 4, none⟩ = some (.int .i64 left) := Blk.cell h 4
  have f4 := Blk.frozen h 4
  have M := Lib.hid (show MedB (w.setCell ⟨g, 4, none⟩ (.int .i64 x)) g room bn bf wv x false from Blk.setc h 4 _)
  clear h
  go_enter Tryz.func41, Tryz.ntmps41
  go_wp2_with fail
  refine HW.out.mono ?_
  rintro e w1 ⟨rfl, rfl⟩
  go_wp2_with fail
  go_ret
  exact ⟨rfl, M.out, grownBy_set _ _ _ _⟩
theorem read_arg {P : Value} {w : World} (s : ByteArray) (x y : Int) (v : Value) (h : Calls Tryz.prog 117 #[P, .string s] w fun e w' => e = .returned (.tuple #[v, .int .i64 0]) ∧ w = w') (hx : x < 0 ∨ y < 0) :
    Calls Tryz.prog 60 #[P, .string s, .int .i64 x, .int .i64 y] w fun e w' => e = .returned (.tuple #[.slice none 0 0, .int .i64 2]) ∧ w = w' := by
  have HW := Lib.hid h
  clear h
  by_cases h0 : x < 0
  · clear hx
    go_enter Tryz.func60, Tryz.ntmps60
    go_wp2_with fail
    refine HW.out.mono ?_
    rintro e w1 ⟨rfl, rfl⟩
    go_wp2_with fail
    go_ret2
    exact ⟨rfl, rfl⟩
  · have h1 : y < 0 := by omega
    clear hx
    go_enter Tryz.func60, Tryz.ntmps60
    go_wp2_with fail
    refine HW.out.mono ?_
    rintro e w1 ⟨rfl, rfl⟩
    go_wp2_with fail
    go_ret2
    exact ⟨rfl, rfl⟩
theorem read_short {P : Value} {w : World} (s : ByteArray) (x y : Int) (gf nf c : Nat) (A : Option Addr) (b d : Value) (h : Calls Tryz.prog 117 #[P, .string s] w fun e w' => e = .returned (.tuple #[.pointer (some ⟨gf, 0, none⟩), .int .i64 0]) ∧ w = w') (hf : FileB w gf (.slice A nf c) b d) (hn : nf ≤ 16777216) (hx : 0 ≤ x) (hx2 : x ≤ 9223372036854775807) (hy : 0 ≤ y) (hxy : (nf : Int) - x < y) :
    Calls Tryz.prog 60 #[P, .string s, .int .i64 x, .int .i64 y] w fun e w' => e = .returned (.tuple #[.slice none 0 0, .int .i64 3]) ∧ w = w' := by
  have HW := Lib.hid h
  have c0 : w.cell? ⟨gf, 0, none⟩ = some (.slice A nf c) := Blk.cell hf 0
  have h1 : ¬ x < 0 := by omega
  have h2 : ¬ y < 0 := by omega
  clear h hf
  go_enter Tryz.func60, Tryz.ntmps60
  go_wp2_with fail
  refine HW.out.mono ?_
  rintro e w1 ⟨rfl, rfl⟩
  go_wp2_with fail
  go_ret2
  exact ⟨rfl, rfl⟩
end Go.Proofs.YtblgphfdicffcaaGreatDoor

/- Contracts: a medium's steps at which the power goes off; Rename and Remove where nothing stands against them; Read. It proves no statement. -/



namespace Go.Proofs.YtblgphfdicffcaaGreatDoor
open Go.RowKit Go.Maps Go.WideMaps
set_option linter.unusedVariables false
set_option linter.unusedSimpArgs false

theorem stepR_zero (off : Bool) : stepR 0 off = (0, true, 12) := by unfold stepR; rw [if_pos rfl]
theorem name_dead {w : World} {g : Nat} {room : Int} {bn bf : Nat} {wv : Value} {off : Bool} (h : MedB w g room bn bf wv 0 off) (s t : ByteArray) (f : Int) :
    Calls Tryz.prog 204 #[.pointer (some ⟨g, 0, none⟩), .agg #[.string s, .string t, pv f]] w fun e w' => e = .returned (.int .i64 12) ∧ MedB w' g room bn bf wv 0 true ∧ Chg w w' (fun x => x = g) := by
  obtain ⟨w1, hw1⟩ : ∃ w1, w1 = w.alloc (.cells #[.string s, .string t, pv f] 214) := ⟨_, rfl⟩
  have S1 : Still w w1 := by rw [hw1]; exact (Still.refl w).alloc (Nat.le_refl _) _
  have ST := Lib.hid (step_yes (h.still S1) (by omega))
  rw [stepR_zero] at ST
  have HW1 := Lib.hid hw1
  have C1 := Lib.hid (Chg.of_still S1 (fun x => x = g))
  obtain ⟨p, hp⟩ : ∃ p, p = pa f := ⟨_, rfl⟩
  have hpv : pv f = .pointer p := by rw [hp]; rfl
  rw [hpv] at HW1 ⊢
  clear h hw1 S1 hp hpv
  go_enter Tryz.func204, Tryz.ntmps204
  go_wp2_with fail
  rw [← HW1.out]
  refine ST.out.mono ?_
  rintro e w2 ⟨rfl, m2, gr2⟩
  have M2 := Lib.hid m2
  have C2 := Lib.hid (C1.out.trans (Chg.of_grown (S := fun x => x = g) gr2 (fun k e _ => by injection e with e; exact e.symm)) (fun _ _ h => h))
  clear ST m2 gr2
  go_wp2_with fail
  go_ret
  exact ⟨rfl, M2.out, C2.out⟩
theorem write_dead {w : World} {g : Nat} {room : Int} {bn bf : Nat} {wv : Value} {off : Bool} (h : MedB w g room bn bf wv 0 off) (gf en m c : Nat) (A : Option Addr) :
    Calls Tryz.prog 252 #[.pointer (some ⟨g, 0, none⟩), .pointer (some ⟨gf, 0, none⟩), .agg #[.int .i64 en, .slice A m c]] w fun e w' => e = .returned (.int .i64 12) ∧ MedB w' g room bn bf wv 0 true ∧ Chg w w' (fun x => x = g) := by
  obtain ⟨w1, hw1⟩ : ∃ w1, w1 = w.alloc (.cells #[.int .i64 en, .slice A m c] 218) := ⟨_, rfl⟩
  have S1 : Still w w1 := by rw [hw1]; exact (Still.refl w).alloc (Nat.le_refl _) _
  have ST := Lib.hid (step_yes (h.still S1) (by omega))
  rw [stepR_zero] at ST
  have HW1 := Lib.hid hw1
  have C1 := Lib.hid (Chg.of_still S1 (fun x => x = g))
  clear h hw1 S1
  go_enter Tryz.func252, Tryz.ntmps252
  go_wp2_with fail
  rw [← HW1.out]
  refine ST.out.mono ?_
  rintro e w2 ⟨rfl, m2, gr2⟩
  have M2 := Lib.hid m2
  have C2 := Lib.hid (C1.out.trans (Chg.of_grown (S := fun x => x = g) gr2 (fun k e _ => by injection e with e; exact e.symm)) (fun _ _ h => h))
  clear ST m2 gr2
  go_wp2_with fail
  go_ret
  exact ⟨rfl, M2.out, C2.out⟩
set_option maxRecDepth 100000 in
theorem create_dead {w : World} {g : Nat} {room : Int} {bn bf : Nat} {wv : Value} (h : MedB w g room bn bf wv 0 false) (s : ByteArray) (n : Nat) (D : DataW Unit) (hown : NM w bn n D) (hs : s.size ≤ maxLen) (hnm : nmOK s.data.toList = true) (hlook : look D s = -1) (hsz : Maps.size D < 500) :
    Calls Tryz.prog 142 #[.pointer (some ⟨g, 0, none⟩), .string s] w fun e w' => e = .returned (.int .i64 12) ∧ MedB w' g room bn bf wv 0 true ∧ Chg w w' (fun x => x = g) := by
  obtain ⟨gf, hgf⟩ : ∃ gf, gf = w.heap.size := ⟨_, rfl⟩
  obtain ⟨w1, hw1⟩ : ∃ w1, w1 = w.alloc (.cells #[.slice none 0 0, .slice none 0 0, .slice none 0 0] 201) := ⟨_, rfl⟩
  have S1 : Still w w1 := by rw [hw1]; exact (Still.refl w).alloc (Nat.le_refl _) _
  have C1 := Lib.hid (Chg.of_still S1 (fun x => x = g))
  have NA := Lib.hid (name_dead (h.still S1) ⟨#[]⟩ s (gf : Int))
  rw [pv_at] at NA
  have WK := Lib.hid (works_on h)
  have IN := Lib.hid (isName_any s hs w)
  rw [hnm] at IN
  have c1 : w.cell? ⟨g, 1, none⟩ = some (.map (some bn)) := Blk.cell h 1
  have HS := Lib.hid hs
  have HL := Lib.hid hlook
  have HO := Lib.hid hown
  have HW1 := Lib.hid hw1
  have HG := Lib.hid hgf
  have hsz2 : (Maps.size D : Int) < 500 := by omega
  clear h hown hs hnm hlook S1 hw1 hgf hsz
  go_enter Tryz.func142, Tryz.ntmps142
  go_wp2_with fail
  refine WK.out.mono ?_
  rintro e w2 ⟨rfl, rfl⟩
  go_wp2_with fail
  refine IN.out.mono ?_
  rintro e w2 ⟨rfl, rfl⟩
  go_wp2_with (first
    | (at_lookup; go_must (refine wpList_look rfl (.tmp 20) (.tmp 21) rfl bn n D rfl HO.out s rfl HS.out ?_; intro f hf hlk; rw [HL.out] at hlk; subst hlk; rw [pv_nil]))
    | (at_len; go_must (refine wpList_len_own _ rfl _ 133 rfl 9 153 underNames ptrElem bn n D rfl HO.out ?_)))
  rw [← HW1.out, ← HG.out]
  refine NA.out.mono ?_
  rintro e w3 ⟨rfl, m3, c3⟩
  have M3 := Lib.hid m3
  have C3 := Lib.hid (C1.out.trans c3 (fun _ _ h => h))
  clear m3 c3 NA
  go_wp2_with fail
  go_ret
  exact ⟨rfl, M3.out, C3.out⟩
theorem rename_by {w : World} {g : Nat} (gf : Nat) (s t : ByteArray) (ht : t.size ≤ 9223372036854775807) (hn : nmOK t.data.toList = true) (E : Int) (R : World → World → Prop)
    (h : Calls Tryz.prog 117 #[.pointer (some ⟨g, 0, none⟩), .string s] w fun e w' => e = .returned (.tuple #[.pointer (some ⟨gf, 0, none⟩), .int .i64 0]) ∧ w = w')
    (hN : Calls Tryz.prog 204 #[.pointer (some ⟨g, 0, none⟩), .agg #[.string s, .string t, pv (gf : Int)]] w fun e w' => e = .returned (.int .i64 E) ∧ R w w') :
    Calls Tryz.prog 144 #[.pointer (some ⟨g, 0, none⟩), .string s, .string t] w fun e w' => e = .returned (.int .i64 E) ∧ R w w' := by
  have HW := Lib.hid h
  have IN := Lib.hid (isName_any t ht w)
  rw [hn] at IN
  have NA := Lib.hid hN
  rw [pv_at] at NA
  clear h ht hn hN
  go_enter Tryz.func144, Tryz.ntmps144
  go_wp2_with fail
  refine HW.out.mono ?_
  rintro e w1 ⟨rfl, rfl⟩
  go_wp2_with fail
  refine IN.out.mono ?_
  rintro e w1 ⟨rfl, rfl⟩
  go_wp2_with fail
  refine NA.out.mono ?_
  rintro e w1 ⟨rfl, r1⟩
  have R1 := Lib.hid r1
  clear r1 NA
  go_wp2_with fail
  go_ret
  exact ⟨rfl, R1.out⟩
theorem remove_by {w : World} {g : Nat} (gf : Nat) (s : ByteArray) (E : Int) (R : World → World → Prop)
    (h : Calls Tryz.prog 117 #[.pointer (some ⟨g, 0, none⟩), .string s] w fun e w' => e = .returned (.tuple #[.pointer (some ⟨gf, 0, none⟩), .int .i64 0]) ∧ w = w')
    (hN : Calls Tryz.prog 204 #[.pointer (some ⟨g, 0, none⟩), .agg #[.string s, .string ⟨#[]⟩, pv (-1)]] w fun e w' => e = .returned (.int .i64 E) ∧ R w w') :
    Calls Tryz.prog 141 #[.pointer (some ⟨g, 0, none⟩), .string s] w fun e w' => e = .returned (.int .i64 E) ∧ R w w' := by
  have HW := Lib.hid h
  have NA := Lib.hid hN
  rw [pv_nil] at NA
  clear h hN
  go_enter Tryz.func141, Tryz.ntmps141
  go_wp2_with fail
  refine HW.out.mono ?_
  rintro e w1 ⟨rfl, rfl⟩
  go_wp2_with fail
  refine NA.out.mono ?_
  rintro e w1 ⟨rfl, r1⟩
  have R1 := Lib.hid r1
  clear r1 NA
  go_wp2_with fail
  go_ret
  exact ⟨rfl, R1.out⟩
theorem sync_dead {w : World} {g : Nat} {room : Int} {bn bf : Nat} {wv : Value} (h : MedB w g room bn bf wv 0 false) (gf : Nat) (s : ByteArray)
    (hF : Calls Tryz.prog 117 #[.pointer (some ⟨g, 0, none⟩), .string s] w fun e w' => e = .returned (.tuple #[.pointer (some ⟨gf, 0, none⟩), .int .i64 0]) ∧ w = w') :
    Calls Tryz.prog 101 #[.pointer (some ⟨g, 0, none⟩), .string s] w fun e w' => e = .returned (.int .i64 12) ∧ MedB w' g room bn bf wv 0 true ∧ Chg w w' (fun x => x = g) := by
  have FD := Lib.hid hF
  have ST := Lib.hid (step_yes h (by omega))
  rw [stepR_zero] at ST
  clear h hF
  go_enter Tryz.func101, Tryz.ntmps101
  go_wp2_with fail
  refine FD.out.mono ?_
  rintro e w2 ⟨rfl, rfl⟩
  go_wp2_with fail
  refine ST.out.mono ?_
  rintro e w3 ⟨rfl, m3, g3⟩
  have C3 := Lib.hid (show Chg w w3 (fun b => b = g) from Chg.of_grown g3 (fun k h _ => by simpa using h.symm))
  have M3 := Lib.hid m3
  clear m3 g3 ST
  go_wp2_with fail
  go_ret
  exact ⟨rfl, M3.out, C3.out⟩
theorem syncDir_dead {w : World} {g : Nat} {room : Int} {bn bf : Nat} {wv : Value} (h : MedB w g room bn bf wv 0 false) :
    Calls Tryz.prog 85 #[.pointer (some ⟨g, 0, none⟩)] w fun e w' => e = .returned (.int .i64 12) ∧ MedB w' g room bn bf wv 0 true ∧ Chg w w' (fun x => x = g) := by
  have WK := Lib.hid (works_on h)
  have ST := Lib.hid (step_yes h (by omega))
  rw [stepR_zero] at ST
  clear h
  go_enter Tryz.func85, Tryz.ntmps85
  go_wp2_with fail
  refine WK.out.mono ?_
  rintro e w2 ⟨rfl, rfl⟩
  go_wp2_with fail
  refine ST.out.mono ?_
  rintro e w3 ⟨rfl, m3, g3⟩
  have C3 := Lib.hid (show Chg w w3 (fun b => b = g) from Chg.of_grown g3 (fun k h _ => by simpa using h.symm))
  have M3 := Lib.hid m3
  clear m3 g3 ST
  go_wp2_with fail
  go_ret
  exact ⟨rfl, M3.out, C3.out⟩
theorem read_ok {w : World} {P : Value} (s : ByteArray) (base x y gf nf : Nat) (nv b d : Value) (l : List UInt8) (h : Calls Tryz.prog 117 #[P, .string s] w fun e w' => e = .returned (.tuple #[.pointer (some ⟨gf, 0, none⟩), .int .i64 0]) ∧ w = w') (hf : FileB w gf nv b d) (hnv : w.ownsRow base 5 1 nv nf (bytesV l)) (hn : nf ≤ 16777216) (hxy : x + y ≤ nf) :
    Calls Tryz.prog 60 #[P, .string s, .int .i64 x, .int .i64 y] w fun e w' => (∃ v, e = .returned (.tuple #[v, .int .i64 0]) ∧ w'.ownsRow w.heap.size 5 1 v y (bytesV ((l.drop x).take y))) ∧ Still w w' := by
  have HW := Lib.hid h
  obtain ⟨A, c, rfl, f1, f2, f3⟩ := own_form hnv
  have c0 : w.cell? ⟨gf, 0, none⟩ = some (.slice A nf c) := Blk.cell hf 0
  have R0 := (((Reads.of_own hnv).dropk (k := x) (by omega)).takek (k := y) (by omega))
  have h1 : ¬ (x : Int) < 0 := by omega
  have h2 : ¬ (y : Int) < 0 := by omega
  have h3 : ¬ ((nf : Int) - x < (y : Int)) := by omega
  have h4 : y ≤ nf := by omega
  have hxc : (x : Int) ≤ c := by omega
  have hlen : l.length = nf := (Reads.of_own hnv).1
  clear hnv
  by_cases hcx : x < c
  · rcases A with _ | ad
    · have := (f3 rfl).2; omega
    have CL := Lib.hid (bclone_any (some (ad.add x)) y (c - x) _ w w.heap.size R0 (Nat.le_refl _) (by omega) (fun e => by cases e))
    clear h hf R0 f3
    go_enter Tryz.func60, Tryz.ntmps60
    go_wp2_with fail
    refine HW.out.mono ?_
    rintro e w1 ⟨rfl, rfl⟩
    go_wp2_with fail
    refine CL.out.mono ?_
    rintro e w3 ⟨⟨v, rfl, o3⟩, s3⟩
    have O3 := Lib.hid o3
    have S3 := Lib.hid s3
    clear o3 s3 CL HW
    go_wp2_with fail
    go_ret2
    exact ⟨⟨_, rfl, O3.out⟩, S3.out⟩
  · obtain rfl : nf = c := by omega
    obtain rfl : x = nf := by omega
    obtain rfl : y = 0 := by omega
    have hl : l.length = x := by
      have := hlen
      omega
    rw [List.take_zero]
    have CL := Lib.hid (bclone_any A 0 0 [] w w.heap.size ⟨rfl, fun h => by omega⟩ (Nat.le_refl _) (by omega) (fun _ => ⟨rfl, rfl⟩))
    clear h hf R0 hcx hl
    go_enter Tryz.func60, Tryz.ntmps60
    go_wp2_with fail
    refine HW.out.mono ?_
    rintro e w1 ⟨rfl, rfl⟩
    go_wp2_with fail
    refine CL.out.mono ?_
    rintro e w3 ⟨⟨v, rfl, o3⟩, s3⟩
    have O3 := Lib.hid o3
    have S3 := Lib.hid s3
    clear o3 s3 CL HW
    go_wp2_with fail
    go_ret2
    exact ⟨⟨_, rfl, O3.out⟩, S3.out⟩
end Go.Proofs.YtblgphfdicffcaaGreatDoor
