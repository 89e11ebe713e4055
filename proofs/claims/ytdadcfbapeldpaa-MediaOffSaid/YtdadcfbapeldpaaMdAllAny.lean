/- Contract: the law's own all: all names, and their bytes. It proves no statement. -/
import Derived.Test.YtdadcfbapeldpaaMdOn
import Derived.Test.YtdadcfbapeldpaaMdGc
namespace Go.Proofs.Ytdadcfbapeldpaa
open Go.RowKit Go.Maps Go.WideMaps Go.Sort
set_option linter.unusedVariables false
set_option linter.unusedSimpArgs false

/-- A name as a text. -/
def txt (p : List UInt8 × Nat) : ByteArray := ⟨p.1.toArray⟩
theorem txt_list (p : List UInt8 × Nat) : (txt p).data.toList = p.1 := rfl
theorem txt_size (p : List UInt8 × Nat) : (txt p).size = p.1.length := by simp [txt, ByteArray.size]
def allL (M : Me) : List (List UInt8) := M.now.map fun p => (M.bytes (txt p)).1
theorem names_on {M : Me} (h : M.On) : M.names = M.now := by unfold Me.names; rw [if_neg h.no]
theorem allL_get (M : Me) (k : Nat) (p : List UInt8 × Nat) (h : M.now[k]? = some p) : (allL M).take (k + 1) = (allL M).take k ++ [(M.bytes (txt p)).1] := by
  rw [List.take_add_one]
  congr 1
  simp [allL, h]
set_option maxRecDepth 100000 in
set_option maxHeartbeats 3200000 in
theorem all_any {w : World} {base g : Nat} {own : Own} {M : Me} (h : MedI w base own g M) (hok : M.ok) (hon : M.On) (hcnt : M.cnt ≤ 1000000) :
    Calls Try.prog 7 #[.pointer (some ⟨g, 0, none⟩)] w fun e w' =>
      ∃ nv bv xs w1, e = .returned (.tuple #[nv, bv]) ∧ w'.ownsRow w.heap.size 9 1 nv M.now.length (namesV M.now) ∧ Still w w1 ∧ Grow w1 w' bv (allL M) xs := by
  have HL := Lib.hid (list_M h hok hcnt)
  rw [names_on hon] at HL
  have H := Lib.hid h
  have OK := Lib.hid hok
  have ON := Lib.hid hon
  have HN : M.now.length ≤ 1000000 := Nat.le_trans (now_length hok) hcnt
  obtain ⟨n, hn⟩ : ∃ n, n = M.now.length := ⟨_, rfl⟩
  rw [← hn] at HL HN ⊢
  have HNN := Lib.hid hn
  clear h hok hon hn
  go_enter Try.func7, Try.ntmps7
  go_wp2_with fail
  refine HL.out.mono ?_
  rintro e w1 ⟨⟨nv, rfl, on1⟩, s1⟩
  obtain ⟨An, cn, rfl, hn1, hn2, hn3⟩ := own_formB on1
  have ON1 := Lib.hid on1
  have S1 := Lib.hid s1
  have I0 := Lib.hid (show Grow w1 w1 (.slice none 0 0) ((allL M).take 0) [] from Grow.nil w1)
  clear on1 s1 HL
  go_wp2_with fail
  go_loopw [5, 6] (fun bv iv wr => ∃ (k : Nat) (v : Value) (xs : List Value), bv = v ∧ iv = .int .i64 k ∧ k ≤ n ∧ Hid (Grow w1 wr v ((allL M).take k) xs)) (fun _ iv _ => n - (intOf iv).toNat)
  case atStart => exact ⟨0, _, [], rfl, rfl, Nat.zero_le _, I0⟩
  case round =>
    clear I0
    obtain ⟨k, v, xs, rfl, rfl, hk, hin⟩ := hrel
    by_cases hlt : k < n
    · have hlt2 : k < M.now.length := by have := HNN.out; omega
      obtain ⟨p, hp⟩ : ∃ p, M.now[k]? = some p := ⟨_, List.getElem?_eq_getElem hlt2⟩
      have hps : p.1.length ≤ 24 := ON.out.nm.now p (List.mem_of_getElem? hp)
      obtain ⟨gs, rfl, d1⟩ := own_at (still_own ON1.out hin.out.st) k hlt _ (namesV_get M.now k p hp)
      have HA := Lib.hid (all_M (txt p) (H.out.still (Still.trans S1.out hin.out.st)) OK.out (by rw [txt_size]; unfold maxLen; omega))
      have HT := Lib.hid (allL_get M k p hp)
      have HTL := Lib.hid (show ((allL M).take k).length = k by rw [List.length_take]; unfold allL; rw [List.length_map]; omega)
      have q1 : (0 : Int) ≤ (k : Int) := by omega
      have q2 : (k : Int) < (n : Int) := by omega
      have HLT := Lib.hid hlt
      have e1 : (⟨p.1.toArray⟩ : ByteArray) = txt p := rfl
      rw [e1] at d1
      obtain ⟨X, hX⟩ : ∃ X, X = txt p := ⟨_, rfl⟩
      rw [← hX] at d1 HA HT
      obtain ⟨Y, hY⟩ : ∃ Y, Y = (M.bytes X).1 := ⟨_, rfl⟩
      rw [← hY] at HA HT
      generalize (M.bytes X).2 = E at HA
      clear hp hps hlt hlt2 e1 hX hY
      go_wp2_with fail
      refine HA.out.mono ?_
      rintro e w3 ⟨⟨bv, rfl, ob⟩, t3⟩
      obtain ⟨Ab, cb, rfl, hb1, hb2, hb3⟩ := own_form ob
      have R3 := Lib.hid ((RowP.of_own ob).mono (Q := fun k => wr.heap.size ≤ k) (fun k hk _ => hk.1))
      have T3 := Lib.hid t3
      have G3 := Lib.hid (hin.out.still t3)
      have OG3 := G3.out.own
      rw [HTL.out] at OG3
      have OGH := Lib.hid OG3
      have HD : k < 1048576 := by omega
      clear ob t3 HA d1 OG3
      go_wp2_with ((first | (guard_target =~ wpList _ _ _ (Oper.mk (some 28) _ _ _ _ _ :: _) _ _; go_must (refine wpList_boxB _ rfl _ rfl _ _ _ rfl ?_)) | (guard_target =~ wpList _ _ _ (Oper.mk (some 29) _ _ _ _ _ :: _) _ _; go_must (refine wpList_oneB _ rfl _ _ rfl w1.heap.size _ _ _ rfl OGH.out _ rfl rfl HD G3.out.st.size ?_)) | fail))
      intro v' w4 o4 g4 hv4
      have G4 := Lib.hid (hin.out.push T3.out R3.out (by rw [HTL.out]; exact o4) g4 hv4)
      rw [← HT.out] at G4
      clear o4 g4 hv4 OGH G3
      go_wp2_with fail
      go_roundw
      case rel => exact ⟨k + 1, v', _, rfl, by go_num, by have := HLT.out; omega, G4⟩
      case measure => simp [intOf]; have := HLT.out; omega
    · obtain rfl : k = n := by omega
      have hg := hin.out
      rw [List.take_of_length_le (show (allL M).length ≤ k by unfold allL; rw [List.length_map, HNN.out]; exact Nat.le_refl _)] at hg
      have HG := Lib.hid hg
      have ON2 := Lib.hid (still_own ON1.out hg.st)
      clear hg hin
      go_wp2_with fail
      go_ret2
      exact ⟨_, _, xs, w1, rfl, ON2.out, S1.out, HG.out⟩
end Go.Proofs.Ytdadcfbapeldpaa
