/- The document's own Segment. It proves no statement. -/
import Derived.Test.YtnhkabohccbglaaDoorFrameWholeWalk
import Derived.Test.YtnhkabohccbglaaDoorFrREnc
namespace Go.Proofs.YtnhkabohccbglaaDoor
open Go.RowKit
set_option linter.unusedVariables false
set_option linter.unusedSimpArgs false

theorem rmagic_own (w : World) : Calls Tryd.prog 40 #[] w fun e w' => (∃ v, e = .returned v ∧ w'.ownsRow w.heap.size 5 1 v 8 (bytesV magic)) ∧ Still w w' := by
  go_enter Tryd.func40, Tryd.ntmps40
  go_wp2_with fail
  go_ret
  exact ⟨⟨_, rfl, World.ownsRow_lit w (bytesV magic).toArray 8 (Nat.le_refl _) (by decide) (by rfl)⟩, (Still.refl w).alloc (Nat.le_refl _) _⟩
/-- What stands while a segment is put together. -/
structure SgMid (w2 W : World) (B : Nat) (bv gv : Value) (G : List Ee) (i : Nat) : Prop where
  b : W.ownsRow w2.heap.size 5 1 bv (magic ++ segB G).length (bytesV (magic ++ segB G))
  g : ∃ xs, W.ownsRow w2.heap.size 26 34 gv G.length xs ∧ HasE w2 B G xs
  still : Still w2 W
  ok : ∀ x ∈ G, okE x
  long : ∀ x ∈ G, x.D.length ≤ 200
  len : (magic ++ segB G).length ≤ 8 + 16425 * i
  le : G.length ≤ i

set_option maxRecDepth 100000 in
set_option maxHeartbeats 6400000 in
theorem rsegment_any (aa : Option Addr) (M c1 : Nat) (X : List Ee) (xs : List Value) (w2 : World) (B : Nat) (own1 : w2.ownsRow B 26 34 (.slice aa M c1) M xs) (has1 : HasE w2 B X xs) (hM : M = X.length) (hM12 : M ≤ 12) (hX : ∀ x ∈ X, x.D.length ≤ 200) :
    Calls Tryd.prog 28 #[.slice aa M c1] w2 fun e w' => (∃ bv gv, e = .returned (.tuple #[bv, gv]) ∧ SgMid w2 w' B bv gv (X.filter okb) M) := by
  have XD := Lib.hid hX
  have HM := Lib.hid hM
  have g1 : 0 < M → ∃ g, aa = some ⟨g, 0, none⟩ := by
    obtain ⟨A, c, e, h⟩ := own_formE own1
    injection e with e1 e2 e3
    subst e1
    exact h
  have O1 := Lib.hid own1
  have H1 := Lib.hid has1
  have G1 := Lib.hid g1
  have XM := Lib.hid (show X.take M = X by rw [hM, List.take_length])
  obtain ⟨fs, hu⟩ := underEnt
  have HU := Lib.hid hu
  clear own1 has1 g1 hX hM hu
  go_enter Tryd.func28, Tryd.ntmps28
  go_wp2_with fail
  refine (rmagic_own w2).mono ?_
  rintro e w3 ⟨⟨v3, rfl, own3⟩, s3⟩
  have M0 := Lib.hid (show SgMid w2 w3 B v3 (.slice none 0 0) [] 0 from
    { b := own3
      g := ⟨[], World.ownsRow_nil _ _ _ _, rfl⟩
      still := s3
      ok := by simp
      long := by simp
      len := by decide
      le := Nat.le_refl _ })
  clear own3 s3
  go_wp2_with fail
  go_loopw [4, 5, 6] (fun bx gx iv wr => ∃ (i : Nat) (bv gv : Value), bv = bx ∧ gv = gx ∧ iv = .int .i64 i ∧ i ≤ M ∧ Hid (SgMid w2 wr B bv gv ((X.take i).filter okb) i)) (fun _ _ iv _ => M - (intOf iv).toNat)
  case atStart => exact ⟨0, _, _, rfl, rfl, rfl, Nat.zero_le _, M0.out⟩
  case round =>
    obtain ⟨i, bv, gv, hbv, hgv, rfl, hi, hh⟩ := hrel
    subst hbv
    subst hgv
    by_cases hlt : i < M
    · have e1 : (i : Int) < (M : Int) := by omega
      obtain ⟨gl, rfl⟩ := G1.out (by omega)
      obtain ⟨x, hx⟩ : ∃ x, X[i]? = some x := ⟨_, List.getElem?_eq_getElem (by have := HM.out; omega)⟩
      obtain ⟨A1, nd, d1, k1, k2, k3, k4⟩ := atE_row O1.out H1.out hx hlt
      have KL := Lib.hid k1
      have XL := Lib.hid (XD.out x (List.mem_of_getElem? hx))
      have hv := HasE.at_ X xs i x H1.out hx
      have TKx := Lib.hid (show X.take (i + 1) = X.take i ++ [x] by rw [List.take_add_one, hx]; rfl)
      have RA := Lib.hid (fun W (s : Still w2 W) => (show W.rangeAt gl (i * 34) (entL x.t x.K (.slice A1 nd d1)) from fun j u hj => by
        have h := k4 j u hj
        exact (s.cell (World.block_lt_of_cell? w2 _ h)).trans h))
      have OD := Lib.hid k2
      have ND := Lib.hid k3
      have FD := Lib.hid (show A1 = none → d1 = 0 by obtain ⟨_, _, e, _, _, h⟩ := own_form k2; injection e with e1 e2 e3; subst e1; subst e3; exact fun q => (h q).2)
      have EN := Lib.hid (rencode_any x.t x.K x.D A1 nd d1 wr w2.heap.size k1 ((Reads.of_own k2).still (Nat.le_refl _) hh.out.still) hh.out.still.size FD.out (by have := XL.out; omega))
      have EV := Lib.hid (show encE x.t x.K x.D = if ckE x.t x.K x.D.length ≠ 0 then (ckE x.t x.K x.D.length, []) else (0, bytE x.t x.K x.D) from rfl)
      have HH := Lib.hid hh.out
      have R0 := RA.out _ hh.out.still
      have HLT := Lib.hid hlt
      clear hh k1 k2 k3 k4 hv hx
      go_wp2_with (guard_target =~ wpList _ _ _ (Oper.mk (some 20) _ _ _ _ _ :: _) _ _; go_must (refine wpList_plain rfl fun _ hQ => wp_load_mid 26 (.tmp 19) rfl gl (i * 34) rfl (entL x.t x.K (.slice A1 nd d1)) _ R0 HU.out rfl (by rw [sizeEnt]; exact congrArg some (by have h := entV_size x.t x.K (.slice A1 nd d1) KL.out; unfold entV at h; simpa using h.symm)) (hQ _ _ ?_)))
      refine EN.out.mono ?_
      rintro e w5 ⟨⟨v5, rfl, own5⟩, s5⟩
      clear EN R0
      obtain ⟨G, hG⟩ : ∃ G, G = (X.take i).filter okb := ⟨_, rfl⟩
      rw [← hG] at HH
      have S25 := Lib.hid (Still.trans HH.out.still s5)
      by_cases hck : ckE x.t x.K x.D.length = 0
      · have ee : encE x.t x.K x.D = (0, bytE x.t x.K x.D) := by rw [EV.out, if_neg (by simpa using hck)]
        have ee1 : (encE x.t x.K x.D).1 = 0 := by rw [ee]
        have ee2 : (encE x.t x.K x.D).2 = bytE x.t x.K x.D := by rw [ee]
        rw [ee1]
        rw [ee2] at own5
        clear ee ee1 ee2 EV
        have FIL := Lib.hid (show (X.take (i + 1)).filter okb = G ++ [x] by rw [TKx.out, List.filter_append, ← hG]; simp [okb, hck])
        have OKX := Lib.hid (show okE x from ⟨KL.out, hck⟩)
        have Z9 := Lib.hid (okE_len OKX.out)
        obtain ⟨z, hz⟩ : ∃ z, z = (bytE x.t x.K x.D).length := ⟨_, rfl⟩
        rw [← hz] at own5 Z9
        obtain ⟨A5, c5, rfl, _, _, cn5⟩ := own_form own5
        have CN5 := Lib.hid (show A5 = none → c5 = 0 from fun q => (cn5 q).2)
        have HZ := Lib.hid hz
        have RB5 := Lib.hid (Reads.of_own own5)
        have BR5 := Lib.hid (own_still0 s5 HH.out.b)
        have SB5 := Lib.hid s5
        have W5 := Lib.hid (show w2.heap.size ≤ w5.heap.size from S25.out.size)
        have LEN := Lib.hid HH.out.len
        clear own5 hz hck s5 hG cn5
        go_wp2_with (guard_target =~ wpList _ _ _ (Oper.mk (some 28) _ _ _ _ _ :: _) _ _; go_must (refine wpList_adds_at w5 rfl (.tmp 26) (.tmp 27) rfl w2.heap.size bv (magic ++ segB G).length (magic ++ segB G) rfl BR5.out A5 z c5 w5.heap.size (bytE x.t x.K x.D) rfl RB5.out CN5.out (by have := LEN.out; have := Z9.out; omega) W5.out ?_))
        intro v6 w6 br6 gr6 _
        obtain ⟨xs6, og0, hg6⟩ := HH.out.g
        have S26 := Lib.hid (show Still w2 w6 from S25.out.grown gr6 S25.out.size (fun k hk => (BR5.out.lt k hk).1))
        have OG6 := Lib.hid (show w6.ownsRow w2.heap.size 26 34 gv G.length xs6 from own_apart (own_still0 SB5.out og0) BR5.out (by decide) gr6)
        have R6 := RA.out w6 S26.out
        obtain ⟨g7, hg7⟩ : ∃ g7, g7 = w6.heap.size := ⟨_, rfl⟩
        obtain ⟨w7, hw7⟩ : ∃ w7, w7 = w6.alloc (.cells (entV x.t x.K (.slice A1 nd d1)) 26) := ⟨_, rfl⟩
        have S67 := Lib.hid (show Still w6 w7 by rw [hw7]; exact (Still.refl w6).alloc (Nat.le_refl _) _)
        have B7 := Lib.hid (show Blk w7 g7 26 (entV x.t x.K (.slice A1 nd d1)) by rw [hw7, hg7]; exact Blk.new _ _ _)
        have S27 := Lib.hid (Still.trans S26.out S67.out)
        have OG7 := Lib.hid (own_still0 S67.out OG6.out)
        have BR6 := Lib.hid (own_still0 S67.out br6)
        have HW7 := Lib.hid hw7
        have HG7 := Lib.hid hg7
        have HG6 := Lib.hid hg6
        have GL := Lib.hid HH.out.le
        clear hw7 hg7 br6 gr6 og0 hg6 RB5 BR5 OG6
        go_wp2_with (first
          | (guard_target =~ wpList _ _ _ (Oper.mk (some 33) _ _ _ _ _ :: _) _ _; go_must (refine wpList_plain rfl fun _ hQ => wp_load_mid 26 (.tmp 32) rfl gl (i * 34) rfl (entL x.t x.K (.slice A1 nd d1)) _ R6 HU.out rfl (by rw [sizeEnt]; exact congrArg some (by have h := entV_size x.t x.K (.slice A1 nd d1) KL.out; unfold entV at h; simpa using h.symm)) (hQ _ _ ?_)))
          | (guard_target =~ wpList _ _ _ (Oper.mk (some 34) _ _ _ _ _ :: _) _ _; go_must (refine wpList_boxE w6 rfl (.tmp 33) rfl x.t x.K KL.out (.slice A1 nd d1) ⟨_, _, _, rfl⟩ rfl ?_; rw [← HW7.out, ← HG7.out]))
          | (guard_target =~ wpList _ _ _ (Oper.mk (some 35) _ _ _ _ _ :: _) _ _; go_must (refine wpList_pushE w7 rfl (.tmp 29) (.tmp 34) rfl w2.heap.size gv G.length xs6 rfl OG7.out g7 (entL x.t x.K (.slice A1 nd d1)) rfl (fun q u hq => (B7.out.cell q).trans (by unfold entV; rw [List.getElem?_toArray]; exact hq)) (entL_len _ _ _ KL.out) (entL_one _ _ _ rfl) (by have := GL.out; omega) S27.out.size ?_)))
        intro v8 w8 own8 gr8
        have MID := Lib.hid (show SgMid w2 w8 B v6 v8 ((X.take (i + 1)).filter okb) (i + 1) by
          rw [FIL.out]
          have hs : (magic ++ segB G) ++ bytE x.t x.K x.D = magic ++ segB (G ++ [x]) := by
            rw [segB_app, List.append_assoc]
            show _ = magic ++ (segB G ++ (bytE x.t x.K x.D ++ []))
            rw [List.append_nil]
          exact
          { b := by rw [← hs, List.length_append, ← HZ.out, List.length_append, List.append_assoc]; exact own_apart BR6.out OG7.out (by decide) gr8
            g := ⟨_, by rw [List.length_append]; exact own8, HasE.snoc x (.slice A1 nd d1) KL.out (by rw [← ND.out]; exact OD.out) _ _ HG6.out⟩
            still := S27.out.grown gr8 S27.out.size (fun k hk => (OG7.out.lt k hk).1)
            ok := fun y hy => by
              rcases List.mem_append.1 hy with h | h
              · exact HH.out.ok y h
              · rw [List.mem_singleton.1 h]; exact OKX.out
            long := fun y hy => by
              rcases List.mem_append.1 hy with h | h
              · exact HH.out.long y h
              · rw [List.mem_singleton.1 h]; exact XL.out
            len := by
              rw [← hs, List.length_append]
              have := LEN.out; have := Z9.out; have := HZ.out; omega
            le := by rw [List.length_append]; have := GL.out; simp; omega })
        clear own8 gr8 OG7 BR6 B7 R6
        go_wp2_with fail
        go_roundw
        case rel => exact ⟨i + 1, _, _, rfl, rfl, by go_num, by have := HLT.out; omega, MID.out⟩
        case measure => simp [intOf]; have := HLT.out; omega
      · have ee : encE x.t x.K x.D = (ckE x.t x.K x.D.length, []) := by rw [EV.out, if_pos (by simpa using hck)]
        have ee1 : (encE x.t x.K x.D).1 = ckE x.t x.K x.D.length := by rw [ee]
        rw [ee1]
        have MID := Lib.hid (show SgMid w2 w5 B bv gv ((X.take (i + 1)).filter okb) (i + 1) by
          have hf : (X.take (i + 1)).filter okb = G := by rw [TKx.out, List.filter_append, ← hG]; simp [okb, hck]
          rw [hf]
          obtain ⟨xs6, og0, hg6⟩ := HH.out.g
          exact
          { b := own_still0 s5 HH.out.b
            g := ⟨xs6, own_still0 s5 og0, hg6⟩
            still := S25.out
            ok := HH.out.ok
            long := HH.out.long
            len := by have := HH.out.len; omega
            le := by have := HH.out.le; omega })
        obtain ⟨ck, hc⟩ : ∃ ck, ck = ckE x.t x.K x.D.length := ⟨_, rfl⟩
        rw [← hc]
        rw [← hc] at hck
        have b0 : (ck == 0) = false := by simpa using hck
        clear own5 s5 ee ee1 EV hc hG hck
        go_wp2_with fail
        go_roundw
        case rel => exact ⟨i + 1, _, _, rfl, rfl, by go_num, by have := HLT.out; omega, MID.out⟩
        case measure => simp [intOf]; have := HLT.out; omega
    · have hiM : M = i := by omega
      subst hiM
      rw [XM.out] at hh
      have HH := Lib.hid hh.out
      clear hh
      go_wp2_with fail
      go_ret2
      first
        | exact HH.out
        | exact ⟨_, _, rfl, HH.out⟩
        | exact ⟨_, _, ⟨rfl, rfl⟩, HH.out⟩
end Go.Proofs.YtnhkabohccbglaaDoor
