/- The walk of FrameWhole: it returns true, and nothing that was there turns. -/
import Derived.Test.YtnhkabohccbglaaDoorFrFewN
import Derived.Test.YtnhkabohccbglaaDoorFrSegB
import Derived.Deep.MidRow
import Derived.Deep.RegionHeld
namespace Go.Proofs.YtnhkabohccbglaaDoor
open Go.RowKit
set_option linter.unusedVariables false
set_option linter.unusedSimpArgs false

theorem wpList_pushE (w : World) {ops : Array Oper} {rest : List Oper} {o : Oper} {a : Act} {Q : Exit → Act → World → Prop} (hgd : o.guard = none) (s x : Operand)
    (ho : o.op = .call { callee := .builtin .append, args := #[s, x], argTypes := #[27, 27] })
    (base : Nat) (v : Value) (n : Nat) (xs : List Value) (hs : a.eval s = v) (hown : w.ownsRow base 26 34 v n xs) (gb : Nat) (cs : List Value)
    (hx : a.eval x = .slice (some ⟨gb, 0, none⟩) 1 1) (hc : ∀ q u, cs[q]? = some u → w.cell? ⟨gb, q, none⟩ = some u) (hc6 : cs.length = 34) (h1 : ∀ u ∈ cs, u.oneCell' = true) (hn : n ≤ 1048576) (hbase : base ≤ w.heap.size)
    (h : ∀ v' w', w'.ownsRow base 26 34 v' (n + 1) (xs ++ cs) → w.grownBy w' v.ownBlock → wpList Tryd.prog ops Q rest (a.put o.dst v') w') :
    wpList Tryd.prog ops Q (o :: rest) a w :=
  wpList_plain hgd fun _ hQ => step_pushE w s x ho base v n xs hs hown gb cs hx hc hc6 h1 hn hbase fun v' w' h2 h3 _ => hQ _ _ (h v' w' h2 h3)
/-- One entry of a row, in memory. -/
theorem atE_row {W W0 : World} {B base g N c i : Nat} {X : List Ee} {xs : List Value} {x : Ee} (ho : W.ownsRow base 26 34 (.slice (some ⟨g, 0, none⟩) N c) N xs) (hX : HasE W0 B X xs) (hx : X[i]? = some x) (hi : i < N) : ∃ A n d, x.K.length = 32 ∧ W0.ownsRow B 5 1 (.slice A n d) n (bytesV x.D) ∧ n = x.D.length ∧ W.rangeAt g (i * 34) (entL x.t x.K (.slice A n d)) := by
  obtain ⟨v, h1, h2, h3⟩ := HasE.at_ X xs i x hX hx
  obtain ⟨A, d, rfl, _, _, _⟩ := own_form h2
  refine ⟨A, _, d, h1, h2, rfl, fun j u hj => ?_⟩
  have hj34 : j < 34 := by rw [← entL_len x.t x.K (.slice A x.D.length d) h1]; exact (List.getElem?_eq_some_iff.1 hj).1
  rw [ho.cellAt (i * 34 + j) (by omega), h3 j hj34]
  exact hj
theorem own_formE {w : World} {base n z : Nat} {e : TypeId} {v : Value} {xs : List Value} (h : w.ownsRow base e z v n xs) : ∃ A c, v = .slice A n c ∧ (0 < n → ∃ g, A = some ⟨g, 0, none⟩) := by
  rcases h.2 with ⟨h, h0⟩ | ⟨g, c, cur, h, _⟩
  · exact ⟨_, _, by rw [h, h0], fun q => by omega⟩
  · exact ⟨_, _, h, fun _ => ⟨g, rfl⟩⟩
theorem own_apartB {W W' : World} {B base n z : Nat} {e : TypeId} {v bv : Value} {xs : List Value} {l : List UInt8} (h : W.ownsRow B e z v n xs) (h' : BRow W base bv l) (ne : e ≠ 5) (gr : W.grownBy W' bv.ownBlock) : W'.ownsRow B e z v n xs := by
  rcases h' with ⟨g, rfl, _, _, h4⟩ | h'
  · refine h.kept (row := some g) gr ?_
    rcases h.2 with ⟨rfl, _⟩ | ⟨g', cap', cur', rfl, _, hg', _⟩
    · exact .inl rfl
    · refine .inr (fun q => ?_)
      have q' : g' = g := by simpa [Value.ownBlock] using q
      subst q'
      rw [h4] at hg'
      simp only [Option.some.injEq, Obj.cells.injEq] at hg'
      exact ne hg'.2.1.symm
  · exact own_apart h h' ne gr
def okb (x : Ee) : Bool := decide (ckE x.t x.K x.D.length = 0)
/-- What stands while the segment is put together. -/
structure WhMid (w2 W : World) (B : Nat) (bv gv : Value) (G : List Ee) (i : Nat) : Prop where
  b : BRow W w2.heap.size bv (magic ++ segB G)
  g : ∃ xs, W.ownsRow w2.heap.size 26 34 gv G.length xs ∧ HasE w2 B G xs
  still : Still w2 W
  ok : ∀ x ∈ G, okE x
  long : ∀ x ∈ G, x.D.length ≤ 200
  len : (magic ++ segB G).length ≤ 8 + 16425 * i
  le : G.length ≤ i

set_option maxRecDepth 100000 in
set_option maxHeartbeats 6400000 in
theorem frameWhole_walk (A : Option Addr) (n c : Nat) (L : List Ee) (w : World) (hin : EntsIn w w.heap.size A L) (hn : L.length = n) (hnc : n ≤ c) (hcm : c ≤ 9223372036854775807) (T : Tabs w) :
    Calls Tryd.prog 7 #[.slice A n c] w fun e w' => e = .returned (.bool true) ∧ Below w.heap.size w w' := by
  have FEW := Lib.hid (few_any A n c 12 200 L w w.heap.size hin (Nat.le_refl _) hn hnc hcm (by omega) (by omega) (by omega))
  have HT := Lib.hid (fun W (s : Still w W) => T.still s)
  have LV := Lib.hid (fun w (T : Tabs w) => lives_any w T)
  obtain ⟨X, hX⟩ : ∃ X, X = (L.take 12).map (cutE 200) := ⟨_, rfl⟩
  have hXl : X.length = min n 12 := by rw [hX, List.length_map, List.length_take, hn]; omega
  have XD := Lib.hid (show ∀ x ∈ X, x.D.length ≤ 200 by
    intro x hx
    rw [hX] at hx
    obtain ⟨y, _, rfl⟩ := List.mem_map.1 hx
    show (y.D.take 200).length ≤ 200
    rw [List.length_take]; omega)
  obtain ⟨M, hM⟩ : ∃ M, M = X.length := ⟨_, rfl⟩
  rw [← hX, ← hXl, ← hM] at FEW
  have hM12 : M ≤ 12 := by omega
  have HM := Lib.hid hM
  obtain ⟨fs, hu⟩ := underEnt
  have HU := Lib.hid hu
  clear hin hn hnc hcm T hX hXl hM hu
  go_enter Tryd.func7, Tryd.ntmps7
  go_wp2_with fail
  refine FEW.out.mono ?_
  rintro e w2 ⟨⟨ov, xs, rfl, own1, has1⟩, s2⟩
  obtain ⟨aa, c1, rfl, g1⟩ := own_formE own1
  have S2 := Lib.hid s2
  have O1 := Lib.hid own1
  have H1 := Lib.hid has1
  have G1 := Lib.hid g1
  have TW := Lib.hid (fun W (s : Still w2 W) => HT.out W (S2.out.trans s))
  obtain ⟨w3, hw3⟩ : ∃ w3, w3 = w2.alloc (.cells (bytesV magic).toArray 5 (8, 9)) := ⟨_, rfl⟩
  have M0 := Lib.hid (show WhMid w2 w3 w.heap.size (.slice (some ⟨w2.heap.size, 0, none⟩) 8 8) (.slice none 0 0) [] 0 from
    { b := .inl ⟨w2.heap.size, rfl, rfl, Nat.le_refl _, by rw [hw3]; exact heap_alloc_new w2 _⟩
      g := ⟨[], World.ownsRow_nil _ _ _ _, rfl⟩
      still := by rw [hw3]; exact (Still.refl w2).alloc (Nat.le_refl _) _
      ok := by simp
      long := by simp
      len := by decide
      le := Nat.le_refl _ })
  have HW3 := Lib.hid hw3
  have kc := fun (w : World) (C : Array Value) (n c : Nat) => Lib.run_convert_bytes_const (P := Tryd.prog) w 24 5 C n c Tryd.underlying24 Tryd.underlying5
  clear own1 has1 s2 g1 FEW hw3
  go_upto_region 3 with fail
  rw [show w2.alloc (.cells #[.int .u8 72, .int .u8 79, .int .u8 65, .int .u8 82, .int .u8 68, .int .u8 83, .int .u8 69, .int .u8 71] 5 (8, 9)) = w3 from HW3.out.symm]
  clear HW3 kc
  go_wp2_with fail
  go_loopw [3, 4, 5] (fun bx gx iv wr => ∃ (i : Nat) (bv gv : Value), bv = bx ∧ gv = gx ∧ iv = .int .i64 i ∧ i ≤ M ∧ Hid (WhMid w2 wr w.heap.size bv gv ((X.take i).filter okb) i)) (fun _ _ iv _ => M - (intOf iv).toNat)
  case atStart => exact ⟨0, _, _, rfl, rfl, rfl, Nat.zero_le _, M0.out⟩
  case round =>
    obtain ⟨i, bv, gv, hbv, hgv, rfl, hi, hh⟩ := hrel
    subst hbv
    subst hgv
    by_cases hlt : i < M
    · have e1 : (i : Int) < (M : Int) := by omega
      obtain ⟨gl, rfl⟩ := G1.out (by omega)
      obtain ⟨x, hx⟩ : ∃ x, X[i]? = some x := ⟨_, List.getElem?_eq_getElem (by have := HM.out; omega)⟩
      obtain ⟨A1, nd, d1, k1, k2, k3, k4⟩ := atE_row O1.out H1.out hx hlt
      have KL := Lib.hid k1
      have XL := Lib.hid (XD.out x (List.mem_of_getElem? hx))
      have hv := HasE.at_ X xs i x H1.out hx
      have TKx := Lib.hid (show X.take (i + 1) = X.take i ++ [x] by rw [List.take_add_one, hx]; rfl)
      have RA := Lib.hid (fun W (s : Still w2 W) => (show W.rangeAt gl (i * 34) (entL x.t x.K (.slice A1 nd d1)) from fun j u hj => by
        have h := k4 j u hj
        exact (s.cell (World.block_lt_of_cell? w2 _ h)).trans h))
      have OD := Lib.hid k2
      have ND := Lib.hid k3
      have FD := Lib.hid (show A1 = none → d1 = 0 by obtain ⟨_, _, e, _, _, h⟩ := own_form k2; injection e with e1 e2 e3; subst e1; subst e3; exact fun q => (h q).2)
      have EN := Lib.hid (encode_any x.t x.K x.D A1 nd d1 wr w2.heap.size k1 ((Reads.of_own k2).still (Nat.le_refl _) hh.out.still) hh.out.still.size FD.out (by have := XL.out; omega) (TW.out _ hh.out.still))
      have EV := Lib.hid (show encE x.t x.K x.D = if ckE x.t x.K x.D.length ≠ 0 then (ckE x.t x.K x.D.length, []) else (0, bytE x.t x.K x.D) from rfl)
      have HH := Lib.hid hh.out
      have R0 := RA.out _ hh.out.still
      have HLT := Lib.hid hlt
      clear hh k1 k2 k3 k4 hv hx
      go_wp2_with (guard_target =~ wpList _ _ _ (Oper.mk (some 27) _ _ _ _ _ :: _) _ _; go_must (refine wpList_plain rfl fun _ hQ => wp_load_mid 26 (.tmp 26) rfl gl (i * 34) rfl (entL x.t x.K (.slice A1 nd d1)) _ R0 HU.out rfl (by rw [sizeEnt]; exact congrArg some (by have h := entV_size x.t x.K (.slice A1 nd d1) KL.out; unfold entV at h; simpa using h.symm)) (hQ _ _ ?_)))
      refine EN.out.mono ?_
      rintro e w5 ⟨⟨v5, rfl, own5⟩, s5⟩
      clear EN R0
      obtain ⟨G, hG⟩ : ∃ G, G = (X.take i).filter okb := ⟨_, rfl⟩
      rw [← hG] at HH
      have S25 := Lib.hid (Still.trans HH.out.still s5)
      by_cases hck : ckE x.t x.K x.D.length = 0
      · have ee : encE x.t x.K x.D = (0, bytE x.t x.K x.D) := by rw [EV.out, if_neg (by simpa using hck)]
        have ee1 : (encE x.t x.K x.D).1 = 0 := by rw [ee]
        have ee2 : (encE x.t x.K x.D).2 = bytE x.t x.K x.D := by rw [ee]
        rw [ee1]
        rw [ee2] at own5
        clear ee ee1 ee2 EV
        have FIL := Lib.hid (show (X.take (i + 1)).filter okb = G ++ [x] by rw [TKx.out, List.filter_append, ← hG]; simp [okb, hck])
        have OKX := Lib.hid (show okE x from ⟨KL.out, hck⟩)
        have Z9 := Lib.hid (okE_len OKX.out)
        obtain ⟨z, hz⟩ : ∃ z, z = (bytE x.t x.K x.D).length := ⟨_, rfl⟩
        rw [← hz] at own5 Z9
        obtain ⟨A5, c5, rfl, _, _, _⟩ := own_form own5
        have HZ := Lib.hid hz
        have RB5 := Lib.hid (Reads.of_own own5)
        have BR5 := Lib.hid (HH.out.b.still s5)
        have SB5 := Lib.hid s5
        have W5 := Lib.hid (show w2.heap.size ≤ w5.heap.size from S25.out.size)
        have LEN := Lib.hid HH.out.len
        clear own5 hz hck s5 hG
        go_wp2_with (guard_target =~ wpList _ _ _ (Oper.mk (some 35) _ _ _ _ _ :: _) _ _; go_must (refine wpList_addsB w5 rfl (.tmp 33) (.tmp 34) rfl w2.heap.size bv (magic ++ segB G) rfl BR5.out A5 z c5 w5.heap.size (bytE x.t x.K x.D) rfl RB5.out (by have := Z9.out; omega) (by have := LEN.out; have := Z9.out; omega) W5.out ?_))
        intro v6 w6 br6 gr6
        obtain ⟨xs6, og0, hg6⟩ := HH.out.g
        have S26 := Lib.hid (show Still w2 w6 from S25.out.grown gr6 S25.out.size (fun k hk => BR5.out.low k hk))
        have OG6 := Lib.hid (show w6.ownsRow w2.heap.size 26 34 gv G.length xs6 from own_apartB (own_still0 SB5.out og0) BR5.out (by decide) gr6)
        have R6 := RA.out w6 S26.out
        obtain ⟨g7, hg7⟩ : ∃ g7, g7 = w6.heap.size := ⟨_, rfl⟩
        obtain ⟨w7, hw7⟩ : ∃ w7, w7 = w6.alloc (.cells (entV x.t x.K (.slice A1 nd d1)) 26) := ⟨_, rfl⟩
        have S67 := Lib.hid (show Still w6 w7 by rw [hw7]; exact (Still.refl w6).alloc (Nat.le_refl _) _)
        have B7 := Lib.hid (show Blk w7 g7 26 (entV x.t x.K (.slice A1 nd d1)) by rw [hw7, hg7]; exact Blk.new _ _ _)
        have S27 := Lib.hid (Still.trans S26.out S67.out)
        have OG7 := Lib.hid (own_still0 S67.out OG6.out)
        have BR6 := Lib.hid (br6.still S67.out)
        have HW7 := Lib.hid hw7
        have HG7 := Lib.hid hg7
        have HG6 := Lib.hid hg6
        have GL := Lib.hid HH.out.le
        clear hw7 hg7 br6 gr6 og0 hg6 RB5 BR5 OG6
        go_wp2_with (first
          | (guard_target =~ wpList _ _ _ (Oper.mk (some 40) _ _ _ _ _ :: _) _ _; go_must (refine wpList_plain rfl fun _ hQ => wp_load_mid 26 (.tmp 39) rfl gl (i * 34) rfl (entL x.t x.K (.slice A1 nd d1)) _ R6 HU.out rfl (by rw [sizeEnt]; exact congrArg some (by have h := entV_size x.t x.K (.slice A1 nd d1) KL.out; unfold entV at h; simpa using h.symm)) (hQ _ _ ?_)))
          | (guard_target =~ wpList _ _ _ (Oper.mk (some 41) _ _ _ _ _ :: _) _ _; go_must (refine wpList_boxE w6 rfl (.tmp 40) rfl x.t x.K KL.out (.slice A1 nd d1) ⟨_, _, _, rfl⟩ rfl ?_; rw [← HW7.out, ← HG7.out]))
          | (guard_target =~ wpList _ _ _ (Oper.mk (some 42) _ _ _ _ _ :: _) _ _; go_must (refine wpList_pushE w7 rfl (.tmp 36) (.tmp 41) rfl w2.heap.size gv G.length xs6 rfl OG7.out g7 (entL x.t x.K (.slice A1 nd d1)) rfl (fun q u hq => (B7.out.cell q).trans (by unfold entV; rw [List.getElem?_toArray]; exact hq)) (entL_len _ _ _ KL.out) (entL_one _ _ _ rfl) (by have := GL.out; omega) S27.out.size ?_)))
        intro v8 w8 own8 gr8
        have MID := Lib.hid (show WhMid w2 w8 w.heap.size v6 v8 ((X.take (i + 1)).filter okb) (i + 1) by
          rw [FIL.out]
          have hs : (magic ++ segB G) ++ bytE x.t x.K x.D = magic ++ segB (G ++ [x]) := by
            rw [segB_app, List.append_assoc]
            show _ = magic ++ (segB G ++ (bytE x.t x.K x.D ++ []))
            rw [List.append_nil]
          exact
          { b := by rw [← hs]; exact BR6.out.kept OG7.out (by decide) gr8
            g := ⟨_, by rw [List.length_append]; exact own8, HasE.snoc x (.slice A1 nd d1) KL.out (by rw [← ND.out]; exact OD.out) _ _ HG6.out⟩
            still := S27.out.grown gr8 S27.out.size (fun k hk => (OG7.out.lt k hk).1)
            ok := fun y hy => by
              rcases List.mem_append.1 hy with h | h
              · exact HH.out.ok y h
              · rw [List.mem_singleton.1 h]; exact OKX.out
            long := fun y hy => by
              rcases List.mem_append.1 hy with h | h
              · exact HH.out.long y h
              · rw [List.mem_singleton.1 h]; exact XL.out
            len := by
              rw [← hs, List.length_append]
              have := LEN.out; have := Z9.out; have := HZ.out; omega
            le := by rw [List.length_append]; have := GL.out; simp; omega })
        clear own8 gr8 OG7 BR6 B7 R6
        go_wp2_with fail
        go_roundw
        case rel => exact ⟨i + 1, _, _, rfl, rfl, by go_num, by have := HLT.out; omega, MID.out⟩
        case measure => simp [intOf]; have := HLT.out; omega
      · have ee : encE x.t x.K x.D = (ckE x.t x.K x.D.length, []) := by rw [EV.out, if_pos (by simpa using hck)]
        have ee1 : (encE x.t x.K x.D).1 = ckE x.t x.K x.D.length := by rw [ee]
        rw [ee1]
        have MID := Lib.hid (show WhMid w2 w5 w.heap.size bv gv ((X.take (i + 1)).filter okb) (i + 1) by
          have hf : (X.take (i + 1)).filter okb = G := by rw [TKx.out, List.filter_append, ← hG]; simp [okb, hck]
          rw [hf]
          obtain ⟨xs6, og0, hg6⟩ := HH.out.g
          exact
          { b := HH.out.b.still s5
            g := ⟨xs6, own_still0 s5 og0, hg6⟩
            still := S25.out
            ok := HH.out.ok
            long := HH.out.long
            len := by have := HH.out.len; omega
            le := by have := HH.out.le; omega })
        obtain ⟨ck, hc⟩ : ∃ ck, ck = ckE x.t x.K x.D.length := ⟨_, rfl⟩
        rw [← hc]
        rw [← hc] at hck
        have b0 : (ck == 0) = false := by simpa using hck
        clear own5 s5 ee ee1 EV hc hG hck
        go_wp2_with fail
        go_roundw
        case rel => exact ⟨i + 1, _, _, rfl, rfl, by go_num, by have := HLT.out; omega, MID.out⟩
        case measure => simp [intOf]; have := HLT.out; omega
    · have hiM : M = i := by omega
      subst hiM
      obtain ⟨G, hG⟩ : ∃ G, G = (X.take M).filter okb := ⟨_, rfl⟩
      rw [← hG] at hh
      have HH := Lib.hid hh.out
      have hle : G.length ≤ 12 := by have := HH.out.le; omega
      obtain ⟨NG, hNG⟩ : ∃ NG, NG = G.length := ⟨_, rfl⟩
      have hb := HH.out.b
      obtain ⟨Ab, cb, rfl, hb1, hb2⟩ := hb.form
      have hlb : (magic ++ segB G).length ≤ 197108 := by have := HH.out.len; omega
      have sc := scan_any Ab _ cb (magic ++ segB G) wr wr.heap.size hb.reads (Nat.le_refl _) (by omega) hb1 hb2 (TW.out _ HH.out.still)
      rw [scan_whole G HH.out.ok] at sc
      simp only [fosF_len] at sc
      rw [show (magic ++ segB G).length = 8 + (segB G).length by rw [List.length_append]; rfl] at sc hb1 hlb ⊢
      obtain ⟨nb, hnb⟩ : ∃ nb, nb = 8 + (segB G).length := ⟨_, rfl⟩
      rw [← hnb] at sc hb1 hlb ⊢
      rw [← hNG] at sc hle
      have SC := Lib.hid sc
      obtain ⟨xsg, og0, hg0⟩ := HH.out.g
      rw [← hNG] at og0
      obtain ⟨ag, cg, rfl, gg0⟩ := own_formE og0
      have OGR := Lib.hid og0
      have HGR := Lib.hid hg0
      have GG0 := Lib.hid gg0
      have HNG := Lib.hid hNG
      have SWR := Lib.hid HH.out.still
      clear sc og0 hg0 gg0 hb hb1 hb2 hG hnb hNG hh hi
      go_wp2_with fail
      refine SC.out.mono ?_
      rintro e w9 ⟨⟨lv, xsf, rfl, of0, hf0⟩, s9⟩
      obtain ⟨af, cf, rfl, gf0⟩ := own_formE of0
      have S9 := Lib.hid s9
      have S29 := Lib.hid (Still.trans SWR.out s9)
      have OFR := Lib.hid of0
      have HFR := Lib.hid hf0
      have GF0 := Lib.hid gf0
      have OG9 := Lib.hid (own_still0 s9 OGR.out)
      clear SC of0 hf0 gf0 s9 OGR
      go_wp2_with fail
      go_loopw [11, 12] (fun pv kv wk => ∃ p k : Nat, pv = .int .i64 p ∧ kv = .int .i64 k ∧ k ≤ NG ∧ Hid (p = atE G k ∧ p ≤ 8 + 16425 * k ∧ Still w9 wk)) (fun _ kv _ => NG - (intOf kv).toNat)
      case atStart => exact ⟨8, 0, rfl, rfl, Nat.zero_le _, rfl, Nat.le_refl _, Still.refl _⟩
      case round =>
        obtain ⟨p, k, rfl, rfl, hk, hp⟩ := hrel
        by_cases hlt : k < NG
        · have e1 : (k : Int) < (NG : Int) := by omega
          obtain ⟨gf, rfl⟩ := GF0.out (by omega)
          obtain ⟨gg, rfl⟩ := GG0.out (by omega)
          obtain ⟨x, hx⟩ : ∃ x, G[k]? = some x := ⟨_, List.getElem?_eq_getElem (by have := HNG.out; omega)⟩
          have hok := HH.out.ok x (List.mem_of_getElem? hx)
          have hlong := HH.out.long x (List.mem_of_getElem? hx)
          have hz9 := okE_len hok
          have hszl := szE_len hok.1 hok.2
          have hF : (fosF 8 G)[k]? = some ⟨x.t, x.K, x.D, p, (bytE x.t x.K x.D).length⟩ := by rw [hp.out.1]; exact fosF_at G 8 k x hx
          have hat : atE G (k + 1) = p + (bytE x.t x.K x.D).length := by
            rw [hp.out.1]
            unfold atE
            rw [List.take_add_one, hx, segB_app, List.length_append]
            show 8 + (_ + (bytE x.t x.K x.D ++ []).length) = _
            rw [List.append_nil]
            omega
          obtain ⟨A1, nD, d1, k1, k2, k3, k4⟩ := atF OFR.out HFR.out hF hlt
          obtain ⟨A2, nD2, d2, m1, m2, m3, m4⟩ := atE_row OG9.out HGR.out hx hlt
          obtain ⟨t, K, D⟩ := x
          simp only at hok hlong hz9 hszl hat k1 k2 k3 m1 m2 m3 m4
          obtain rfl : nD2 = nD := by rw [m3, k3]
          obtain ⟨z, hz⟩ : ∃ z, z = (bytE t K D).length := ⟨_, rfl⟩
          have KL := Lib.hid k1
          have SK := Lib.hid hp.out.2.2
          have S2K := Lib.hid (Still.trans S29.out hp.out.2.2)
          have FF := Lib.hid (fun W (s : Still wr W) => (show W.rangeAt gf (k * 36) (entL t K (.slice A1 nD2 d1)) ∧ W.cell? ⟨gf, k * 36 + 34, none⟩ = some (.int .i64 (p : Int)) ∧ W.cell? ⟨gf, k * 36 + 35, none⟩ = some (.int .i64 (z : Int)) ∧ W.rangeAt gg (k * 34) (entL t K (.slice A2 nD2 d2)) by
            have kp : ∀ q u, w9.cell? q = some u → W.cell? q = some u := fun q u h => ((Still.trans SK.out s).cell (p := q) (World.block_lt_of_cell? w9 _ h)).trans h
            refine ⟨fun j u hj => kp _ _ (k4.ent j u hj), kp _ _ k4.at_, ?_, fun j u hj => kp _ _ (m4 j u hj)⟩
            rw [hz]
            exact kp _ _ k4.n))
          have SE := Lib.hid (fun W (s : Still wr W) => sameE_yes t K D A1 A2 nD2 d1 d2 W _ _ KL.out ((Reads.of_own k2).still (Nat.le_refl _) (Still.trans SK.out s)) ((Reads.of_own m2).still (Nat.le_refl _) (Still.trans S2K.out s)) (Still.trans SK.out s).size (Still.trans S2K.out s).size (by rw [k3]; omega))
          have SZ := Lib.hid (fun W => (show Calls Tryd.prog 15 #[.agg (entV t K (.slice A2 nD2 d2))] W fun e w' => e = .returned (.int .i64 (z : Int)) ∧ Still W w' by
            have h := size_any t K A2 nD2 d2 W KL.out (by rw [k3]; omega)
            rw [show szE t K nD2 = z by rw [hz, hszl.1, k3]] at h
            exact h))
          have PZ := Lib.hid (show p + z = atE G (k + 1) ∧ p + z ≤ 8 + 16425 * (k + 1) from ⟨by rw [hz]; exact hat.symm, by have := hp.out.2.1; omega⟩)
          have hpz : p + z ≤ 300000 := by have := PZ.out.2; omega
          have HLT := Lib.hid hlt
          obtain ⟨nD, hnD⟩ : ∃ nD, nD = nD2 := ⟨_, rfl⟩
          rw [← hnD] at FF SE SZ
          clear k1 k2 k3 k4 m1 m2 m3 m4 hF hat hok hlong hz9 hszl hx hz hnD hp
          go_upto_region 18 with fail
          refine wp_region_held_drew (S := fun W => W.rangeAt gf (k * 36) (entL t K (.slice A1 nD d1)) ∧ W.cell? ⟨gf, k * 36 + 34, none⟩ = some (.int .i64 (p : Int)) ∧ W.cell? ⟨gf, k * 36 + 35, none⟩ = some (.int .i64 (z : Int)) ∧ W.rangeAt gg (k * 34) (entL t K (.slice A2 nD d2))) (by kernel_rfl) (FF.out _ ((Still.refl _).drew)) (fun hHeld => ?_)
          obtain ⟨wa, hwa⟩ : ∃ wa, wa = wr.drew := ⟨_, rfl⟩
          have SA := Lib.hid (show Still wr wa by rw [hwa]; exact (Still.refl _).drew)
          try rw [← hwa] at hHeld
          rw [← hwa]
          clear hwa
          try simp only [Act.put, List.setIfInBounds_toArray, List.set_cons_zero, List.set_cons_succ]
          refine wpAnyH_take (i := 0) (v := .slice (some ⟨gf, 0, none⟩) NG cf) rfl (by kernel_rfl) (by kernel_rfl) (by kernel_rfl) (fun _ _ _ h => h) (Or.inl ⟨by kernel_rfl, fun W hS => by obtain ⟨h0, h1, h2, h3⟩ := hS; go_simp⟩) (by assumption) ?_
          try simp only [Act.put, List.setIfInBounds_toArray, List.set_cons_zero, List.set_cons_succ]
          refine wpAnyH_take (i := 1) (v := .int .i64 (k : Int)) rfl (by kernel_rfl) (by kernel_rfl) (by kernel_rfl) (fun _ _ _ h => h) (Or.inl ⟨by kernel_rfl, fun W hS => by obtain ⟨h0, h1, h2, h3⟩ := hS; go_simp⟩) (by assumption) ?_
          try simp only [Act.put, List.setIfInBounds_toArray, List.set_cons_zero, List.set_cons_succ]
          refine wpAnyH_take (i := 2) (v := .pointer (some ⟨gf, k * 36, none⟩)) rfl (by kernel_rfl) (by kernel_rfl) (by kernel_rfl) (fun _ _ _ h => h) (Or.inl ⟨by kernel_rfl, fun W hS => by obtain ⟨h0, h1, h2, h3⟩ := hS; go_simp⟩) (by assumption) ?_
          try simp only [Act.put, List.setIfInBounds_toArray, List.set_cons_zero, List.set_cons_succ]
          refine wpAnyH_take (i := 3) (v := .pointer (some ⟨gf, k * 36, none⟩)) rfl (by kernel_rfl) (by kernel_rfl) (by kernel_rfl) (fun _ _ _ h => h) (Or.inl ⟨by kernel_rfl, fun W hS => by obtain ⟨h0, h1, h2, h3⟩ := hS; go_simp⟩) (by assumption) ?_
          try simp only [Act.put, List.setIfInBounds_toArray, List.set_cons_zero, List.set_cons_succ]
          refine wpAnyH_take (i := 4) (oi := ⟨some 74, .load 26 (.tmp 73), _, _, _, _⟩) (v := .agg (entV t K (.slice A1 nD d1))) rfl (by kernel_rfl) (by kernel_rfl) (by kernel_rfl) (fun _ _ _ h => h) ?hy4 (by assumption) ?_
          case hy4 =>
            refine yieldsIf_load_mid ?hw 26 (.tmp 73) ?ho gf (k * 36) ?hx (entL t K (.slice A1 nD d1)) _ (fun W h => h.1) HU.out rfl (by rw [sizeEnt]; exact congrArg some (by have h := entV_size t K ((.slice A1 nD d1)) KL.out; unfold entV at h; simpa using h.symm))
            case hw => kernel_rfl
            case ho => rfl
            case hx => kernel_rfl
          try simp only [Act.put, List.setIfInBounds_toArray, List.set_cons_zero, List.set_cons_succ]
          refine wpAnyH_take (i := 5) (v := .slice (some ⟨gg, 0, none⟩) NG cg) rfl (by kernel_rfl) (by kernel_rfl) (by kernel_rfl) (fun _ _ _ h => h) (Or.inl ⟨by kernel_rfl, fun W hS => by obtain ⟨h0, h1, h2, h3⟩ := hS; go_simp⟩) (by assumption) ?_
          try simp only [Act.put, List.setIfInBounds_toArray, List.set_cons_zero, List.set_cons_succ]
          refine wpAnyH_take (i := 6) (v := .int .i64 (k : Int)) rfl (by kernel_rfl) (by kernel_rfl) (by kernel_rfl) (fun _ _ _ h => h) (Or.inl ⟨by kernel_rfl, fun W hS => by obtain ⟨h0, h1, h2, h3⟩ := hS; go_simp⟩) (by assumption) ?_
          try simp only [Act.put, List.setIfInBounds_toArray, List.set_cons_zero, List.set_cons_succ]
          refine wpAnyH_take (i := 7) (v := .pointer (some ⟨gg, k * 34, none⟩)) rfl (by kernel_rfl) (by kernel_rfl) (by kernel_rfl) (fun _ _ _ h => h) (Or.inl ⟨by kernel_rfl, fun W hS => by obtain ⟨h0, h1, h2, h3⟩ := hS; go_simp⟩) (by assumption) ?_
          try simp only [Act.put, List.setIfInBounds_toArray, List.set_cons_zero, List.set_cons_succ]
          refine wpAnyH_take (i := 8) (oi := ⟨some 78, .load 26 (.tmp 77), _, _, _, _⟩) (v := .agg (entV t K (.slice A2 nD d2))) rfl (by kernel_rfl) (by kernel_rfl) (by kernel_rfl) (fun _ _ _ h => h) ?hy8 (by assumption) ?_
          case hy8 =>
            refine yieldsIf_load_mid ?hw 26 (.tmp 77) ?ho gg (k * 34) ?hx (entL t K (.slice A2 nD d2)) _ (fun W h => h.2.2.2) HU.out rfl (by rw [sizeEnt]; exact congrArg some (by have h := entV_size t K ((.slice A2 nD d2)) KL.out; unfold entV at h; simpa using h.symm))
            case hw => kernel_rfl
            case ho => rfl
            case hx => kernel_rfl
          try simp only [Act.put, List.setIfInBounds_toArray, List.set_cons_zero, List.set_cons_succ]
          refine wpAnyH_ready (rs := [9]) (by kernel_rfl) (by simp) ?_
          refine AllReadyH.cons (o := ⟨some 79, .call { callee := .value (.func 16), args := #[.tmp 74, .tmp 78], argTypes := #[26, 26] }, _, _, _, _⟩) rfl (fun K' hK' => ?_) AllReadyH.nil
          have HK' := Lib.hid hK'
          clear hK'
          go_simp
          go_wp2_with (go_at_call 16; refine (SE.out _ SA.out).mono ?_; rintro e w5 ⟨rfl, s5⟩; have S5 := Lib.hid (SA.out.trans s5))
          refine HK'.out.out _ _ (FF.out _ S5.out) (fun hHeld => ?_)
          clear HK' K'
          try simp only [Act.put, List.setIfInBounds_toArray, List.set_cons_zero, List.set_cons_succ]
          refine wpAnyH_take (i := 10) (v := (.bool false)) rfl (by kernel_rfl) (by kernel_rfl) (by kernel_rfl) (fun _ _ _ h => h) (Or.inl ⟨by kernel_rfl, fun W hS => by obtain ⟨h0, h1, h2, h3⟩ := hS; go_simp⟩) (by assumption) ?_
          try simp only [Act.put, List.setIfInBounds_toArray, List.set_cons_zero, List.set_cons_succ]
          refine wpAnyH_take (i := 11) (v := (.bool false)) rfl (by kernel_rfl) (by kernel_rfl) (by kernel_rfl) (fun _ _ _ h => h) (Or.inl ⟨by kernel_rfl, fun W hS => by obtain ⟨h0, h1, h2, h3⟩ := hS; go_simp⟩) (by assumption) ?_
          try simp only [Act.put, List.setIfInBounds_toArray, List.set_cons_zero, List.set_cons_succ]
          refine wpAnyH_take (i := 12) (v := .slice (some ⟨gf, 0, none⟩) NG cf) rfl (by kernel_rfl) (by kernel_rfl) (by kernel_rfl) (fun _ _ _ h => h) (Or.inl ⟨by kernel_rfl, fun W hS => by obtain ⟨h0, h1, h2, h3⟩ := hS; go_simp⟩) (by assumption) ?_
          try simp only [Act.put, List.setIfInBounds_toArray, List.set_cons_zero, List.set_cons_succ]
          refine wpAnyH_take (i := 13) (v := .int .i64 (k : Int)) rfl (by kernel_rfl) (by kernel_rfl) (by kernel_rfl) (fun _ _ _ h => h) (Or.inl ⟨by kernel_rfl, fun W hS => by obtain ⟨h0, h1, h2, h3⟩ := hS; go_simp⟩) (by assumption) ?_
          try simp only [Act.put, List.setIfInBounds_toArray, List.set_cons_zero, List.set_cons_succ]
          refine wpAnyH_take (i := 14) (v := .pointer (some ⟨gf, k * 36, none⟩)) rfl (by kernel_rfl) (by kernel_rfl) (by kernel_rfl) (fun _ _ _ h => h) (Or.inl ⟨by kernel_rfl, fun W hS => by obtain ⟨h0, h1, h2, h3⟩ := hS; go_simp⟩) (by assumption) ?_
          try simp only [Act.put, List.setIfInBounds_toArray, List.set_cons_zero, List.set_cons_succ]
          refine wpAnyH_take (i := 15) (v := .pointer (some ⟨gf, k * 36 + 34, none⟩)) rfl (by kernel_rfl) (by kernel_rfl) (by kernel_rfl) (fun _ _ _ h => h) (Or.inl ⟨by kernel_rfl, fun W hS => by obtain ⟨h0, h1, h2, h3⟩ := hS; go_simp⟩) (by assumption) ?_
          try simp only [Act.put, List.setIfInBounds_toArray, List.set_cons_zero, List.set_cons_succ]
          refine wpAnyH_take (i := 16) (v := .int .i64 (p : Int)) rfl (by kernel_rfl) (by kernel_rfl) (by kernel_rfl) (fun _ _ _ h => h) (Or.inl ⟨by kernel_rfl, fun W hS => by obtain ⟨h0, h1, h2, h3⟩ := hS; go_simp⟩) (by assumption) ?_
          try simp only [Act.put, List.setIfInBounds_toArray, List.set_cons_zero, List.set_cons_succ]
          refine wpAnyH_take (i := 17) (v := .int .i64 (p : Int)) rfl (by kernel_rfl) (by kernel_rfl) (by kernel_rfl) (fun _ _ _ h => h) (Or.inl ⟨by kernel_rfl, fun W hS => by obtain ⟨h0, h1, h2, h3⟩ := hS; go_simp⟩) (by assumption) ?_
          try simp only [Act.put, List.setIfInBounds_toArray, List.set_cons_zero, List.set_cons_succ]
          refine wpAnyH_take (i := 18) (v := (.bool false)) rfl (by kernel_rfl) (by kernel_rfl) (by kernel_rfl) (fun _ _ _ h => h) (Or.inl ⟨by kernel_rfl, fun W hS => by obtain ⟨h0, h1, h2, h3⟩ := hS; go_simp⟩) (by assumption) ?_
          try simp only [Act.put, List.setIfInBounds_toArray, List.set_cons_zero, List.set_cons_succ]
          refine wpAnyH_take (i := 19) (v := (.bool false)) rfl (by kernel_rfl) (by kernel_rfl) (by kernel_rfl) (fun _ _ _ h => h) (Or.inl ⟨by kernel_rfl, fun W hS => by obtain ⟨h0, h1, h2, h3⟩ := hS; go_simp⟩) (by assumption) ?_
          try simp only [Act.put, List.setIfInBounds_toArray, List.set_cons_zero, List.set_cons_succ]
          refine wpAnyH_take (i := 20) (v := (.bool false)) rfl (by kernel_rfl) (by kernel_rfl) (by kernel_rfl) (fun _ _ _ h => h) (Or.inl ⟨by kernel_rfl, fun W hS => by obtain ⟨h0, h1, h2, h3⟩ := hS; go_simp⟩) (by assumption) ?_
          try simp only [Act.put, List.setIfInBounds_toArray, List.set_cons_zero, List.set_cons_succ]
          refine wpAnyH_take (i := 21) (v := .slice (some ⟨gf, 0, none⟩) NG cf) rfl (by kernel_rfl) (by kernel_rfl) (by kernel_rfl) (fun _ _ _ h => h) (Or.inl ⟨by kernel_rfl, fun W hS => by obtain ⟨h0, h1, h2, h3⟩ := hS; go_simp⟩) (by assumption) ?_
          try simp only [Act.put, List.setIfInBounds_toArray, List.set_cons_zero, List.set_cons_succ]
          refine wpAnyH_take (i := 22) (v := .int .i64 (k : Int)) rfl (by kernel_rfl) (by kernel_rfl) (by kernel_rfl) (fun _ _ _ h => h) (Or.inl ⟨by kernel_rfl, fun W hS => by obtain ⟨h0, h1, h2, h3⟩ := hS; go_simp⟩) (by assumption) ?_
          try simp only [Act.put, List.setIfInBounds_toArray, List.set_cons_zero, List.set_cons_succ]
          refine wpAnyH_take (i := 23) (v := .pointer (some ⟨gf, k * 36, none⟩)) rfl (by kernel_rfl) (by kernel_rfl) (by kernel_rfl) (fun _ _ _ h => h) (Or.inl ⟨by kernel_rfl, fun W hS => by obtain ⟨h0, h1, h2, h3⟩ := hS; go_simp⟩) (by assumption) ?_
          try simp only [Act.put, List.setIfInBounds_toArray, List.set_cons_zero, List.set_cons_succ]
          refine wpAnyH_take (i := 24) (v := .pointer (some ⟨gf, k * 36 + 35, none⟩)) rfl (by kernel_rfl) (by kernel_rfl) (by kernel_rfl) (fun _ _ _ h => h) (Or.inl ⟨by kernel_rfl, fun W hS => by obtain ⟨h0, h1, h2, h3⟩ := hS; go_simp⟩) (by assumption) ?_
          try simp only [Act.put, List.setIfInBounds_toArray, List.set_cons_zero, List.set_cons_succ]
          refine wpAnyH_take (i := 25) (v := .int .i64 (z : Int)) rfl (by kernel_rfl) (by kernel_rfl) (by kernel_rfl) (fun _ _ _ h => h) (Or.inl ⟨by kernel_rfl, fun W hS => by obtain ⟨h0, h1, h2, h3⟩ := hS; go_simp⟩) (by assumption) ?_
          try simp only [Act.put, List.setIfInBounds_toArray, List.set_cons_zero, List.set_cons_succ]
          refine wpAnyH_take (i := 26) (v := .slice (some ⟨gg, 0, none⟩) NG cg) rfl (by kernel_rfl) (by kernel_rfl) (by kernel_rfl) (fun _ _ _ h => h) (Or.inl ⟨by kernel_rfl, fun W hS => by obtain ⟨h0, h1, h2, h3⟩ := hS; go_simp⟩) (by assumption) ?_
          try simp only [Act.put, List.setIfInBounds_toArray, List.set_cons_zero, List.set_cons_succ]
          refine wpAnyH_take (i := 27) (v := .int .i64 (k : Int)) rfl (by kernel_rfl) (by kernel_rfl) (by kernel_rfl) (fun _ _ _ h => h) (Or.inl ⟨by kernel_rfl, fun W hS => by obtain ⟨h0, h1, h2, h3⟩ := hS; go_simp⟩) (by assumption) ?_
          try simp only [Act.put, List.setIfInBounds_toArray, List.set_cons_zero, List.set_cons_succ]
          refine wpAnyH_take (i := 28) (v := .pointer (some ⟨gg, k * 34, none⟩)) rfl (by kernel_rfl) (by kernel_rfl) (by kernel_rfl) (fun _ _ _ h => h) (Or.inl ⟨by kernel_rfl, fun W hS => by obtain ⟨h0, h1, h2, h3⟩ := hS; go_simp⟩) (by assumption) ?_
          try simp only [Act.put, List.setIfInBounds_toArray, List.set_cons_zero, List.set_cons_succ]
          refine wpAnyH_take (i := 29) (oi := ⟨some 99, .load 26 (.tmp 98), _, _, _, _⟩) (v := .agg (entV t K (.slice A2 nD d2))) rfl (by kernel_rfl) (by kernel_rfl) (by kernel_rfl) (fun _ _ _ h => h) ?hy29 (by assumption) ?_
          case hy29 =>
            refine yieldsIf_load_mid ?hw 26 (.tmp 98) ?ho gg (k * 34) ?hx (entL t K (.slice A2 nD d2)) _ (fun W h => h.2.2.2) HU.out rfl (by rw [sizeEnt]; exact congrArg some (by have h := entV_size t K ((.slice A2 nD d2)) KL.out; unfold entV at h; simpa using h.symm))
            case hw => kernel_rfl
            case ho => rfl
            case hx => kernel_rfl
          try simp only [Act.put, List.setIfInBounds_toArray, List.set_cons_zero, List.set_cons_succ]
          refine wpAnyH_ready (rs := [30]) (by kernel_rfl) (by simp) ?_
          refine AllReadyH.cons (o := ⟨some 100, .call { callee := .value (.func 15), args := #[.tmp 99], argTypes := #[26] }, _, _, _, _⟩) rfl (fun K' hK' => ?_) AllReadyH.nil
          have HK' := Lib.hid hK'
          clear hK'
          go_simp
          go_wp2_with (go_at_call 15; refine (SZ.out w5).mono ?_; rintro e w6 ⟨rfl, s6⟩; have S6 := Lib.hid (S5.out.trans s6))
          refine HK'.out.out _ _ (FF.out _ S6.out) (fun hHeld => ?_)
          clear HK' K'
          try simp only [Act.put, List.setIfInBounds_toArray, List.set_cons_zero, List.set_cons_succ]
          refine wpAnyH_take (i := 31) (v := (.bool false)) rfl (by kernel_rfl) (by kernel_rfl) (by kernel_rfl) (fun _ _ _ h => h) (Or.inl ⟨by kernel_rfl, fun W hS => by obtain ⟨h0, h1, h2, h3⟩ := hS; go_simp⟩) (by assumption) ?_
          try simp only [Act.put, List.setIfInBounds_toArray, List.set_cons_zero, List.set_cons_succ]
          refine wpAnyH_take (i := 32) (v := (.bool false)) rfl (by kernel_rfl) (by kernel_rfl) (by kernel_rfl) (fun _ _ _ h => h) (Or.inl ⟨by kernel_rfl, fun W hS => by obtain ⟨h0, h1, h2, h3⟩ := hS; go_simp⟩) (by assumption) ?_
          try simp only [Act.put, List.setIfInBounds_toArray, List.set_cons_zero, List.set_cons_succ]
          refine wpAnyH_done (by kernel_rfl) ?_ _
          have S7 := Lib.hid (Still.trans SK.out S6.out)
          have CA := (FF.out _ S6.out).2.2.1
          have i1 : IntKind.i64.wrap ((p : Int) + (z : Int)) = ((p + z : Nat) : Int) := by rw [IntKind.wrap_i64]; omega
          clear FF SE SA SZ S5 S6 hHeld HU OFR HFR OG9 HGR
          go_simp
          go_wp2_with fail
          go_roundw
          case rel => exact ⟨p + z, k + 1, by go_num, by go_num, by have := HLT.out; omega, PZ.out.1, PZ.out.2, S7.out⟩
          case measure => simp [intOf]; have := HLT.out; omega
        · have hkN : NG = k := by omega
          subst hkN
          have SK := Lib.hid (Still.trans S29.out hp.out.2.2)
          clear hp
          go_wp2_with fail
          refine (LV.out _ (TW.out _ SK.out)).mono ?_
          rintro e w10 ⟨rfl, s10⟩
          have S10 := Lib.hid (Still.trans S2.out (Still.trans SK.out s10))
          clear s10
          go_wp2_with fail
          go_ret
          exact ⟨rfl, S10.out⟩
end Go.Proofs.YtnhkabohccbglaaDoor
