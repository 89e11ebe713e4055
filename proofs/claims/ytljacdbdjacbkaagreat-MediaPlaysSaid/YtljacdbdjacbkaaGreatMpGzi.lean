/- Contracts and facts, several texts in one. It proves no statement. -/
import Derived.Test.YtljacdbdjacbkaaGreatMpGzc
import Derived.Test.YtljacdbdjacbkaaGreatMpGzd
import Derived.Test.YtljacdbdjacbkaaGreatMpGzh

/- The law's own few calls, of however many. It proves no statement. -/



namespace Go.Proofs.YtljacdbdjacbkaaGreat
open Go.RowKit Go.Maps Go.WideMaps
set_option linter.unusedVariables false
set_option linter.unusedSimpArgs false

theorem sizeDo : (Tryz.prog.info? 36).map (·.size) = some 7 := by kernel_rfl
/-- A call's cells. -/
def doL (x : Call) (A : Option Addr) (n c : Nat) (A2 : Option Addr) (n2 c2 : Nat) : List Value := [.int .i64 x.k, .string x.s, .string x.t, .int .i64 x.nn, .int .i64 x.mm, .slice A n c, .slice A2 n2 c2]
/-- A call that came in. -/
structure DoRow (W : World) (B b p : Nat) (x : Call) (A : Option Addr) (n c : Nat) (A2 : Option Addr) (n2 c2 : Nat) : Prop where
  at_ : W.rangeAt b p (doL x A n c A2 n2 c2)
  rd : Reads W B A n x.b
  le : n ≤ c ∧ c ≤ 9223372036854775807
  nil : A = none → n = 0 ∧ c = 0
  rd2 : ReadsI W (fun b => b < B) A2 n2 x.l
  le2 : n2 ≤ c2 ∧ c2 ≤ 9223372036854775807
  ss : x.s.size ≤ 9223372036854775807
  tt : x.t.size ≤ 9223372036854775807
  nr : x.nn ≤ 9223372036854775807
def DosIn (W : World) (B : Nat) (A : Option Addr) (L : List Call) : Prop := ∀ (i : Nat) (x : Call), L[i]? = some x → ∃ b o A1 n c A2 n2 c2, A = some ⟨b, o, none⟩ ∧ DoRow W B b (o + i * 7) x A1 n c A2 n2 c2
theorem DoRow.still {W W' : World} {B b p : Nat} {x : Call} {A : Option Addr} {n c : Nat} {A2 : Option Addr} {n2 c2 : Nat} (h : DoRow W B b p x A n c A2 n2 c2) (hB : B ≤ W.heap.size) (s : Still W W') : DoRow W' B b p x A n c A2 n2 c2 :=
  ⟨fun j u hj => by
      have h1 := h.at_ j u hj
      exact (s.cell (World.block_lt_of_cell? W _ h1)).trans h1, h.rd.still hB s, h.le, h.nil, h.rd2.chg (Chg.of_still s (fun _ => False)) (fun _ _ h => h), h.le2, h.ss, h.tt, h.nr⟩
/-- A call, cut. -/
def cutD (x : Call) : Call := ⟨x.k, shB 30 x.s, shB 30 x.t, x.nn, x.mm, x.b.take 100, x.l.take 60⟩
/-- A row of calls that were cut: each with a row of its own for its bytes; its numbers lie where they came in. -/
def HasD (W : World) (base B : Nat) (X : List Call) (xs : List Value) : Prop := xs.length = 7 * X.length ∧ ∀ (i : Nat) (x : Call), X[i]? = some x → ∃ A n c A2 n2 c2, (∀ q, q < 7 → xs[i * 7 + q]? = (doL x A n c A2 n2 c2)[q]?) ∧ W.ownsRow base 5 1 (.slice A n c) n (bytesV x.b) ∧ n ≤ 100 ∧ ReadsI W (fun b => b < B) A2 n2 x.l ∧ n2 ≤ c2 ∧ c2 ≤ 9223372036854775807 ∧ x.s.size ≤ 30 ∧ x.t.size ≤ 30 ∧ x.nn ≤ 9223372036854775807
theorem HasD.keep {W W' : World} {base B : Nat} {X : List Call} {xs : List Value} {S : Nat → Prop} (h : HasD W base B X xs) (c : Chg W W' S) (hS : ∀ b, b < B → ¬ S b) (hR : ∀ v n l, W.ownsRow base 5 1 v n (bytesV l) → W'.ownsRow base 5 1 v n (bytesV l)) : HasD W' base B X xs :=
  ⟨h.1, fun i x hx => by
    obtain ⟨A, n, cc, A2, n2, c2, h1, h2, h3, h4, h5⟩ := h.2 i x hx
    exact ⟨A, n, cc, A2, n2, c2, h1, hR _ _ _ h2, h3, h4.chg c hS, h5⟩⟩
theorem HasD.snoc {W : World} {base B : Nat} {X : List Call} {xs : List Value} (h : HasD W base B X xs) (x : Call) (A : Option Addr) (n c : Nat) (A2 : Option Addr) (n2 c2 : Nat) (h2 : W.ownsRow base 5 1 (.slice A n c) n (bytesV x.b)) (h3 : n ≤ 100) (h4 : ReadsI W (fun b => b < B) A2 n2 x.l) (h5 : n2 ≤ c2) (h6 : c2 ≤ 9223372036854775807) (h7 : x.s.size ≤ 30) (h8 : x.t.size ≤ 30) (h9 : x.nn ≤ 9223372036854775807) :
    HasD W base B (X ++ [x]) (xs ++ doL x A n c A2 n2 c2) := by
  refine ⟨by rw [List.length_append, List.length_append, h.1]; simp [doL]; omega, fun i y hy => ?_⟩
  by_cases hi : i < X.length
  · rw [List.getElem?_append_left hi] at hy
    obtain ⟨A', n', c', A2', n2', c2', k1, k2⟩ := h.2 i y hy
    refine ⟨A', n', c', A2', n2', c2', fun q hq => ?_, k2⟩
    rw [List.getElem?_append_left (by rw [h.1]; omega)]
    exact k1 q hq
  · have hl : i < (X ++ [x]).length := (List.getElem?_eq_some_iff.1 hy).1
    have hie : i = X.length := by simp at hl; omega
    subst hie
    have : y = x := by simpa using hy.symm
    subst this
    refine ⟨A, n, c, A2, n2, c2, fun q hq => ?_, h2, h3, h4, h5, h6, h7, h8, h9⟩
    rw [List.getElem?_append_right (by rw [h.1]; omega), h.1]
    congr 1
    omega
set_option maxRecDepth 100000 in
set_option maxHeartbeats 12800000 in
theorem few_any (Al : Option Addr) (nl cl N : Nat) (L : List Call) (w : World) (B : Nat) (hin : DosIn w B Al L) (hB : B ≤ w.heap.size) (hn : L.length = nl) (hnc : nl ≤ cl) (hcm : cl ≤ 9223372036854775807) (hN : N ≤ 1048576) :
    Calls Tryz.prog 4 #[.slice Al nl cl, .int .i64 (N : Int)] w fun e w' => (∃ ov xs, e = .returned ov ∧ w'.ownsRow w.heap.size 36 7 ov (min nl N) xs ∧ HasD w' w.heap.size B ((L.take N).map cutD) xs) ∧ Still w w' := by
  obtain ⟨M, hM⟩ : ∃ M, M = min nl N := ⟨_, rfl⟩
  rw [← hM]
  have hML : (L.take N) = L.take M := by
    rw [hM]
    by_cases h : nl ≤ N
    · rw [Nat.min_eq_left h, List.take_of_length_le (by omega), List.take_of_length_le (by omega)]
    · rw [Nat.min_eq_right (by omega)]
  rw [hML]
  have HIN := Lib.hid hin
  have FC := Lib.hid (show L.length = nl ∧ nl ≤ cl ∧ cl ≤ 9223372036854775807 ∧ N ≤ 1048576 ∧ B ≤ w.heap.size ∧ M ≤ nl ∧ M ≤ N ∧ (nl ≤ M ∨ N ≤ M) from ⟨hn, hnc, hcm, hN, hB, by omega, by omega, by omega⟩)
  clear hin hB hnc hcm hM hML hn hN
  go_enter Tryz.func4, Tryz.ntmps4
  go_wp2_with fail
  go_loopw [5, 6] (fun ox iv wr => ∃ (j : Nat) (ov : Value), ov = ox ∧ j ≤ M ∧ iv = .int .i64 j ∧ Hid (∃ xs, wr.ownsRow w.heap.size 36 7 ov j xs ∧ HasD wr w.heap.size B ((L.take j).map cutD) xs ∧ Still w wr)) (fun _ iv _ => M - (intOf iv).toNat)
  case atStart => exact ⟨0, _, rfl, Nat.zero_le _, rfl, [], World.ownsRow_nil _ _ _ _, ⟨rfl, fun i x hx => by simp at hx⟩, Still.refl _⟩
  case round =>
    obtain ⟨j, ov, hov, hj, rfl, hh⟩ := hrel
    subst hov
    by_cases hlt : j < M
    · have e1 : (j : Int) < (nl : Int) := by have := FC.out; omega
      have e2 : (j : Int) < (N : Int) := by have := FC.out; omega
      have hnl : j < nl := by have := FC.out; omega
      have hcl : nl ≤ cl := FC.out.2.1
      have hclm : cl ≤ 9223372036854775807 := FC.out.2.2.1
      have J6 := Lib.hid (show j ≤ 1048576 by have := FC.out; omega)
      obtain ⟨xs, h1, h2, h3⟩ := hh.out
      obtain ⟨x, hx⟩ : ∃ x, L[j]? = some x := ⟨_, List.getElem?_eq_getElem (by have := FC.out; omega)⟩
      obtain ⟨b, o, A, n, c, A2, n2, c2, rfl, hE⟩ := HIN.out j x hx
      have SW := Lib.hid h3
      have OV := Lib.hid h1
      have HV := Lib.hid h2
      have OVK := Lib.hid (fun W (s : Still wr W) => (Chg.of_still s (fun _ => False)).own h1 (fun _ _ h => h))
      have TKE := Lib.hid (show (L.take (j + 1)).map cutD = (L.take j).map cutD ++ [cutD x] by
        rw [List.take_add_one, hx, List.map_append]; rfl)
      have HR := Lib.hid (hE.still FC.out.2.2.2.2.1 h3)
      have DL0 : doL x A n c A2 n2 c2 = [.int .i64 x.k, .string x.s, .string x.t, .int .i64 x.nn, .int .i64 x.mm, .slice A n c, .slice A2 n2 c2] := rfl
      have RNG0 := HR.out.at_
      rw [DL0] at RNG0
      obtain ⟨m, hm⟩ : ∃ m, m = min n 100 := ⟨_, rfl⟩
      obtain ⟨m2, hm2⟩ : ∃ m2, m2 = min n2 60 := ⟨_, rfl⟩
      have hBr : B ≤ wr.heap.size := Nat.le_trans FC.out.2.2.2.2.1 h3.size
      have hr := HR.out.rd
      have hA := HR.out.nil
      obtain ⟨D, hD⟩ : ∃ D, D = x.b := ⟨_, rfl⟩
      rw [← hD] at hr
      have hml : (D.take 100).length = m := by rw [List.length_take, hr.1, hm]; omega
      have RT := Lib.hid (show Reads wr B A m (D.take 100) by rw [hm]; exact hr.take 100)
      have CUT := Lib.hid (fun W (s : Still wr W) => show Calls Tryz.prog 16 #[.slice A n c, .int .i64 100] W fun e w' => e = .returned (.slice A m c) ∧ W = w' from by rw [hm]; exact cut_any A n c 100 D W _ (hr.still hBr s) HR.out.le.1 HR.out.le.2 (by omega))
      have CP := Lib.hid (fun W (s : Still wr W) => copy_any A m c (D.take 100) W _ (RT.out.still hBr s) (by omega) (fun e => ⟨by have := (hA e).1; omega, (hA e).2⟩))
      have SH0 := Lib.hid (fun W => short_k x.s 30 W HR.out.ss)
      have TH0 := Lib.hid (fun W => short_k x.t 30 W HR.out.tt)
      obtain ⟨s3, hs3⟩ : ∃ s3, s3 = shB 30 x.s := ⟨_, rfl⟩
      obtain ⟨t3, ht3⟩ : ∃ t3, t3 = shB 30 x.t := ⟨_, rfl⟩
      rw [← hs3] at SH0
      rw [← ht3] at TH0
      obtain ⟨s, hs⟩ : ∃ s, s = x.s := ⟨_, rfl⟩
      obtain ⟨t, ht⟩ : ∃ t, t = x.t := ⟨_, rfl⟩
      obtain ⟨k, hk⟩ : ∃ k, k = x.k := ⟨_, rfl⟩
      obtain ⟨nn, hnn⟩ : ∃ nn, nn = x.nn := ⟨_, rfl⟩
      obtain ⟨mm, hmm⟩ : ∃ mm, mm = x.mm := ⟨_, rfl⟩
      rw [← hs] at SH0 RNG0
      rw [← ht] at TH0 RNG0
      rw [← hk, ← hnn, ← hmm] at RNG0
      have RNG := Lib.hid RNG0
      have SH : Hid (∀ W, Calls Tryz.prog 14 #[.string s, .int .i64 30] W fun e w' => e = .returned (.string s3) ∧ W = w') := SH0
      have TH : Hid (∀ W, Calls Tryz.prog 14 #[.string t, .int .i64 30] W fun e w' => e = .returned (.string t3) ∧ W = w') := TH0
      have NU := Lib.hid (fun W => numbers_any A2 n2 c2 W HR.out.le2.1 HR.out.le2.2 (fun h => by obtain ⟨b, o, e, _⟩ := HR.out.rd2.2 h; exact ⟨b, o, e⟩))
      rw [← hm2] at NU
      have VAL := Lib.hid (And.intro hs3 (And.intro ht3 (And.intro hk (And.intro hnn (And.intro hmm (And.intro hD (And.intro hml (And.intro hm hm2))))))))
      clear SH0 TH0 hs3 ht3 hm2 hm hml hr hA h1 h2 h3 hE hx hs ht hk hnn hmm hD RNG0 DL0 hh
      obtain ⟨g, hg⟩ : ∃ g, g = wr.heap.size := ⟨_, rfl⟩
      have S1 := Lib.hid ((Still.refl wr).alloc (Nat.le_refl _) (.cells #[.int .i64 0, .string ⟨#[]⟩, .string ⟨#[]⟩, .int .i64 0, .int .i64 0, .slice none 0 0, .slice none 0 0] 36))
      have B1 := Lib.hid (Blk.new wr 36 #[.int .i64 0, .string ⟨#[]⟩, .string ⟨#[]⟩, .int .i64 0, .int .i64 0, .slice none 0 0, .slice none 0 0])
      go_upto_region 6 with (first
        | (guard_target =~ wpList _ _ _ (Oper.mk _ (Op.load 36 _) _ _ _ _ :: _) _ _; go_must (refine load_midM (by kernel_rfl) 36 (.tmp 21) rfl b (o + j * 7) (by kernel_rfl) [.int .i64 k, .string s, .string t, .int .i64 nn, .int .i64 mm, .slice A n c, .slice A2 n2 c2] _ RNG.out Tryz.underlying36 rfl sizeDo ?_))
        | (guard_target =~ wpList _ _ _ (Oper.mk _ (Op.alloc _) _ _ _ _ :: _) _ _; go_must (refine wpList_allocDo rfl rfl (some 7) rfl ?_))
        | (guard_target =~ wpList _ _ _ (Oper.mk _ (Op.store _ _ _) _ _ _ _ :: _) _ _; go_must (refine wpList_storeDo rfl (.tmp 7) (.tmp 22) rfl wr.heap.size (by kernel_rfl) #[.int .i64 k, .string s, .string t, .int .i64 nn, .int .i64 mm, .slice A n c, .slice A2 n2 c2] _ (by kernel_rfl) rfl rfl (by kernel_rfl) B1.out ?_)))
      rw [← hg]
      obtain ⟨w1, hw1⟩ : ∃ w1, w1 = (wr.alloc (.cells #[.int .i64 0, .string ⟨#[]⟩, .string ⟨#[]⟩, .int .i64 0, .int .i64 0, .slice none 0 0, .slice none 0 0] 36)).setRow g #[.int .i64 k, .string s, .string t, .int .i64 nn, .int .i64 mm, .slice A n c, .slice A2 n2 c2] := ⟨_, rfl⟩
      rw [← hw1]
      have S2 := Lib.hid (show Still wr w1 by rw [hw1]; exact below_setRow S1.out (by rw [hg]; exact Nat.le_refl _) _)
      have B2 := Lib.hid (show Blk w1 g 36 #[.int .i64 k, .string s, .string t, .int .i64 nn, .int .i64 mm, .slice A n c, .slice A2 n2 c2] by rw [hw1, hg]; exact setRow_heap _ _ _ _ _ _ B1.out)
      clear hw1 S1 B1
      have SOK := Lib.hid (show ∀ W, Still w1 W → W.cell? ⟨g, 1, none⟩ = some (.string s) ∧ W.cell? ⟨g, 2, none⟩ = some (.string t) ∧ W.cell? ⟨g, 5, none⟩ = some (.slice A n c) ∧ W.cell? ⟨g, 6, none⟩ = some (.slice A2 n2 c2) from fun W s => ⟨(B2.out.still s).cell 1, (B2.out.still s).cell 2, (B2.out.still s).cell 5, (B2.out.still s).cell 6⟩)
      have HG := Lib.hid hg
      clear hg
      refine wp_region_late (S := fun W => W.cell? ⟨g, 1, none⟩ = some (.string s) ∧ W.cell? ⟨g, 2, none⟩ = some (.string t) ∧ W.cell? ⟨g, 5, none⟩ = some (.slice A n c) ∧ W.cell? ⟨g, 6, none⟩ = some (.slice A2 n2 c2)) [14, 16, 18, 20] (by kernel_rfl) (SOK.out _ ((Still.refl _).drew)) (fun hHeld => ?_)
      obtain ⟨wa, hwa⟩ : ∃ wa, wa = w1.drew := ⟨_, rfl⟩
      have SA := Lib.hid (show Still w1 wa by rw [hwa]; exact (Still.refl _).drew)
      try rw [← hwa] at hHeld
      rw [← hwa]
      clear hwa
      try simp only [Act.put, List.setIfInBounds_toArray, List.set_cons_zero, List.set_cons_succ]
      refine wpLate_pure (i := 0) (v := .pointer (some ⟨g, 1, none⟩)) rfl (by kernel_rfl) (by kernel_rfl) (by kernel_rfl) (by kernel_rfl) (fun _ _ _ h => h) (Or.inl ⟨by kernel_rfl, fun w _ => by go_simp⟩) ?_
      try simp only [Act.put, List.setIfInBounds_toArray, List.set_cons_zero, List.set_cons_succ]
      refine wpLate_take (i := 1) (v := .string s) [2, 5, 8, 9, 12, 14, 16, 18, 20] rfl (by kernel_rfl) (by kernel_rfl) (by kernel_rfl) (by kernel_rfl) (by kernel_rfl) (by decide) (fun _ _ _ h => h) (Or.inl ⟨by kernel_rfl, fun w hS => by obtain ⟨h0, h1, h2, h3⟩ := hS; go_simp⟩) (by assumption) (fun hHeld => ?_)
      try simp only [Act.put, List.setIfInBounds_toArray, List.set_cons_zero, List.set_cons_succ]
      refine wpLate_pure (i := 3) (v := .pointer (some ⟨g, 2, none⟩)) rfl (by kernel_rfl) (by kernel_rfl) (by kernel_rfl) (by kernel_rfl) (fun _ _ _ h => h) (Or.inl ⟨by kernel_rfl, fun w _ => by go_simp⟩) ?_
      try simp only [Act.put, List.setIfInBounds_toArray, List.set_cons_zero, List.set_cons_succ]
      refine wpLate_take (i := 4) (v := .string t) [5, 8, 9, 12, 14, 16, 18, 20] rfl (by kernel_rfl) (by kernel_rfl) (by kernel_rfl) (by kernel_rfl) (by kernel_rfl) (by decide) (fun _ _ _ h => h) (Or.inl ⟨by kernel_rfl, fun w hS => by obtain ⟨h0, h1, h2, h3⟩ := hS; go_simp⟩) (by assumption) (fun hHeld => ?_)
      try simp only [Act.put, List.setIfInBounds_toArray, List.set_cons_zero, List.set_cons_succ]
      refine wpLate_pure (i := 6) (v := .pointer (some ⟨g, 5, none⟩)) rfl (by kernel_rfl) (by kernel_rfl) (by kernel_rfl) (by kernel_rfl) (fun _ _ _ h => h) (Or.inl ⟨by kernel_rfl, fun w _ => by go_simp⟩) ?_
      try simp only [Act.put, List.setIfInBounds_toArray, List.set_cons_zero, List.set_cons_succ]
      refine wpLate_take (i := 7) (v := .slice A n c) [8, 9, 12, 14, 16, 18, 20] rfl (by kernel_rfl) (by kernel_rfl) (by kernel_rfl) (by kernel_rfl) (by kernel_rfl) (by decide) (fun _ _ _ h => h) (Or.inl ⟨by kernel_rfl, fun w hS => by obtain ⟨h0, h1, h2, h3⟩ := hS; go_simp⟩) (by assumption) (fun hHeld => ?_)
      try simp only [Act.put, List.setIfInBounds_toArray, List.set_cons_zero, List.set_cons_succ]
      refine wpLate_pure (i := 10) (v := .pointer (some ⟨g, 6, none⟩)) rfl (by kernel_rfl) (by kernel_rfl) (by kernel_rfl) (by kernel_rfl) (fun _ _ _ h => h) (Or.inl ⟨by kernel_rfl, fun w _ => by go_simp⟩) ?_
      try simp only [Act.put, List.setIfInBounds_toArray, List.set_cons_zero, List.set_cons_succ]
      refine wpLate_take (i := 11) (v := .slice A2 n2 c2) [12, 14, 16, 18, 20] rfl (by kernel_rfl) (by kernel_rfl) (by kernel_rfl) (by kernel_rfl) (by kernel_rfl) (by decide) (fun _ _ _ h => h) (Or.inl ⟨by kernel_rfl, fun w hS => by obtain ⟨h0, h1, h2, h3⟩ := hS; go_simp⟩) (by assumption) (fun hHeld => ?_)
      try simp only [Act.put, List.setIfInBounds_toArray, List.set_cons_zero, List.set_cons_succ]
      clear hHeld
      refine wpLate_one (i := 2) (o := ⟨some 25, .call { callee := .value (.func 14), args := #[.tmp 24, .const (.int .i64 30)], argTypes := #[9, 3] }, _, _, _, none⟩) (by kernel_rfl) rfl (fun K' hK' => ?_)
      go_simp
      go_wp2_with (go_at_call 14; refine (SH.out _).mono ?_; rintro e w2 ⟨rfl, rfl⟩)
      refine hK'.out _ _ (fun h _ => SOK.out _ SA.out) ?_
      clear hK' K'
      try simp only [Act.put, List.setIfInBounds_toArray, List.set_cons_zero, List.set_cons_succ]
      refine wpLate_pure (i := 13) (v := .pointer (some ⟨g, 1, none⟩)) rfl (by kernel_rfl) (by kernel_rfl) (by kernel_rfl) (by kernel_rfl) (fun _ _ _ h => h) (Or.inl ⟨by kernel_rfl, fun w _ => by go_simp⟩) ?_
      try simp only [Act.put, List.setIfInBounds_toArray, List.set_cons_zero, List.set_cons_succ]
      refine wpLate_one (i := 5) (o := ⟨some 28, .call { callee := .value (.func 14), args := #[.tmp 27, .const (.int .i64 30)], argTypes := #[9, 3] }, _, _, _, none⟩) (by kernel_rfl) rfl (fun K' hK' => ?_)
      go_simp
      go_wp2_with (go_at_call 14; refine (TH.out _).mono ?_; rintro e w2 ⟨rfl, rfl⟩)
      refine hK'.out _ _ (fun h _ => SOK.out _ SA.out) ?_
      clear hK' K'
      try simp only [Act.put, List.setIfInBounds_toArray, List.set_cons_zero, List.set_cons_succ]
      refine wpLate_one (i := 8) (o := ⟨some 31, .call { callee := .value (.func 16), args := #[.tmp 30, .const (.int .i64 100)], argTypes := #[31, 3] }, _, _, _, none⟩) (by kernel_rfl) rfl (fun K' hK' => ?_)
      go_simp
      go_wp2_with (go_at_call 16; refine (CUT.out _ (S2.out.trans SA.out)).mono ?_; rintro e w2 ⟨rfl, rfl⟩)
      refine hK'.out _ _ (fun h _ => SOK.out _ SA.out) ?_
      clear hK' K'
      try simp only [Act.put, List.setIfInBounds_toArray, List.set_cons_zero, List.set_cons_succ]
      refine wpLate_one (i := 9) (o := ⟨some 32, .call { callee := .value (.func 15), args := #[.tmp 31], argTypes := #[31] }, _, _, _, none⟩) (by kernel_rfl) rfl (fun K' hK' => ?_)
      go_simp
      go_wp2_with (go_at_call 15; refine (CP.out _ (S2.out.trans SA.out)).mono ?_; rintro e w3 ⟨⟨v3, rfl, own3⟩, s3⟩; have S3 := Lib.hid (SA.out.trans s3))
      obtain ⟨A3, c3, rfl, f1, f2, f3⟩ := own_form own3
      have O3 := Lib.hid own3
      have ZA := Lib.hid (show w1.heap.size ≤ wa.heap.size from SA.out.size)
      clear own3 f1 f2 f3 s3
      refine hK'.out _ _ (fun h _ => SOK.out _ S3.out) ?_
      clear hK' K'
      try simp only [Act.put, List.setIfInBounds_toArray, List.set_cons_zero, List.set_cons_succ]
      refine wpLate_one (i := 12) (o := ⟨some 35, .call { callee := .value (.func 17), args := #[.tmp 34, .const (.int .i64 60)], argTypes := #[34, 3] }, _, _, _, none⟩) (by kernel_rfl) rfl (fun K' hK' => ?_)
      go_simp
      go_wp2_with (go_at_call 17; refine (NU.out _).mono ?_; rintro e w2 ⟨rfl, rfl⟩)
      refine hK'.out _ _ (fun h _ => SOK.out _ S3.out) ?_
      clear hK' K'
      try simp only [Act.put, List.setIfInBounds_toArray, List.set_cons_zero, List.set_cons_succ]
      have B3 := Lib.hid (B2.out.still S3.out)
      have K3 := Lib.hid (S2.out.trans S3.out)
      have GB := Lib.hid (show g < wa.heap.size from Nat.lt_of_lt_of_le B2.out.lt SA.out.size)
      have GH := Lib.hid (show wr.heap.size ≤ g by rw [HG.out]; exact Nat.le_refl _)
      have WA := Lib.hid (show wr.heap.size ≤ wa.heap.size from Nat.le_trans S2.out.size SA.out.size)
      clear B2 S3 S2 SA SOK HG ZA
      refine wpLate_one (i := 14) (o := ⟨none, .store 9 (.tmp 36) (.tmp 25), _, _, _, none⟩) (by kernel_rfl) rfl (fun K' hK' => ?_)
      rw [if_pos (by kernel_rfl)]
      have kc : w3.cell? ⟨g, 1, none⟩ = some (.string s) := B3.out.cell 1
      have kf := B3.out.frozen 1
      with_reducible refine step_storeC w3 9 (.tmp 36) (.tmp 25) (by kernel_rfl) g 1 (.string s3) (.string s) (by kernel_rfl) (by kernel_rfl) rfl (by kernel_rfl) kc kf ?_
      clear kc kf
      obtain ⟨w4, hw4⟩ : ∃ w4, w4 = w3.setCell ⟨g, 1, none⟩ (.string s3) := ⟨_, rfl⟩
      have ST := Lib.hid (show Blk w4 g 36 #[.int .i64 k, .string s3, .string t, .int .i64 nn, .int .i64 mm, .slice A n c, .slice A2 n2 c2] ∧ Still wr w4 ∧ w4.ownsRow wa.heap.size 5 1 (.slice A3 m c3) m (bytesV (D.take 100)) from by rw [hw4]; exact stored B3.out K3.out GH.out O3.out GB.out)
      rw [← hw4]
      have B4 := Lib.hid ST.out.1
      have K4 := Lib.hid ST.out.2.1
      have O4 := Lib.hid ST.out.2.2
      clear hw4 ST B3 K3 O3
      refine hK'.out _ _ (fun _ hu => absurd hu (by decide)) ?_
      clear hK' K'
      try simp only [Act.put, List.setIfInBounds_toArray, List.set_cons_zero, List.set_cons_succ]
      refine wpLate_pure (i := 15) (v := .pointer (some ⟨g, 2, none⟩)) rfl (by kernel_rfl) (by kernel_rfl) (by kernel_rfl) (by kernel_rfl) (fun _ _ _ h => h) (Or.inl ⟨by kernel_rfl, fun w _ => by go_simp⟩) ?_
      try simp only [Act.put, List.setIfInBounds_toArray, List.set_cons_zero, List.set_cons_succ]
      refine wpLate_one (i := 16) (o := ⟨none, .store 9 (.tmp 37) (.tmp 28), _, _, _, none⟩) (by kernel_rfl) rfl (fun K' hK' => ?_)
      rw [if_pos (by kernel_rfl)]
      have kc : w4.cell? ⟨g, 2, none⟩ = some (.string t) := B4.out.cell 2
      have kf := B4.out.frozen 2
      with_reducible refine step_storeC w4 9 (.tmp 37) (.tmp 28) (by kernel_rfl) g 2 (.string t3) (.string t) (by kernel_rfl) (by kernel_rfl) rfl (by kernel_rfl) kc kf ?_
      clear kc kf
      obtain ⟨w5, hw5⟩ : ∃ w5, w5 = w4.setCell ⟨g, 2, none⟩ (.string t3) := ⟨_, rfl⟩
      have ST := Lib.hid (show Blk w5 g 36 #[.int .i64 k, .string s3, .string t3, .int .i64 nn, .int .i64 mm, .slice A n c, .slice A2 n2 c2] ∧ Still wr w5 ∧ w5.ownsRow wa.heap.size 5 1 (.slice A3 m c3) m (bytesV (D.take 100)) from by rw [hw5]; exact stored B4.out K4.out GH.out O4.out GB.out)
      rw [← hw5]
      have B5 := Lib.hid ST.out.1
      have K5 := Lib.hid ST.out.2.1
      have O5 := Lib.hid ST.out.2.2
      clear hw5 ST B4 K4 O4
      refine hK'.out _ _ (fun _ hu => absurd hu (by decide)) ?_
      clear hK' K'
      try simp only [Act.put, List.setIfInBounds_toArray, List.set_cons_zero, List.set_cons_succ]
      refine wpLate_pure (i := 17) (v := .pointer (some ⟨g, 5, none⟩)) rfl (by kernel_rfl) (by kernel_rfl) (by kernel_rfl) (by kernel_rfl) (fun _ _ _ h => h) (Or.inl ⟨by kernel_rfl, fun w _ => by go_simp⟩) ?_
      try simp only [Act.put, List.setIfInBounds_toArray, List.set_cons_zero, List.set_cons_succ]
      refine wpLate_one (i := 18) (o := ⟨none, .store 31 (.tmp 38) (.tmp 32), _, _, _, none⟩) (by kernel_rfl) rfl (fun K' hK' => ?_)
      rw [if_pos (by kernel_rfl)]
      have kc : w5.cell? ⟨g, 5, none⟩ = some (.slice A n c) := B5.out.cell 5
      have kf := B5.out.frozen 5
      with_reducible refine step_storeC w5 31 (.tmp 38) (.tmp 32) (by kernel_rfl) g 5 (.slice A3 m c3) (.slice A n c) (by kernel_rfl) (by kernel_rfl) rfl (by kernel_rfl) kc kf ?_
      clear kc kf
      obtain ⟨w6, hw6⟩ : ∃ w6, w6 = w5.setCell ⟨g, 5, none⟩ (.slice A3 m c3) := ⟨_, rfl⟩
      have ST := Lib.hid (show Blk w6 g 36 #[.int .i64 k, .string s3, .string t3, .int .i64 nn, .int .i64 mm, .slice A3 m c3, .slice A2 n2 c2] ∧ Still wr w6 ∧ w6.ownsRow wa.heap.size 5 1 (.slice A3 m c3) m (bytesV (D.take 100)) from by rw [hw6]; exact stored B5.out K5.out GH.out O5.out GB.out)
      rw [← hw6]
      have B6 := Lib.hid ST.out.1
      have K6 := Lib.hid ST.out.2.1
      have O6 := Lib.hid ST.out.2.2
      clear hw6 ST B5 K5 O5
      refine hK'.out _ _ (fun _ hu => absurd hu (by decide)) ?_
      clear hK' K'
      try simp only [Act.put, List.setIfInBounds_toArray, List.set_cons_zero, List.set_cons_succ]
      refine wpLate_pure (i := 19) (v := .pointer (some ⟨g, 6, none⟩)) rfl (by kernel_rfl) (by kernel_rfl) (by kernel_rfl) (by kernel_rfl) (fun _ _ _ h => h) (Or.inl ⟨by kernel_rfl, fun w _ => by go_simp⟩) ?_
      try simp only [Act.put, List.setIfInBounds_toArray, List.set_cons_zero, List.set_cons_succ]
      refine wpLate_one (i := 20) (o := ⟨none, .store 34 (.tmp 39) (.tmp 35), _, _, _, none⟩) (by kernel_rfl) rfl (fun K' hK' => ?_)
      rw [if_pos (by kernel_rfl)]
      have kc : w6.cell? ⟨g, 6, none⟩ = some (.slice A2 n2 c2) := B6.out.cell 6
      have kf := B6.out.frozen 6
      with_reducible refine step_storeC w6 34 (.tmp 39) (.tmp 35) (by kernel_rfl) g 6 (.slice A2 m2 c2) (.slice A2 n2 c2) (by kernel_rfl) (by kernel_rfl) rfl (by kernel_rfl) kc kf ?_
      clear kc kf
      obtain ⟨w7, hw7⟩ : ∃ w7, w7 = w6.setCell ⟨g, 6, none⟩ (.slice A2 m2 c2) := ⟨_, rfl⟩
      have ST := Lib.hid (show Blk w7 g 36 #[.int .i64 k, .string s3, .string t3, .int .i64 nn, .int .i64 mm, .slice A3 m c3, .slice A2 m2 c2] ∧ Still wr w7 ∧ w7.ownsRow wa.heap.size 5 1 (.slice A3 m c3) m (bytesV (D.take 100)) from by rw [hw7]; exact stored B6.out K6.out GH.out O6.out GB.out)
      rw [← hw7]
      have B7 := Lib.hid ST.out.1
      have K7 := Lib.hid ST.out.2.1
      have O7 := Lib.hid ST.out.2.2
      clear hw7 ST B6 K6 O6
      refine hK'.out _ _ (fun _ hu => absurd hu (by decide)) ?_
      clear hK' K'
      try simp only [Act.put, List.setIfInBounds_toArray, List.set_cons_zero, List.set_cons_succ]
      refine wpLate_done (by kernel_rfl) ?_ _
      go_wp2_with (first
        | (guard_target =~ wpList _ _ _ (Oper.mk _ (Op.load _ _) _ _ _ _ :: _) _ _; go_must (refine wpList_loadDo rfl (.tmp 7) rfl g (by kernel_rfl) #[.int .i64 k, .string s3, .string t3, .int .i64 nn, .int .i64 mm, .slice A3 m c3, .slice A2 m2 c2] rfl B7.out ?_))
        | (guard_target =~ wpList _ _ _ (Oper.mk _ (Op.buildSlice _ _ _) _ _ _ _ :: _) _ _; go_must (refine wpList_boxDo w7 rfl (.tmp 41) rfl k s3 t3 nn mm A3 m c3 A2 m2 c2 (by kernel_rfl) ?_))
        | (at_builtin; go_must (refine wpList_pushDo _ rfl (.tmp 40) (.tmp 42) rfl w.heap.size ov j xs rfl (OVK.out _ (K7.out.trans ((Still.refl w7).alloc (Nat.le_refl _) _))) w7.heap.size [.int .i64 k, .string s3, .string t3, .int .i64 nn, .int .i64 mm, .slice A3 m c3, .slice A2 m2 c2] (by kernel_rfl) ?hc rfl ?h1 J6.out ?hb ?_)))
      case hc => exact fun q u hq => (Blk.new w7 36 #[.int .i64 k, .string s3, .string t3, .int .i64 nn, .int .i64 mm, .slice A3 m c3, .slice A2 m2 c2]).cell q |>.trans (by simpa using hq)
      case h1 => intro u hu; simp at hu; rcases hu with rfl | rfl | rfl | rfl | rfl | rfl | rfl <;> rfl
      case hb => exact Nat.le_trans SW.out.size (Nat.le_trans K7.out.size ((Still.refl w7).alloc (Nat.le_refl _) _).size)
      intro v8 w8 own8 gr8 loc8
      have FI := Lib.hid (show ∃ xs, w8.ownsRow w.heap.size 36 7 v8 (j + 1) xs ∧ HasD w8 w.heap.size B ((L.take (j + 1)).map cutD) xs ∧ Still w w8 from by
        have s8 : Still w7 (w7.alloc (.cells #[.int .i64 k, .string s3, .string t3, .int .i64 nn, .int .i64 mm, .slice A3 m c3, .slice A2 m2 c2] 36)) := (Still.refl w7).alloc (Nat.le_refl _) _
        have sr : Still wr (w7.alloc (.cells #[.int .i64 k, .string s3, .string t3, .int .i64 nn, .int .i64 mm, .slice A3 m c3, .slice A2 m2 c2] 36)) := K7.out.trans s8
        obtain ⟨v1, v2, v3, v4, v5, v6, v7, v9, v10⟩ := VAL.out
        have ovw := OVK.out _ sr
        have c0 := Chg.of_still sr (fun _ => False)
        have cg := Chg.of_grown (S := fun q => ov.ownBlock = some q) gr8 (fun q e _ => e)
        have hovb : ∀ q, ov.ownBlock = some q → w.heap.size ≤ q := fun q hq => (ovw.lt q hq).1
        have hBS : ∀ q, q < B → ¬ ov.ownBlock = some q := fun q hq e => by have := hovb q e; have := FC.out.2.2.2.2.1; omega
        refine ⟨_, own8, ?_, (SW.out.trans sr).grown gr8 (SW.out.trans sr).size (fun q hq => hovb q hq)⟩
        rw [TKE.out]
        have hk1 := HV.out.keep c0 (fun _ _ h => h) (fun v n l ho => c0.own ho (fun _ _ h => h))
        have hk2 := hk1.keep cg hBS (fun v n l ho => own_apart ho ovw (by decide) gr8)
        have hrd2 := ((HR.out.rd2.chg c0 (fun _ _ h => h)).chg cg hBS).front (k := m2) (by omega)
        have hcells : ([.int .i64 k, .string s3, .string t3, .int .i64 nn, .int .i64 mm, .slice A3 m c3, .slice A2 m2 c2] : List Value) = doL (cutD x) A3 m c3 A2 m2 c2 := by
          unfold doL cutD
          rw [v3, v4, v5, v1, v2]
        rw [hcells]
        have hO : w8.ownsRow w.heap.size 5 1 (.slice A3 m c3) m (bytesV (cutD x).b) := by
          show w8.ownsRow _ _ 1 _ _ (bytesV (x.b.take 100))
          rw [← v6]
          exact own_apart (own_still (own_low O7.out (Nat.le_trans SW.out.size WA.out)) s8) ovw (by decide) gr8
        have hl60 : m2 ≤ c2 := by have := HR.out.le2.1; omega
        have hz : x.l.take m2 = x.l.take 60 := by
          rw [v10]
          have hxl : x.l.length = n2 := HR.out.rd2.1
          by_cases h : n2 ≤ 60
          · rw [Nat.min_eq_left h, List.take_of_length_le (by omega), List.take_of_length_le (by omega)]
          · rw [Nat.min_eq_right (by omega)]
        rw [hz] at hrd2
        exact hk2.snoc (cutD x) A3 m c3 A2 m2 c2 hO (by omega) hrd2 hl60 HR.out.le2.2 (shB_size 30 x.s) (shB_size 30 x.t) HR.out.nr)
      clear own8 gr8 loc8 B7 K7 O7
      go_wp2_with fail
      go_roundw
      case rel => exact ⟨j + 1, _, rfl, by omega, by go_num, FI.out⟩
      case measure => simp [intOf]; omega
    · obtain rfl : j = M := by omega
      obtain ⟨xs, h1, h2, h3⟩ := hh.out
      have FIN := Lib.hid (And.intro h1 (And.intro h2 h3))
      obtain ⟨Ao, co, rfl⟩ := own_formV h1
      have hend : (nl : Int) ≤ (j : Int) ∨ (N : Int) ≤ (j : Int) := by have := FC.out; omega
      clear h1 h2 h3 hh
      rcases hend with he | he
      · go_wp2_with fail
        go_ret
        first | exact ⟨⟨_, xs, rfl, FIN.out.1, FIN.out.2.1⟩, FIN.out.2.2⟩ | exact ⟨⟨_, rfl, xs, FIN.out.1, (by first | exact FIN.out.2.1 | (rw [← List.map_take]; exact FIN.out.2.1))⟩, FIN.out.2.2⟩
      · by_cases hlt2 : (j : Int) < (nl : Int)
        · go_wp2_with fail
          go_ret
          first | exact ⟨⟨_, xs, rfl, FIN.out.1, FIN.out.2.1⟩, FIN.out.2.2⟩ | exact ⟨⟨_, rfl, xs, FIN.out.1, (by first | exact FIN.out.2.1 | (rw [← List.map_take]; exact FIN.out.2.1))⟩, FIN.out.2.2⟩
        · go_wp2_with fail
          go_ret
          first | exact ⟨⟨_, xs, rfl, FIN.out.1, FIN.out.2.1⟩, FIN.out.2.2⟩ | exact ⟨⟨_, rfl, xs, FIN.out.1, (by first | exact FIN.out.2.1 | (rw [← List.map_take]; exact FIN.out.2.1))⟩, FIN.out.2.2⟩
end Go.Proofs.YtljacdbdjacbkaaGreat

/- One of the calls that were cut, as a value, wherever its rows lie. It proves no statement. -/


namespace Go.Proofs.YtljacdbdjacbkaaGreat
open Go.RowKit Go.Maps Go.WideMaps Go.Sort
set_option linter.unusedVariables false
set_option linter.unusedSimpArgs false

theorem DosIn.still {W W' : World} {B : Nat} {A : Option Addr} {L : List Call} (h : DosIn W B A L) (hB : B ≤ W.heap.size) (s : Still W W') : DosIn W' B A L := fun i x hx => by
  obtain ⟨b, o, A1, n, c, A2, n2, c2, e, hE⟩ := h i x hx
  exact ⟨b, o, A1, n, c, A2, n2, c2, e, hE.still hB s⟩
/-- One of the calls that were cut, as a value, wherever its rows lie. -/
theorem HasD.at2 {W : World} {base B : Nat} {X : List Call} {xs : List Value} {gl n c : Nat} (h : HasD W base B X xs) (hrow : W.ownsRow base 36 7 (.slice (some ⟨gl, 0, none⟩) n c) n xs) (hn : X.length = n) {i : Nat} {x : Call} (hx : X[i]? = some x) (P : Nat → Prop) (hP1 : ∀ b, b < B → P b) (hP2 : ∀ b, base ≤ b → b < W.heap.size → P b) :
    ∃ A m cc A2 n2 c2, W.rangeAt gl (i * 7) (doL x A m cc A2 n2 c2) ∧ x.b.length = m ∧ m ≤ 100 ∧ x.nn ≤ 9223372036854775807 ∧ DoAt W P (.agg (doL x A m cc A2 n2 c2).toArray) x := by
  obtain ⟨A, m, cc, A2, n2, c2, h1, h2, h3, h4, h5, h6, h7, h8, h9⟩ := h.2 i x hx
  have hil : i < X.length := (List.getElem?_eq_some_iff.1 hx).1
  obtain ⟨A', c', ev, f1, f2, f3⟩ := own_form h2
  injection ev with ev1 _ ev2
  subst ev1 ev2
  have hbl : x.b.length = m := (Reads.of_own h2).1
  refine ⟨A, m, cc, A2, n2, c2, ?_, hbl, h3, h9, ⟨A, m, cc, A2, n2, c2, rfl, Reads.of_own h2, ?_, h3, f3, ⟨h4.1, fun h0 => ?_⟩, h5, h6, by unfold maxLen; omega, by unfold maxLen; omega, h9⟩⟩
  · intro q u hq
    have hq7 : q < 7 := (List.getElem?_eq_some_iff.1 hq).1
    rw [hrow.cellAt (i * 7 + q) (by omega), h1 q hq7]
    exact hq
  · intro ad e hm
    have := h2.lt ad.block (by rw [e]; rfl)
    exact hP2 _ this.1 this.2
  · obtain ⟨b, o, e, hb, hl, hc⟩ := h4.2 h0
    exact ⟨b, o, e, hP1 b hb, hl, hc⟩
end Go.Proofs.YtljacdbdjacbkaaGreat
