/- Contracts and facts, several texts in one. It proves no statement. -/
import Derived.Test.YtfneloobfidckaaGreatDoorSf08
import Derived.Test.YtfneloobfidckaaGreatDoorSf09
import Derived.Deep.DeepCutAuto

/- A file's crash, whatever changes wait. It proves no statement. -/



namespace Go.Proofs.YtfneloobfidckaaGreatDoor
open Go.RowKit Go.Maps Go.WideMaps
set_option linter.unusedVariables false
set_option linter.unusedSimpArgs false

theorem step_adds_at (w : World) {o : Oper} {a : Act} {K : Act → World → Prop} {Q : Exit → Act → World → Prop} (s x : Operand)
    (ho : o.op = .call { callee := .builtin .append, args := #[s, x], argTypes := #[42, 42] })
    (base : Nat) (v : Value) (n : Nat) (l : List UInt8) (hs : a.eval s = v) (hown : w.ownsRow base 5 1 v n (bytesV l)) (A : Option Addr) (n' c' : Nat) (B : Nat) (l' : List UInt8)
    (hx : a.eval x = .slice A n' c') (hr : Reads w B A n' l') (hA : A = none → c' = 0) (hn : n + n' ≤ 140737488355328) (hbase : base ≤ w.heap.size)
    (h : ∀ v' w', w'.ownsRow base 5 1 v' (n + n') (bytesV (l ++ l')) → w.grownBy w' v.ownBlock → (v'.ownBlock = v.ownBlock ∨ v'.ownBlock = some w.heap.size) → K (a.put o.dst v') w') : o.wp Tryz.prog a w K Q := by
  obtain ⟨v', w', hrun, h2, h3, h4⟩ := run_adds_at w o.type base v n l hown A n' c' B l' hr hA hn hbase
  unfold Oper.wp execOp
  simp only [ho, resolve, invoke, builtin, Sem.run_bind, Sem.run_pure, Result.andThen_ok, List.map_toArray, List.map_cons, List.map_nil, hs, hx, hrun]
  exact h v' w' h2 h3 h4
/-- A file's settle, its row of changes nil or not. -/
theorem fsettle_all {w : World} (gf : Nat) (nv fv wtv : Value) (base n k : Nat) (l : List UInt8) (Y : List Ch) (cs : List Value) (F : Nat → Nat → Prop) (hf : FileB w gf nv fv wtv) (hw : w.ownsRow base 267 2 wtv k cs)
    (hx : HasC w base Y cs F) (hk : k = Y.length) (hfv : w.ownsRow base 5 1 fv l.length (bytesV l)) (hsep : ∀ b, fv.ownBlock = some b → ∀ i, ¬ F i b) (hFg : ∀ i, ¬ F i gf) (hbase : base ≤ w.heap.size) (hn : n ≤ k) (hk6 : k ≤ 1000000) (htot : ChOK l Y) :
    Calls Tryz.prog 150 #[.pointer (some ⟨gf, 0, none⟩), .int .i64 (n : Int)] w fun e w' => e = .returned (.tuple #[]) ∧ ∃ fv', FileB w' gf nv fv' (.slice none 0 0) ∧ w'.ownsRow base 5 1 fv' (appAll l (Y.take n)).length (bytesV (appAll l (Y.take n))) ∧ Chg w w' (fun b => b = gf ∨ fv.ownBlock = some b) ∧ (fv'.ownBlock = fv.ownBlock ∨ ∃ j, fv'.ownBlock = some j ∧ w.heap.size ≤ j) := by
  rcases hw.2 with ⟨rfl, h0⟩ | ⟨g, cap, cur, rfl, h2, h3, h4, _⟩
  · obtain rfl : n = 0 := by omega
    refine (fsettle_nil gf nv fv hf).mono ?_
    rintro e w' ⟨he, h1, h2⟩
    exact ⟨he, fv, h1, h2.own hfv (fun b hb hs => own_neM hf hfv (by decide) (by rw [hb, hs])), h2.mono (fun b _ hs => .inl hs), .inl rfl⟩
  · exact fsettle_any gf nv fv base n k g cap l Y cs F hf hw hx hk hfv hsep hFg hbase hn hk6 htot
def natN (zs : List Int) (most : Nat) : Nat := (tkN zs most).toNat
theorem natN_eq (zs : List Int) (most : Nat) : tkN zs (most : Int) = ((natN zs most : Nat) : Int) := by
  have := (tkN_le zs (most : Int) (by omega)).1
  unfold natN
  omega
theorem natN_le (zs : List Int) (most : Nat) : natN zs most ≤ most := by
  have := tkN_le zs (most : Int) (by omega)
  unfold natN
  omega
def tornOf (Y : List Ch) (n : Nat) : List UInt8 := match Y[n]? with | some c => c.more | none => []
/-- What a crash leaves of a file. -/
def crashL (l : List UInt8) (Y : List Ch) (zs : List Int) : List UInt8 :=
  appAll l (Y.take (natN zs Y.length)) ++ (tornOf Y (natN zs Y.length)).take (natN zs.tail (tornOf Y (natN zs Y.length)).length)
theorem crashL_len {l : List UInt8} {Y : List Ch} (zs : List Int) (h : ChOK l Y) : (crashL l Y zs).length ≤ 16777216 := by
  unfold crashL tornOf
  rw [List.length_append, List.length_take]
  have h1 := (h.front (natN zs Y.length)).len
  cases hc : Y[natN zs Y.length]? with
  | none => simp only [List.length_nil]; omega
  | some c =>
    have h2 := h.2 _ c hc
    simp only
    rcases h2.2.1 with h3 | h3
    · rw [h3]; simp only [List.length_nil]; omega
    · omega
theorem tk_blk {w : World} {B : Nat → Prop} {gl : Nat} {zs : List Int} (h : TK w B gl zs) : ∃ cs, Blk w gl 45 cs := by obtain ⟨A, n, c, hb, _⟩ := h; exact ⟨_, hb⟩

/-- The first half of a file's crash: how many changes last, what is torn, settled. -/
theorem crash_start {w : World} (gf gl : Nat) (nv fv wtv : Value) (base : Nat) (B : Nat → Prop) (l : List UInt8) (Y : List Ch) (cs : List Value) (F : Nat → Nat → Prop) (zs : List Int) (hf : FileB w gf nv fv wtv) (hw : w.ownsRow base 267 2 wtv Y.length cs)
    (hx : HasC w base Y cs F) (hfv : w.ownsRow base 5 1 fv l.length (bytesV l)) (hFg : ∀ i, ¬ F i gf) (hFl : ∀ i, ¬ F i gl) (hT : TK w B gl zs) {w1 : World} (c : Chg w w1 (fun b => b = gl)) :
    FileB w1 gf nv fv wtv ∧ w1.ownsRow base 267 2 wtv Y.length cs ∧ HasC w1 base Y cs F ∧ w1.ownsRow base 5 1 fv l.length (bytesV l) := by
  obtain ⟨ct, hb⟩ := tk_blk hT
  exact ⟨c.blk hf (blk_ne hf hb (by decide)), c.own hw (fun b hb' hs => own_neM hb hw (by decide) (by rw [hb', hs])), hx.keep c (fun i b hb' hs => hFl i (by rw [← hs]; exact hb')), c.own hfv (fun b hb' hs => own_neM hb hfv (by decide) (by rw [hb', hs]))⟩
set_option maxRecDepth 100000 in
set_option maxHeartbeats 6400000 in
theorem fcrash_any {w : World} (gf gl : Nat) (nv fv wtv : Value) (base : Nat) (B : Nat → Prop) (l : List UInt8) (Y : List Ch) (cs : List Value) (F : Nat → Nat → Prop) (zs : List Int) (hf : FileB w gf nv fv wtv) (hw : w.ownsRow base 267 2 wtv Y.length cs)
    (hx : HasC w base Y cs F) (hfv : w.ownsRow base 5 1 fv l.length (bytesV l)) (hsep : ∀ b, fv.ownBlock = some b → ∀ i, ¬ F i b) (hFg : ∀ i, ¬ F i gf) (hFl : ∀ i, ¬ F i gl) (hbase : base ≤ w.heap.size) (hk6 : Y.length ≤ 1000000) (htot : ChOK l Y)
    (hT : TK w B gl zs) (hB : ¬ B gl) (hBb : ∀ b, fv.ownBlock = some b → ¬ B b) (hgb : ¬ B gf) (hBw : ∀ b, B b → b < w.heap.size) :
    Calls Tryz.prog 103 #[.pointer (some ⟨gf, 0, none⟩), .func (.func 160) #[] #[.pointer (some ⟨gl, 0, none⟩)]] w fun e w' => e = .returned (.tuple #[]) ∧ ∃ nv' fv', FileB w' gf nv' fv' (.slice none 0 0) ∧ w'.ownsRow w.heap.size 5 1 nv' (crashL l Y zs).length (bytesV (crashL l Y zs)) ∧ w'.ownsRow base 5 1 fv' (crashL l Y zs).length (bytesV (crashL l Y zs)) ∧ TK w' B gl zs.tail.tail ∧ Chg w w' (fun b => b = gf ∨ b = gl ∨ fv.ownBlock = some b) ∧ (fv'.ownBlock = fv.ownBlock ∨ ∃ j, fv'.ownBlock = some j ∧ w.heap.size ≤ j) ∧ (∀ j, nv'.ownBlock = some j → fv'.ownBlock ≠ some j) := by
  obtain ⟨k, hk⟩ : ∃ k, k = Y.length := ⟨_, rfl⟩
  obtain ⟨n, hn⟩ : ∃ n, n = natN zs Y.length := ⟨_, rfl⟩
  have hnk : n ≤ k := by rw [hn, hk]; exact natN_le _ _
  obtain ⟨tn, htn⟩ : ∃ tn, tn = tornOf Y n := ⟨_, rfl⟩
  obtain ⟨m, hm⟩ : ∃ m, m = natN zs.tail tn.length := ⟨_, rfl⟩
  have hmt : m ≤ tn.length := by rw [hm]; exact natN_le _ _
  obtain ⟨R, hR⟩ : ∃ R, R = crashL l Y zs := ⟨_, rfl⟩
  have hRe : R = appAll l (Y.take n) ++ tn.take m := by rw [hR, hm, htn, hn]; rfl
  obtain ⟨st, hst⟩ : ∃ st, st = appAll l (Y.take n) := ⟨_, rfl⟩
  rw [← hst] at hRe
  have hRl : R.length ≤ 16777216 := by rw [hR]; exact crashL_len zs htot
  rw [← hR]
  have TA := Lib.hid (take_any B gl zs (k : Int) hT hB)
  rw [hk, natN_eq, ← hn, ← hk] at TA
  have KEEP := Lib.hid (fun (w1 : World) (c : Chg w w1 (fun b => b = gl)) => crash_start gf gl nv fv wtv base B l Y cs F zs hf hw hx hfv hFg hFl hT c)
  have c2 : w.cell? ⟨gf, 2, none⟩ = some wtv := hf.cell 2
  have GLT := Lib.hid (show gl < w.heap.size from by obtain ⟨ct, hb⟩ := tk_blk hT; exact hb.lt)
  have GNE := Lib.hid (show gf ≠ gl from by obtain ⟨ct, hb⟩ := tk_blk hT; exact blk_ne hf hb (by decide))
  have WF : ∃ Aw cw, wtv = .slice Aw k cw ∧ k ≤ cw ∧ cw ≤ 9223372036854775807 ∧ (Aw = none → k = 0) ∧ (∀ ad, Aw = some ad → ∃ b, ad = ⟨b, 0, none⟩) := by
    rcases hw.2 with ⟨rfl, h0⟩ | ⟨g, c, cur, rfl, h2, h3, h4, h5, _⟩
    · exact ⟨none, 0, by rw [hk, h0], by omega, by omega, fun _ => by omega, fun ad e => by cases e⟩
    · exact ⟨_, c, by rw [hk], by omega, by unfold maxLen at h5; omega, (fun e => by cases e), fun ad e => ⟨g, by injection e with e; exact e.symm⟩⟩
  obtain ⟨Aw, cw, rfl, w1c, w2c, w3c, w4c⟩ := WF
  have ARI := Lib.hid (And.intro hk (And.intro hbase (And.intro hk6 (And.intro hBb (And.intro hgb hBw)))))
  have SEP := Lib.hid (And.intro hsep (And.intro hFg hFl))
  have TOT := Lib.hid htot
  have RE := Lib.hid (And.intro hRe (And.intro hst (And.intro hRl (And.intro hmt (And.intro hm htn)))))
  have W3 := Lib.hid (And.intro w3c w4c)
  have HBL := Lib.hid hB
  clear hf hw hx hfv hsep hFg hFl hbase hk6 htot hT hm htn hR hRe hst hRl hn hmt hBb hgb hBw w3c w4c hk hB
  go_enter Tryz.func103, Tryz.ntmps103
  go_wp2_with fail
  refine TA.out.mono ?_
  rintro e w1 ⟨rfl, tk1, ch1⟩
  have K1 := Lib.hid (KEEP.out w1 ch1)
  have T1 := Lib.hid (And.intro tk1 ch1)
  have k2 : w1.cell? ⟨gf, 2, none⟩ = some (.slice Aw k cw) := Blk.cell K1.out.1 2
  clear tk1 ch1 c2 TA KEEP
  go_upto_if 19 with fail
  go_cut [5] (fun tv wx => wx = w1 ∧ ∃ At ct, tv = .slice At tn.length ct ∧ tn.length ≤ ct ∧ ct ≤ 9223372036854775807 ∧ (At = none → ct = 0) ∧ Hid (w1.ownsRow base 5 1 (.slice At tn.length ct) tn.length (bytesV tn) ∧ (∀ b, (Value.slice At tn.length ct).ownBlock = some b → ∃ i, F i b)))
  case first =>
    by_cases hlt : n < k
    · obtain ⟨c, hc⟩ : ∃ c, Y[n]? = some c := ⟨_, List.getElem?_eq_getElem (by have := ARI.out.1; omega)⟩
      obtain ⟨cv, q0, q1, q2, q3⟩ := K1.out.2.2.1.2 n c hc
      have htn : tn = c.more := by rw [RE.out.2.2.2.2.2]; unfold tornOf; rw [hc]
      rw [← htn] at q2
      obtain ⟨At, ct, rfl, f1, f2, f3⟩ := own_form q2
      obtain ⟨bw, rfl⟩ : ∃ b, Aw = some ⟨b, 0, none⟩ := by
        rcases Aw with _ | ad
        · exact absurd (W3.out.1 rfl) (by omega)
        · obtain ⟨b, e⟩ := W3.out.2 ad rfl
          exact ⟨b, by rw [e]⟩
      have kc : w1.cell? ⟨bw, n * 2 + 1, none⟩ = some (.slice At tn.length ct) := by
        have h5 := K1.out.2.1
        rw [← ARI.out.1] at h5
        have h6 := h5.cellAt (n * 2 + 1) (by omega)
        rw [h6, Nat.mul_comm n 2, q1]
      have z1 : (n : Int) < (k : Int) := by omega
      have z2 : (0 : Int) ≤ (n : Int) := by omega
      have FI := Lib.hid (show w1.ownsRow base 5 1 (.slice At tn.length ct) tn.length (bytesV tn) ∧ (∀ b, (Value.slice At tn.length ct).ownBlock = some b → ∃ i, F i b) from ⟨q2, fun b hb => ⟨n, q3 b hb⟩⟩)
      have F3 := Lib.hid f3
      clear q0 q1 q2 q3 hc htn f3
      go_wp2_with fail
      go_meet
      case rel => exact ⟨rfl, At, ct, rfl, f1, f2, fun e => (F3.out e).2, FI.out⟩
    · obtain rfl : n = k := by omega
      have htn : tn = [] := by
        rw [RE.out.2.2.2.2.2]
        unfold tornOf
        rw [List.getElem?_eq_none (by have := ARI.out.1; omega)]
      have FI := Lib.hid (show w1.ownsRow base 5 1 (.slice none tn.length 0) tn.length (bytesV tn) ∧ (∀ b, (Value.slice none tn.length 0).ownBlock = some b → ∃ i, F i b) from ⟨by rw [htn]; exact World.ownsRow_nil _ _ _ _, fun b hb => by simp [Value.ownBlock] at hb⟩)
      have HTN := Lib.hid htn
      clear htn
      go_wp2_with fail
      go_meet
      case rel => exact ⟨rfl, none, 0, by rw [HTN.out]; rfl, by rw [HTN.out]; exact Nat.le_refl _, by omega, fun _ => rfl, FI.out⟩
  case rest =>
    obtain ⟨rfl, At, ct, rfl, t1, t2, t3, hin⟩ := hcut
    have HBW := Lib.hid (show base ≤ wc.heap.size from Nat.le_trans ARI.out.2.1 T1.out.2.size)
    have ST := Lib.hid (fsettle_all gf nv fv (.slice Aw k cw) base n Y.length l Y cs F K1.out.1 K1.out.2.1 K1.out.2.2.1 rfl K1.out.2.2.2 SEP.out.1 SEP.out.2.1 HBW.out (by have := ARI.out.1; omega) ARI.out.2.2.1 TOT.out)
    have NFL := Lib.hid (show fv.ownBlock ≠ some gl from by obtain ⟨ct2, hb⟩ := tk_blk T1.out.1; exact own_neM hb K1.out.2.2.2 (by decide))
    have NFB := Lib.hid (show ∀ b, fv.ownBlock = some b → base ≤ b from fun b hb => (K1.out.2.2.2.lt b hb).1)
    go_wp2_with fail
    refine ST.out.mono ?_
    rintro e w2 ⟨rfl, fj, f1, f2, f3, f4⟩
    have hst2 := RE.out.2.1
    rw [← hst2] at f2
    obtain ⟨ns, hns⟩ : ∃ ns, ns = st.length := ⟨_, rfl⟩
    rw [← hns] at f2
    have HNS := Lib.hid hns
    clear hns
    obtain ⟨Aj, cj, rfl, j1, j2, j3⟩ := own_form f2
    have TT2 := Lib.hid (show TK w2 B gl zs.tail from T1.out.1.chg f3 (fun b hp hb => by rcases hb with rfl | hb; exact ARI.out.2.2.2.2.1 hp; exact ARI.out.2.2.2.1 b hb hp) (by rintro (h | h); exact GNE.out h.symm; exact NFL.out h))
    have TR2 := Lib.hid (show w2.ownsRow base 5 1 (.slice At tn.length ct) tn.length (bytesV tn) from f3.own hin.out.1 (fun b hb => by obtain ⟨i, hi⟩ := hin.out.2 b hb; rintro (h | h); exact SEP.out.2.1 i (by rw [← h]; exact hi); exact SEP.out.1 b h i hi))
    have FB2 := Lib.hid f1
    have FO2 := Lib.hid f2
    have CH2 := Lib.hid (show Chg w w2 (fun b => b = gf ∨ b = gl ∨ fv.ownBlock = some b) from (T1.out.2.mono (fun b _ h => .inr (.inl h))).trans f3 (fun b _ h => by rcases h with h | h; exact .inl h; exact .inr (.inr h)))
    have LO2 := Lib.hid (show (Value.slice Aj ns cj).ownBlock = fv.ownBlock ∨ ∃ j, (Value.slice Aj ns cj).ownBlock = some j ∧ w.heap.size ≤ j from by rcases f4 with h | ⟨j, h, hj⟩; exact .inl h; exact .inr ⟨j, h, Nat.le_trans T1.out.2.size hj⟩)
    clear f1 f2 f3 f4 ST k2 K1 hst2
    go_wp2_with fail
    refine wp_region_late (S := fun W => W.cell? ⟨gf, 1, none⟩ = some (.slice Aj ns cj)) [14] (by kernel_rfl) ((Blk.still FB2.out ((Still.refl _).drew)).cell 1) (fun hHeld => ?_)
    obtain ⟨wa, hwa⟩ : ∃ wa, wa = w2.drew := ⟨_, rfl⟩
    have SA := Lib.hid (show Still w2 wa by rw [hwa]; exact (Still.refl _).drew)
    try rw [← hwa] at hHeld
    rw [← hwa]
    clear hwa
    have TA2 := Lib.hid (take_any B gl zs.tail (tn.length : Int) (TT2.out.chg (Chg.of_still SA.out (fun _ => False)) (fun _ _ h => h) (fun h => h)) HBL.out)
    rw [natN_eq, ← RE.out.2.2.2.2.1] at TA2
    try simp only [Act.put, List.setIfInBounds_toArray, List.set_cons_zero, List.set_cons_succ]
    refine wpLate_pure (i := 0) (v := .pointer (some ⟨gf, 0, none⟩)) rfl (by kernel_rfl) (by kernel_rfl) (by kernel_rfl) (by kernel_rfl) (fun _ _ _ h => h) (Or.inl ⟨by kernel_rfl, fun w _ => by go_simp⟩) ?_
    try simp only [Act.put, List.setIfInBounds_toArray, List.set_cons_zero, List.set_cons_succ]
    refine wpLate_pure (i := 1) (v := .pointer (some ⟨gf, 0, none⟩)) rfl (by kernel_rfl) (by kernel_rfl) (by kernel_rfl) (by kernel_rfl) (fun _ _ _ h => h) (Or.inl ⟨by kernel_rfl, fun w _ => by go_simp⟩) ?_
    try simp only [Act.put, List.setIfInBounds_toArray, List.set_cons_zero, List.set_cons_succ]
    refine wpLate_pure (i := 2) (v := .pointer (some ⟨gf, 0, none⟩)) rfl (by kernel_rfl) (by kernel_rfl) (by kernel_rfl) (by kernel_rfl) (fun _ _ _ h => h) (Or.inl ⟨by kernel_rfl, fun w _ => by go_simp⟩) ?_
    try simp only [Act.put, List.setIfInBounds_toArray, List.set_cons_zero, List.set_cons_succ]
    refine wpLate_pure (i := 3) (v := .pointer (some ⟨gf, 1, none⟩)) rfl (by kernel_rfl) (by kernel_rfl) (by kernel_rfl) (by kernel_rfl) (fun _ _ _ h => h) (Or.inl ⟨by kernel_rfl, fun w _ => by go_simp⟩) ?_
    try simp only [Act.put, List.setIfInBounds_toArray, List.set_cons_zero, List.set_cons_succ]
    refine wpLate_take (i := 4) (v := (.slice Aj ns cj)) [14] rfl (by kernel_rfl) (by kernel_rfl) (by kernel_rfl) (by kernel_rfl) (by kernel_rfl) (by decide) (fun _ _ _ h => h) (Or.inl ⟨by kernel_rfl, fun w hS => by go_simp⟩) (by assumption) (fun hHeld => ?_)
    try simp only [Act.put, List.setIfInBounds_toArray, List.set_cons_zero, List.set_cons_succ]
    refine wpLate_pure (i := 5) (v := .slice At tn.length ct) rfl (by kernel_rfl) (by kernel_rfl) (by kernel_rfl) (by kernel_rfl) (fun _ _ _ h => h) (Or.inl ⟨by kernel_rfl, fun w _ => by go_simp⟩) ?_
    try simp only [Act.put, List.setIfInBounds_toArray, List.set_cons_zero, List.set_cons_succ]
    refine wpLate_pure (i := 6) (v := .func (.func 160) #[] #[.pointer (some ⟨gl, 0, none⟩)]) rfl (by kernel_rfl) (by kernel_rfl) (by kernel_rfl) (by kernel_rfl) (fun _ _ _ h => h) (Or.inl ⟨by kernel_rfl, fun w _ => by go_simp⟩) ?_
    try simp only [Act.put, List.setIfInBounds_toArray, List.set_cons_zero, List.set_cons_succ]
    refine wpLate_pure (i := 7) (v := .slice At tn.length ct) rfl (by kernel_rfl) (by kernel_rfl) (by kernel_rfl) (by kernel_rfl) (fun _ _ _ h => h) (Or.inl ⟨by kernel_rfl, fun w _ => by go_simp⟩) ?_
    try simp only [Act.put, List.setIfInBounds_toArray, List.set_cons_zero, List.set_cons_succ]
    refine wpLate_pure (i := 8) (v := .int .i64 (tn.length : Nat)) rfl (by kernel_rfl) (by kernel_rfl) (by kernel_rfl) (by kernel_rfl) (fun _ _ _ h => h) (Or.inl ⟨by kernel_rfl, fun w _ => by go_simp⟩) ?_
    try simp only [Act.put, List.setIfInBounds_toArray, List.set_cons_zero, List.set_cons_succ]
    refine wpLate_one (i := 9) (o := ⟨some 40, .call { callee := .value (.tmp 37), args := #[.tmp 39], argTypes := #[3] }, _, _, _, none⟩) (by kernel_rfl) rfl (fun K' hK' => ?_)
    go_simp
    go_wp2_with (go_at_call 160; refine TA2.out.mono ?_; rintro e w5 ⟨rfl, tk5, ch5⟩)
    have C5 := Lib.hid (show Chg w2 w5 (fun b => b = gl) from (Chg.of_still SA.out _).trans ch5 (fun _ _ h => h))
    have TK5 := Lib.hid tk5
    have FB5 := Lib.hid (show FileB w5 gf nv (.slice Aj ns cj) (.slice none 0 0) from C5.out.blk FB2.out GNE.out)
    have FO5 := Lib.hid (show w5.ownsRow base 5 1 (.slice Aj ns cj) ns (bytesV st) from C5.out.own FO2.out (fun b hb hs => by obtain ⟨ct2, hbk⟩ := tk_blk TT2.out; exact own_neM hbk FO2.out (by decide) (by rw [hb, hs])))
    have TR5 := Lib.hid (show w5.ownsRow base 5 1 (.slice At tn.length ct) tn.length (bytesV tn) from C5.out.own TR2.out (fun b hb hs => by obtain ⟨ct2, hbk⟩ := tk_blk TT2.out; exact own_neM hbk TR2.out (by decide) (by rw [hb, hs])))
    have RD5 := Lib.hid ((Reads.of_own TR5.out).takek (k := m) RE.out.2.2.2.1)
    clear tk5 ch5 TA2
    refine hK'.out _ _ (fun _ _ => FB5.out.cell 1) ?_
    clear hK' K'
    try simp only [Act.put, List.setIfInBounds_toArray, List.set_cons_zero, List.set_cons_succ]
    have zm1 : (m : Int) ≤ (ct : Int) := by have := RE.out.2.2.2.1; omega
    have zm2 : m ≤ ct := by have := RE.out.2.2.2.1; omega
    have zm3 : (0 : Int) ≤ (m : Int) := by omega
    refine wpLate_pure (i := 10) (v := .slice At m ct) rfl (by kernel_rfl) (by kernel_rfl) (by kernel_rfl) (by kernel_rfl) (fun _ _ _ h => h) (Or.inl ⟨by kernel_rfl, fun w _ => by go_simp⟩) ?_
    try simp only [Act.put, List.setIfInBounds_toArray, List.set_cons_zero, List.set_cons_succ]
    have BS5 := Lib.hid (show base ≤ w5.heap.size from Nat.le_trans ARI.out.2.1 (Nat.le_trans CH2.out.size C5.out.size))
    have RL5 := Lib.hid (show ns + m ≤ 140737488355328 by have h1 := RE.out.2.2.1; rw [RE.out.1, List.length_append, List.length_take] at h1; have := RE.out.2.2.2.1; have := HNS.out; omega)
    refine wpLate_one (i := 11) (o := ⟨some 42, .call { callee := .builtin .append, args := #[.tmp 35, .tmp 41], argTypes := #[42, 42] }, _, _, _, none⟩) (by kernel_rfl) rfl (fun K' hK' => ?_)
    rw [if_pos (by kernel_rfl)]
    with_reducible refine step_adds_at w5 (.tmp 35) (.tmp 41) (by kernel_rfl) base (.slice Aj ns cj) ns st (by kernel_rfl) FO5.out At m ct w5.heap.size (tn.take m) (by kernel_rfl) RD5.out t3 RL5.out BS5.out ?_
    intro v6 w6 o6 gr6 lo6
    obtain ⟨A6, c6, rfl, y1, y2, y3⟩ := own_form o6
    have NJF := Lib.hid (own_neM FB5.out FO5.out (by decide))
    have C6 := Lib.hid (show Chg w5 w6 (fun b => (Value.slice Aj ns cj).ownBlock = some b) from Chg.of_grown gr6 (fun b h _ => h))
    have FB6 := Lib.hid (show FileB w6 gf nv (.slice Aj ns cj) (.slice none 0 0) from C6.out.blk FB5.out NJF.out)
    have NJL := Lib.hid (show (Value.slice Aj ns cj).ownBlock ≠ some gl from by obtain ⟨ct2, hbk⟩ := tk_blk TK5.out; exact own_neM hbk FO5.out (by decide))
    have JLO := Lib.hid (show ∀ b, B b → ¬ (Value.slice Aj ns cj).ownBlock = some b from fun b hp hb => by
      rcases LO2.out with h | ⟨j, h, hj⟩
      · exact ARI.out.2.2.2.1 b (by rw [← h]; exact hb) hp
      · rw [h] at hb; injection hb with hb; have := ARI.out.2.2.2.2.2 b hp; omega)
    have TK6 := Lib.hid (show TK w6 B gl zs.tail.tail from TK5.out.chg C6.out JLO.out NJL.out)
    have HRE := RE.out.1
    have HNM := Lib.hid (show ns + m = R.length by rw [HRE, List.length_append, List.length_take, HNS.out]; have := RE.out.2.2.2.1; omega)
    rw [← HRE] at o6
    have O6 := Lib.hid o6
    have LO6 := Lib.hid (show (Value.slice A6 (ns + m) c6).ownBlock = fv.ownBlock ∨ ∃ j, (Value.slice A6 (ns + m) c6).ownBlock = some j ∧ w.heap.size ≤ j from by
      rcases lo6 with h | h
      · rw [h]; exact LO2.out
      · exact .inr ⟨_, h, Nat.le_trans CH2.out.size C5.out.size⟩)
    have CH6 := Lib.hid (show Chg w w6 (fun b => b = gf ∨ b = gl ∨ fv.ownBlock = some b) from (CH2.out.trans C5.out (fun b _ h => .inr (.inl h))).trans C6.out (fun b hb h => by
      rcases LO2.out with h2 | ⟨j, h2, hj⟩
      · exact .inr (.inr (by rw [← h2]; exact h))
      · rw [h2] at h; injection h with h; omega))
    have F3 := Lib.hid y3
    clear o6 gr6 lo6 y3 HRE RD5 TR5 FO5 FB5 C5 C6 NJF NJL JLO TK5 TR2 FO2 FB2 TT2
    refine hK'.out _ _ (fun _ _ => FB6.out.cell 1) ?_
    clear hK' K'
    try simp only [Act.put, List.setIfInBounds_toArray, List.set_cons_zero, List.set_cons_succ]
    refine wpLate_pure (i := 12) (v := .pointer (some ⟨gf, 0, none⟩)) rfl (by kernel_rfl) (by kernel_rfl) (by kernel_rfl) (by kernel_rfl) (fun _ _ _ h => h) (Or.inl ⟨by kernel_rfl, fun w _ => by go_simp⟩) ?_
    try simp only [Act.put, List.setIfInBounds_toArray, List.set_cons_zero, List.set_cons_succ]
    refine wpLate_pure (i := 13) (v := .pointer (some ⟨gf, 1, none⟩)) rfl (by kernel_rfl) (by kernel_rfl) (by kernel_rfl) (by kernel_rfl) (fun _ _ _ h => h) (Or.inl ⟨by kernel_rfl, fun w _ => by go_simp⟩) ?_
    try simp only [Act.put, List.setIfInBounds_toArray, List.set_cons_zero, List.set_cons_succ]
    refine wpLate_one (i := 14) (o := ⟨none, .store 42 (.tmp 44) (.tmp 42), _, _, _, none⟩) (by kernel_rfl) rfl (fun K' hK' => ?_)
    rw [if_pos (by kernel_rfl)]
    have kc : w6.cell? ⟨gf, 1, none⟩ = some (.slice Aj ns cj) := FB6.out.cell 1
    have kf := FB6.out.frozen 1
    with_reducible refine step_storeC w6 42 (.tmp 44) (.tmp 42) (by kernel_rfl) gf 1 (.slice A6 (ns + m) c6) (.slice Aj ns cj) (by kernel_rfl) (by kernel_rfl) rfl (by kernel_rfl) kc kf ?_
    clear kc kf hHeld
    have NVG := Lib.hid (own_neM FB6.out O6.out (by decide))
    obtain ⟨w7, hw7⟩ : ∃ w7, w7 = w6.setCell ⟨gf, 1, none⟩ (.slice A6 (ns + m) c6) := ⟨_, rfl⟩
    rw [← hw7]
    have C7 := Lib.hid (show Chg w6 w7 (fun b => b = gf) by rw [hw7]; exact chg_set _ _ _ _)
    have FB7 := Lib.hid (show FileB w7 gf nv (.slice A6 (ns + m) c6) (.slice none 0 0) by rw [hw7]; exact Blk.setc FB6.out 1 _)
    have O7 := Lib.hid (show w7.ownsRow base 5 1 (.slice A6 (ns + m) c6) (ns + m) (bytesV R) from C7.out.own O6.out (fun b hb hs => NVG.out (by rw [hb, hs])))
    have TK7 := Lib.hid (show TK w7 B gl zs.tail.tail from TK6.out.chg C7.out (fun b hp h => by rw [h] at hp; exact ARI.out.2.2.2.2.1 hp) (fun h => GNE.out h.symm))
    have CH7 := Lib.hid (show Chg w w7 (fun b => b = gf ∨ b = gl ∨ fv.ownBlock = some b) from CH6.out.trans C7.out (fun b _ h => .inl h))
    clear hw7 FB6 O6 TK6 C7
    refine hK'.out _ _ (fun _ hu => absurd hu (by decide)) ?_
    clear hK' K'
    try simp only [Act.put, List.setIfInBounds_toArray, List.set_cons_zero, List.set_cons_succ]
    refine wpLate_done (by kernel_rfl) ?_ _
    have c1 : w7.cell? ⟨gf, 1, none⟩ = some (.slice A6 (ns + m) c6) := FB7.out.cell 1
    have CL := Lib.hid (bclone_any A6 (ns + m) c6 R w7 w7.heap.size (Reads.of_own O7.out) (Nat.le_refl _) (by have := HNM.out; have := RE.out.2.2.1; omega) (fun e => F3.out e))
    go_wp2_with fail
    refine CL.out.mono ?_
    rintro e w8 ⟨⟨v8, rfl, o8⟩, s8⟩
    obtain ⟨A8, c8, rfl, y4, y5, y6⟩ := own_form o8
    have FB8 := Lib.hid (show FileB w8 gf nv (.slice A6 (ns + m) c6) (.slice none 0 0) from Blk.still FB7.out s8)
    have k0 : w8.cell? ⟨gf, 0, none⟩ = some nv := FB8.out.cell 0
    have f0 := FB8.out.frozen 0
    have O8 := Lib.hid o8
    have S8 := Lib.hid s8
    clear o8 s8 c1 CL y6
    go_wp2_with fail
    go_end0
    have C9 : Chg w8 (w8.setCell ⟨gf, 0, none⟩ (.slice A8 (ns + m) c8)) (fun b => b = gf) := chg_set _ _ _ _
    refine ⟨rfl, _, _, Blk.setc FB8.out 0 _, ?_, ?_, ?_, ?_, LO6.out, ?_⟩
    · rw [← HNM.out]; exact C9.own (own_low O8.out CH7.out.size) (fun b hb hs => own_neM FB8.out O8.out (by decide) (by rw [hb, hs]))
    · rw [← HNM.out]; exact C9.own (own_still O7.out S8.out) (fun b hb hs => own_neM FB8.out (own_still O7.out S8.out) (by decide) (by rw [hb, hs]))
    · exact (TK7.out.chg (Chg.of_still S8.out (fun _ => False)) (fun _ _ h => h) (fun h => h)).chg C9 (fun b hp h => by rw [h] at hp; exact ARI.out.2.2.2.2.1 hp) (fun h => GNE.out h.symm)
    · exact (CH7.out.trans (Chg.of_still S8.out (fun _ => False)) (fun _ _ h => h.elim)).trans C9 (fun b _ h => .inl h)
    · intro j hj hq
      have h1 := (O8.out.lt j hj).1
      have h2 := (O7.out.lt j hq).2
      omega
end Go.Proofs.YtfneloobfidckaaGreatDoor
