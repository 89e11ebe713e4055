/- Contracts and facts, several texts in one. It proves no statement. -/
import Derived.Test.YtblgphfdicffcaaGreatDoorHff
import Derived.Deep.DeepCutAuto
import Derived.Sort.KeysCollected
import Derived.Test.YtblgphfdicffcaaGreatDoorIter

/- A file's crash, whatever changes wait. It proves no statement. -/



namespace Go.Proofs.YtblgphfdicffcaaGreatDoor
open Go.RowKit Go.Maps Go.WideMaps
set_option linter.unusedVariables false
set_option linter.unusedSimpArgs false

theorem step_adds_at (w : World) {o : Oper} {a : Act} {K : Act → World → Prop} {Q : Exit → Act → World → Prop} (s x : Operand)
    (ho : o.op = .call { callee := .builtin .append, args := #[s, x], argTypes := #[34, 34] })
    (base : Nat) (v : Value) (n : Nat) (l : List UInt8) (hs : a.eval s = v) (hown : w.ownsRow base 5 1 v n (bytesV l)) (A : Option Addr) (n' c' : Nat) (B : Nat) (l' : List UInt8)
    (hx : a.eval x = .slice A n' c') (hr : Reads w B A n' l') (hA : A = none → c' = 0) (hn : n + n' ≤ 140737488355328) (hbase : base ≤ w.heap.size)
    (h : ∀ v' w', w'.ownsRow base 5 1 v' (n + n') (bytesV (l ++ l')) → w.grownBy w' v.ownBlock → (v'.ownBlock = v.ownBlock ∨ v'.ownBlock = some w.heap.size) → K (a.put o.dst v') w') : o.wp Tryz.prog a w K Q := by
  obtain ⟨v', w', hrun, h2, h3, h4⟩ := run_adds_at w o.type base v n l hown A n' c' B l' hr hA hn hbase
  unfold Oper.wp execOp
  simp only [ho, resolve, invoke, builtin, Sem.run_bind, Sem.run_pure, Result.andThen_ok, List.map_toArray, List.map_cons, List.map_nil, hs, hx, hrun]
  exact h v' w' h2 h3 h4
/-- A file's settle, its row of changes nil or not. -/
theorem fsettle_all {w : World} (gf : Nat) (nv fv wtv : Value) (base n k : Nat) (l : List UInt8) (Y : List Ch) (cs : List Value) (F : Nat → Nat → Prop) (hf : FileB w gf nv fv wtv) (hw : w.ownsRow base 218 2 wtv k cs)
    (hx : HasC w base Y cs F) (hk : k = Y.length) (hfv : w.ownsRow base 5 1 fv l.length (bytesV l)) (hsep : ∀ b, fv.ownBlock = some b → ∀ i, ¬ F i b) (hFg : ∀ i, ¬ F i gf) (hbase : base ≤ w.heap.size) (hn : n ≤ k) (hk6 : k ≤ 1000000) (htot : ChOK l Y) :
    Calls Tryz.prog 134 #[.pointer (some ⟨gf, 0, none⟩), .int .i64 (n : Int)] w fun e w' => e = .returned (.tuple #[]) ∧ ∃ fv', FileB w' gf nv fv' (.slice none 0 0) ∧ w'.ownsRow base 5 1 fv' (appAll l (Y.take n)).length (bytesV (appAll l (Y.take n))) ∧ Chg w w' (fun b => b = gf ∨ fv.ownBlock = some b) ∧ (fv'.ownBlock = fv.ownBlock ∨ ∃ j, fv'.ownBlock = some j ∧ w.heap.size ≤ j) := by
  rcases hw.2 with ⟨rfl, h0⟩ | ⟨g, cap, cur, rfl, h2, h3, h4, _⟩
  · obtain rfl : n = 0 := by omega
    refine (fsettle_nil gf nv fv hf).mono ?_
    rintro e w' ⟨he, h1, h2⟩
    exact ⟨he, fv, h1, h2.own hfv (fun b hb hs => own_neM hf hfv (by decide) (by rw [hb, hs])), h2.mono (fun b _ hs => .inl hs), .inl rfl⟩
  · exact fsettle_any gf nv fv base n k g cap l Y cs F hf hw hx hk hfv hsep hFg hbase hn hk6 htot
def natN (zs : List Int) (most : Nat) : Nat := (tkN zs most).toNat
theorem natN_eq (zs : List Int) (most : Nat) : tkN zs (most : Int) = ((natN zs most : Nat) : Int) := by
  have := (tkN_le zs (most : Int) (by omega)).1
  unfold natN
  omega
theorem natN_le (zs : List Int) (most : Nat) : natN zs most ≤ most := by
  have := tkN_le zs (most : Int) (by omega)
  unfold natN
  omega
def tornOf (Y : List Ch) (n : Nat) : List UInt8 := match Y[n]? with | some c => c.more | none => []
/-- What a crash leaves of a file. -/
def crashL (l : List UInt8) (Y : List Ch) (zs : List Int) : List UInt8 :=
  appAll l (Y.take (natN zs Y.length)) ++ (tornOf Y (natN zs Y.length)).take (natN zs.tail (tornOf Y (natN zs Y.length)).length)
theorem crashL_len {l : List UInt8} {Y : List Ch} (zs : List Int) (h : ChOK l Y) : (crashL l Y zs).length ≤ 16777216 := by
  unfold crashL tornOf
  rw [List.length_append, List.length_take]
  have h1 := (h.front (natN zs Y.length)).len
  cases hc : Y[natN zs Y.length]? with
  | none => simp only [List.length_nil]; omega
  | some c =>
    have h2 := h.2 _ c hc
    simp only
    rcases h2.2.1 with h3 | h3
    · rw [h3]; simp only [List.length_nil]; omega
    · omega
theorem tk_blk {w : World} {B : Nat → Prop} {gl : Nat} {zs : List Int} (h : TK w B gl zs) : ∃ cs, Blk w gl 42 cs := by obtain ⟨A, n, c, hb, _⟩ := h; exact ⟨_, hb⟩

/-- The first half of a file's crash: how many changes last, what is torn, settled. -/
theorem crash_start {w : World} (gf gl : Nat) (nv fv wtv : Value) (base : Nat) (B : Nat → Prop) (l : List UInt8) (Y : List Ch) (cs : List Value) (F : Nat → Nat → Prop) (zs : List Int) (hf : FileB w gf nv fv wtv) (hw : w.ownsRow base 218 2 wtv Y.length cs)
    (hx : HasC w base Y cs F) (hfv : w.ownsRow base 5 1 fv l.length (bytesV l)) (hFg : ∀ i, ¬ F i gf) (hFl : ∀ i, ¬ F i gl) (hT : TK w B gl zs) {w1 : World} (c : Chg w w1 (fun b => b = gl)) :
    FileB w1 gf nv fv wtv ∧ w1.ownsRow base 218 2 wtv Y.length cs ∧ HasC w1 base Y cs F ∧ w1.ownsRow base 5 1 fv l.length (bytesV l) := by
  obtain ⟨ct, hb⟩ := tk_blk hT
  exact ⟨c.blk hf (blk_ne hf hb (by decide)), c.own hw (fun b hb' hs => own_neM hb hw (by decide) (by rw [hb', hs])), hx.keep c (fun i b hb' hs => hFl i (by rw [← hs]; exact hb')), c.own hfv (fun b hb' hs => own_neM hb hfv (by decide) (by rw [hb', hs]))⟩
set_option maxRecDepth 100000 in
set_option maxHeartbeats 6400000 in
theorem fcrash_any {w : World} (gf gl : Nat) (nv fv wtv : Value) (base : Nat) (B : Nat → Prop) (l : List UInt8) (Y : List Ch) (cs : List Value) (F : Nat → Nat → Prop) (zs : List Int) (hf : FileB w gf nv fv wtv) (hw : w.ownsRow base 218 2 wtv Y.length cs)
    (hx : HasC w base Y cs F) (hfv : w.ownsRow base 5 1 fv l.length (bytesV l)) (hsep : ∀ b, fv.ownBlock = some b → ∀ i, ¬ F i b) (hFg : ∀ i, ¬ F i gf) (hFl : ∀ i, ¬ F i gl) (hbase : base ≤ w.heap.size) (hk6 : Y.length ≤ 1000000) (htot : ChOK l Y)
    (hT : TK w B gl zs) (hB : ¬ B gl) (hBb : ∀ b, fv.ownBlock = some b → ¬ B b) (hgb : ¬ B gf) (hBw : ∀ b, B b → b < w.heap.size) :
    Calls Tryz.prog 77 #[.pointer (some ⟨gf, 0, none⟩), .func (.func 129) #[] #[.pointer (some ⟨gl, 0, none⟩)]] w fun e w' => e = .returned (.tuple #[]) ∧ ∃ nv' fv', FileB w' gf nv' fv' (.slice none 0 0) ∧ w'.ownsRow w.heap.size 5 1 nv' (crashL l Y zs).length (bytesV (crashL l Y zs)) ∧ w'.ownsRow base 5 1 fv' (crashL l Y zs).length (bytesV (crashL l Y zs)) ∧ TK w' B gl zs.tail.tail ∧ Chg w w' (fun b => b = gf ∨ b = gl ∨ fv.ownBlock = some b) ∧ (fv'.ownBlock = fv.ownBlock ∨ ∃ j, fv'.ownBlock = some j ∧ w.heap.size ≤ j) ∧ (∀ j, nv'.ownBlock = some j → fv'.ownBlock ≠ some j) := by
  obtain ⟨k, hk⟩ : ∃ k, k = Y.length := ⟨_, rfl⟩
  obtain ⟨n, hn⟩ : ∃ n, n = natN zs Y.length := ⟨_, rfl⟩
  have hnk : n ≤ k := by rw [hn, hk]; exact natN_le _ _
  obtain ⟨tn, htn⟩ : ∃ tn, tn = tornOf Y n := ⟨_, rfl⟩
  obtain ⟨m, hm⟩ : ∃ m, m = natN zs.tail tn.length := ⟨_, rfl⟩
  have hmt : m ≤ tn.length := by rw [hm]; exact natN_le _ _
  obtain ⟨R, hR⟩ : ∃ R, R = crashL l Y zs := ⟨_, rfl⟩
  have hRe : R = appAll l (Y.take n) ++ tn.take m := by rw [hR, hm, htn, hn]; rfl
  obtain ⟨st, hst⟩ : ∃ st, st = appAll l (Y.take n) := ⟨_, rfl⟩
  rw [← hst] at hRe
  have hRl : R.length ≤ 16777216 := by rw [hR]; exact crashL_len zs htot
  rw [← hR]
  have TA := Lib.hid (take_any B gl zs (k : Int) hT hB)
  rw [hk, natN_eq, ← hn, ← hk] at TA
  have KEEP := Lib.hid (fun (w1 : World) (c : Chg w w1 (fun b => b = gl)) => crash_start gf gl nv fv wtv base B l Y cs F zs hf hw hx hfv hFg hFl hT c)
  have c2 : w.cell? ⟨gf, 2, none⟩ = some wtv := hf.cell 2
  have GLT := Lib.hid (show gl < w.heap.size from by obtain ⟨ct, hb⟩ := tk_blk hT; exact hb.lt)
  have GNE := Lib.hid (show gf ≠ gl from by obtain ⟨ct, hb⟩ := tk_blk hT; exact blk_ne hf hb (by decide))
  have WF : ∃ Aw cw, wtv = .slice Aw k cw ∧ k ≤ cw ∧ cw ≤ 9223372036854775807 ∧ (Aw = none → k = 0) ∧ (∀ ad, Aw = some ad → ∃ b, ad = ⟨b, 0, none⟩) := by
    rcases hw.2 with ⟨rfl, h0⟩ | ⟨g, c, cur, rfl, h2, h3, h4, h5, _⟩
    · exact ⟨none, 0, by rw [hk, h0], by omega, by omega, fun _ => by omega, fun ad e => by cases e⟩
    · exact ⟨_, c, by rw [hk], by omega, by unfold maxLen at h5; omega, (fun e => by cases e), fun ad e => ⟨g, by injection e with e; exact e.symm⟩⟩
  obtain ⟨Aw, cw, rfl, w1c, w2c, w3c, w4c⟩ := WF
  have ARI := Lib.hid (And.intro hk (And.intro hbase (And.intro hk6 (And.intro hBb (And.intro hgb hBw)))))
  have SEP := Lib.hid (And.intro hsep (And.intro hFg hFl))
  have TOT := Lib.hid htot
  have RE := Lib.hid (And.intro hRe (And.intro hst (And.intro hRl (And.intro hmt (And.intro hm htn)))))
  have W3 := Lib.hid (And.intro w3c w4c)
  have HBL := Lib.hid hB
  clear hf hw hx hfv hsep hFg hFl hbase hk6 htot hT hm htn hR hRe hst hRl hn hmt hBb hgb hBw w3c w4c hk hB
  go_enter Tryz.func77, Tryz.ntmps77
  go_wp2_with fail
  refine TA.out.mono ?_
  rintro e w1 ⟨rfl, tk1, ch1⟩
  have K1 := Lib.hid (KEEP.out w1 ch1)
  have T1 := Lib.hid (And.intro tk1 ch1)
  have k2 : w1.cell? ⟨gf, 2, none⟩ = some (.slice Aw k cw) := Blk.cell K1.out.1 2
  clear tk1 ch1 c2 TA KEEP
  go_upto_if 19 with fail
  go_cut [5] (fun tv wx => wx = w1 ∧ ∃ At ct, tv = .slice At tn.length ct ∧ tn.length ≤ ct ∧ ct ≤ 9223372036854775807 ∧ (At = none → ct = 0) ∧ Hid (w1.ownsRow base 5 1 (.slice At tn.length ct) tn.length (bytesV tn) ∧ (∀ b, (Value.slice At tn.length ct).ownBlock = some b → ∃ i, F i b)))
  case first =>
    by_cases hlt : n < k
    · obtain ⟨c, hc⟩ : ∃ c, Y[n]? = some c := ⟨_, List.getElem?_eq_getElem (by have := ARI.out.1; omega)⟩
      obtain ⟨cv, q0, q1, q2, q3⟩ := K1.out.2.2.1.2 n c hc
      have htn : tn = c.more := by rw [RE.out.2.2.2.2.2]; unfold tornOf; rw [hc]
      rw [← htn] at q2
      obtain ⟨At, ct, rfl, f1, f2, f3⟩ := own_form q2
      obtain ⟨bw, rfl⟩ : ∃ b, Aw = some ⟨b, 0, none⟩ := by
        rcases Aw with _ | ad
        · exact absurd (W3.out.1 rfl) (by omega)
        · obtain ⟨b, e⟩ := W3.out.2 ad rfl
          exact ⟨b, by rw [e]⟩
      have kc : w1.cell? ⟨bw, n * 2 + 1, none⟩ = some (.slice At tn.length ct) := by
        have h5 := K1.out.2.1
        rw [← ARI.out.1] at h5
        have h6 := h5.cellAt (n * 2 + 1) (by omega)
        rw [h6, Nat.mul_comm n 2, q1]
      have z1 : (n : Int) < (k : Int) := by omega
      have z2 : (0 : Int) ≤ (n : Int) := by omega
      have FI := Lib.hid (show w1.ownsRow base 5 1 (.slice At tn.length ct) tn.length (bytesV tn) ∧ (∀ b, (Value.slice At tn.length ct).ownBlock = some b → ∃ i, F i b) from ⟨q2, fun b hb => ⟨n, q3 b hb⟩⟩)
      have F3 := Lib.hid f3
      clear q0 q1 q2 q3 hc htn f3
      go_wp2_with fail
      go_meet
      case rel => exact ⟨rfl, At, ct, rfl, f1, f2, fun e => (F3.out e).2, FI.out⟩
    · obtain rfl : n = k := by omega
      have htn : tn = [] := by
        rw [RE.out.2.2.2.2.2]
        unfold tornOf
        rw [List.getElem?_eq_none (by have := ARI.out.1; omega)]
      have FI := Lib.hid (show w1.ownsRow base 5 1 (.slice none tn.length 0) tn.length (bytesV tn) ∧ (∀ b, (Value.slice none tn.length 0).ownBlock = some b → ∃ i, F i b) from ⟨by rw [htn]; exact World.ownsRow_nil _ _ _ _, fun b hb => by simp [Value.ownBlock] at hb⟩)
      have HTN := Lib.hid htn
      clear htn
      go_wp2_with fail
      go_meet
      case rel => exact ⟨rfl, none, 0, by rw [HTN.out]; rfl, by rw [HTN.out]; exact Nat.le_refl _, by omega, fun _ => rfl, FI.out⟩
  case rest =>
    obtain ⟨rfl, At, ct, rfl, t1, t2, t3, hin⟩ := hcut
    have HBW := Lib.hid (show base ≤ wc.heap.size from Nat.le_trans ARI.out.2.1 T1.out.2.size)
    have ST := Lib.hid (fsettle_all gf nv fv (.slice Aw k cw) base n Y.length l Y cs F K1.out.1 K1.out.2.1 K1.out.2.2.1 rfl K1.out.2.2.2 SEP.out.1 SEP.out.2.1 HBW.out (by have := ARI.out.1; omega) ARI.out.2.2.1 TOT.out)
    have NFL := Lib.hid (show fv.ownBlock ≠ some gl from by obtain ⟨ct2, hb⟩ := tk_blk T1.out.1; exact own_neM hb K1.out.2.2.2 (by decide))
    have NFB := Lib.hid (show ∀ b, fv.ownBlock = some b → base ≤ b from fun b hb => (K1.out.2.2.2.lt b hb).1)
    go_wp2_with fail
    refine ST.out.mono ?_
    rintro e w2 ⟨rfl, fj, f1, f2, f3, f4⟩
    have hst2 := RE.out.2.1
    rw [← hst2] at f2
    obtain ⟨ns, hns⟩ : ∃ ns, ns = st.length := ⟨_, rfl⟩
    rw [← hns] at f2
    have HNS := Lib.hid hns
    clear hns
    obtain ⟨Aj, cj, rfl, j1, j2, j3⟩ := own_form f2
    have TT2 := Lib.hid (show TK w2 B gl zs.tail from T1.out.1.chg f3 (fun b hp hb => by rcases hb with rfl | hb; exact ARI.out.2.2.2.2.1 hp; exact ARI.out.2.2.2.1 b hb hp) (by rintro (h | h); exact GNE.out h.symm; exact NFL.out h))
    have TR2 := Lib.hid (show w2.ownsRow base 5 1 (.slice At tn.length ct) tn.length (bytesV tn) from f3.own hin.out.1 (fun b hb => by obtain ⟨i, hi⟩ := hin.out.2 b hb; rintro (h | h); exact SEP.out.2.1 i (by rw [← h]; exact hi); exact SEP.out.1 b h i hi))
    have FB2 := Lib.hid f1
    have FO2 := Lib.hid f2
    have CH2 := Lib.hid (show Chg w w2 (fun b => b = gf ∨ b = gl ∨ fv.ownBlock = some b) from (T1.out.2.mono (fun b _ h => .inr (.inl h))).trans f3 (fun b _ h => by rcases h with h | h; exact .inl h; exact .inr (.inr h)))
    have LO2 := Lib.hid (show (Value.slice Aj ns cj).ownBlock = fv.ownBlock ∨ ∃ j, (Value.slice Aj ns cj).ownBlock = some j ∧ w.heap.size ≤ j from by rcases f4 with h | ⟨j, h, hj⟩; exact .inl h; exact .inr ⟨j, h, Nat.le_trans T1.out.2.size hj⟩)
    clear f1 f2 f3 f4 ST k2 K1 hst2
    go_wp2_with fail
    refine wp_region_late (S := fun W => W.cell? ⟨gf, 1, none⟩ = some (.slice Aj ns cj)) [14] (by kernel_rfl) ((Blk.still FB2.out ((Still.refl _).drew)).cell 1) (fun hHeld => ?_)
    obtain ⟨wa, hwa⟩ : ∃ wa, wa = w2.drew := ⟨_, rfl⟩
    have SA := Lib.hid (show Still w2 wa by rw [hwa]; exact (Still.refl _).drew)
    try rw [← hwa] at hHeld
    rw [← hwa]
    clear hwa
    have TA2 := Lib.hid (take_any B gl zs.tail (tn.length : Int) (TT2.out.chg (Chg.of_still SA.out (fun _ => False)) (fun _ _ h => h) (fun h => h)) HBL.out)
    rw [natN_eq, ← RE.out.2.2.2.2.1] at TA2
    try simp only [Act.put, List.setIfInBounds_toArray, List.set_cons_zero, List.set_cons_succ]
    refine wpLate_pure (i := 0) (v := .pointer (some ⟨gf, 0, none⟩)) rfl (by kernel_rfl) (by kernel_rfl) (by kernel_rfl) (by kernel_rfl) (fun _ _ _ h => h) (Or.inl ⟨by kernel_rfl, fun w _ => by go_simp⟩) ?_
    try simp only [Act.put, List.setIfInBounds_toArray, List.set_cons_zero, List.set_cons_succ]
    refine wpLate_pure (i := 1) (v := .pointer (some ⟨gf, 0, none⟩)) rfl (by kernel_rfl) (by kernel_rfl) (by kernel_rfl) (by kernel_rfl) (fun _ _ _ h => h) (Or.inl ⟨by kernel_rfl, fun w _ => by go_simp⟩) ?_
    try simp only [Act.put, List.setIfInBounds_toArray, List.set_cons_zero, List.set_cons_succ]
    refine wpLate_pure (i := 2) (v := .pointer (some ⟨gf, 0, none⟩)) rfl (by kernel_rfl) (by kernel_rfl) (by kernel_rfl) (by kernel_rfl) (fun _ _ _ h => h) (Or.inl ⟨by kernel_rfl, fun w _ => by go_simp⟩) ?_
    try simp only [Act.put, List.setIfInBounds_toArray, List.set_cons_zero, List.set_cons_succ]
    refine wpLate_pure (i := 3) (v := .pointer (some ⟨gf, 1, none⟩)) rfl (by kernel_rfl) (by kernel_rfl) (by kernel_rfl) (by kernel_rfl) (fun _ _ _ h => h) (Or.inl ⟨by kernel_rfl, fun w _ => by go_simp⟩) ?_
    try simp only [Act.put, List.setIfInBounds_toArray, List.set_cons_zero, List.set_cons_succ]
    refine wpLate_take (i := 4) (v := (.slice Aj ns cj)) [14] rfl (by kernel_rfl) (by kernel_rfl) (by kernel_rfl) (by kernel_rfl) (by kernel_rfl) (by decide) (fun _ _ _ h => h) (Or.inl ⟨by kernel_rfl, fun w hS => by go_simp⟩) (by assumption) (fun hHeld => ?_)
    try simp only [Act.put, List.setIfInBounds_toArray, List.set_cons_zero, List.set_cons_succ]
    refine wpLate_pure (i := 5) (v := .slice At tn.length ct) rfl (by kernel_rfl) (by kernel_rfl) (by kernel_rfl) (by kernel_rfl) (fun _ _ _ h => h) (Or.inl ⟨by kernel_rfl, fun w _ => by go_simp⟩) ?_
    try simp only [Act.put, List.setIfInBounds_toArray, List.set_cons_zero, List.set_cons_succ]
    refine wpLate_pure (i := 6) (v := .func (.func 129) #[] #[.pointer (some ⟨gl, 0, none⟩)]) rfl (by kernel_rfl) (by kernel_rfl) (by kernel_rfl) (by kernel_rfl) (fun _ _ _ h => h) (Or.inl ⟨by kernel_rfl, fun w _ => by go_simp⟩) ?_
    try simp only [Act.put, List.setIfInBounds_toArray, List.set_cons_zero, List.set_cons_succ]
    refine wpLate_pure (i := 7) (v := .slice At tn.length ct) rfl (by kernel_rfl) (by kernel_rfl) (by kernel_rfl) (by kernel_rfl) (fun _ _ _ h => h) (Or.inl ⟨by kernel_rfl, fun w _ => by go_simp⟩) ?_
    try simp only [Act.put, List.setIfInBounds_toArray, List.set_cons_zero, List.set_cons_succ]
    refine wpLate_pure (i := 8) (v := .int .i64 (tn.length : Nat)) rfl (by kernel_rfl) (by kernel_rfl) (by kernel_rfl) (by kernel_rfl) (fun _ _ _ h => h) (Or.inl ⟨by kernel_rfl, fun w _ => by go_simp⟩) ?_
    try simp only [Act.put, List.setIfInBounds_toArray, List.set_cons_zero, List.set_cons_succ]
    refine wpLate_one (i := 9) (o := ⟨some 40, .call { callee := .value (.tmp 37), args := #[.tmp 39], argTypes := #[3] }, _, _, _, none⟩) (by kernel_rfl) rfl (fun K' hK' => ?_)
    go_simp
    go_wp2_with (go_at_call 129; refine TA2.out.mono ?_; rintro e w5 ⟨rfl, tk5, ch5⟩)
    have C5 := Lib.hid (show Chg w2 w5 (fun b => b = gl) from (Chg.of_still SA.out _).trans ch5 (fun _ _ h => h))
    have TK5 := Lib.hid tk5
    have FB5 := Lib.hid (show FileB w5 gf nv (.slice Aj ns cj) (.slice none 0 0) from C5.out.blk FB2.out GNE.out)
    have FO5 := Lib.hid (show w5.ownsRow base 5 1 (.slice Aj ns cj) ns (bytesV st) from C5.out.own FO2.out (fun b hb hs => by obtain ⟨ct2, hbk⟩ := tk_blk TT2.out; exact own_neM hbk FO2.out (by decide) (by rw [hb, hs])))
    have TR5 := Lib.hid (show w5.ownsRow base 5 1 (.slice At tn.length ct) tn.length (bytesV tn) from C5.out.own TR2.out (fun b hb hs => by obtain ⟨ct2, hbk⟩ := tk_blk TT2.out; exact own_neM hbk TR2.out (by decide) (by rw [hb, hs])))
    have RD5 := Lib.hid ((Reads.of_own TR5.out).takek (k := m) RE.out.2.2.2.1)
    clear tk5 ch5 TA2
    refine hK'.out _ _ (fun _ _ => FB5.out.cell 1) ?_
    clear hK' K'
    try simp only [Act.put, List.setIfInBounds_toArray, List.set_cons_zero, List.set_cons_succ]
    have zm1 : (m : Int) ≤ (ct : Int) := by have := RE.out.2.2.2.1; omega
    have zm2 : m ≤ ct := by have := RE.out.2.2.2.1; omega
    have zm3 : (0 : Int) ≤ (m : Int) := by omega
    refine wpLate_pure (i := 10) (v := .slice At m ct) rfl (by kernel_rfl) (by kernel_rfl) (by kernel_rfl) (by kernel_rfl) (fun _ _ _ h => h) (Or.inl ⟨by kernel_rfl, fun w _ => by go_simp⟩) ?_
    try simp only [Act.put, List.setIfInBounds_toArray, List.set_cons_zero, List.set_cons_succ]
    have BS5 := Lib.hid (show base ≤ w5.heap.size from Nat.le_trans ARI.out.2.1 (Nat.le_trans CH2.out.size C5.out.size))
    have RL5 := Lib.hid (show ns + m ≤ 140737488355328 by have h1 := RE.out.2.2.1; rw [RE.out.1, List.length_append, List.length_take] at h1; have := RE.out.2.2.2.1; have := HNS.out; omega)
    refine wpLate_one (i := 11) (o := ⟨some 42, .call { callee := .builtin .append, args := #[.tmp 35, .tmp 41], argTypes := #[34, 34] }, _, _, _, none⟩) (by kernel_rfl) rfl (fun K' hK' => ?_)
    rw [if_pos (by kernel_rfl)]
    with_reducible refine step_adds_at w5 (.tmp 35) (.tmp 41) (by kernel_rfl) base (.slice Aj ns cj) ns st (by kernel_rfl) FO5.out At m ct w5.heap.size (tn.take m) (by kernel_rfl) RD5.out t3 RL5.out BS5.out ?_
    intro v6 w6 o6 gr6 lo6
    obtain ⟨A6, c6, rfl, y1, y2, y3⟩ := own_form o6
    have NJF := Lib.hid (own_neM FB5.out FO5.out (by decide))
    have C6 := Lib.hid (show Chg w5 w6 (fun b => (Value.slice Aj ns cj).ownBlock = some b) from Chg.of_grown gr6 (fun b h _ => h))
    have FB6 := Lib.hid (show FileB w6 gf nv (.slice Aj ns cj) (.slice none 0 0) from C6.out.blk FB5.out NJF.out)
    have NJL := Lib.hid (show (Value.slice Aj ns cj).ownBlock ≠ some gl from by obtain ⟨ct2, hbk⟩ := tk_blk TK5.out; exact own_neM hbk FO5.out (by decide))
    have JLO := Lib.hid (show ∀ b, B b → ¬ (Value.slice Aj ns cj).ownBlock = some b from fun b hp hb => by
      rcases LO2.out with h | ⟨j, h, hj⟩
      · exact ARI.out.2.2.2.1 b (by rw [← h]; exact hb) hp
      · rw [h] at hb; injection hb with hb; have := ARI.out.2.2.2.2.2 b hp; omega)
    have TK6 := Lib.hid (show TK w6 B gl zs.tail.tail from TK5.out.chg C6.out JLO.out NJL.out)
    have HRE := RE.out.1
    have HNM := Lib.hid (show ns + m = R.length by rw [HRE, List.length_append, List.length_take, HNS.out]; have := RE.out.2.2.2.1; omega)
    rw [← HRE] at o6
    have O6 := Lib.hid o6
    have LO6 := Lib.hid (show (Value.slice A6 (ns + m) c6).ownBlock = fv.ownBlock ∨ ∃ j, (Value.slice A6 (ns + m) c6).ownBlock = some j ∧ w.heap.size ≤ j from by
      rcases lo6 with h | h
      · rw [h]; exact LO2.out
      · exact .inr ⟨_, h, Nat.le_trans CH2.out.size C5.out.size⟩)
    have CH6 := Lib.hid (show Chg w w6 (fun b => b = gf ∨ b = gl ∨ fv.ownBlock = some b) from (CH2.out.trans C5.out (fun b _ h => .inr (.inl h))).trans C6.out (fun b hb h => by
      rcases LO2.out with h2 | ⟨j, h2, hj⟩
      · exact .inr (.inr (by rw [← h2]; exact h))
      · rw [h2] at h; injection h with h; omega))
    have F3 := Lib.hid y3
    clear o6 gr6 lo6 y3 HRE RD5 TR5 FO5 FB5 C5 C6 NJF NJL JLO TK5 TR2 FO2 FB2 TT2
    refine hK'.out _ _ (fun _ _ => FB6.out.cell 1) ?_
    clear hK' K'
    try simp only [Act.put, List.setIfInBounds_toArray, List.set_cons_zero, List.set_cons_succ]
    refine wpLate_pure (i := 12) (v := .pointer (some ⟨gf, 0, none⟩)) rfl (by kernel_rfl) (by kernel_rfl) (by kernel_rfl) (by kernel_rfl) (fun _ _ _ h => h) (Or.inl ⟨by kernel_rfl, fun w _ => by go_simp⟩) ?_
    try simp only [Act.put, List.setIfInBounds_toArray, List.set_cons_zero, List.set_cons_succ]
    refine wpLate_pure (i := 13) (v := .pointer (some ⟨gf, 1, none⟩)) rfl (by kernel_rfl) (by kernel_rfl) (by kernel_rfl) (by kernel_rfl) (fun _ _ _ h => h) (Or.inl ⟨by kernel_rfl, fun w _ => by go_simp⟩) ?_
    try simp only [Act.put, List.setIfInBounds_toArray, List.set_cons_zero, List.set_cons_succ]
    refine wpLate_one (i := 14) (o := ⟨none, .store 34 (.tmp 44) (.tmp 42), _, _, _, none⟩) (by kernel_rfl) rfl (fun K' hK' => ?_)
    rw [if_pos (by kernel_rfl)]
    have kc : w6.cell? ⟨gf, 1, none⟩ = some (.slice Aj ns cj) := FB6.out.cell 1
    have kf := FB6.out.frozen 1
    with_reducible refine step_storeC w6 34 (.tmp 44) (.tmp 42) (by kernel_rfl) gf 1 (.slice A6 (ns + m) c6) (.slice Aj ns cj) (by kernel_rfl) (by kernel_rfl) rfl (by kernel_rfl) kc kf ?_
    clear kc kf hHeld
    have NVG := Lib.hid (own_neM FB6.out O6.out (by decide))
    obtain ⟨w7, hw7⟩ : ∃ w7, w7 = w6.setCell ⟨gf, 1, none⟩ (.slice A6 (ns + m) c6) := ⟨_, rfl⟩
    rw [← hw7]
    have C7 := Lib.hid (show Chg w6 w7 (fun b => b = gf) by rw [hw7]; exact chg_set _ _ _ _)
    have FB7 := Lib.hid (show FileB w7 gf nv (.slice A6 (ns + m) c6) (.slice none 0 0) by rw [hw7]; exact Blk.setc FB6.out 1 _)
    have O7 := Lib.hid (show w7.ownsRow base 5 1 (.slice A6 (ns + m) c6) (ns + m) (bytesV R) from C7.out.own O6.out (fun b hb hs => NVG.out (by rw [hb, hs])))
    have TK7 := Lib.hid (show TK w7 B gl zs.tail.tail from TK6.out.chg C7.out (fun b hp h => by rw [h] at hp; exact ARI.out.2.2.2.2.1 hp) (fun h => GNE.out h.symm))
    have CH7 := Lib.hid (show Chg w w7 (fun b => b = gf ∨ b = gl ∨ fv.ownBlock = some b) from CH6.out.trans C7.out (fun b _ h => .inl h))
    clear hw7 FB6 O6 TK6 C7
    refine hK'.out _ _ (fun _ hu => absurd hu (by decide)) ?_
    clear hK' K'
    try simp only [Act.put, List.setIfInBounds_toArray, List.set_cons_zero, List.set_cons_succ]
    refine wpLate_done (by kernel_rfl) ?_ _
    have c1 : w7.cell? ⟨gf, 1, none⟩ = some (.slice A6 (ns + m) c6) := FB7.out.cell 1
    have CL := Lib.hid (bclone_any A6 (ns + m) c6 R w7 w7.heap.size (Reads.of_own O7.out) (Nat.le_refl _) (by have := HNM.out; have := RE.out.2.2.1; omega) (fun e => F3.out e))
    go_wp2_with fail
    refine CL.out.mono ?_
    rintro e w8 ⟨⟨v8, rfl, o8⟩, s8⟩
    obtain ⟨A8, c8, rfl, y4, y5, y6⟩ := own_form o8
    have FB8 := Lib.hid (show FileB w8 gf nv (.slice A6 (ns + m) c6) (.slice none 0 0) from Blk.still FB7.out s8)
    have k0 : w8.cell? ⟨gf, 0, none⟩ = some nv := FB8.out.cell 0
    have f0 := FB8.out.frozen 0
    have O8 := Lib.hid o8
    have S8 := Lib.hid s8
    clear o8 s8 c1 CL y6
    go_wp2_with fail
    go_end0
    have C9 : Chg w8 (w8.setCell ⟨gf, 0, none⟩ (.slice A8 (ns + m) c8)) (fun b => b = gf) := chg_set _ _ _ _
    refine ⟨rfl, _, _, Blk.setc FB8.out 0 _, ?_, ?_, ?_, ?_, LO6.out, ?_⟩
    · rw [← HNM.out]; exact C9.own (own_low O8.out CH7.out.size) (fun b hb hs => own_neM FB8.out O8.out (by decide) (by rw [hb, hs]))
    · rw [← HNM.out]; exact C9.own (own_still O7.out S8.out) (fun b hb hs => own_neM FB8.out (own_still O7.out S8.out) (by decide) (by rw [hb, hs]))
    · exact (TK7.out.chg (Chg.of_still S8.out (fun _ => False)) (fun _ _ h => h) (fun h => h)).chg C9 (fun b hp h => by rw [h] at hp; exact ARI.out.2.2.2.2.1 hp) (fun h => GNE.out h.symm)
    · exact (CH7.out.trans (Chg.of_still S8.out (fun _ => False)) (fun _ _ h => h.elim)).trans C9 (fun b _ h => .inl h)
    · intro j hj hq
      have h1 := (O8.out.lt j hj).1
      have h2 := (O7.out.lt j hq).2
      omega
end Go.Proofs.YtblgphfdicffcaaGreatDoor

/- What a medium is, apart from memory: names in their order, files, what waits. It proves no statement. -/


namespace Go.Proofs.YtblgphfdicffcaaGreatDoor
open Go.RowKit Go.Maps Go.WideMaps Go.Sort
set_option linter.unusedVariables false
set_option linter.unusedSimpArgs false

/-- Names, rising, and each one's file. -/
abbrev NT := List (List UInt8 × Nat)
def nmD (N : NT) : DataW Unit := .map (N.map fun p => (Lit.string p.1, fd (p.2 : Int)))
def nIns (x : List UInt8 × Nat) : NT → NT
  | [] => [x]
  | y :: r => if bytesBefore x.1 y.1 then x :: y :: r else y :: nIns x r
def nDel (N : NT) (s : List UInt8) : NT := N.filter fun p => !(p.1 == s)
def nPut (N : NT) (s : List UInt8) (f : Nat) : NT := nIns (s, f) (nDel N s)
def nFind (N : NT) (s : List UInt8) : Option Nat := (N.find? fun p => p.1 == s).map (·.2)
theorem nmD_del (N : NT) (s : List UInt8) : (nmD N).del (.string s) = nmD (nDel N s) := by
  show DataW.map ((N.map fun p => (Lit.string p.1, fd (p.2 : Int))).filter fun p => !p.1.sameKey (.string s)) = DataW.map _
  congr 1
  rw [List.filter_map]
  rfl
theorem insert_map (x : List UInt8 × Nat) (N : NT) : DataW.insert (Lit.string x.1, fd (x.2 : Int)) (N.map fun p => (Lit.string p.1, fd (p.2 : Int))) = (nIns x N).map fun p => (Lit.string p.1, fd (p.2 : Int)) := by
  induction N with
  | nil => rfl
  | cons y r ih =>
    rw [List.map_cons]
    unfold DataW.insert nIns
    have e : Lit.before (Lit.string x.1) (Lit.string y.1) = bytesBefore x.1 y.1 := rfl
    simp only [e]
    split
    · rfl
    · rw [ih]; rfl
theorem nmD_put (N : NT) (s : List UInt8) (f : Nat) : (nmD N).put (.string s) (fd (f : Int)) = nmD (nPut N s f) := by
  show DataW.map (DataW.insert (Lit.string s, fd (f : Int)) ((N.map fun p => (Lit.string p.1, fd (p.2 : Int))).filter fun p => !p.1.sameKey (.string s))) = DataW.map _
  congr 1
  rw [List.filter_map]
  exact insert_map (s, f) (nDel N s)
theorem look_nm (N : NT) (s : ByteArray) : look (nmD N) s = match nFind N s.data.toList with | some f => (f : Int) | none => -1 := by
  unfold look nFind nmD DataW.atKey kl
  simp only [List.find?_map]
  have e : ((fun p : Lit × DataW Unit => p.1.sameKey (Lit.string s.data.toList)) ∘ fun p : List UInt8 × Nat => (Lit.string p.1, fd (p.2 : Int))) = fun p => p.1 == s.data.toList := rfl
  rw [e]
  cases N.find? fun p => p.1 == s.data.toList <;> rfl
theorem size_nm (N : NT) : Maps.size (nmD N) = N.length := by simp [Maps.size, nmD]
theorem keys_nm (N : NT) : strKeys (nmD N) = N.map (·.1) := by
  show (N.map fun p => (Lit.string p.1, fd (p.2 : Int))).map (fun p => strOf p.1) = _
  rw [List.map_map]
  rfl
/-! ### Their order -/
def Rising (N : NT) : Prop := N.Pairwise fun p q => bytesBefore p.1 q.1 = true
theorem before_lt : ∀ a b : List UInt8, bytesBefore a b = true → a < b
  | [], [], h => by simp [bytesBefore] at h
  | [], _ :: _, _ => List.nil_lt_cons _ _
  | _ :: _, [], h => by simp [bytesBefore] at h
  | a :: r, b :: s, h => by
    simp only [bytesBefore, Bool.or_eq_true, Bool.and_eq_true, decide_eq_true_eq, beq_iff_eq] at h
    rw [List.cons_lt_cons_iff]
    rcases h with h | ⟨h1, h2⟩
    · exact .inl h
    · exact .inr ⟨h1, before_lt r s h2⟩
theorem Rising.nil : Rising [] := List.Pairwise.nil
theorem Rising.del {N : NT} (h : Rising N) (s : List UInt8) : Rising (nDel N s) := List.Pairwise.filter _ h
theorem mem_ins {x y : List UInt8 × Nat} {N : NT} : y ∈ nIns x N ↔ y = x ∨ y ∈ N := by
  induction N with
  | nil => simp [nIns]
  | cons z r ih =>
    unfold nIns
    split
    · simp
    · simp only [List.mem_cons, ih]
      constructor
      · rintro (h | h | h)
        · exact .inr (.inl h)
        · exact .inl h
        · exact .inr (.inr h)
      · rintro (h | h | h)
        · exact .inr (.inl h)
        · exact .inl h
        · exact .inr (.inr h)
theorem Rising.ins {N : NT} (h : Rising N) (x : List UInt8 × Nat) (hx : ∀ p ∈ N, p.1 ≠ x.1) : Rising (nIns x N) := by
  induction N with
  | nil => exact List.pairwise_singleton _ _
  | cons y r ih =>
    have h1 := List.pairwise_cons.1 h
    unfold nIns
    split
    · rename_i hb
      refine List.pairwise_cons.2 ⟨fun p hp => ?_, h⟩
      rcases List.mem_cons.1 hp with rfl | hp
      · exact hb
      · exact WideShapes.bytes_trans _ _ _ hb (h1.1 p hp)
    · rename_i hb
      refine List.pairwise_cons.2 ⟨fun p hp => ?_, ih h1.2 (fun p hp => hx p (List.mem_cons_of_mem _ hp))⟩
      rcases mem_ins.1 hp with rfl | hp
      · rcases WideAt.bytes_total p.1 y.1 (fun e => hx y (List.mem_cons_self) e.symm) with h2 | h2
        · exact absurd h2 hb
        · exact h2
      · exact h1.1 p hp
theorem Rising.put {N : NT} (h : Rising N) (s : List UInt8) (f : Nat) : Rising (nPut N s f) :=
  (h.del s).ins (s, f) (fun p hp => by have := (List.mem_filter.1 hp).2; simpa using this)
theorem Rising.sorted {N : NT} (h : Rising N) {ss : List (List UInt8)} (hp : ss.Perm (N.map (·.1))) : ss.mergeSort (fun x y => decide (x ≤ y)) = N.map (·.1) := by
  rw [mergeSort_of_perm hp]
  refine List.mergeSort_of_pairwise ?_
  rw [List.pairwise_map]
  exact h.imp fun {p q} hb => by simpa using List.le_of_lt (before_lt _ _ hb)
theorem Rising.nodup {N : NT} (h : Rising N) : (N.map (·.1)).Nodup := by
  rw [List.Nodup, List.pairwise_map]
  exact h.imp fun {p q} hb e => by rw [e, WideAt.bytes_irrefl] at hb; cases hb
theorem nFind_mem {N : NT} {s : List UInt8} {f : Nat} (h : nFind N s = some f) : (s, f) ∈ N := by
  unfold nFind at h
  cases hc : N.find? fun p => p.1 == s with
  | none => rw [hc] at h; cases h
  | some p =>
    rw [hc] at h
    have h1 := List.find?_some hc
    have h2 := List.mem_of_find?_eq_some hc
    have e1 : p.1 = s := by simpa using h1
    have e2 : p.2 = f := by simpa using h
    rw [← e1, ← e2]
    exact h2
theorem nFind_of_mem {N : NT} (h : Rising N) {s : List UInt8} {f : Nat} (hm : (s, f) ∈ N) : nFind N s = some f := by
  induction N with
  | nil => cases hm
  | cons y r ih =>
    have h1 := List.pairwise_cons.1 h
    unfold nFind
    rcases List.mem_cons.1 hm with e | hm
    · subst e
      simp
    · have hne : (y.1 == s) = false := by
        rw [beq_eq_false_iff_ne]
        intro e
        have := h1.1 _ hm
        rw [e] at this
        simp only [WideAt.bytes_irrefl] at this
        cases this
      rw [List.find?_cons, hne]
      exact ih h1.2 hm
/-- A change of names. -/
def nmStep (N : NT) (x : ByteArray × ByteArray × Int) : NT := if x.2.2 < 0 then nDel N x.1.data.toList else nPut (nDel N x.1.data.toList) x.2.1.data.toList x.2.2.toNat
def nmSteps (N : NT) (X : List (ByteArray × ByteArray × Int)) : NT := X.foldl nmStep N
theorem nmDo_nm (N : NT) (x : ByteArray × ByteArray × Int) : nmDo (nmD N) x.1 x.2.1 x.2.2 = nmD (nmStep N x) := by
  unfold nmDo nmStep kl
  split
  · exact nmD_del N _
  · rename_i h
    rw [nmD_del]
    obtain ⟨m, hm⟩ := Int.eq_ofNat_of_zero_le (show 0 ≤ x.2.2 by omega)
    rw [hm]
    exact nmD_put (nDel N _) _ m
theorem nmAll_nm (N : NT) (X : List (ByteArray × ByteArray × Int)) : nmAll (nmD N) X = nmD (nmSteps N X) := by
  unfold nmAll nmSteps
  induction X generalizing N with
  | nil => rfl
  | cons x r ih => rw [List.foldl_cons, List.foldl_cons, nmDo_nm, ih]
theorem Rising.step {N : NT} (h : Rising N) (x : ByteArray × ByteArray × Int) : Rising (nmStep N x) := by
  unfold nmStep
  split
  · exact h.del _
  · exact (h.del _).put _ _
theorem Rising.steps {N : NT} (h : Rising N) (X : List (ByteArray × ByteArray × Int)) : Rising (nmSteps N X) := by
  unfold nmSteps
  induction X generalizing N with
  | nil => exact h
  | cons x r ih => exact ih (h.step x)
/-- Which files there are among names. -/
theorem step_files {N : NT} {x : ByteArray × ByteArray × Int} {p : List UInt8 × Nat} (hp : p ∈ nmStep N x) : p ∈ N ∨ (0 ≤ x.2.2 ∧ p = (x.2.1.data.toList, x.2.2.toNat)) := by
  unfold nmStep at hp
  split at hp
  · exact .inl (List.mem_filter.1 hp).1
  · rename_i h
    rcases mem_ins.1 hp with e | hp
    · exact .inr ⟨by omega, e⟩
    · exact .inl (List.mem_filter.1 (List.mem_filter.1 hp).1).1
end Go.Proofs.YtblgphfdicffcaaGreatDoor

/- A medium in memory: whose block is whose; what stays when something turns. It proves no statement. -/


namespace Go.Proofs.YtblgphfdicffcaaGreatDoor
open Go.RowKit Go.Maps Go.WideMaps Go.Sort
set_option linter.unusedVariables false
set_option linter.unusedSimpArgs false

/-- A file: its bytes now, those that are fast, what waits. -/
structure Fi where
  now : List UInt8
  fast : List UInt8
  wait : List Ch
def Fi.ok (F : Fi) : Prop := F.now = appAll F.fast F.wait ∧ ChOK F.fast F.wait
/-- Whose a block is: a file's (or a medium's) and what of it; or nobody's. -/
abbrev Own := Nat → Option (Nat × Nat)
def FileI (w : World) (base : Nat) (own : Own) (gf : Nat) (F : Fi) : Prop :=
  ∃ nv fv wv cs, FileB w gf nv fv wv ∧ w.ownsRow base 5 1 nv F.now.length (bytesV F.now) ∧ w.ownsRow base 5 1 fv F.fast.length (bytesV F.fast) ∧ w.ownsRow base 218 2 wv F.wait.length cs ∧ HasC w base F.wait cs (fun j b => own b = some (gf, 4 + j)) ∧ own gf = some (gf, 0) ∧ (∀ b, nv.ownBlock = some b → own b = some (gf, 1)) ∧ (∀ b, fv.ownBlock = some b → own b = some (gf, 2)) ∧ (∀ b, wv.ownBlock = some b → own b = some (gf, 3))
section
variable {w w' : World} {base gf : Nat} {own own' : Own} {F : Fi} {S : Nat → Prop}
theorem FileI.lt (h : FileI w base own gf F) : gf < w.heap.size := by obtain ⟨nv, fv, wv, cs, h1, _⟩ := h; exact Blk.lt h1
theorem FileI.keep (h : FileI w base own gf F) (c : Chg w w' S) (hS : ∀ b k, S b → own b ≠ some (gf, k)) : FileI w' base own gf F := by
  obtain ⟨nv, fv, wv, cs, h1, h2, h3, h4, h5, h6, h7, h8, h9⟩ := h
  exact ⟨nv, fv, wv, cs, c.blk h1 (fun hs => hS _ _ hs h6), c.own h2 (fun b hb hs => hS _ _ hs (h7 b hb)), c.own h3 (fun b hb hs => hS _ _ hs (h8 b hb)), c.own h4 (fun b hb hs => hS _ _ hs (h9 b hb)), h5.keep c (fun j b hb hs => hS _ _ hs hb), h6, h7, h8, h9⟩
theorem FileI.reown (h : FileI w base own gf F) (ho : ∀ b, b < w.heap.size → own' b = own b) : FileI w base own' gf F := by
  obtain ⟨nv, fv, wv, cs, h1, h2, h3, h4, h5, h6, h7, h8, h9⟩ := h
  exact ⟨nv, fv, wv, cs, h1, h2, h3, h4, h5.mono (fun j b _ hb h => by rw [ho b hb]; exact h), by rw [ho _ (Blk.lt h1)]; exact h6, fun b hb => by rw [ho b (h2.lt b hb).2]; exact h7 b hb, fun b hb => by rw [ho b (h3.lt b hb).2]; exact h8 b hb, fun b hb => by rw [ho b (h4.lt b hb).2]; exact h9 b hb⟩
end
/-- All files. -/
def FilesI (w : World) (base : Nat) (own : Own) (fs : Nat → Option Fi) : Prop := ∀ gf F, fs gf = some F → base ≤ gf ∧ F.ok ∧ F.wait.length ≤ 1000000 ∧ FileI w base own gf F
def upd (fs : Nat → Option Fi) (gf : Nat) (F : Fi) : Nat → Option Fi := fun x => if x = gf then some F else fs x
theorem upd_same (fs : Nat → Option Fi) (gf : Nat) (F : Fi) : upd fs gf F gf = some F := if_pos rfl
theorem upd_other (fs : Nat → Option Fi) {gf x : Nat} (F : Fi) (h : x ≠ gf) : upd fs gf F x = fs x := if_neg h
theorem upd_some {fs : Nat → Option Fi} {gf x : Nat} {F G : Fi} (h : fs x = some G) : ∃ H, upd fs gf F x = some H := by
  by_cases e : x = gf
  · subst e; exact ⟨_, upd_same _ _ _⟩
  · exact ⟨G, by rw [upd_other _ _ e]; exact h⟩
theorem FilesI.keep {w w' : World} {base : Nat} {own : Own} {fs : Nat → Option Fi} {S : Nat → Prop} (h : FilesI w base own fs) (c : Chg w w' S) (hS : ∀ b gf k F, S b → fs gf = some F → own b ≠ some (gf, k)) : FilesI w' base own fs :=
  fun gf F hF => ⟨(h gf F hF).1, (h gf F hF).2.1, (h gf F hF).2.2.1, (h gf F hF).2.2.2.keep c (fun b k hs => hS b gf k F hs hF)⟩
theorem FilesI.turn {w w' : World} {base : Nat} {own own' : Own} {fs : Nat → Option Fi} {S : Nat → Prop} (h : FilesI w base own fs) (c : Chg w w' S) (gf : Nat) (hS : ∀ b x k, S b → x ≠ gf → fs x ≠ none → own b ≠ some (x, k)) (ho : ∀ b, b < w.heap.size → own' b = own b) (F : Fi) (hF : base ≤ gf ∧ F.ok ∧ F.wait.length ≤ 1000000 ∧ FileI w' base own' gf F) : FilesI w' base own' (upd fs gf F) := by
  intro x G hG
  by_cases e : x = gf
  · subst e
    rw [upd_same] at hG
    injection hG with hG
    subst hG
    exact hF
  · rw [upd_other _ _ e] at hG
    obtain ⟨h1, h2, h3, h4⟩ := h x G hG
    have h5 := h4.reown ho
    refine ⟨h1, h2, h3, FileI.keep (own := own') h5 (S := fun b => S b ∧ b < w.heap.size) (c.mono (fun b hb hs => ⟨hs, hb⟩)) (fun b k hs => ?_)⟩
    rw [ho b hs.2]
    exact hS b x k hs.1 e (by rw [hG]; simp)
/-- A medium, apart from its files: room, power, names, what waits. -/
structure Me where
  room : Int
  left : Int
  off : Bool
  now : NT
  fast : NT
  wait : List (ByteArray × ByteArray × Int)
  fs : Nat → Option Fi
  cnt : Nat
def DirI (w : World) (base : Nat) (own : Own) (g : Nat) (M : Me) : Prop :=
  ∃ bn bf wv ns nn nf, MedB w g M.room bn bf wv M.left M.off ∧ NM w bn nn (nmD M.now) ∧ NM w bf nf (nmD M.fast) ∧ nn ≤ M.cnt ∧ nf + M.wait.length ≤ M.cnt ∧ w.ownsRow base 214 3 wv M.wait.length ns ∧ HasN M.wait ns ∧ M.wait.length ≤ M.cnt ∧ own g = some (g, 0) ∧ own bn = some (g, 1) ∧ own bf = some (g, 2) ∧ (∀ b, wv.ownBlock = some b → own b = some (g, 3))
structure MedI (w : World) (base : Nat) (own : Own) (g : Nat) (M : Me) : Prop where
  dir : DirI w base own g M
  files : FilesI w base own M.fs
  dom : ∀ b, own b ≠ none → base ≤ b ∧ b < w.heap.size
  low : base ≤ w.heap.size
  nog : M.fs g = none
section
variable {w w' : World} {base g : Nat} {own own' : Own} {M : Me} {S : Nat → Prop}
theorem DirI.keep (h : DirI w base own g M) (c : Chg w w' S) (hS : ∀ b k, S b → own b ≠ some (g, k)) : DirI w' base own g M := by
  obtain ⟨bn, bf, wv, ns, nn, nf, h1, h2, h3, h4, h5, h6, h7, h8, h9, h10, h11, h12⟩ := h
  exact ⟨bn, bf, wv, ns, nn, nf, c.blk h1 (fun hs => hS _ _ hs h9), c.nm h2 (fun hs => hS _ _ hs h10), c.nm h3 (fun hs => hS _ _ hs h11), h4, h5, c.own h6 (fun b hb hs => hS _ _ hs (h12 b hb)), h7, h8, h9, h10, h11, h12⟩
theorem DirI.reown (h : DirI w base own g M) (ho : ∀ b, b < w.heap.size → own' b = own b) : DirI w base own' g M := by
  obtain ⟨bn, bf, wv, ns, nn, nf, h1, h2, h3, h4, h5, h6, h7, h8, h9, h10, h11, h12⟩ := h
  exact ⟨bn, bf, wv, ns, nn, nf, h1, h2, h3, h4, h5, h6, h7, h8, by rw [ho _ (Blk.lt h1)]; exact h9, by rw [ho _ h2.lt]; exact h10, by rw [ho _ h3.lt]; exact h11, fun b hb => by rw [ho b (h6.lt b hb).2]; exact h12 b hb⟩
theorem DirI.cong {M' : Me} (h : DirI w base own g M) (e1 : M'.room = M.room) (e2 : M'.left = M.left) (e3 : M'.off = M.off) (e4 : M'.now = M.now) (e5 : M'.fast = M.fast) (e6 : M'.wait = M.wait) (e7 : M.cnt ≤ M'.cnt) : DirI w base own g M' := by
  obtain ⟨bn, bf, wv, ns, nn, nf, h1, h2, h3, h4, h5, h6, h7, h8, h9⟩ := h
  exact ⟨bn, bf, wv, ns, nn, nf, by rw [e1, e2, e3]; exact h1, by rw [e4]; exact h2, by rw [e5]; exact h3, by omega, by rw [e6]; omega, by rw [e6]; exact h6, by rw [e6]; exact h7, by rw [e6]; omega, h9⟩
theorem MedI.keep (h : MedI w base own g M) (c : Chg w w' S) (hS : ∀ b, S b → own b = none) : MedI w' base own g M where
  dir := h.dir.keep c (fun b k hs e => by rw [hS b hs] at e; cases e)
  files := h.files.keep c (fun b gf k F hs _ e => by rw [hS b hs] at e; cases e)
  dom := fun b hb => ⟨(h.dom b hb).1, Nat.lt_of_lt_of_le (h.dom b hb).2 c.size⟩
  low := Nat.le_trans h.low c.size
  nog := h.nog
theorem MedI.still (h : MedI w base own g M) (s : Still w w') : MedI w' base own g M := h.keep (Chg.of_still s (fun _ => False)) (fun _ h => h.elim)
end
/-- What lies below is nobody's. -/
theorem MedI.below {w : World} {base g : Nat} {own : Own} {M : Me} (h : MedI w base own g M) : ∀ b, b < base → own b = none ∧ b < w.heap.size := fun b hp => by
  have hl := h.low
  refine ⟨?_, by omega⟩
  cases hq : own b with
  | none => rfl
  | some q => have := (h.dom b (by rw [hq]; simp)).1; omega
/-- A file behind a crash. -/
def Fi.crash (F : Fi) (zs : List Int) : Fi := ⟨crashL F.fast F.wait zs, crashL F.fast F.wait zs, []⟩
theorem Fi.crash_ok {F : Fi} (h : F.ok) (zs : List Int) : (F.crash zs).ok := ⟨rfl, ChOK.nil (crashL_len zs h.2)⟩
theorem fcrash_I {w : World} {base gf gl : Nat} {B : Nat → Prop} {own : Own} {F : Fi} {zs : List Int} (h : FileI w base own gf F) (hok : F.ok) (hb : base ≤ gf) (hw6 : F.wait.length ≤ 1000000) (hlow : base ≤ w.heap.size) (hdom : ∀ b, own b ≠ none → base ≤ b ∧ b < w.heap.size)
    (hT : TK w B gl zs) (hgl : own gl = none) (hB : ¬ B gl) (hBo : ∀ b, B b → own b = none ∧ b < w.heap.size) :
    Calls Tryz.prog 77 #[.pointer (some ⟨gf, 0, none⟩), .func (.func 129) #[] #[.pointer (some ⟨gl, 0, none⟩)]] w fun e w' => e = .returned (.tuple #[]) ∧ TK w' B gl zs.tail.tail ∧ Chg w w' (fun b => b = gl ∨ ∃ k, own b = some (gf, k)) ∧ ∃ own' : Own, (∀ b, b < w.heap.size → own' b = own b) ∧ (∀ b, own' b ≠ none → base ≤ b ∧ b < w'.heap.size) ∧ FileI w' base own' gf (F.crash zs) := by
  obtain ⟨nv, fv, wv, cs, h1, h2, h3, h4, h5, h6, h7, h8, h9⟩ := h
  refine (fcrash_any gf gl nv fv wv base B F.fast F.wait cs _ zs h1 h4 h5 h3 (fun b hb i e => by rw [h8 b hb] at e; simp at e; omega) (fun i e => by rw [h6] at e; simp at e; omega) (fun i e => by rw [hgl] at e; cases e) hlow hw6 hok.2 hT hB (fun b hb hp => by have := (hBo b hp).1; rw [h8 b hb] at this; cases this) (fun hp => by have := (hBo gf hp).1; rw [h6] at this; cases this) (fun b hp => (hBo b hp).2)).mono ?_
  rintro e w' ⟨he, nv', fv', g1, g2, g3, g4, g5, g6, g7⟩
  have hsz := g5.size
  refine ⟨he, g4, g5.mono ?_, fun b => if nv'.ownBlock = some b then some (gf, 1) else if fv'.ownBlock = some b then some (gf, 2) else own b, ?_, ?_, ?_⟩
  · rintro b hb (rfl | rfl | hs)
    · exact .inr ⟨0, h6⟩
    · exact .inl rfl
    · exact .inr ⟨2, h8 b hs⟩
  · intro b hb
    show (if nv'.ownBlock = some b then some (gf, 1) else if fv'.ownBlock = some b then some (gf, 2) else own b) = own b
    rw [if_neg (fun e => by have := (g2.lt b e).1; omega)]
    split
    · rename_i e
      rcases g6 with h | ⟨j, h, hj⟩
      · rw [h] at e; exact (h8 b e).symm
      · rw [h] at e; injection e with e; omega
    · rfl
  · intro b hb
    change (if nv'.ownBlock = some b then some (gf, 1) else if fv'.ownBlock = some b then some (gf, 2) else own b) ≠ none at hb
    split at hb
    · rename_i e; exact ⟨Nat.le_trans hlow (g2.lt b e).1, (g2.lt b e).2⟩
    · split at hb
      · rename_i e; exact g3.lt b e
      · have := hdom b hb; omega
  · have nsome : ∀ b, nv'.ownBlock = some b → (if nv'.ownBlock = some b then some (gf, 1) else if fv'.ownBlock = some b then some (gf, 2) else own b) = some (gf, 1) := fun b hb => if_pos hb
    refine ⟨nv', fv', .slice none 0 0, [], g1, own_low g2 hlow, g3, World.ownsRow_nil _ _ _ _, HasC.nil _ _ _, ?_, nsome, ?_, fun b hb => by simp [Value.ownBlock] at hb⟩
    · show (if nv'.ownBlock = some gf then some (gf, 1) else if fv'.ownBlock = some gf then some (gf, 2) else own gf) = _
      rw [if_neg (own_neM g1 g2 (by decide)), if_neg (own_neM g1 g3 (by decide))]
      exact h6
    · intro b hb
      show (if nv'.ownBlock = some b then some (gf, 1) else if fv'.ownBlock = some b then some (gf, 2) else own b) = _
      rw [if_neg (fun e => g7 b e hb), if_pos hb]
end Go.Proofs.YtblgphfdicffcaaGreatDoor

/- Contracts: slices.Sorted(maps.Keys(m)) and maps.Clone of a map of names. It proves no statement. -/


namespace Go.Proofs.YtblgphfdicffcaaGreatDoor
open Go.RowKit Go.Maps Go.WideMaps Go.Sort Go.Shelf
set_option linter.unusedVariables false
set_option linter.unusedSimpArgs false

theorem keys_any (b : Nat) (W : World) : Calls Tryz.prog 76 #[.map (some b)] W fun e w' => e = .returned (.func (.func 133) #[] #[.pointer (some ⟨W.heap.size, 0, none⟩)]) ∧ w' = W.alloc (.cells #[.map (some b)] 133) :=
  callsIn_wide.1 (Tryz.maps_keys (some b) W)
/-- Names, as the model's values. -/
def namesV (N : NT) : List Value := (N.map (·.1)).map encStr
theorem namesV_length (N : NT) : (namesV N).length = N.length := by simp [namesV]
theorem namesV_get (N : NT) (i : Nat) (p : List UInt8 × Nat) (h : N[i]? = some p) : (namesV N)[i]? = some (.string ⟨p.1.toArray⟩) := by
  simp [namesV, h]
theorem sortedkeys_any (N : NT) (hN : Rising N) (b n : Nat) (W : World) (hown : NM W b n (nmD N)) (hlen : N.length ≤ 1000000) :
    Calls Tryz.prog 75 #[.func (.func 133) #[] #[.pointer (some ⟨W.heap.size, 0, none⟩)]] (W.alloc (.cells #[.map (some b)] 133)) fun e w' => (∃ v, e = .returned v ∧ w'.ownsRow W.heap.size 9 1 v N.length (namesV N)) ∧ Still W w' := by
  refine (callsIn_wide.1 (Tryz.sorted_keys b n (nmD N) ptrElem W hown (by rw [size_nm]; unfold maxLen; omega) (by rw [size_nm]; omega))).mono ?_
  rintro e w' ⟨v, ss, he, hp, hrow, _, hb⟩
  rw [keys_nm] at hp
  have hl : ss.length = N.length := by rw [hp.length_eq, List.length_map]
  rw [hN.sorted hp, hl] at hrow
  have s1 : Still W (W.alloc (.cells #[.map (some b)] 133)) := (Still.refl W).alloc (Nat.le_refl _) _
  exact ⟨⟨v, he, own_low hrow s1.size⟩, Below.trans s1 (hb.mono s1.size)⟩
theorem mclone_any (N : NT) (b n : Nat) (W : World) (hown : NM W b n (nmD N)) :
    Calls Tryz.prog 78 #[.map (some b)] W fun e w' => e = .returned (.map (some W.heap.size)) ∧ NM w' W.heap.size n (nmD N) ∧ Still W w' := by
  have h := AnyW.maps_Clone_owns Tryz.clonem 9 ptrElem b n (nmD N) W hown
  exact h.mono fun e w' ⟨h1, h2, _, h3⟩ => ⟨h1, h2, h3⟩
end Go.Proofs.YtblgphfdicffcaaGreatDoor
