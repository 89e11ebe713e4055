/- The document's own few entries, of however many. It proves no statement. -/
import Derived.Test.YtnhkabohccbglaaDoorFrWholeM
import Derived.Test.YtnhkabohccbglaaDoorFrFew
import Derived.Deep.MidRow
import Derived.Deep.RegionHeld
namespace Go.Proofs.YtnhkabohccbglaaDoor
open Go.RowKit
set_option linter.unusedVariables false
set_option linter.unusedSimpArgs false

/-- A row of entries: each with a row of its own for its data. -/
def HasE (W : World) (B : Nat) : List Ee → List Value → Prop
  | [], xs => xs = []
  | x :: X, xs => ∃ v ys, xs = entL x.t x.K v ++ ys ∧ x.K.length = 32 ∧ W.ownsRow B 5 1 v x.D.length (bytesV x.D) ∧ HasE W B X ys
theorem HasE.keep {W W' : World} {B : Nat} (hk : ∀ v n l, W.ownsRow B 5 1 v n (bytesV l) → W'.ownsRow B 5 1 v n (bytesV l)) : ∀ (X : List Ee) (xs : List Value), HasE W B X xs → HasE W' B X xs
  | [], _, h => h
  | x :: X, xs, ⟨v, ys, h1, h2, h3, h4⟩ => ⟨v, ys, h1, h2, hk _ _ _ h3, HasE.keep hk X ys h4⟩
theorem HasE.snoc {W : World} {B : Nat} (x : Ee) (v : Value) (hK : x.K.length = 32) (ho : W.ownsRow B 5 1 v x.D.length (bytesV x.D)) : ∀ (X : List Ee) (xs : List Value), HasE W B X xs → HasE W B (X ++ [x]) (xs ++ entL x.t x.K v)
  | [], xs, h => by
    have h0 : xs = [] := h
    subst h0
    exact ⟨v, [], by simp, hK, ho, rfl⟩
  | g :: X, xs, ⟨u, ys, h1, h2, h3, h4⟩ => ⟨u, ys ++ entL x.t x.K v, by rw [h1, List.append_assoc], h2, h3, HasE.snoc x v hK ho X ys h4⟩
/-- One of them, in the row. -/
theorem HasE.at_ {W : World} {B : Nat} : ∀ (X : List Ee) (xs : List Value) (i : Nat) (x : Ee), HasE W B X xs → X[i]? = some x → ∃ v, x.K.length = 32 ∧ W.ownsRow B 5 1 v x.D.length (bytesV x.D) ∧ ∀ q, q < 34 → xs[i * 34 + q]? = (entL x.t x.K v)[q]?
  | [], xs, i, x, _, hf => by simp at hf
  | g :: X, xs, 0, x, ⟨v, ys, h1, h2, h3, h4⟩, hf => by
    simp only [List.getElem?_cons_zero, Option.some.injEq] at hf
    subst hf
    refine ⟨v, h2, h3, fun q hq => ?_⟩
    rw [h1, Nat.zero_mul, Nat.zero_add, List.getElem?_append_left (by rw [entL_len _ _ _ h2]; exact hq)]
  | g :: X, xs, i + 1, x, ⟨v, ys, h1, h2, h3, h4⟩, hf => by
    obtain ⟨v', a, b, c⟩ := HasE.at_ X ys i x h4 (by simpa using hf)
    refine ⟨v', a, b, fun q hq => ?_⟩
    rw [h1, List.getElem?_append_right (by rw [entL_len _ _ _ h2]; omega), entL_len _ _ _ h2, ← c q hq]
    congr 1
    omega
/-- An entry that came in. -/
structure EntRow (W : World) (B b p : Nat) (x : Ee) (A : Option Addr) (n c : Nat) : Prop where
  key : x.K.length = 32
  at_ : W.rangeAt b p (entL x.t x.K (.slice A n c))
  rd : Reads W B A n x.D
  le : n ≤ c ∧ c ≤ 9223372036854775807
  nil : A = none → n = 0 ∧ c = 0
/-- A row of entries that came in. -/
def EntsIn (W : World) (B : Nat) (A : Option Addr) (L : List Ee) : Prop := ∀ i x, L[i]? = some x → ∃ b o A' n c, A = some ⟨b, o, none⟩ ∧ EntRow W B b (o + i * 34) x A' n c
theorem EntRow.still {W W' : World} {B b p : Nat} {x : Ee} {A : Option Addr} {n c : Nat} (h : EntRow W B b p x A n c) (hB : B ≤ W.heap.size) (s : Still W W') : EntRow W' B b p x A n c :=
  ⟨h.key, fun j u hj => by
      have h1 := h.at_ j u hj
      exact (s.cell (World.block_lt_of_cell? W _ h1)).trans h1, h.rd.still hB s, h.le, h.nil⟩
theorem EntRow.cells {W : World} {B b p : Nat} {x : Ee} {A : Option Addr} {n c : Nat} (h : EntRow W B b p x A n c) : W.cell? ⟨b, p, none⟩ = some (.int .i64 x.t) ∧ W.rangeAt b (p + 1) (bytesV x.K) ∧ W.cell? ⟨b, p + 33, none⟩ = some (.slice A n c) := by
  refine ⟨?_, ?_, ?_⟩
  · have := h.at_ 0 (.int .i64 x.t) rfl
    simpa using this
  · intro j u hj
    have hlt : j < (bytesV x.K).length := (List.getElem?_eq_some_iff.1 hj).1
    have := h.at_ (1 + j) u (by
      unfold entL
      rw [Nat.add_comm, List.getElem?_cons_succ, List.getElem?_append_left hlt]
      exact hj)
    rw [Nat.add_assoc]
    exact this
  · have := h.at_ 33 (.slice A n c) (by
      unfold entL
      rw [List.getElem?_cons_succ, List.getElem?_append_right (by rw [bytesV_length, h.key]; omega), bytesV_length, h.key]
      rfl)
    exact this
/-- An entry, its data cut. -/
def cutE (k : Nat) (x : Ee) : Ee := ⟨x.t, x.K, x.D.take k⟩

set_option maxRecDepth 100000 in
set_option maxHeartbeats 6400000 in
theorem few_any (A : Option Addr) (n c N Lg : Nat) (L : List Ee) (w : World) (B : Nat) (hin : EntsIn w B A L) (hB : B ≤ w.heap.size) (hn : L.length = n) (hnc : n ≤ c) (hcm : c ≤ 9223372036854775807) (hN : N ≤ 1048576) (hL : 1 ≤ Lg) (hL2 : Lg ≤ 1048576) :
    Calls Tryd.prog 11 #[.slice A n c, .int .i64 (N : Int), .int .i64 (Lg : Int)] w fun e w' => (∃ ov xs, e = .returned ov ∧ w'.ownsRow w.heap.size 26 34 ov (min n N) xs ∧ HasE w' w.heap.size ((L.take N).map (cutE Lg)) xs) ∧ Still w w' := by
  obtain ⟨M, hM⟩ : ∃ M, M = min n N := ⟨_, rfl⟩
  rw [← hM]
  have hML : (L.take N) = L.take M := by
    rw [hM]
    by_cases h : n ≤ N
    · rw [Nat.min_eq_left h, List.take_of_length_le (by omega), List.take_of_length_le (by omega)]
    · rw [Nat.min_eq_right (by omega)]
  rw [hML]
  have HIN := Lib.hid hin
  have FC := Lib.hid (show L.length = n ∧ n ≤ c ∧ c ≤ 9223372036854775807 ∧ N ≤ 1048576 ∧ 1 ≤ Lg ∧ Lg ≤ 1048576 ∧ B ≤ w.heap.size ∧ M ≤ n ∧ M ≤ N ∧ (n ≤ M ∨ N ≤ M) from ⟨hn, hnc, hcm, hN, hL, hL2, hB, by omega, by omega, by omega⟩)
  clear hin hB hnc hcm hL hL2 hM hML hn
  go_enter Tryd.func11, Tryd.ntmps11
  go_wp2_with fail
  go_loopw [7, 8] (fun ox iv wr => ∃ (j : Nat) (ov : Value), ov = ox ∧ j ≤ M ∧ iv = .int .i64 j ∧ Hid (∃ xs, wr.ownsRow w.heap.size 26 34 ov j xs ∧ HasE wr w.heap.size ((L.take j).map (cutE Lg)) xs ∧ Still w wr)) (fun _ iv _ => M - (intOf iv).toNat)
  case atStart => exact ⟨0, _, rfl, Nat.zero_le _, rfl, [], World.ownsRow_nil _ _ _ _, by simp [HasE], Still.refl _⟩
  case round =>
    obtain ⟨j, ov, hov, hj, rfl, hh⟩ := hrel
    subst hov
    by_cases hlt : j < M
    · have e1 : (j : Int) < (n : Int) := by have := FC.out; omega
      have e2 : (j : Int) < (N : Int) := by have := FC.out; omega
      have J6 := Lib.hid (show j ≤ 1048576 by have := FC.out; omega)
      obtain ⟨xs, h1, h2, h3⟩ := hh.out
      obtain ⟨x, hx⟩ : ∃ x, L[j]? = some x := ⟨_, List.getElem?_eq_getElem (by have := FC.out; omega)⟩
      obtain ⟨b, o, A1, nd, cd, rfl, hE⟩ := HIN.out j x hx
      have SW := Lib.hid h3
      have OV := Lib.hid h1
      have HV := Lib.hid h2
      have TK := Lib.hid (show (L.take (j + 1)).map (cutE Lg) = (L.take j).map (cutE Lg) ++ [⟨x.t, x.K, x.D.take Lg⟩] by
        rw [List.take_add_one, hx, List.map_append]; rfl)
      have SOW := Lib.hid (fun W (s : Still w W) => (hE.still FC.out.2.2.2.2.2.2.1 s).cells)
      have SOK := Lib.hid (fun W (s : Still wr W) => SOW.out W (Still.trans h3 s))
      obtain ⟨m, hm⟩ : ∃ m, m = min nd Lg := ⟨_, rfl⟩
      have ML := Lib.hid (show (x.D.take Lg).length = m by rw [List.length_take, hE.rd.1, hm]; omega)
      have RT := Lib.hid (show Reads w B A1 m (x.D.take Lg) by rw [hm]; exact hE.rd.take Lg)
      have CUT := Lib.hid (fun W (s : Still wr W) => show Calls Tryd.prog 18 #[.slice A1 nd cd, .int .i64 (Lg : Int)] W fun e w' => e = .returned (.slice A1 m cd) ∧ W = w' from by rw [hm]; exact cut_any A1 nd cd Lg x.D W _ (hE.rd.still FC.out.2.2.2.2.2.2.1 (Still.trans h3 s)) hE.le.1 hE.le.2 FC.out.2.2.2.2.1)
      have CP := Lib.hid (fun W (s : Still wr W) => copy_any A1 m cd (x.D.take Lg) W _ (RT.out.still FC.out.2.2.2.2.2.2.1 (Still.trans h3 s)) (by have := FC.out; omega) (fun e => ⟨by have := (hE.nil e).1; omega, (hE.nil e).2⟩))
      have HK := Lib.hid hE.key
      obtain ⟨t, K, D⟩ := x
      simp only at TK SOW SOK ML RT CUT CP HK
      have FJ := Lib.hid hlt
      clear hh h1 h2 h3 hx hE hm RT
      go_upto_region 5 with fail
      refine wp_region_held_drew (S := fun W => W.cell? ⟨b, o + j * 34, none⟩ = some (.int .i64 t) ∧ W.rangeAt b (o + j * 34 + 1) (bytesV K) ∧ W.cell? ⟨b, o + j * 34 + 33, none⟩ = some (.slice A1 nd cd)) (by kernel_rfl) (SOK.out _ ((Still.refl _).drew)) (fun hHeld => ?_)
      obtain ⟨wa, hwa⟩ : ∃ wa, wa = wr.drew := ⟨_, rfl⟩
      have SA := Lib.hid (show Still wr wa by rw [hwa]; exact (Still.refl _).drew)
      try rw [← hwa] at hHeld
      rw [← hwa]
      clear hwa
      try simp only [Act.put, List.setIfInBounds_toArray, List.set_cons_zero, List.set_cons_succ]
      refine wpAnyH_take (i := 0) (v := ov) rfl (by kernel_rfl) (by kernel_rfl) (by kernel_rfl) (fun _ _ _ h => h) (Or.inl ⟨by kernel_rfl, fun w hS => by obtain ⟨h0, h1, h2⟩ := hS; go_simp⟩) (by assumption) ?_
      try simp only [Act.put, List.setIfInBounds_toArray, List.set_cons_zero, List.set_cons_succ]
      refine wpAnyH_take (i := 1) (v := .slice (some ⟨b, o, none⟩) n c) rfl (by kernel_rfl) (by kernel_rfl) (by kernel_rfl) (fun _ _ _ h => h) (Or.inl ⟨by kernel_rfl, fun w hS => by obtain ⟨h0, h1, h2⟩ := hS; go_simp⟩) (by assumption) ?_
      try simp only [Act.put, List.setIfInBounds_toArray, List.set_cons_zero, List.set_cons_succ]
      refine wpAnyH_take (i := 2) (v := .int .i64 (j : Int)) rfl (by kernel_rfl) (by kernel_rfl) (by kernel_rfl) (fun _ _ _ h => h) (Or.inl ⟨by kernel_rfl, fun w hS => by obtain ⟨h0, h1, h2⟩ := hS; go_simp⟩) (by assumption) ?_
      try simp only [Act.put, List.setIfInBounds_toArray, List.set_cons_zero, List.set_cons_succ]
      refine wpAnyH_take (i := 3) (v := .pointer (some ⟨b, o + j * 34, none⟩)) rfl (by kernel_rfl) (by kernel_rfl) (by kernel_rfl) (fun _ _ _ h => h) (Or.inl ⟨by kernel_rfl, fun w hS => by obtain ⟨h0, h1, h2⟩ := hS; go_simp⟩) (by assumption) ?_
      try simp only [Act.put, List.setIfInBounds_toArray, List.set_cons_zero, List.set_cons_succ]
      refine wpAnyH_take (i := 4) (v := .pointer (some ⟨b, o + j * 34, none⟩)) rfl (by kernel_rfl) (by kernel_rfl) (by kernel_rfl) (fun _ _ _ h => h) (Or.inl ⟨by kernel_rfl, fun w hS => by obtain ⟨h0, h1, h2⟩ := hS; go_simp⟩) (by assumption) ?_
      try simp only [Act.put, List.setIfInBounds_toArray, List.set_cons_zero, List.set_cons_succ]
      refine wpAnyH_take (i := 5) (v := .int .i64 t) rfl (by kernel_rfl) (by kernel_rfl) (by kernel_rfl) (fun _ _ _ h => h) (Or.inl ⟨by kernel_rfl, fun w hS => by obtain ⟨h0, h1, h2⟩ := hS; go_simp⟩) (by assumption) ?_
      try simp only [Act.put, List.setIfInBounds_toArray, List.set_cons_zero, List.set_cons_succ]
      refine wpAnyH_take (i := 6) (v := .slice (some ⟨b, o, none⟩) n c) rfl (by kernel_rfl) (by kernel_rfl) (by kernel_rfl) (fun _ _ _ h => h) (Or.inl ⟨by kernel_rfl, fun w hS => by obtain ⟨h0, h1, h2⟩ := hS; go_simp⟩) (by assumption) ?_
      try simp only [Act.put, List.setIfInBounds_toArray, List.set_cons_zero, List.set_cons_succ]
      refine wpAnyH_take (i := 7) (v := .int .i64 (j : Int)) rfl (by kernel_rfl) (by kernel_rfl) (by kernel_rfl) (fun _ _ _ h => h) (Or.inl ⟨by kernel_rfl, fun w hS => by obtain ⟨h0, h1, h2⟩ := hS; go_simp⟩) (by assumption) ?_
      try simp only [Act.put, List.setIfInBounds_toArray, List.set_cons_zero, List.set_cons_succ]
      refine wpAnyH_take (i := 8) (v := .pointer (some ⟨b, o + j * 34, none⟩)) rfl (by kernel_rfl) (by kernel_rfl) (by kernel_rfl) (fun _ _ _ h => h) (Or.inl ⟨by kernel_rfl, fun w hS => by obtain ⟨h0, h1, h2⟩ := hS; go_simp⟩) (by assumption) ?_
      try simp only [Act.put, List.setIfInBounds_toArray, List.set_cons_zero, List.set_cons_succ]
      refine wpAnyH_take (i := 9) (v := .pointer (some ⟨b, o + j * 34 + 1, none⟩)) rfl (by kernel_rfl) (by kernel_rfl) (by kernel_rfl) (fun _ _ _ h => h) (Or.inl ⟨by kernel_rfl, fun w hS => by obtain ⟨h0, h1, h2⟩ := hS; go_simp⟩) (by assumption) ?_
      try simp only [Act.put, List.setIfInBounds_toArray, List.set_cons_zero, List.set_cons_succ]
      refine wpAnyH_take (i := 10) (oi := ⟨some 30, .load 23 (.tmp 29), _, _, _, none⟩) (v := .agg (bytesV K).toArray) rfl (by kernel_rfl) (by kernel_rfl) (by kernel_rfl) (fun _ _ _ h => h) ?hy10 (by assumption) ?_
      case hy10 =>
        refine yieldsIf_load_mid ?hw 23 (.tmp 29) ?ho b (o + j * 34 + 1) ?hx (bytesV K) _ (fun w h => h.2.1) under32 rfl (by rw [size32, bytesV_length, HK.out])
        case hw => kernel_rfl
        case ho => rfl
        case hx => kernel_rfl
      try simp only [Act.put, List.setIfInBounds_toArray, List.set_cons_zero, List.set_cons_succ]
      refine wpAnyH_take (i := 11) (oi := ⟨some 31, .move (.tmp 0), _, _, _, none⟩) (v := .slice (some ⟨b, o, none⟩) n c) rfl (by kernel_rfl) (by kernel_rfl) (by kernel_rfl) (fun _ _ _ h => h) (Or.inl ⟨by kernel_rfl, fun w hS => by obtain ⟨h0, h1, h2⟩ := hS; go_simp⟩) (by assumption) ?_
      try simp only [Act.put, List.setIfInBounds_toArray, List.set_cons_zero, List.set_cons_succ]
      refine wpAnyH_take (i := 12) (oi := ⟨some 32, .move (.tmp 8), _, _, _, none⟩) (v := .int .i64 (j : Int)) rfl (by kernel_rfl) (by kernel_rfl) (by kernel_rfl) (fun _ _ _ h => h) (Or.inl ⟨by kernel_rfl, fun w hS => by obtain ⟨h0, h1, h2⟩ := hS; go_simp⟩) (by assumption) ?_
      try simp only [Act.put, List.setIfInBounds_toArray, List.set_cons_zero, List.set_cons_succ]
      refine wpAnyH_take (i := 13) (oi := ⟨some 33, .indexAddr 27 (.tmp 31) (.tmp 32), _, _, _, none⟩) (v := .pointer (some ⟨b, o + j * 34, none⟩)) rfl (by kernel_rfl) (by kernel_rfl) (by kernel_rfl) (fun _ _ _ h => h) (Or.inl ⟨by kernel_rfl, fun w hS => by obtain ⟨h0, h1, h2⟩ := hS; go_simp⟩) (by assumption) ?_
      try simp only [Act.put, List.setIfInBounds_toArray, List.set_cons_zero, List.set_cons_succ]
      refine wpAnyH_take (i := 14) (oi := ⟨some 34, .fieldAddr 26 (.tmp 33) 2, _, _, _, none⟩) (v := .pointer (some ⟨b, o + j * 34 + 33, none⟩)) rfl (by kernel_rfl) (by kernel_rfl) (by kernel_rfl) (fun _ _ _ h => h) (Or.inl ⟨by kernel_rfl, fun w hS => by obtain ⟨h0, h1, h2⟩ := hS; go_simp⟩) (by assumption) ?_
      try simp only [Act.put, List.setIfInBounds_toArray, List.set_cons_zero, List.set_cons_succ]
      refine wpAnyH_take (i := 15) (oi := ⟨some 35, .load 24 (.tmp 34), _, _, _, none⟩) (v := .slice A1 nd cd) rfl (by kernel_rfl) (by kernel_rfl) (by kernel_rfl) (fun _ _ _ h => h) (Or.inl ⟨by kernel_rfl, fun w hS => by obtain ⟨h0, h1, h2⟩ := hS; go_simp⟩) (by assumption) ?_
      try simp only [Act.put, List.setIfInBounds_toArray, List.set_cons_zero, List.set_cons_succ]
      refine wpAnyH_take (i := 16) (oi := ⟨some 36, .move (.tmp 2), _, _, _, none⟩) (v := .int .i64 (Lg : Int)) rfl (by kernel_rfl) (by kernel_rfl) (by kernel_rfl) (fun _ _ _ h => h) (Or.inl ⟨by kernel_rfl, fun w hS => by obtain ⟨h0, h1, h2⟩ := hS; go_simp⟩) (by assumption) ?_
      try simp only [Act.put, List.setIfInBounds_toArray, List.set_cons_zero, List.set_cons_succ]
      refine wpAnyH_ready (rs := [17]) (by kernel_rfl) (by simp) ?_
      refine AllReadyH.cons (o := ⟨some 37, .call { callee := .value (.func 18), args := #[.tmp 35, .tmp 36], argTypes := #[24, 3] }, _, _, _, none⟩) rfl (fun K' hK' => ?_) AllReadyH.nil
      go_simp
      go_wp2_with (go_at_call 18; refine (CUT.out _ SA.out).mono ?_; rintro e w1 ⟨rfl, rfl⟩)
      refine hK'.out _ _ (SOK.out _ SA.out) (fun hHeld => ?_)
      clear hK' K'
      try simp only [Act.put, List.setIfInBounds_toArray, List.set_cons_zero, List.set_cons_succ]
      refine wpAnyH_ready (rs := [18]) (by kernel_rfl) (by simp) ?_
      refine AllReadyH.cons (o := ⟨some 38, .call { callee := .value (.func 19), args := #[.tmp 37], argTypes := #[24] }, _, _, _, none⟩) rfl (fun K' hK' => ?_) AllReadyH.nil
      go_simp
      go_wp2_with (go_at_call 19; refine (CP.out _ SA.out).mono ?_; rintro e w2 ⟨⟨v2, rfl, own2⟩, s2⟩; have S2 := Lib.hid (SA.out.trans s2))
      obtain ⟨A2, c2, rfl, f1, f2, f3⟩ := own_form own2
      have O2 := Lib.hid own2
      have ZA := Lib.hid (show wr.heap.size ≤ wa.heap.size from SA.out.size)
      clear own2 f1 f2 f3 s2
      refine hK'.out _ _ (SOK.out _ S2.out) (fun hHeld => ?_)
      clear hK' K'
      try simp only [Act.put, List.setIfInBounds_toArray, List.set_cons_zero, List.set_cons_succ]
      refine wpAnyH_take (i := 19) (oi := ⟨some 39, .build 26 #[(0, .tmp 25), (1, .tmp 30), (2, .tmp 38)], _, _, _, none⟩) (v := .agg (entV t K (.slice A2 m c2))) rfl (by kernel_rfl) (by kernel_rfl) (by kernel_rfl) (fun _ _ _ h => h) ?hb19 (by assumption) ?_
      case hb19 =>
        refine Or.inl ⟨by kernel_rfl, fun W hS => ?_⟩
        exact run_buildE _ _ (.tmp 25) (.tmp 30) (.tmp 38) rfl t K HK.out (.slice A2 m c2) ⟨_, _, _, rfl⟩ (by kernel_rfl) (by kernel_rfl) (by kernel_rfl) W
      try simp only [Act.put, List.setIfInBounds_toArray, List.set_cons_zero, List.set_cons_succ]
      refine wpAnyH_ready (rs := [20]) (by kernel_rfl) (by simp) ?_
      refine AllReadyH.cons (o := ⟨some 40, .buildSlice 27 1 #[(0, .tmp 39)], _, _, _, none⟩) rfl (fun K' hK' => ?_) AllReadyH.nil
      rw [if_pos (by kernel_rfl)]
      with_reducible refine step_boxE w2 (.tmp 39) (by kernel_rfl) t K HK.out (.slice A2 m c2) ⟨_, _, _, rfl⟩ (by kernel_rfl) ?_
      obtain ⟨w3, hw3⟩ : ∃ w3, w3 = w2.alloc (.cells (entV t K (.slice A2 m c2)) 26) := ⟨_, rfl⟩
      obtain ⟨gx, hgx⟩ : ∃ gx, gx = w2.heap.size := ⟨_, rfl⟩
      have S23 := Lib.hid (show Still w2 w3 by rw [hw3]; exact (Still.refl _).alloc (Nat.le_refl _) _)
      have B3 := Lib.hid (show Blk w3 gx 26 (entV t K (.slice A2 m c2)) by rw [hw3, hgx]; exact Blk.new _ _ _)
      have S3 := Lib.hid (Still.trans S2.out S23.out)
      rw [← hw3, ← hgx]
      clear hw3 hgx
      refine hK'.out _ _ (SOK.out _ S3.out) (fun hHeld => ?_)
      clear hK' K'
      try simp only [Act.put, List.setIfInBounds_toArray, List.set_cons_zero, List.set_cons_succ]
      refine wpAnyH_ready (rs := [21]) (by kernel_rfl) (by simp) ?_
      refine AllReadyH.cons (o := ⟨some 41, .call { callee := .builtin .append, args := #[.tmp 20, .tmp 40], argTypes := #[27, 27] }, _, _, _, none⟩) rfl (fun K' hK' => ?_) AllReadyH.nil
      rw [if_pos (by kernel_rfl)]
      have kq1 := own_still0 S3.out OV.out
      have kq2 : ∀ q u, (entL t K (.slice A2 m c2))[q]? = some u → w3.cell? ⟨gx, q, none⟩ = some u := fun q u hq => (B3.out.cell q).trans (by unfold entV; rw [List.getElem?_toArray]; exact hq)
      have kq3 := entL_len t K (.slice A2 m c2) HK.out
      have kq4 := entL_one t K (.slice A2 m c2) rfl
      have kq5 : w.heap.size ≤ w3.heap.size := Nat.le_trans SW.out.size S3.out.size
      have kq6 : j ≤ 1048576 := J6.out
      with_reducible refine step_pushE w3 (.tmp 20) (.tmp 40) (by kernel_rfl) w.heap.size ov j xs (by kernel_rfl) kq1 gx (entL t K (.slice A2 m c2)) (by kernel_rfl) kq2 kq3 kq4 kq6 kq5 ?_
      intro v4 w4 own4 gr4 loc4
      have FIN := Lib.hid (show ∃ xs', w4.ownsRow w.heap.size 26 34 v4 (j + 1) xs' ∧ HasE w4 w.heap.size ((L.take (j + 1)).map (cutE Lg)) xs' ∧ Still w w4 from by
        have k5 : ∀ v n l, wr.ownsRow w.heap.size 5 1 v n (bytesV l) → w4.ownsRow w.heap.size 5 1 v n (bytesV l) := fun v n l h => own_apart (own_still0 S3.out h) kq1 (by decide) gr4
        have k6 : w4.ownsRow w.heap.size 5 1 (.slice A2 m c2) m (bytesV (D.take Lg)) := own_apart (own_rebase0 (own_still0 S23.out O2.out) (Nat.le_trans SW.out.size ZA.out)) kq1 (by decide) gr4
        refine ⟨_, own4, ?_, (Still.trans SW.out S3.out).grown gr4 kq5 (fun k hk => (kq1.lt k hk).1)⟩
        rw [TK.out]
        exact HasE.snoc ⟨t, K, D.take Lg⟩ (.slice A2 m c2) HK.out (by rw [ML.out]; exact k6) _ _ (HasE.keep k5 _ _ HV.out))
      have gr34 : Still wr w4 ∨ True := .inr trivial
      have SF := Lib.hid (show w4.cell? ⟨b, o + j * 34, none⟩ = some (.int .i64 t) ∧ w4.rangeAt b (o + j * 34 + 1) (bytesV K) ∧ w4.cell? ⟨b, o + j * 34 + 33, none⟩ = some (.slice A1 nd cd) by
        obtain ⟨_, _, _, s4⟩ := FIN.out
        exact SOW.out w4 s4)
      clear own4 gr4 loc4 kq1 kq2 kq3 kq4 kq5 kq6 gr34 B3 S23 O2 S2 S3
      refine hK'.out _ _ SF.out (fun hHeld => ?_)
      clear hK' K'
      try simp only [Act.put, List.setIfInBounds_toArray, List.set_cons_zero, List.set_cons_succ]
      refine wpAnyH_take (i := 22) (oi := ⟨some 7, .assign (.tmp 41), _, _, _, none⟩) (v := v4) rfl (by kernel_rfl) (by kernel_rfl) (by kernel_rfl) (fun _ _ _ h => h) (Or.inl ⟨by kernel_rfl, fun w hS => by go_simp⟩) (by assumption) ?_
      try simp only [Act.put, List.setIfInBounds_toArray, List.set_cons_zero, List.set_cons_succ]
      refine wpAnyH_done (by kernel_rfl) ?_ _
      clear SF SOK SOW CUT CP HV OV SW hHeld SA
      go_simp
      go_wp2_with fail
      go_roundw
      case rel => exact ⟨j + 1, _, rfl, by have := FJ.out; omega, by go_num, FIN.out⟩
      case measure => simp [intOf]; have := FJ.out; omega
    · have hjM : M = j := by omega
      subst hjM
      obtain ⟨xs, h1, h2, h3⟩ := hh.out
      have FIN := Lib.hid (And.intro h1 (And.intro h2 h3))
      clear hh h1 h2 h3
      by_cases hjn : M < n
      · have e1 : (M : Int) < (n : Int) := by omega
        have e2 : ¬ (M : Int) < (N : Int) := by have := FC.out; omega
        go_wp2_with fail
        go_ret
        first
          | exact ⟨⟨_, xs, rfl, FIN.out.1, FIN.out.2.1⟩, FIN.out.2.2⟩
          | exact ⟨⟨_, rfl, xs, FIN.out.1, by have h := FIN.out.2.1; rwa [List.map_take] at h⟩, FIN.out.2.2⟩
      · have e1 : ¬ (M : Int) < (n : Int) := by omega
        go_wp2_with fail
        go_ret
        first
          | exact ⟨⟨_, xs, rfl, FIN.out.1, FIN.out.2.1⟩, FIN.out.2.2⟩
          | exact ⟨⟨_, rfl, xs, FIN.out.1, by have h := FIN.out.2.1; rwa [List.map_take] at h⟩, FIN.out.2.2⟩
end Go.Proofs.YtnhkabohccbglaaDoor
