/- Contracts and facts, several texts in one. It proves no statement. -/
import Derived.Test.YtfneloobfidckaaGreatDoorSf26
import Derived.Test.YtfneloobfidckaaGreatDoorSf28

/- lives; with which entry bytes say that they begin. It proves no statement. -/



namespace Go.Proofs.YtfneloobfidckaaGreatDoor
open Go.RowKit
set_option linter.unusedVariables false
set_option linter.unusedSimpArgs false

theorem zent (t : Int) : entV t (List.replicate 32 0) (.slice none 0 0) = #[.int .i64 t, .int .u8 0, .int .u8 0, .int .u8 0, .int .u8 0, .int .u8 0, .int .u8 0, .int .u8 0, .int .u8 0, .int .u8 0, .int .u8 0, .int .u8 0, .int .u8 0, .int .u8 0, .int .u8 0, .int .u8 0, .int .u8 0, .int .u8 0, .int .u8 0, .int .u8 0, .int .u8 0, .int .u8 0, .int .u8 0, .int .u8 0, .int .u8 0, .int .u8 0, .int .u8 0, .int .u8 0, .int .u8 0, .int .u8 0, .int .u8 0, .int .u8 0, .int .u8 0, .slice none 0 0] := by rfl
/-- Whether an entry with that tag can have so many bytes. -/
def fitE (y n : Nat) : Bool := if y = 0 then decide (41 ≤ n ∧ n ≤ 16425) else if y = 1 then decide (n = 41) else if y = 2 then decide (n = 9) else false
set_option maxRecDepth 100000 in
set_option maxHeartbeats 1600000 in
theorem ffits_any (y n : Nat) (w : World) (hy : y < 256) (hn : n < 4294967296) : Calls Tryz.prog 212 #[.int .u8 (y : Int), .int .i64 (n : Int)] w fun e w' => e = .returned (.bool (fitE y n)) ∧ w = w' := by
  obtain ⟨q, hq⟩ : ∃ q, q = fitE y n := ⟨_, rfl⟩
  rw [← hq]
  unfold fitE at hq
  by_cases h0 : y = 0
  · subst h0
    rw [if_pos rfl] at hq
    by_cases h1 : 41 ≤ n
    · have d1 : (41 : Int) ≤ (n : Int) := by omega
      by_cases h2 : n ≤ 16425
      · have d2 : (n : Int) ≤ 16425 := by omega
        have HQ := Lib.hid (show q = true by rw [hq]; simp; omega)
        clear hq h1 h2
        go_enter Tryz.func212, Tryz.ntmps212
        go_wp2_with fail
        go_ret
        exact ⟨by rw [HQ.out]; rfl, rfl⟩
      · have d2 : ¬ (n : Int) ≤ 16425 := by omega
        have HQ := Lib.hid (show q = false by rw [hq]; simp; omega)
        clear hq h1 h2
        go_enter Tryz.func212, Tryz.ntmps212
        go_wp2_with fail
        go_ret
        exact ⟨by rw [HQ.out]; first | rfl | simp, rfl⟩
    · have d1 : ¬ (41 : Int) ≤ (n : Int) := by omega
      have HQ := Lib.hid (show q = false by rw [hq]; simp; omega)
      clear hq h1
      go_enter Tryz.func212, Tryz.ntmps212
      go_wp2_with fail
      go_ret
      exact ⟨by rw [HQ.out]; first | rfl | simp, rfl⟩
  have b0 : ((y : Int) == 0) = false := by simp; omega
  rw [if_neg h0] at hq
  by_cases h1 : y = 1
  · subst h1
    rw [if_pos rfl] at hq
    by_cases h2 : n = 41
    · subst h2
      have HQ := Lib.hid (show q = true by rw [hq]; rfl)
      clear hq
      go_enter Tryz.func212, Tryz.ntmps212
      go_wp2_with fail
      go_ret
      exact ⟨by rw [HQ.out]; first | rfl | simp, rfl⟩
    · have d2 : ((n : Int) == 41) = false := by simp; omega
      have HQ := Lib.hid (show q = false by rw [hq]; simp; omega)
      clear hq h2
      go_enter Tryz.func212, Tryz.ntmps212
      go_wp2_with fail
      go_ret
      exact ⟨by rw [HQ.out]; first | rfl | simp, rfl⟩
  have b1 : ((y : Int) == 1) = false := by simp; omega
  rw [if_neg h1] at hq
  by_cases h3 : y = 2
  · subst h3
    rw [if_pos rfl] at hq
    by_cases h2 : n = 9
    · subst h2
      have HQ := Lib.hid (show q = true by rw [hq]; rfl)
      clear hq
      go_enter Tryz.func212, Tryz.ntmps212
      go_wp2_with fail
      go_ret
      exact ⟨by rw [HQ.out]; first | rfl | simp, rfl⟩
    · have d2 : ((n : Int) == 9) = false := by simp; omega
      have HQ := Lib.hid (show q = false by rw [hq]; simp; omega)
      clear hq h2
      go_enter Tryz.func212, Tryz.ntmps212
      go_wp2_with fail
      go_ret
      exact ⟨by rw [HQ.out]; first | rfl | simp, rfl⟩
  have b2 : ((y : Int) == 2) = false := by simp; omega
  rw [if_neg h3] at hq
  have HQ := Lib.hid hq
  clear hq h0 h1 h3
  go_enter Tryz.func212, Tryz.ntmps212
  go_wp2_with fail
  go_ret
  exact ⟨by rw [HQ.out]; first | rfl | simp, rfl⟩
/-- The size, and the tag, that bytes say. -/
def sizE (l : List UInt8) : Nat := leNum ((l.drop 4).take 4)
def tagE (l : List UInt8) : Nat := (l.getD 8 0).toNat
/-- With which size bytes say that they begin: the size, or why none. -/
def toE (l : List UInt8) : Nat × Int := if l.length < 9 then (0, 3) else if fitE (tagE l) (sizE l) = false then (0, 4) else if l.length < sizE l then (0, 3) else (sizE l, 0)
theorem tagE_lt (l : List UInt8) : tagE l < 256 := (l.getD 8 0).toNat_lt
theorem sizE_lt (l : List UInt8) : sizE l < 4294967296 := by
  have h := leNum_lt ((l.drop 4).take 4)
  have h2 : ((l.drop 4).take 4).length ≤ 4 := by simp; omega
  have h3 : 2 ^ (8 * ((l.drop 4).take 4).length) ≤ 2 ^ 32 := Nat.pow_le_pow_right (by omega) (by omega)
  exact Nat.lt_of_lt_of_le h h3
set_option maxRecDepth 100000 in
set_option maxHeartbeats 1600000 in
theorem told_any (A : Option Addr) (n c : Nat) (l : List UInt8) (w : World) (B : Nat) (hr : Reads w B A n l) (hn : n ≤ 1048576) (hc : n ≤ c) (hcm : c ≤ 9223372036854775807) :
    Calls Tryz.prog 168 #[.slice A n c] w fun e w' => e = .returned (.tuple #[.int .i64 ((toE l).1 : Nat), .int .i64 (toE l).2]) ∧ w = w' := by
  have hlen := hr.1
  obtain ⟨q, hq⟩ : ∃ q, q = toE l := ⟨_, rfl⟩
  rw [← hq]
  unfold toE at hq
  rw [hlen] at hq
  by_cases h9 : n < 9
  · rw [if_pos h9] at hq
    subst hq
    have d1 : (n : Int) < 9 := by omega
    clear h9 hr hlen
    go_enter Tryz.func168, Tryz.ntmps168
    go_wp2_with fail
    go_ret2
    exact ⟨rfl, rfl⟩
  rw [if_neg h9] at hq
  have d1 : ¬ (n : Int) < 9 := by omega
  obtain ⟨b, o, rfl, hb, hcell⟩ := hr.at_ (by omega)
  have hk := hcell 8 (by omega)
  have ht : ((l.getD 8 0).toNat : Int) = (tagE l : Nat) := rfl
  rw [ht] at hk
  have GT0 := get_yes (some ⟨b, o + 4, none⟩) 4 (c - 4) ((l.drop 4).take 4) w B (by
    have h := (hr.dropk (k := 4) (by omega)).takek (k := 4) (by omega)
    exact h) (by omega) (by omega)
  have hz : leNum ((l.drop 4).take 4) = sizE l := rfl
  rw [hz] at GT0
  have GT := Lib.hid GT0
  have zl := sizE_lt l
  have tl := tagE_lt l
  obtain ⟨y, hy⟩ : ∃ y, y = tagE l := ⟨_, rfl⟩
  obtain ⟨z, hz2⟩ : ∃ z, z = sizE l := ⟨_, rfl⟩
  rw [← hy] at hq hk tl
  rw [← hz2] at hq GT zl
  have FT := Lib.hid (ffits_any y z w tl zl)
  obtain ⟨f, hf⟩ : ∃ f, f = fitE y z := ⟨_, rfl⟩
  rw [← hf] at FT hq
  have HQ := Lib.hid hq
  have d2 : (4 : Int) ≤ (n : Int) := by omega
  have d3 : (8 : Int) ≤ (n : Int) := by omega
  have d4 : (8 : Int) < (n : Int) := by omega
  have d5 : (n : Int) ≤ (c : Int) := by omega
  have d6 : (c : Int) ≤ 9223372036854775807 := by omega
  have d7 : (8 : Int) ≤ (c : Int) := by omega
  have d8 : (n : Int) ≤ 1048576 := by omega
  have z1 : (0 : Int) ≤ (z : Int) := by omega
  have z2 : (z : Int) < 4294967296 := by omega
  have z3 : IntKind.i64.wrap (z : Int) = (z : Int) := by rw [IntKind.wrap_i64]; omega
  clear hq hr hcell hlen ht GT0 hz hy hz2 hf hb zl tl h9 hn hc hcm
  go_enter Tryz.func168, Tryz.ntmps168
  go_wp2_with fail
  refine GT.out.mono ?_
  rintro e w1 ⟨rfl, rfl⟩
  go_wp2_with fail
  refine FT.out.mono ?_
  rintro e w1 ⟨rfl, rfl⟩
  clear d5 d6 d7 z2 z3
  cases f
  · go_wp2_with fail
    go_ret2
    rw [HQ.out]
    exact ⟨rfl, rfl⟩
  · by_cases hs : n < z
    · have e1 : (n : Int) < (z : Int) := by omega
      have HS := Lib.hid hs
      clear hs
      go_wp2_with fail
      go_ret2
      rw [HQ.out, if_neg (by decide), if_pos HS.out]
      exact ⟨rfl, rfl⟩
    · have e1 : ¬ (n : Int) < (z : Int) := by omega
      have HS := Lib.hid hs
      clear hs
      go_wp2_with fail
      go_ret2
      rw [HQ.out, if_neg (by decide), if_neg HS.out]
      exact ⟨rfl, rfl⟩
set_option maxRecDepth 100000 in
set_option maxHeartbeats 1600000 in
theorem sumin_any (A : Option Addr) (n c : Nat) (l : List UInt8) (w : World) (B : Nat) (hr : Reads w B A n l) (hn : n ≤ 1048576) (h4 : 4 ≤ n) (hc : n ≤ c) (hcm : c ≤ 9223372036854775807) :
    Calls Tryz.prog 169 #[.slice A n c] w fun e w' => e = .returned (.int .u32 (leNum (l.take 4) : Nat)) ∧ w = w' := by
  obtain ⟨b, o, rfl, hb, hcell⟩ := hr.at_ (by omega)
  have GT := Lib.hid (get_yes (some ⟨b, o, none⟩) 4 c (l.take 4) w B (hr.takek (k := 4) (by omega)) (by omega) (by omega))
  have zl : leNum (l.take 4) < 4294967296 := by
    have h := leNum_lt (l.take 4)
    have h2 : (l.take 4).length ≤ 4 := by simp; omega
    have h3 : 2 ^ (8 * (l.take 4).length) ≤ 2 ^ 32 := Nat.pow_le_pow_right (by omega) (by omega)
    exact Nat.lt_of_lt_of_le h h3
  obtain ⟨z, hz⟩ : ∃ z, z = leNum (l.take 4) := ⟨_, rfl⟩
  rw [← hz] at GT zl ⊢
  have d2 : (4 : Int) ≤ (n : Int) := by omega
  have d5 : (n : Int) ≤ (c : Int) := by omega
  have d6 : (c : Int) ≤ 9223372036854775807 := by omega
  have d7 : (4 : Int) ≤ (c : Int) := by omega
  have z1 : (0 : Int) ≤ (z : Int) := by omega
  have z2 : (z : Int) < 4294967296 := by omega
  have z3 : IntKind.u32.wrap (z : Int) = (z : Int) := by unfold IntKind.wrap; simp [IntKind.bits, IntKind.signed]; omega
  clear hr hcell hb hz zl hn hc hcm h4
  go_enter Tryz.func169, Tryz.ntmps169
  go_wp2_with fail
  refine GT.out.mono ?_
  rintro e w1 ⟨rfl, rfl⟩
  go_wp2_with fail
  go_ret
  exact ⟨rfl, rfl⟩
end Go.Proofs.YtfneloobfidckaaGreatDoor

/- Contract: lives. It proves no statement. -/



namespace Go.Proofs.YtfneloobfidckaaGreatDoor
open Go.RowKit Go.Maps Go.WideMaps Go.Sort
set_option linter.unusedVariables false
set_option linter.unusedSimpArgs false

set_option maxRecDepth 100000 in
theorem begin_first (b : List UInt8) (hb : b.length = 9) (gf : Nat) : (beginL (Me.new 1000) (logOf 200 []) b gf).1 = 0 ∧ (beginL (Me.new 1000) (logOf 200 []) b gf).2.2 = (logOf 200 []).grown (0, 17) := by
  have e0 : nextL (logOf 200 []) = 0 := rfl
  obtain ⟨s, hs⟩ : ∃ s : ByteArray, s = nameS ((0 : Nat) : Int) := ⟨_, rfl⟩
  have hn : nmOK s.data.toList = true := by rw [hs]; decide
  have c1 : opCreate (Me.new 1000) s gf = (0, (Me.new 1000).link (⟨#[]⟩, s, (gf : Int)) (upd (fun _ => none) gf ⟨[], [], []⟩)) := by
    unfold opCreate
    rw [if_neg (by decide), if_neg (by rw [hn]; decide), if_neg (by show ¬ (false = true); decide), if_neg (by decide), if_neg (by decide)]
    rfl
  obtain ⟨M1, hM1⟩ : ∃ M1, M1 = (Me.new 1000).link (⟨#[]⟩, s, (gf : Int)) (upd (fun _ => none) gf ⟨[], [], []⟩) := ⟨_, rfl⟩
  have hnow : M1.now = [(s.data.toList, gf)] := by
    rw [hM1]
    show nmStep [] (⟨#[]⟩, s, (gf : Int)) = _
    unfold nmStep
    rw [if_neg (by show ¬ ((gf : Int) < 0); omega)]
    rfl
  have hfs : M1.fs gf = some ⟨[], [], []⟩ := by rw [hM1]; exact upd_same (fun _ => none) gf _
  have hu : M1.used = 0 := by
    unfold Me.used usedOf nmD entriesOf
    rw [hnow]
    show (if true = true then M1.sz (fdOf (fd (gf : Int))) else 0) + 0 = 0
    rw [if_pos rfl]
    show M1.sz (gf : Int) + 0 = 0
    unfold Me.sz
    rw [show (gf : Int).toNat = gf by omega, hfs]
    rfl
  have hfd : M1.find s = .inr (gf, ⟨[], [], []⟩) := by
    unfold Me.find
    rw [if_neg (by rw [hM1]; show ¬ (false = true); decide)]
    have : nFind M1.now s.data.toList = some gf := by rw [hnow]; unfold nFind; simp
    rw [this]
    simp only [hfs]
  have c2 : opAppend M1 s (magicL ++ b) = (0, M1.wrote gf (Fi.wrote ⟨[], [], []⟩ ⟨0, magicL ++ b⟩)) := by
    unfold opAppend
    rw [hfd]
    simp only
    rw [hu, if_neg (by rw [hM1]; show ¬ ((1000 : Int) < _); rw [List.length_append, hb]; decide), if_neg (by rw [hM1]; show ¬ (stepL (-1) = 0); decide)]
    rfl
  unfold beginL
  rw [e0, ← hs, c1]
  dsimp only
  rw [← hM1, c2, if_neg (by decide), if_neg (by decide), if_neg (by show ¬ ((0 : Int) = 11); decide), if_neg (by show ¬ ((0 : Int) ≠ 0); decide)]
  refine ⟨rfl, ?_⟩
  show (logOf 200 []).grown (0, 8 + b.length) = _
  rw [hb]
/-- lay, where no segment is open. -/
theorem lay_closed {w : World} {base g gl : Nat} {lo : LOwn} {S : Lg} {sv : Value} (hl : LogI w base lo g gl S sv) (ho : S.isOpen = false) {A : Option Addr} {m c : Nat} {Q : Value → World → Prop}
    (hb : Calls Tryz.prog 143 #[.pointer (some ⟨gl, 0, none⟩), .slice A m c] w fun e w' => ∃ n : Int, e = .returned (.int .i64 n) ∧ Q (.int .i64 n) w') :
    Calls Tryz.prog 82 #[.pointer (some ⟨gl, 0, none⟩), .slice A m c] w fun e w' => ∃ v, e = .returned v ∧ Q v w' := by
  have k4 := hl.cells.2.2.2.2
  rw [ho] at k4
  have HB := Lib.hid hb
  clear hb hl ho
  go_enter Tryz.func82, Tryz.ntmps82
  go_wp2_with fail
  refine HB.out.mono ?_
  rintro e w1 ⟨n, rfl, q⟩
  have HQ := Lib.hid q
  clear q
  go_wp2_with fail
  go_ret
  exact ⟨_, rfl, HQ.out⟩
/-- The first entry of an empty log. -/
theorem append_first {w0 w : World} {g gl : Nat} {own : Own} {lo : LOwn} (h : LM w w0.heap.size g gl own lo (Me.new 1000) (logOf 200 [])) (T : SgT w) (s0 : Still w0 w) (W : World) (s : Still w W) :
    Calls Tryz.prog 20 #[.pointer (some ⟨gl, 0, none⟩), .agg (entV 2 (List.replicate 32 0) (.slice none 0 0))] W fun e w' => e = .returned (.tuple #[.agg #[.int .i64 0, .int .i64 8, .int .i64 9], .int .i64 0]) ∧ Still w0 w' ∧ (∀ b, w.heap.size ≤ b → b < W.heap.size → w'.heap[b]? = W.heap[b]?) ∧ W.heap.size ≤ w'.heap.size := by
  have hc : ckE 2 (List.replicate 32 0) ([] : List UInt8).length = 0 := by unfold ckE; simp
  have he : encE 2 (List.replicate 32 0) [] = (0, bytE 2 (List.replicate 32 0) []) := by unfold encE; rw [if_neg (by rw [hc]; decide)]
  have hs9 : szE 2 (List.replicate 32 0) ([] : List UInt8).length = 9 := by unfold szE; rw [if_neg (by rw [hc]; decide), if_pos rfl]
  have hl9 : (encE 2 (List.replicate 32 0) []).2.length = 9 := by
    rw [he]
    exact ((szE_len (t := 2) (K := List.replicate 32 0) (D := []) (by simp) hc).1).trans hs9
  have h1 := h.still s
  have bf := fun gf => begin_first (encE 2 (List.replicate 32 0) []).2 hl9 gf
  refine (lappend_by (k := 0) (B := 0) (fun gf => beginL (Me.new 1000) (logOf 200 []) (encE 2 (List.replicate 32 0) []).2 gf) h1 (T.still s) (by simp) Reads.nil0 (Nat.zero_le _) (fun _ => rfl) (by omega) ?_ ?_).mono ?_
  · intro _ W2 A2 m2 c2 s2 r2
    obtain ⟨sv, hl⟩ := (h1.still s2).log
    have hm : m2 = 9 := by rw [← hl9]; exact r2.len.symm
    refine (lay_closed hl rfl (Q := fun v w' => ∃ gf, (Me.new 1000).fs gf = none ∧ v = .int .i64 (beginL (Me.new 1000) (logOf 200 []) (encE 2 (List.replicate 32 0) []).2 gf).1 ∧ LLeft W2 w' w0.heap.size g gl own lo (beginL (Me.new 1000) (logOf 200 []) (encE 2 (List.replicate 32 0) []).2 gf).2.1 (beginL (Me.new 1000) (logOf 200 []) (encE 2 (List.replicate 32 0) []).2 gf).2.2) ((begin_any (h1.still s2) ?_ (Me.new_good ⟨by decide, by decide⟩) (by omega) ((T.still s).still s2) r2 ?_ (by omega)).mono ?_)).mono ?_
    · exact ⟨⟨by decide, by decide⟩, fun p hp => (by cases hp), List.Pairwise.nil, (by decide), Nat.le_refl _, fun e => (by cases e)⟩
    · intro x hx
      obtain ⟨sv1, hl1⟩ := h1.log
      have hx : W.heap.size ≤ x := hx
      refine ⟨?_, ?_⟩
      · cases hq : own x with
        | none => rfl
        | some q => have := (h1.med.dom _ (by rw [hq]; simp)).2; omega
      · cases hq : lo x with
        | none => rfl
        | some q => have := (hl1.dom _ (by rw [hq]; simp)).2; omega
    · rintro e w' ⟨gf, a, b, c⟩
      exact ⟨_, b, gf, a, rfl, c⟩
    · rintro e w' ⟨v, rfl, gf, a, rfl, c⟩
      exact ⟨gf, a, rfl, c⟩
  · intro gf _ _
    rw [(bf gf).2, hl9]
    exact ⟨0, (0, 17), rfl, rfl, by omega, by decide, by decide⟩
  · rintro e w' ⟨gf, hgf, rfl, hl⟩
    have ea : appendR (encE 2 (List.replicate 32 0) []) (Me.new 1000) (logOf 200 []) (beginL (Me.new 1000) (logOf 200 []) (encE 2 (List.replicate 32 0) []).2 gf) = ((0, 8, 9), 0, (beginL (Me.new 1000) (logOf 200 []) (encE 2 (List.replicate 32 0) []).2 gf).2.1, (beginL (Me.new 1000) (logOf 200 []) (encE 2 (List.replicate 32 0) []).2 gf).2.2) := by
      unfold appendR
      rw [if_neg (by rw [he]; decide), if_neg (by rw [(bf gf).1]; decide), (bf gf).2, hl9]
      rfl
    rw [ea]
    obtain ⟨c, _⟩ := hl
    obtain ⟨sv, l⟩ := h1.log
    refine ⟨rfl, c.still (Still.trans s0 s) ?_, fun b hb hlt => c.block b hlt ?_, c.size⟩
    · rintro b (hb | hb)
      · exact (h1.med.dom b hb).1
      · exact (l.dom b hb).1
    · obtain ⟨sv0, l0⟩ := h.log
      rintro (hb2 | hb2)
      · have := (h.med.dom b hb2).2; omega
      · have := (l0.dom b hb2).2; omega
set_option maxRecDepth 100000 in
set_option maxHeartbeats 3200000 in
theorem sgLives (w : World) (T : SgT w) : Calls Tryz.prog 38 #[] w fun e w' => e = .returned (.bool true) ∧ Still w w' := by
  have NW := Lib.hid (new_I 1000 w ⟨by decide, by decide⟩)
  have HT := Lib.hid T
  clear T
  go_enter Tryz.func38, Tryz.ntmps38
  go_wp2_with fail
  refine NW.out.mono ?_
  rintro e w1 ⟨g, own, rfl, hg, med, s1⟩
  have OPN := Lib.hid (open_any (k := 0) med (Me.new_good ⟨by decide, by decide⟩) (by omega) (HT.out.still s1) 200 rfl (fun p hp => by cases hp))
  have S1 := Lib.hid s1
  clear med s1 hg NW
  go_wp2_with fail
  refine OPN.out.mono ?_
  rintro e w2 ⟨s2, ⟨h, _⟩ | ⟨_, h, _⟩ | ⟨_, _, gl, rfl, lo, lm, _, _, _⟩⟩
  · exact absurd h (by decide)
  · exact absurd ⟨by decide, by decide⟩ h
  have S2 := Lib.hid (Still.trans S1.out s2)
  have AP := Lib.hid (append_first (w0 := w) (show LM w2 w.heap.size g gl own lo (Me.new 1000) (logOf 200 []) from lm) (HT.out.still S2.out) S2.out)
  rw [zent] at AP
  clear lm s2 OPN
  go_upto_region 5 with fail
  go_wp2_with (first
    | (go_at_call 20; refine (AP.out w2 (Still.refl _)).mono ?_; rintro e w6 ⟨rfl, s6, b6, z6⟩; have S6 := Lib.hid s6; clear s6 b6 z6)
    | (guard_target =~ wpList _ _ _ (Oper.mk (some 5) (Op.alloc _) _ _ _ _ :: _) _ _; go_must (refine wpList_alloc_arr rfl 39 rfl (some 5) rfl #[.int .i64 0, .int .i64 0, .int .i64 0] 3 zeroPl ?_))
    | (guard_target =~ wpList _ _ _ (Oper.mk none (Op.store _ _ _) _ _ _ _ :: _) _ _; go_must (refine wpList_store_rowTo rfl 39 (.tmp 5) (.tmp 26) rfl rfl w6.heap.size #[.int .i64 0, .int .i64 8, .int .i64 9] rfl rfl 39 _ (Blk.new w6 _ _) (sizePl.trans rfl) rfl (by simp [Value.oneCell']) ?_); have BN : Blk ((w6.alloc (.cells #[.int .i64 0, .int .i64 0, .int .i64 0] 39)).setRow w6.heap.size #[.int .i64 0, .int .i64 8, .int .i64 9]) w6.heap.size 39 #[.int .i64 0, .int .i64 8, .int .i64 9] := setRow_heap _ _ _ _ _ _ (Blk.new w6 _ _); have n1 := BN.cell 1; have n2 := BN.cell 2))
  go_ret
  exact ⟨rfl, below_setRow (S6.out.alloc S6.out.size _) S6.out.size _⟩
end Go.Proofs.YtfneloobfidckaaGreatDoor
