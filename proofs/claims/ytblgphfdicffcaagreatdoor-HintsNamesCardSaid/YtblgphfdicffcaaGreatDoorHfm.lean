/- Contracts and facts, several texts in one. It proves no statement. -/
import Derived.Test.YtblgphfdicffcaaGreatDoorHfb
import Derived.Test.YtblgphfdicffcaaGreatDoorHfg
import Derived.Test.YtblgphfdicffcaaGreatDoorHfl
import Derived.Test.YtblgphfdicffcaaGreatDoorHfc
import Derived.Test.YtblgphfdicffcaaGreatDoorHfa
import Derived.Lib.AppendZerosOnto
import Derived.Great.Walk

/- Contract: which segment a file is, by the program. It proves no statement. -/

namespace Go.Proofs.YtblgphfdicffcaaGreatDoor
open Go.RowKit
set_option linter.unusedVariables false
set_option linter.unusedSimpArgs false

theorem trim_sgnB (n : Nat) : Lib.trimPrefix (sgnB n) [115, 101, 103, 46] = dig 8 n := by
  unfold Lib.trimPrefix
  have e : Lib.hasPrefix (sgnB n) [115, 101, 103, 46] = true := by
    unfold sgnB Lib.hasPrefix
    simp
  rw [if_pos e]
  rfl
theorem seg_atoi {s : List UInt8} {n : Nat} (h : segOf s = some n) : Lib.atoiAll (Lib.trimPrefix s [115, 101, 103, 46]) = .ok (n : Int) ∧ n < 1048576 ∧ s = sgnB n := by
  obtain ⟨h1, h2⟩ := segOf_some h
  refine ⟨?_, h2, h1⟩
  rw [h1, trim_sgnB]
  exact atoi_dig n (by omega)
theorem toList_ne {a b : ByteArray} (h : a ≠ b) : (a.toList == b.toList) = false := by
  rw [ByteArray.toList_eq, ByteArray.toList_eq, beq_eq_false_iff_ne]
  intro e
  apply h
  apply ByteArray.ext
  exact Array.ext' e
set_option maxRecDepth 100000 in
theorem number_any (s : ByteArray) (w : World) (T : SgT0 w) (hs : s.size ≤ 1099511627776) : Calls Tryz.prog 69 #[.string s] w fun e w' => e = .returned (.tuple #[.int .i64 (((segOf s.data.toList).getD 0 : Nat) : Int), .bool (segOf s.data.toList).isSome]) ∧ Still w w' := by
  have TR := Lib.hid (trim_lib s ⟨#[115, 101, 103, 46]⟩ w)
  have e0 : (⟨#[115, 101, 103, 46]⟩ : ByteArray).data.toList = [115, 101, 103, 46] := rfl
  rw [e0] at TR
  have SA := Lib.hid (fun n (h : segOf s.data.toList = some n) => seg_atoi h)
  obtain ⟨t, ht⟩ : ∃ t, t = Lib.trimPrefix s.data.toList [115, 101, 103, 46] := ⟨_, rfl⟩
  have hts : t.length ≤ 1099511627776 := by
    have h1 : t.length ≤ s.data.toList.length := by
      rw [ht]
      unfold Lib.trimPrefix
      split
      · rw [List.length_drop]; omega
      · exact Nat.le_refl _
    have h2 : s.data.toList.length = s.size := Array.length_toList
    omega
  have NM := Lib.hid (fun W (st : Still w W) v => name_any v W (T.still st))
  have hnil : s.data.toList = [] → t = [] := fun h => by rw [ht, h]; rfl
  rw [← ht] at TR SA
  have HSZ := Lib.hid (show (⟨t.toArray⟩ : ByteArray).size ≤ 1099511627776 by rw [sizeB]; exact hts)
  have HTL : (⟨t.toArray⟩ : ByteArray).data.toList = t := by simp
  cases ha : Lib.atoiAll t with
  | ok v =>
    have AT := Lib.hid (atoi_ok ⟨t.toArray⟩ (by have := HSZ.out; omega) v (by rw [HTL]; exact ha))
    have hres : (nameS v = s → segOf s.data.toList = some v.toNat ∧ ((v.toNat : Nat) : Int) = v) ∧ (nameS v ≠ s → segOf s.data.toList = none) := by
      refine ⟨fun h => ?_, fun h => ?_⟩
      · by_cases hr : 0 ≤ v ∧ v < 1048576
        · rw [← h, nameS_list, if_pos hr]
          exact ⟨segOf_sgnB _ (by omega), by omega⟩
        · have hn : s.data.toList = [] := by rw [← h, nameS_list, if_neg hr]
          rw [hnil hn] at ha
          cases ha
      · cases hq : segOf s.data.toList with
        | none => rfl
        | some n =>
          obtain ⟨k1, k2, k3⟩ := SA.out n hq
          rw [ha] at k1
          injection k1 with k1
          subst k1
          exfalso
          apply h
          rw [nameS_nat k2, ← k3]
    obtain ⟨V, hV⟩ : ∃ V, V = nameS v := ⟨_, rfl⟩
    have NV := Lib.hid (fun W (st : Still w W) => NM.out W st v)
    rw [← hV] at NV hres
    obtain ⟨X, hX⟩ : ∃ X : ByteArray, X = ⟨t.toArray⟩ := ⟨_, rfl⟩
    rw [← hX] at TR AT
    by_cases hv : V = s
    · obtain ⟨h1, h2⟩ := hres.1 hv
      rw [h1]
      show Calls _ _ _ _ fun e w' => e = .returned (.tuple #[.int .i64 ((v.toNat : Nat) : Int), .bool true]) ∧ Still w w'
      rw [h2]
      subst hv
      clear hres h1 h2 hV hX ha ht hts hnil HTL SA NM T hs
      go_enter Tryz.func69, Tryz.ntmps69
      go_wp2_with fail
      refine TR.out.mono ?_
      rintro e w1 ⟨rfl, rfl⟩
      go_wp2_with fail
      refine (AT.out w1).mono ?_
      rintro e w2 ⟨rfl, hw2⟩
      have S2 := Lib.hid (show Still w1 w2 from by
        rcases hw2 with rfl | ⟨t, rfl⟩
        · exact Still.refl _
        · exact Lib.bytesWorld_below _ _ _)
      clear hw2
      go_wp2_with fail
      refine (NV.out _ S2.out).mono ?_
      rintro e w3 ⟨rfl, s3⟩
      have S3 := Lib.hid (Still.trans S2.out s3)
      clear s3
      go_wp2_with fail
      go_ret2
      exact ⟨rfl, S3.out⟩
    · rw [hres.2 hv]
      show Calls _ _ _ _ fun e w' => e = .returned (.tuple #[.int .i64 0, .bool false]) ∧ Still w w'
      have ne := toList_ne hv
      clear hres hV hX ha ht hts hnil HTL SA NM T hs hv
      go_enter Tryz.func69, Tryz.ntmps69
      go_wp2_with fail
      refine TR.out.mono ?_
      rintro e w1 ⟨rfl, rfl⟩
      go_wp2_with fail
      refine (AT.out w1).mono ?_
      rintro e w2 ⟨rfl, hw2⟩
      have S2 := Lib.hid (show Still w1 w2 from by
        rcases hw2 with rfl | ⟨t, rfl⟩
        · exact Still.refl _
        · exact Lib.bytesWorld_below _ _ _)
      clear hw2
      go_wp2_with fail
      refine (NV.out _ S2.out).mono ?_
      rintro e w3 ⟨rfl, s3⟩
      have S3 := Lib.hid (Still.trans S2.out s3)
      clear s3
      go_wp2_with fail
      go_ret2
      exact ⟨rfl, S3.out⟩
  | range =>
    have hno : segOf s.data.toList = none := by
      cases hq : segOf s.data.toList with
      | none => rfl
      | some n => have := (SA.out n hq).1; rw [ha] at this; cases this
    rw [hno]
    show Calls _ _ _ _ fun e w' => e = .returned (.tuple #[.int .i64 0, .bool false]) ∧ Still w w'
    obtain ⟨tp, p, hvar⟩ := T.rng
    have AT := Lib.hid (atoi_range ⟨t.toArray⟩ (by have := HSZ.out; omega) (by rw [HTL]; exact ha) tp p w hvar)
    obtain ⟨X, hX⟩ : ∃ X : ByteArray, X = ⟨t.toArray⟩ := ⟨_, rfl⟩
    rw [← hX] at TR AT
    obtain ⟨Z, hZ⟩ : ∃ Z, Z = Lib.atoiSat (⟨t.toArray⟩ : ByteArray).data.toList := ⟨_, rfl⟩
    rw [hX, ← hZ, ← hX] at AT
    clear hX ha ht hts hnil HTL SA NM T hs hno hvar hZ
    go_enter Tryz.func69, Tryz.ntmps69
    go_wp2_with fail
    refine TR.out.mono ?_
    rintro e w1 ⟨rfl, rfl⟩
    go_wp2_with fail
    refine AT.out.mono ?_
    rintro e w2 ⟨N, rfl, _, _, b2⟩
    have S2 := Lib.hid b2
    clear b2
    go_wp2_with fail
    go_ret2
    exact ⟨rfl, S2.out⟩
  | _ =>
    have hno : segOf s.data.toList = none := by
      cases hq : segOf s.data.toList with
      | none => rfl
      | some n => have := (SA.out n hq).1; rw [ha] at this; cases this
    rw [hno]
    show Calls _ _ _ _ fun e w' => e = .returned (.tuple #[.int .i64 0, .bool false]) ∧ Still w w'
    obtain ⟨tp, p, hvar⟩ := T.syn
    have AT := Lib.hid (atoi_syn ⟨t.toArray⟩ (by have := HSZ.out; omega) (by rw [HTL, ha]; trivial) tp p w hvar)
    obtain ⟨X, hX⟩ : ∃ X : ByteArray, X = ⟨t.toArray⟩ := ⟨_, rfl⟩
    rw [← hX] at TR AT
    clear hX ha ht hts hnil HTL SA NM T hs hno hvar
    go_enter Tryz.func69, Tryz.ntmps69
    go_wp2_with fail
    refine TR.out.mono ?_
    rintro e w1 ⟨rfl, rfl⟩
    go_wp2_with fail
    refine AT.out.mono ?_
    rintro e w2 ⟨N, rfl, _, _, b2⟩
    have S2 := Lib.hid b2
    clear b2
    go_wp2_with fail
    go_ret2
    exact ⟨rfl, S2.out⟩
end Go.Proofs.YtblgphfdicffcaaGreatDoor

/- Rows of names; the document's Same of two that are alike. It proves no statement. -/

namespace Go.Proofs.YtblgphfdicffcaaGreatDoor
open Go.RowKit Go.Maps Go.WideMaps
set_option linter.unusedVariables false
set_option linter.unusedSimpArgs false

/-- Rows of names that can be read. -/
def NamesR (w : World) (A : Option Addr) (n : Nat) (N : NT) : Prop := N.length = n ∧ (0 < n → ∃ b o, A = some ⟨b, o, none⟩ ∧ b < w.heap.size ∧ ∀ i p, N[i]? = some p → w.cell? ⟨b, o + i, none⟩ = some (.string ⟨p.1.toArray⟩))
theorem NamesR.still {w w' : World} {A : Option Addr} {n : Nat} {N : NT} (h : NamesR w A n N) (s : Still w w') : NamesR w' A n N :=
  ⟨h.1, fun hn => by
    obtain ⟨b, o, e, hb, hc⟩ := h.2 hn
    exact ⟨b, o, e, Nat.lt_of_lt_of_le hb s.size, fun i p hp => (s.cell (p := ⟨b, o + i, none⟩) hb).trans (hc i p hp)⟩⟩
theorem NamesR.of_own {w : World} {base n c : Nat} {A : Option Addr} {N : NT} (h : w.ownsRow base 9 1 (.slice A n c) n (namesV N)) : NamesR w A n N := by
  have hl : N.length = n := by have := h.1; rw [namesV_length] at this; omega
  refine ⟨hl, fun hn => ?_⟩
  rcases h.2 with ⟨_, h0⟩ | ⟨g, cp, cur, hv, hg, hb, _⟩
  · omega
  · injection hv with hv1
    subst hv1
    refine ⟨g, 0, rfl, (Array.getElem?_eq_some_iff.1 hb).1, fun i p hp => ?_⟩
    have hi : i < N.length := (List.getElem?_eq_some_iff.1 hp).1
    rw [Nat.zero_add, h.cellAt i (by omega)]
    exact namesV_get N i p hp
end Go.Proofs.YtblgphfdicffcaaGreatDoor

/- Contract: the segments of a medium. It proves no statement. -/



namespace Go.Proofs.YtblgphfdicffcaaGreatDoor
open Go.RowKit Go.Maps Go.WideMaps Go.Sort
set_option linter.unusedVariables false
set_option linter.unusedSimpArgs false

theorem own_formG {w : World} {base : Nat} {e : TypeId} {z n : Nat} {v : Value} {xs : List Value} (h : w.ownsRow base e z v n xs) : ∃ (A : Option Addr) (c : Nat), v = .slice A n c ∧ n ≤ c ∧ c ≤ 9223372036854775807 ∧ (A = none → n = 0 ∧ c = 0) := by
  rcases h.2 with ⟨h1, h0⟩ | ⟨q, cap, cur, h1, h2, h3, h4, h5, _⟩
  · exact ⟨none, 0, by rw [h1, h0], by omega, by omega, fun _ => ⟨h0, rfl⟩⟩
  · exact ⟨_, _, h1, h4, by unfold maxLen at h5; omega, fun e => by cases e⟩
/-- What a name tells of a segment. -/
def segAt (M : Me) (p : List UInt8 × Nat) : Option (Nat × Nat) := (segOf p.1).map fun n => (n, (M.bytes (⟨p.1.toArray⟩ : ByteArray)).1.length)
def segsOf (M : Me) (N : NT) : List (Nat × Nat) := N.filterMap (segAt M)
theorem segsOf_take (M : Me) (N : NT) (i : Nat) (p : List UInt8 × Nat) (h : N[i]? = some p) : segsOf M (N.take (i + 1)) = segsOf M (N.take i) ++ (match segAt M p with | some q => [q] | none => []) := by
  unfold segsOf
  rw [List.take_add_one, h, List.filterMap_append]
  congr 1
  show List.filterMap (segAt M) [p] = _
  rw [List.filterMap_cons]
  cases segAt M p <;> rfl
theorem segsOf_len (M : Me) (N : NT) : (segsOf M N).length ≤ N.length := List.length_filterMap_le _ _
def logOf (limit : Int) (X : List (Nat × Nat)) : Lg := ⟨limit, X, 0, false⟩
/-- One more segment, of those that are there. -/
theorem LM.found {w w4 : World} {base g gl : Nat} {own : Own} {lo : LOwn} {M : Me} {limit : Int} {X : List (Nat × Nat)} {sv v' : Value} {p : Nat × Nat} {o : Obj} (h : LM w base g gl own lo M (logOf limit X)) (hl : LogI w base lo g gl (logOf limit X) sv) (o4 : w4.ownsRow base 130 2 v' (X.length + 1) (segV X ++ [.int .i64 (p.1 : Int), .int .i64 (p.2 : Int)])) (g4 : (w.alloc o).grownBy w4 sv.ownBlock) (hv : v'.ownBlock = sv.ownBlock ∨ v'.ownBlock = some (w.alloc o).heap.size) :
    ∃ lo' : LOwn, (∀ b, b < w.heap.size → lo' b = lo b) ∧ Chg w (w4.setCell ⟨gl, 2, none⟩ v') (fun b => lo b ≠ none) ∧ LM (w4.setCell ⟨gl, 2, none⟩ v') base g gl own lo' M (logOf limit (X ++ [p])) := by
  have c4 : Chg w w4 (fun b => b = gl ∨ sv.ownBlock = some b) := (Chg.of_still ((Still.refl w).alloc (Nat.le_refl _) o) (fun b => b = gl ∨ sv.ownBlock = some b)).trans (Chg.of_grown g4 (S := fun b => b = gl ∨ sv.ownBlock = some b) (fun k hk _ => .inr hk)) (fun b _ hb => hb)
  have hne : sv.ownBlock ≠ some gl := own_neM hl.blk hl.row (by decide)
  have b4 : Blk w4 gl 103 (logC g (logOf limit X) sv) := (Chg.of_grown g4 (S := fun b => sv.ownBlock = some b) (fun k hk _ => hk)).blk (hl.blk.alloc o) hne
  have hn4 : v'.ownBlock ≠ some gl := own_neM b4 o4 (by decide)
  have cs : ∀ (W : World) (i : Nat) (u : Value), Chg W (W.setCell ⟨gl, i, none⟩ u) (fun b => b = gl ∨ sv.ownBlock = some b) := fun W i u => (chg_set W gl i u).mono (fun b _ hb => .inl hb)
  have cc := c4.trans (cs _ 2 v') (fun b _ hb => hb)
  have e : segV (logOf limit (X ++ [p])).segs = segV X ++ [.int .i64 (p.1 : Int), .int .i64 (p.2 : Int)] := by
    show segV (X ++ [p]) = _
    rw [segV_append, segV_one]
  have el : (logOf limit (X ++ [p])).segs.length = X.length + 1 := by
    show (X ++ [p]).length = _
    rw [List.length_append]
    rfl
  have r1 : (w4.setCell ⟨gl, 2, none⟩ v').ownsRow base 130 2 v' (logOf limit (X ++ [p])).segs.length (segV (logOf limit (X ++ [p])).segs) := by
    rw [e, el]
    exact (chg_set _ gl 2 _).own o4 (fun b hb e => hn4 (e ▸ hb))
  have r2 : v'.ownBlock = sv.ownBlock ∨ ∃ j, v'.ownBlock = some j ∧ w.heap.size ≤ j := by
    rcases hv with hv | hv
    · exact .inl hv
    · exact .inr ⟨_, hv, by simp⟩
  obtain ⟨lo', q1, q2⟩ := h.turn2 (S' := logOf limit (X ++ [p])) hl cc (sv' := v') (b4.setc 2 v') r1 r2
  exact ⟨lo', q1, cc.mono (fun b _ hb => by
    rcases hb with rfl | hb
    · rw [hl.ol]; simp
    · rw [hl.os b hb]; simp), q2⟩
theorem own_formN3 {w : World} {base n z : Nat} {e : TypeId} {v : Value} {xs : List Value} (h : w.ownsRow base e z v n xs) : ∃ A c, v = .slice A n c := by
  rcases h.2 with ⟨h, h0⟩ | ⟨g, cp, cur, h, _⟩
  · exact ⟨none, 0, by rw [h, h0]⟩
  · exact ⟨_, cp, h⟩
/-- The walk's state. -/
def OP (An : Option Addr) (w wr : World) (base g gl : Nat) (own : Own) (M : Me) (limit : Int) (X : List (Nat × Nat)) : Prop :=
  ∃ lo : LOwn, LM wr base g gl own lo M (logOf limit X) ∧ Still w wr ∧ (∀ b, lo b ≠ none → w.heap.size ≤ b) ∧ ∀ b o, An = some ⟨b, o, none⟩ → lo b = none ∧ b < wr.heap.size
theorem OP.still {An : Option Addr} {w wr w' : World} {base g gl : Nat} {own : Own} {M : Me} {limit : Int} {X : List (Nat × Nat)} (h : OP An w wr base g gl own M limit X) (s : Still wr w') : OP An w w' base g gl own M limit X := by
  obtain ⟨lo, a, b, c, d⟩ := h
  exact ⟨lo, a.still s, Still.trans b s, c, fun x o e => ⟨(d x o e).1, Nat.lt_of_lt_of_le (d x o e).2 s.size⟩⟩
set_option maxRecDepth 100000 in
set_option maxHeartbeats 6400000 in
theorem open_any {w : World} {base g k : Nat} {own : Own} {M : Me} (h : MedI w base own g M) (hg : M.good k) (hk : k ≤ 800000) (T : SgT0 w) (limit : Int) (hne : nFind M.now [] = none) (hnm : ∀ p ∈ M.now, p.1.length ≤ 30) :
    Calls Tryz.prog 28 #[.pointer (some ⟨g, 0, none⟩), .int .i64 limit] w fun e w' => Still w w' ∧ ((M.off = true ∧ e = .returned (.tuple #[.pointer none, .int .i64 12])) ∨
      (M.off = false ∧ ¬ (128 ≤ limit ∧ limit ≤ 1048576) ∧ e = .returned (.tuple #[.pointer none, .int .i64 2])) ∨
      (M.off = false ∧ (128 ≤ limit ∧ limit ≤ 1048576) ∧ ∃ (gl : Nat), e = .returned (.tuple #[.pointer (some ⟨gl, 0, none⟩), .int .i64 0]) ∧ OP none w w' base g gl own M limit (segsOf M M.now))) := by
  have SZ := Lib.hid (size_M ⟨#[]⟩ h hg.ok (by decide))
  have hb0 : M.bytes ⟨#[]⟩ = ([], if M.off = true then 12 else 9) := by
    unfold Me.bytes Me.find
    have e : (⟨#[]⟩ : ByteArray).data.toList = [] := rfl
    split
    · rename_i E hE
      split at hE
      · injection hE with hE
        rename_i ho
        rw [if_pos ho, hE]
      · rename_i ho
        rw [e, hne] at hE
        injection hE with hE
        rw [if_neg ho, hE]
    · rename_i gf F hE
      split at hE
      · cases hE
      · rw [e, hne] at hE
        cases hE
  rw [hb0] at SZ
  cases ho : M.off with
  | true =>
    rw [ho, if_pos rfl] at SZ
    clear h hg T hne hnm hb0 ho
    go_enter Tryz.func28, Tryz.ntmps28
    go_wp2_with fail
    refine SZ.out.mono ?_
    rintro e w1 ⟨rfl, rfl⟩
    go_wp2_with fail
    go_ret2
    exact ⟨Still.refl _, .inl ⟨(by first | rfl | trivial), rfl⟩⟩
  | false =>
    rw [ho, if_neg (by decide)] at SZ
    by_cases hlim : 128 ≤ limit ∧ limit ≤ 1048576
    · have LS := Lib.hid (fun W (s : Still w W) => list_M (h.still s) hg.ok (by have := hg.cnt; omega))
      have hnn : M.names = M.now := by unfold Me.names; rw [if_neg (by rw [ho]; decide)]
      rw [hnn] at LS
      obtain ⟨N, hN⟩ : ∃ N, N = M.now := ⟨_, rfl⟩
      obtain ⟨n, hn⟩ : ∃ n, n = N.length := ⟨_, rfl⟩
      rw [← hN, ← hn] at LS
      rw [← hN] at hnm ⊢
      have LEN := Lib.hid (show N.length = n ∧ n ≤ 800000 from ⟨hn.symm, by have h1 := now_length hg.ok; have := hg.cnt; rw [← hN, ← hn] at h1; omega⟩)
      have NMS := Lib.hid hnm
      have TT := Lib.hid T
      have GD := Lib.hid hg
      have HLI := Lib.hid hlim
      obtain ⟨wb, hwb⟩ : ∃ wb, wb = w.alloc (.cells #[.pointer (some ⟨g, 0, none⟩), .int .i64 limit, .slice none 0 0, .int .i64 0, .bool false] 103) := ⟨_, rfl⟩
      have SB := Lib.hid (show Still w wb by rw [hwb]; exact (Still.refl w).alloc (Nat.le_refl _) _)
      have O0 := Lib.hid (show OP none w wb base g w.heap.size own M limit [] ∧ (∃ lo : LOwn, LM wb base g w.heap.size own lo M (logOf limit []) ∧ Still w wb ∧ (∀ b, lo b ≠ none → w.heap.size ≤ b) ∧ ∀ b, wb.heap.size ≤ b → lo b = none) from by
        have st : Still w wb := SB.out
        have hs : wb.heap.size = w.heap.size + 1 := by rw [hwb]; simp
        have U : ∃ lo : LOwn, LM wb base g w.heap.size own lo M (logOf limit []) ∧ Still w wb ∧ (∀ b, lo b ≠ none → w.heap.size ≤ b) ∧ ∀ b, wb.heap.size ≤ b → lo b = none := by
         refine ⟨fun b => if b = w.heap.size then some 1 else none, ⟨h.still st, ⟨.slice none 0 0, by rw [hwb]; exact Blk.new _ _ _, World.ownsRow_nil _ _ _ _, if_pos rfl, fun b hb => by simp [Value.ownBlock] at hb, fun b hb => ?_⟩, fun b hb => ?_⟩, st, fun b hb => ?_, fun b hb => ?_⟩
         · by_cases e : b = w.heap.size
           · subst e; exact ⟨h.low, by omega⟩
           · exact absurd (if_neg e) hb
         · exact if_neg (fun e => by have := (h.dom b hb).2; omega)
         · by_cases e : b = w.heap.size
           · omega
           · exact absurd (if_neg e) hb
         · exact if_neg (by omega)
        obtain ⟨lo, a, b, c, d⟩ := U
        exact ⟨⟨lo, a, b, c, fun b o e => by cases e⟩, lo, a, b, c, d⟩)
      have HWB := Lib.hid hwb
      obtain ⟨gl, hgl⟩ : ∃ gl, gl = w.heap.size := ⟨_, rfl⟩
      have HGL := Lib.hid hgl
      rw [← hgl] at O0
      have l1 : ¬ limit < 128 := by omega
      have l2 : ¬ (1048576 : Int) < limit := by omega
      clear h hg T hne hnm hb0 ho hlim hnn hN hn hwb hgl
      go_enter Tryz.func28, Tryz.ntmps28
      go_wp2_with fail
      refine SZ.out.mono ?_
      rintro e w1 ⟨rfl, rfl⟩
      go_upto_region 7 with fail
      rw [← HWB.out, ← HGL.out]
      go_wp2_with fail
      refine (LS.out wb SB.out).mono ?_
      rintro e w1 ⟨⟨nv, rfl, on⟩, s1⟩
      obtain ⟨An, cn, rfl, n1, n2, _⟩ := own_formG on
      have I0 := Lib.hid (show OP An w w1 base g gl own M limit (segsOf M (N.take 0)) ∧ NamesR w1 An n N from ⟨by
        obtain ⟨lo, a, b, c, d⟩ := O0.out.2
        rw [HGL.out] at c
        refine ⟨lo, a.still s1, Still.trans b s1, c, fun x o e => ?_⟩
        have := on.lt x (by rw [e]; rfl)
        exact ⟨d x this.1, this.2⟩, NamesR.of_own on⟩)
      clear on s1 O0
      go_wp2_with fail
      go_loopw [36] (fun iv wr => ∃ i : Nat, i ≤ n ∧ iv = .int .i64 i ∧ Hid (OP An w wr base g gl own M limit (segsOf M (N.take i)) ∧ NamesR wr An n N)) (fun iv _ => n - (intOf iv).toNat)
      case atStart => exact ⟨0, Nat.zero_le _, rfl, I0.out⟩
      case round =>
        clear I0
        obtain ⟨i, hi, rfl, hh⟩ := hrel
        obtain ⟨hop, hnr⟩ := hh.out
        by_cases hlt : i < n
        · obtain ⟨p, hp⟩ : ∃ p, N[i]? = some p := ⟨_, List.getElem?_eq_getElem (by have := LEN.out; omega)⟩
          obtain ⟨gs, o, rfl, hgs, hcs⟩ := hnr.2 (by omega)
          have d1 := hcs i p hp
          obtain ⟨lo, lm, st, hlo, hno⟩ := hop
          have hsz : (⟨p.1.toArray⟩ : ByteArray).size ≤ 30 := by
            rw [sizeB]
            exact NMS.out p (List.mem_of_getElem? hp)
          have NU := Lib.hid (number_any ⟨p.1.toArray⟩ wr (TT.out.still st) (by omega))
          have SM := Lib.hid (fun W (s : Still wr W) => size_M ⟨p.1.toArray⟩ (lm.med.still s) GD.out.ok (by unfold maxLen; omega))
          rw [show (⟨p.1.toArray⟩ : ByteArray).data.toList = p.1 by simp] at NU
          have TK := Lib.hid (segsOf_take M N i p hp)
          have SA := Lib.hid (show segAt M p = (segOf p.1).map fun q => (q, (M.bytes (⟨p.1.toArray⟩ : ByteArray)).1.length) from rfl)
          obtain ⟨X, hX⟩ : ∃ X : ByteArray, X = ⟨p.1.toArray⟩ := ⟨_, rfl⟩
          rw [← hX] at d1 NU SM SA
          obtain ⟨zl, hzl⟩ : ∃ zl, zl = (M.bytes X).1.length := ⟨_, rfl⟩
          rw [← hzl] at SM SA
          have LMW := Lib.hid lm
          have STW := Lib.hid (And.intro st hlo)
          have HNO := Lib.hid hno
          have HNR := Lib.hid hnr
          have z1 : (0 : Int) ≤ (i : Int) := by omega
          have z2 : (i : Int) < (n : Int) := by omega
          have HLT := Lib.hid hlt
          cases hq : segOf p.1 with
          | none =>
            rw [hq] at NU SA
            have EX := Lib.hid (show segsOf M (N.take (i + 1)) = segsOf M (N.take i) by rw [TK.out, SA.out]; exact List.append_nil _)
            clear hh hnr hcs lm st hlo hno hp hX hzl hlt hq hsz SM
            go_wp2_with fail
            refine NU.out.mono ?_
            rintro e w2 ⟨rfl, s2⟩
            have S2 := Lib.hid s2
            clear s2
            go_wp2_with fail
            go_roundw
            case rel => exact ⟨i + 1, by have := HLT.out; omega, by go_num, by rw [EX.out]; exact OP.still ⟨lo, LMW.out, STW.out.1, STW.out.2, HNO.out⟩ S2.out, HNR.out.still S2.out⟩
            case measure => simp [intOf]; have := HLT.out; omega
          | some q =>
            rw [hq] at NU SA
            have EX := Lib.hid (show segsOf M (N.take (i + 1)) = segsOf M (N.take i) ++ [(q, zl)] by rw [TK.out, SA.out]; rfl)
            obtain ⟨X0, hX0⟩ : ∃ X0, X0 = segsOf M (N.take i) := ⟨_, rfl⟩
            have hX0l : X0.length ≤ 800000 := by
              have h1 := segsOf_len M (N.take i)
              rw [← hX0, List.length_take] at h1
              have := LEN.out
              omega
            rw [← hX0] at EX LMW
            have XL := Lib.hid hX0l
            clear hh hnr hcs lm st hlo hno hp hX hzl hlt hq hsz hX0 hX0l
            go_wp2_with fail
            refine NU.out.mono ?_
            rintro e w2 ⟨rfl, s2⟩
            have S2 := Lib.hid s2
            clear s2 NU
            go_wp2_with fail
            refine (SM.out w2 S2.out).mono ?_
            rintro e w3 ⟨rfl, rfl⟩
            clear SM
            have lm2 := LMW.out.still S2.out
            obtain ⟨sv, hl⟩ := lm2.log
            obtain ⟨A5, c5, hsv, q1, q2, _⟩ := hl.form
            subst hsv
            have k2 := hl.cells.2.2.1
            have ORW := Lib.hid hl.row
            have LOW := Lib.hid lm2.med.low
            have FIN := Lib.hid (fun w6 v6 o6 g6 loc6 => LM.found (limit := limit) (X := X0) (p := (q, zl)) (w4 := w6) (v' := v6) (o := .cells #[.int .i64 (q : Int), .int .i64 (zl : Int)] 130) lm2 hl o6 g6 loc6)
            have B6 := Lib.hid (fun w6 (g6 : (w2.alloc (.cells #[.int .i64 (q : Int), .int .i64 (zl : Int)] 130)).grownBy w6 (Value.slice A5 (logOf limit X0).segs.length c5).ownBlock) => show Blk w6 gl 103 (logC g (logOf limit X0) (Value.slice A5 (logOf limit X0).segs.length c5)) from (Chg.of_grown g6 (S := fun x => (Value.slice A5 (logOf limit X0).segs.length c5).ownBlock = some x) (fun x hx _ => hx)).blk (hl.blk.alloc _) (own_neM hl.blk hl.row (by decide)))
            change w2.cell? ⟨gl, 2, none⟩ = some (.slice A5 X0.length c5) at k2
            obtain ⟨xl, hxl⟩ : ∃ xl, xl = X0.length := ⟨_, rfl⟩
            have ORW2 := Lib.hid (show w2.ownsRow base 130 2 (.slice A5 xl c5) xl (segV X0) by rw [hxl]; exact ORW.out)
            have FIN2 := Lib.hid (show ∀ (w6 : World) (v6 : Value), w6.ownsRow base 130 2 v6 (xl + 1) (segV X0 ++ [.int .i64 (q : Int), .int .i64 (zl : Int)]) → (w2.alloc (.cells #[.int .i64 (q : Int), .int .i64 (zl : Int)] 130)).grownBy w6 (Value.slice A5 xl c5).ownBlock → (v6.ownBlock = (Value.slice A5 xl c5).ownBlock ∨ v6.ownBlock = some (w2.alloc (.cells #[.int .i64 (q : Int), .int .i64 (zl : Int)] 130)).heap.size) → ∃ lo' : LOwn, (∀ b, b < w2.heap.size → lo' b = lo b) ∧ Chg w2 (w6.setCell ⟨gl, 2, none⟩ v6) (fun b => lo b ≠ none) ∧ LM (w6.setCell ⟨gl, 2, none⟩ v6) base g gl own lo' M (logOf limit (X0 ++ [(q, zl)])) by rw [hxl]; exact FIN.out)
            have B62 := Lib.hid (show ∀ w6 : World, (w2.alloc (.cells #[.int .i64 (q : Int), .int .i64 (zl : Int)] 130)).grownBy w6 (Value.slice A5 xl c5).ownBlock → Blk w6 gl 103 (logC g (logOf limit X0) (Value.slice A5 xl c5)) by rw [hxl]; exact B6.out)
            have hxl8 : xl ≤ 1048576 := by have := XL.out; omega
            rw [← hxl] at k2
            clear FIN B6 ORW lm2 hl q1 q2 hxl
            go_wp2_with (first
              | (guard_target =~ wpList _ _ _ (Oper.mk (some 60) _ _ _ _ _ :: _) _ _; go_must (refine wpList_boxSg _ rfl _ rfl (q : Int) (zl : Int) rfl ?_))
              | (guard_target =~ wpList _ _ _ (Oper.mk (some 61) _ _ _ _ _ :: _) _ _; go_must (refine wpList_pushSg _ rfl _ _ rfl base (.slice A5 xl c5) xl (segV X0) rfl (ORW2.out.alloc _) w2.heap.size [.int .i64 (q : Int), .int .i64 (zl : Int)] rfl (fun j u hj => ((Blk.new w2 130 #[.int .i64 (q : Int), .int .i64 (zl : Int)]).cell j).trans (by simpa using hj)) rfl (by simp [Value.oneCell']) hxl8 (by have := LOW.out; simp; omega) ?_); intro v6 w6 o6 g6 loc6; obtain ⟨A6, c6, rfl⟩ := own_formN3 o6; have F6 := Lib.hid (FIN2.out _ _ o6 g6 loc6); have c62 := (B62.out w6 g6).cell 2; have z62 := (B62.out w6 g6).frozen 2; clear o6 g6 loc6))
            have NEXT := Lib.hid (show OP (some ⟨gs, o, none⟩) w (w6.setCell ⟨gl, 2, none⟩ (.slice A6 (xl + 1) c6)) base g gl own M limit (X0 ++ [(q, zl)]) ∧ NamesR (w6.setCell ⟨gl, 2, none⟩ (.slice A6 (xl + 1) c6)) (some ⟨gs, o, none⟩) n N from by
              obtain ⟨lo', f1, f2, f3⟩ := F6.out
              obtain ⟨st, hlo⟩ := STW.out
              have s02 := Still.trans st S2.out
              have hlo2 : ∀ b, lo b ≠ none → b < w2.heap.size := fun b hb => by
                obtain ⟨sv, hl⟩ := LMW.out.log
                exact Nat.lt_of_lt_of_le (hl.dom b hb).2 S2.out.size
              have hg := HNO.out gs o rfl
              have hg2 : gs < w2.heap.size := Nat.lt_of_lt_of_le hg.2 S2.out.size
              refine ⟨⟨lo', f3, f2.still s02 (fun b hb => hlo b hb), fun b hb => ?_, fun b o' e => ?_⟩, ?_⟩
              · by_cases hlt : b < w2.heap.size
                · rw [f1 b hlt] at hb; exact hlo b hb
                · have := s02.size; omega
              · injection e with e
                injection e with e
                subst e
                exact ⟨(f1 _ hg2).trans hg.1, Nat.lt_of_lt_of_le hg2 f2.size⟩
              · have h2 := HNR.out.still S2.out
                refine ⟨h2.1, fun hn => ?_⟩
                obtain ⟨b, o', e, hb, hc⟩ := h2.2 hn
                refine ⟨b, o', e, Nat.lt_of_lt_of_le hb f2.size, fun i p hp => ?_⟩
                injection e with e
                injection e with e
                subst e
                exact (World.cell?_of_block (w := w2) (f2.block gs hb (fun hh => hh hg.1))).trans (hc i p hp))
            go_roundw
            case rel => exact ⟨i + 1, by have := HLT.out; omega, by go_num, by rw [EX.out]; exact NEXT.out.1, NEXT.out.2⟩
            case measure => simp [intOf]; have := HLT.out; omega
        · obtain rfl : i = n := by omega
          have eN : N.take i = N := List.take_of_length_le (by have := LEN.out; omega)
          rw [eN] at hop
          have HOP := Lib.hid hop
          clear hh hop hnr hlt
          go_wp2_with fail
          go_ret2
          obtain ⟨lo, a, b, c, _⟩ := HOP.out
          exact ⟨b, .inr (.inr ⟨(by first | rfl | trivial), HLI.out, gl, rfl, lo, a, b, c, fun x o e => by cases e⟩)⟩
    · by_cases h1 : limit < 128
      · have HLI := Lib.hid hlim
        clear h hg T hne hnm hb0 ho hlim
        go_enter Tryz.func28, Tryz.ntmps28
        go_wp2_with fail
        refine SZ.out.mono ?_
        rintro e w1 ⟨rfl, rfl⟩
        go_wp2_with fail
        go_ret2
        exact ⟨Still.refl _, .inr (.inl ⟨(by first | rfl | trivial), HLI.out, rfl⟩)⟩
      · have h2 : 1048576 < limit := by omega
        have HLI := Lib.hid hlim
        clear h hg T hne hnm hb0 ho hlim
        go_enter Tryz.func28, Tryz.ntmps28
        go_wp2_with fail
        refine SZ.out.mono ?_
        rintro e w1 ⟨rfl, rfl⟩
        go_wp2_with fail
        go_ret2
        exact ⟨Still.refl _, .inr (.inl ⟨(by first | rfl | trivial), HLI.out, rfl⟩)⟩
end Go.Proofs.YtblgphfdicffcaaGreatDoor

/- slices.Concat of a few rows of bytes. It proves no statement. -/





namespace Go.Proofs.YtblgphfdicffcaaGreatDoor
open Go.RowKit
set_option linter.unusedVariables false
set_option linter.unusedSimpArgs false

theorem run_grow (w : World) (ty : TypeId) (k : Nat) (h0 : 0 < k) (hk : k ≤ 1048576) :
    ∃ cap cur, (Builtin.append_ #[34, 3] ty #[.slice none 0 0, .int .i64 (k : Int)]).run Tryz.prog w = .ok (.slice (some ⟨w.heap.size, 0, none⟩) k cap) (w.drew.alloc (.cells cur 5)) ∧ k ≤ cap ∧ cap ≤ maxLen ∧ cur.size = cap := by
  obtain ⟨i0, hi, hz0, hz1, hz2⟩ := info_parts Tryz.infoByte
  have h := Lib.run_append_grow_zeros (P := Tryz.prog) w 34 3 ty 5 i0 (.int .u8 0) .i64 .i64 Tryz.underlying34 Tryz.underlying3 hi hz0 none 0 0 [] (run_firstCells_none w.drew i0.size 0 0 0) k h0 (by rw [hz1]; decide) (by omega) (by omega) (by rw [hz2]; omega) (by
    rw [hz2, Nat.zero_add, nextslicecap_zero h0]; omega)
  rw [Nat.zero_add] at h
  have hg := grownCap_ge w k 0 5
  have hl := grownCap_le_maxLen w k 0 5 (by unfold maxLen; omega)
  refine ⟨_, _, h, hg, hl, ?_⟩
  simp only [List.toArray, Array.size_append, size_zeroCells, Value.cells]
  simp
  omega
set_option maxRecDepth 100000 in
set_option maxHeartbeats 1600000 in
theorem grow_any (k : Nat) (w : World) (h0 : 0 < k) (hk : k ≤ 1048576) :
    Calls Tryz.prog 213 #[.slice none 0 0, .int .i64 (k : Int)] w fun e w' => (∃ v, e = .returned v ∧ w'.ownsRow w.heap.size 5 1 v 0 []) ∧ Still w w' := by
  obtain ⟨cap, cur, hrun, h1, h2, h3⟩ := run_grow w 34 k h0 hk
  have d1 : ¬ ((k : Int) < 0) := by omega
  have d2 : (0 : Int) < (k : Int) := by omega
  have d3 : IntKind.i64.wrap (k : Int) = (k : Int) := by rw [IntKind.wrap_i64]; omega
  have d4 : (0 : Int) ≤ (cap : Int) := by omega
  have d5 : 0 < k := h0
  have HR := Lib.hid hrun
  have FIN := Lib.hid (show (w.drew.alloc (.cells cur 5)).ownsRow w.heap.size 5 1 (.slice (some ⟨w.heap.size, 0, none⟩) 0 cap) 0 [] ∧ Still w (w.drew.alloc (.cells cur 5)) from
    ⟨⟨rfl, .inr ⟨w.heap.size, cap, cur, rfl, Nat.le_refl _, by rw [show w.heap.size = w.drew.heap.size from rfl]; exact heap_alloc_new _ _, Nat.zero_le _, h2, by omega, by simp⟩⟩, ((Still.refl w).drew).alloc (Nat.le_refl _) _⟩)
  clear hrun h1 h2 h3 h0 hk
  go_enter Tryz.func213, Tryz.ntmps213
  go_wp2_with (guard_target =~ wpList _ _ _ (Oper.mk (some 22) _ _ _ _ _ :: _) _ _; go_must (refine Go.Great.wpList_runTo rfl (some 22) rfl (.slice (some ⟨w.heap.size, 0, none⟩) k cap) (w.drew.alloc (.cells cur 5)) (by simp only [execOp, resolve, invoke, builtin, Sem.run_bind, Sem.run_pure, Result.andThen_ok, List.map_toArray, List.map_cons, List.map_nil]; change (Sem.run _ (Builtin.append_ _ _ #[.slice none 0 0, .int .i64 (k : Int)]) w).andThen _ = _; rw [HR.out]; rfl) ?_))
  go_ret
  exact ⟨⟨_, rfl, FIN.out.1⟩, FIN.out.2⟩
/-- Rows of bytes, side by side in a block. -/
def PartsIn (w : World) (B gp : Nat) (ls : List (List UInt8)) : Prop := gp < B ∧ ∀ i, i < ls.length → ∃ A n c, w.cell? ⟨gp, i, none⟩ = some (.slice A n c) ∧ Reads w B A n (ls.getD i []) ∧ (A = none → c = 0)
theorem PartsIn.still {w w' : World} {B gp : Nat} {ls : List (List UInt8)} (h : PartsIn w B gp ls) (hB : B ≤ w.heap.size) (s : Still w w') : PartsIn w' B gp ls :=
  ⟨h.1, fun i hi => by
    obtain ⟨A, n, c, h1, h2, h3⟩ := h.2 i hi
    exact ⟨A, n, c, (s.cell (p := ⟨gp, i, none⟩) (Nat.lt_of_lt_of_le h.1 hB)).trans h1, h2.still hB s, h3⟩⟩
theorem flat_step (ls : List (List UInt8)) (j : Nat) (h : j < ls.length) : (ls.take (j + 1)).flatten = (ls.take j).flatten ++ ls.getD j [] := by
  have e : ls.take (j + 1) = ls.take j ++ [ls[j]] := by rw [List.take_add_one, List.getElem?_eq_getElem h]; rfl
  rw [e, List.flatten_append]
  simp only [List.flatten_cons, List.flatten_nil, List.append_nil, List.getD, List.getElem?_eq_getElem h, Option.getD_some]
theorem flat_leF (ls : List (List UInt8)) (j : Nat) : (ls.take j).flatten.length ≤ ls.flatten.length := by
  have h := congrArg (fun q => (List.flatten q).length) (List.take_append_drop j ls)
  simp only [List.flatten_append, List.length_append] at h
  omega
set_option maxRecDepth 100000 in
set_option maxHeartbeats 1600000 in
theorem concat_any (gp c : Nat) (ls : List (List UInt8)) (w : World) (B : Nat) (hp : PartsIn w B gp ls) (hB : B ≤ w.heap.size) (hm : ls.length ≤ 16) (h0 : 0 < ls.flatten.length) (ht : ls.flatten.length ≤ 1048576) :
    Calls Tryz.prog 158 #[.slice (some ⟨gp, 0, none⟩) ls.length c] w fun e w' => (∃ v, e = .returned v ∧ w'.ownsRow w.heap.size 5 1 v ls.flatten.length (bytesV ls.flatten)) ∧ Still w w' := by
  obtain ⟨m, hmm⟩ : ∃ m, m = ls.length := ⟨_, rfl⟩
  rw [← hmm]
  have d1 : (m : Int) ≤ 16 := by omega
  obtain ⟨T, hT⟩ : ∃ T, T = ls.flatten.length := ⟨_, rfl⟩
  have GR := Lib.hid (grow_any T w (by omega) (by omega))
  have HP := Lib.hid hp
  have HB := Lib.hid hB
  have HT := Lib.hid hT
  have HTT := Lib.hid (show T ≤ 1048576 by omega)
  have HM := Lib.hid hmm
  clear hp hB hm h0 ht hT hmm
  go_enter Tryz.func158, Tryz.ntmps158
  go_wp2_with fail
  go_loopw [3, 11] (fun sv iv wr => ∃ j : Nat, j ≤ m ∧ iv = .int .i64 j ∧ wr = w ∧ sv = .int .i64 ((ls.take j).flatten.length : Nat)) (fun _ iv _ => m - (intOf iv).toNat)
  case atStart => exact ⟨0, by omega, rfl, rfl, by simp⟩
  case round =>
    obtain ⟨j, hj, rfl, hw, rfl⟩ := hrel
    have hw' := hw.symm
    subst hw'
    clear hw
    by_cases hlt : j < m
    · obtain ⟨A, n, cc, hc, hr, _⟩ := HP.out.2 j (by rw [← HM.out]; exact hlt)
      have hc0 : w.cell? ⟨gp, 0 + j, none⟩ = some (.slice A n cc) := by rw [Nat.zero_add]; exact hc
      have hs := congrArg List.length (flat_step ls j (by rw [← HM.out]; exact hlt))
      rw [List.length_append, hr.1] at hs
      have hle := flat_leF ls (j + 1)
      rw [← HT.out] at hle
      obtain ⟨s, hse⟩ : ∃ s, s = (ls.take j).flatten.length := ⟨_, rfl⟩
      rw [← hse] at hs ⊢
      have d2 : (j : Int) < (m : Int) := by omega
      have d3 : (0 : Int) ≤ (j : Int) := by omega
      have d4 : (s : Int) + (n : Int) ≤ 1048576 := by have := HTT.out; omega
      have d5 : (0 : Int) ≤ (s : Int) + (n : Int) := by omega
      have d6 : IntKind.i64.wrap ((s : Int) + (n : Int)) = ((s + n : Nat) : Int) := by rw [IntKind.wrap_i64]; omega
      have d7 : ¬ (((s + n : Nat) : Int) < 0) := by omega
      have HS := Lib.hid hs
      have HLT := Lib.hid hlt
      clear hse hs hle hlt hr
      go_wp2_with fail
      go_roundw
      case rel => exact ⟨j + 1, by have := HLT.out; omega, by go_num, by first | trivial | rfl, by have h := HS.out; first | omega | (go_num; done) | (rw [h]; rfl)⟩
      case measure => simp [intOf]; have := HLT.out; omega
    · obtain rfl : j = m := by omega
      have e : (ls.take j).flatten.length = T := by rw [HT.out, HM.out, List.take_length]
      rw [e]
      clear e hlt
      go_wp2_with fail
      refine GR.out.mono ?_
      rintro e w1 ⟨⟨v, rfl, own1⟩, s1⟩
      have OW := Lib.hid own1
      have S1 := Lib.hid s1
      clear own1 s1 GR
      go_wp2_with fail
      go_loopw [6, 27] (fun vv iv wr => ∃ i : Nat, i ≤ j ∧ iv = .int .i64 i ∧ Hid (wr.ownsRow w.heap.size 5 1 vv ((ls.take i).flatten.length) (bytesV (ls.take i).flatten) ∧ Still w wr)) (fun _ iv _ => j - (intOf iv).toNat)
      case atStart => exact ⟨0, by omega, rfl, by simpa [bytesV] using OW.out, S1.out⟩
      case round =>
        obtain ⟨i, hi, rfl, hin⟩ := hrel
        by_cases hlt : i < j
        · obtain ⟨A, n, cc, hc, hr, hA⟩ := (HP.out.still HB.out hin.out.2).2 i (by rw [← HM.out]; exact hlt)
          have hc0 : wr.cell? ⟨gp, 0 + i, none⟩ = some (.slice A n cc) := by rw [Nat.zero_add]; exact hc
          have hst := flat_step ls i (by rw [← HM.out]; exact hlt)
          have hle := flat_leF ls (i + 1)
          have hs := congrArg List.length hst
          rw [List.length_append, hr.1] at hs
          rw [← HT.out] at hle
          have d2 : (i : Int) < (j : Int) := by omega
          have d3 : (0 : Int) ≤ (i : Int) := by omega
          have HS := Lib.hid hs
          have HST := Lib.hid hst
          have HLE := Lib.hid (show (ls.take i).flatten.length + n ≤ 1048576 by have := HTT.out; omega)
          have HLT := Lib.hid hlt
          have HR := Lib.hid hr
          have HA := Lib.hid hA
          clear hst hs hle hlt hr hA hc0
          go_wp2_with (at_builtin; go_must (refine wpList_adds_at wr rfl (.tmp 31) (.tmp 32) rfl w.heap.size _ _ _ rfl hin.out.1 A n cc B _ rfl HR.out HA.out (by have := HLE.out; omega) hin.out.2.size ?_))
          intro v5 w5 own5 gr5 loc5
          have FIN := Lib.hid (show w5.ownsRow w.heap.size 5 1 v5 ((ls.take (i + 1)).flatten.length) (bytesV (ls.take (i + 1)).flatten) ∧ Still w w5 from
            ⟨by rw [HST.out, List.length_append, HR.out.1]; first | exact own5 | simpa using own5, hin.out.2.grown gr5 hin.out.2.size (fun k hk => (hin.out.1.lt k hk).1)⟩)
          clear own5 gr5 loc5
          go_wp2_with fail
          go_roundw
          case rel => exact ⟨i + 1, by have := HLT.out; omega, by go_num, FIN.out⟩
          case measure => simp [intOf]; have := HLT.out; omega
        · obtain rfl : i = j := by omega
          have FIN := Lib.hid (show wr.ownsRow w.heap.size 5 1 u6 T (bytesV ls.flatten) by have h := hin.out.1; rwa [HM.out, List.take_length, ← HT.out] at h)
          clear hlt
          go_wp2_with fail
          go_ret
          exact ⟨⟨_, rfl, by rw [← HT.out]; exact FIN.out⟩, hin.out.2⟩
end Go.Proofs.YtblgphfdicffcaaGreatDoor
