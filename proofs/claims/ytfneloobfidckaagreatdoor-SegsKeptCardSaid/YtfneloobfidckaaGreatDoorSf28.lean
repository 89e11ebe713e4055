/- Contracts and facts, several texts in one. It proves no statement. -/
import Derived.Test.YtfneloobfidckaaGreatDoorSf23
import Derived.Test.YtfneloobfidckaaGreatDoorSf27
import Derived.Test.YtfneloobfidckaaGreatDoorSf06
import Derived.Laws.BitsAllLaws
import Derived.Test.YtfneloobfidckaaGreatDoorSf25

/- Contract: the segments of a medium. It proves no statement. -/



namespace Go.Proofs.YtfneloobfidckaaGreatDoor
open Go.RowKit Go.Maps Go.WideMaps Go.Sort
set_option linter.unusedVariables false
set_option linter.unusedSimpArgs false

theorem own_formG {w : World} {base : Nat} {e : TypeId} {z n : Nat} {v : Value} {xs : List Value} (h : w.ownsRow base e z v n xs) : ∃ (A : Option Addr) (c : Nat), v = .slice A n c ∧ n ≤ c ∧ c ≤ 9223372036854775807 ∧ (A = none → n = 0 ∧ c = 0) := by
  rcases h.2 with ⟨h1, h0⟩ | ⟨q, cap, cur, h1, h2, h3, h4, h5, _⟩
  · exact ⟨none, 0, by rw [h1, h0], by omega, by omega, fun _ => ⟨h0, rfl⟩⟩
  · exact ⟨_, _, h1, h4, by unfold maxLen at h5; omega, fun e => by cases e⟩
/-- What a name tells of a segment. -/
def segAt (M : Me) (p : List UInt8 × Nat) : Option (Nat × Nat) := (segOf p.1).map fun n => (n, (M.bytes (⟨p.1.toArray⟩ : ByteArray)).1.length)
def segsOf (M : Me) (N : NT) : List (Nat × Nat) := N.filterMap (segAt M)
theorem segsOf_take (M : Me) (N : NT) (i : Nat) (p : List UInt8 × Nat) (h : N[i]? = some p) : segsOf M (N.take (i + 1)) = segsOf M (N.take i) ++ (match segAt M p with | some q => [q] | none => []) := by
  unfold segsOf
  rw [List.take_add_one, h, List.filterMap_append]
  congr 1
  show List.filterMap (segAt M) [p] = _
  rw [List.filterMap_cons]
  cases segAt M p <;> rfl
theorem segsOf_len (M : Me) (N : NT) : (segsOf M N).length ≤ N.length := List.length_filterMap_le _ _
def logOf (limit : Int) (X : List (Nat × Nat)) : Lg := ⟨limit, X, 0, false⟩
/-- One more segment, of those that are there. -/
theorem LM.found {w w4 : World} {base g gl : Nat} {own : Own} {lo : LOwn} {M : Me} {limit : Int} {X : List (Nat × Nat)} {sv v' : Value} {p : Nat × Nat} {o : Obj} (h : LM w base g gl own lo M (logOf limit X)) (hl : LogI w base lo g gl (logOf limit X) sv) (o4 : w4.ownsRow base 160 2 v' (X.length + 1) (segV X ++ [.int .i64 (p.1 : Int), .int .i64 (p.2 : Int)])) (g4 : (w.alloc o).grownBy w4 sv.ownBlock) (hv : v'.ownBlock = sv.ownBlock ∨ v'.ownBlock = some (w.alloc o).heap.size) :
    ∃ lo' : LOwn, (∀ b, b < w.heap.size → lo' b = lo b) ∧ Chg w (w4.setCell ⟨gl, 2, none⟩ v') (fun b => lo b ≠ none) ∧ LM (w4.setCell ⟨gl, 2, none⟩ v') base g gl own lo' M (logOf limit (X ++ [p])) := by
  have c4 : Chg w w4 (fun b => b = gl ∨ sv.ownBlock = some b) := (Chg.of_still ((Still.refl w).alloc (Nat.le_refl _) o) (fun b => b = gl ∨ sv.ownBlock = some b)).trans (Chg.of_grown g4 (S := fun b => b = gl ∨ sv.ownBlock = some b) (fun k hk _ => .inr hk)) (fun b _ hb => hb)
  have hne : sv.ownBlock ≠ some gl := own_neM hl.blk hl.row (by decide)
  have b4 : Blk w4 gl 156 (logC g (logOf limit X) sv) := (Chg.of_grown g4 (S := fun b => sv.ownBlock = some b) (fun k hk _ => hk)).blk (hl.blk.alloc o) hne
  have hn4 : v'.ownBlock ≠ some gl := own_neM b4 o4 (by decide)
  have cs : ∀ (W : World) (i : Nat) (u : Value), Chg W (W.setCell ⟨gl, i, none⟩ u) (fun b => b = gl ∨ sv.ownBlock = some b) := fun W i u => (chg_set W gl i u).mono (fun b _ hb => .inl hb)
  have cc := c4.trans (cs _ 2 v') (fun b _ hb => hb)
  have e : segV (logOf limit (X ++ [p])).segs = segV X ++ [.int .i64 (p.1 : Int), .int .i64 (p.2 : Int)] := by
    show segV (X ++ [p]) = _
    rw [segV_append, segV_one]
  have el : (logOf limit (X ++ [p])).segs.length = X.length + 1 := by
    show (X ++ [p]).length = _
    rw [List.length_append]
    rfl
  have r1 : (w4.setCell ⟨gl, 2, none⟩ v').ownsRow base 160 2 v' (logOf limit (X ++ [p])).segs.length (segV (logOf limit (X ++ [p])).segs) := by
    rw [e, el]
    exact (chg_set _ gl 2 _).own o4 (fun b hb e => hn4 (e ▸ hb))
  have r2 : v'.ownBlock = sv.ownBlock ∨ ∃ j, v'.ownBlock = some j ∧ w.heap.size ≤ j := by
    rcases hv with hv | hv
    · exact .inl hv
    · exact .inr ⟨_, hv, by simp⟩
  obtain ⟨lo', q1, q2⟩ := h.turn2 (S' := logOf limit (X ++ [p])) hl cc (sv' := v') (b4.setc 2 v') r1 r2
  exact ⟨lo', q1, cc.mono (fun b _ hb => by
    rcases hb with rfl | hb
    · rw [hl.ol]; simp
    · rw [hl.os b hb]; simp), q2⟩
theorem own_formN3 {w : World} {base n z : Nat} {e : TypeId} {v : Value} {xs : List Value} (h : w.ownsRow base e z v n xs) : ∃ A c, v = .slice A n c := by
  rcases h.2 with ⟨h, h0⟩ | ⟨g, cp, cur, h, _⟩
  · exact ⟨none, 0, by rw [h, h0]⟩
  · exact ⟨_, cp, h⟩
/-- The walk's state. -/
def OP (An : Option Addr) (w wr : World) (base g gl : Nat) (own : Own) (M : Me) (limit : Int) (X : List (Nat × Nat)) : Prop :=
  ∃ lo : LOwn, LM wr base g gl own lo M (logOf limit X) ∧ Still w wr ∧ (∀ b, lo b ≠ none → w.heap.size ≤ b) ∧ ∀ b o, An = some ⟨b, o, none⟩ → lo b = none ∧ b < wr.heap.size
theorem OP.still {An : Option Addr} {w wr w' : World} {base g gl : Nat} {own : Own} {M : Me} {limit : Int} {X : List (Nat × Nat)} (h : OP An w wr base g gl own M limit X) (s : Still wr w') : OP An w w' base g gl own M limit X := by
  obtain ⟨lo, a, b, c, d⟩ := h
  exact ⟨lo, a.still s, Still.trans b s, c, fun x o e => ⟨(d x o e).1, Nat.lt_of_lt_of_le (d x o e).2 s.size⟩⟩
set_option maxRecDepth 100000 in
set_option maxHeartbeats 6400000 in
theorem open_any {w : World} {base g k : Nat} {own : Own} {M : Me} (h : MedI w base own g M) (hg : M.good k) (hk : k ≤ 800000) (T : SgT w) (limit : Int) (hne : nFind M.now [] = none) (hnm : ∀ p ∈ M.now, p.1.length ≤ 30) :
    Calls Tryz.prog 18 #[.pointer (some ⟨g, 0, none⟩), .int .i64 limit] w fun e w' => Still w w' ∧ ((M.off = true ∧ e = .returned (.tuple #[.pointer none, .int .i64 12])) ∨
      (M.off = false ∧ ¬ (128 ≤ limit ∧ limit ≤ 1048576) ∧ e = .returned (.tuple #[.pointer none, .int .i64 2])) ∨
      (M.off = false ∧ (128 ≤ limit ∧ limit ≤ 1048576) ∧ ∃ (gl : Nat), e = .returned (.tuple #[.pointer (some ⟨gl, 0, none⟩), .int .i64 0]) ∧ OP none w w' base g gl own M limit (segsOf M M.now))) := by
  have SZ := Lib.hid (size_M ⟨#[]⟩ h hg.ok (by decide))
  have hb0 : M.bytes ⟨#[]⟩ = ([], if M.off = true then 12 else 9) := by
    unfold Me.bytes Me.find
    have e : (⟨#[]⟩ : ByteArray).data.toList = [] := rfl
    split
    · rename_i E hE
      split at hE
      · injection hE with hE
        rename_i ho
        rw [if_pos ho, hE]
      · rename_i ho
        rw [e, hne] at hE
        injection hE with hE
        rw [if_neg ho, hE]
    · rename_i gf F hE
      split at hE
      · cases hE
      · rw [e, hne] at hE
        cases hE
  rw [hb0] at SZ
  cases ho : M.off with
  | true =>
    rw [ho, if_pos rfl] at SZ
    clear h hg T hne hnm hb0 ho
    go_enter Tryz.func18, Tryz.ntmps18
    go_wp2_with fail
    refine SZ.out.mono ?_
    rintro e w1 ⟨rfl, rfl⟩
    go_wp2_with fail
    go_ret2
    exact ⟨Still.refl _, .inl ⟨(by first | rfl | trivial), rfl⟩⟩
  | false =>
    rw [ho, if_neg (by decide)] at SZ
    by_cases hlim : 128 ≤ limit ∧ limit ≤ 1048576
    · have LS := Lib.hid (fun W (s : Still w W) => list_M (h.still s) hg.ok (by have := hg.cnt; omega))
      have hnn : M.names = M.now := by unfold Me.names; rw [if_neg (by rw [ho]; decide)]
      rw [hnn] at LS
      obtain ⟨N, hN⟩ : ∃ N, N = M.now := ⟨_, rfl⟩
      obtain ⟨n, hn⟩ : ∃ n, n = N.length := ⟨_, rfl⟩
      rw [← hN, ← hn] at LS
      rw [← hN] at hnm ⊢
      have LEN := Lib.hid (show N.length = n ∧ n ≤ 800000 from ⟨hn.symm, by have h1 := now_length hg.ok; have := hg.cnt; rw [← hN, ← hn] at h1; omega⟩)
      have NMS := Lib.hid hnm
      have TT := Lib.hid T
      have GD := Lib.hid hg
      have HLI := Lib.hid hlim
      obtain ⟨wb, hwb⟩ : ∃ wb, wb = w.alloc (.cells #[.pointer (some ⟨g, 0, none⟩), .int .i64 limit, .slice none 0 0, .int .i64 0, .bool false] 156) := ⟨_, rfl⟩
      have SB := Lib.hid (show Still w wb by rw [hwb]; exact (Still.refl w).alloc (Nat.le_refl _) _)
      have O0 := Lib.hid (show OP none w wb base g w.heap.size own M limit [] ∧ (∃ lo : LOwn, LM wb base g w.heap.size own lo M (logOf limit []) ∧ Still w wb ∧ (∀ b, lo b ≠ none → w.heap.size ≤ b) ∧ ∀ b, wb.heap.size ≤ b → lo b = none) from by
        have st : Still w wb := SB.out
        have hs : wb.heap.size = w.heap.size + 1 := by rw [hwb]; simp
        have U : ∃ lo : LOwn, LM wb base g w.heap.size own lo M (logOf limit []) ∧ Still w wb ∧ (∀ b, lo b ≠ none → w.heap.size ≤ b) ∧ ∀ b, wb.heap.size ≤ b → lo b = none := by
         refine ⟨fun b => if b = w.heap.size then some 1 else none, ⟨h.still st, ⟨.slice none 0 0, by rw [hwb]; exact Blk.new _ _ _, World.ownsRow_nil _ _ _ _, if_pos rfl, fun b hb => by simp [Value.ownBlock] at hb, fun b hb => ?_⟩, fun b hb => ?_⟩, st, fun b hb => ?_, fun b hb => ?_⟩
         · by_cases e : b = w.heap.size
           · subst e; exact ⟨h.low, by omega⟩
           · exact absurd (if_neg e) hb
         · exact if_neg (fun e => by have := (h.dom b hb).2; omega)
         · by_cases e : b = w.heap.size
           · omega
           · exact absurd (if_neg e) hb
         · exact if_neg (by omega)
        obtain ⟨lo, a, b, c, d⟩ := U
        exact ⟨⟨lo, a, b, c, fun b o e => by cases e⟩, lo, a, b, c, d⟩)
      have HWB := Lib.hid hwb
      obtain ⟨gl, hgl⟩ : ∃ gl, gl = w.heap.size := ⟨_, rfl⟩
      have HGL := Lib.hid hgl
      rw [← hgl] at O0
      have l1 : ¬ limit < 128 := by omega
      have l2 : ¬ (1048576 : Int) < limit := by omega
      clear h hg T hne hnm hb0 ho hlim hnn hN hn hwb hgl
      go_enter Tryz.func18, Tryz.ntmps18
      go_wp2_with fail
      refine SZ.out.mono ?_
      rintro e w1 ⟨rfl, rfl⟩
      go_upto_region 7 with fail
      rw [← HWB.out, ← HGL.out]
      go_wp2_with fail
      refine (LS.out wb SB.out).mono ?_
      rintro e w1 ⟨⟨nv, rfl, on⟩, s1⟩
      obtain ⟨An, cn, rfl, n1, n2, _⟩ := own_formG on
      have I0 := Lib.hid (show OP An w w1 base g gl own M limit (segsOf M (N.take 0)) ∧ NamesR w1 An n N from ⟨by
        obtain ⟨lo, a, b, c, d⟩ := O0.out.2
        rw [HGL.out] at c
        refine ⟨lo, a.still s1, Still.trans b s1, c, fun x o e => ?_⟩
        have := on.lt x (by rw [e]; rfl)
        exact ⟨d x this.1, this.2⟩, NamesR.of_own on⟩)
      clear on s1 O0
      go_wp2_with fail
      go_loopw [36] (fun iv wr => ∃ i : Nat, i ≤ n ∧ iv = .int .i64 i ∧ Hid (OP An w wr base g gl own M limit (segsOf M (N.take i)) ∧ NamesR wr An n N)) (fun iv _ => n - (intOf iv).toNat)
      case atStart => exact ⟨0, Nat.zero_le _, rfl, I0.out⟩
      case round =>
        clear I0
        obtain ⟨i, hi, rfl, hh⟩ := hrel
        obtain ⟨hop, hnr⟩ := hh.out
        by_cases hlt : i < n
        · obtain ⟨p, hp⟩ : ∃ p, N[i]? = some p := ⟨_, List.getElem?_eq_getElem (by have := LEN.out; omega)⟩
          obtain ⟨gs, o, rfl, hgs, hcs⟩ := hnr.2 (by omega)
          have d1 := hcs i p hp
          obtain ⟨lo, lm, st, hlo, hno⟩ := hop
          have hsz : (⟨p.1.toArray⟩ : ByteArray).size ≤ 30 := by
            rw [sizeB]
            exact NMS.out p (List.mem_of_getElem? hp)
          have NU := Lib.hid (number_any ⟨p.1.toArray⟩ wr (TT.out.still st) (by omega))
          have SM := Lib.hid (fun W (s : Still wr W) => size_M ⟨p.1.toArray⟩ (lm.med.still s) GD.out.ok (by unfold maxLen; omega))
          rw [show (⟨p.1.toArray⟩ : ByteArray).data.toList = p.1 by simp] at NU
          have TK := Lib.hid (segsOf_take M N i p hp)
          have SA := Lib.hid (show segAt M p = (segOf p.1).map fun q => (q, (M.bytes (⟨p.1.toArray⟩ : ByteArray)).1.length) from rfl)
          obtain ⟨X, hX⟩ : ∃ X : ByteArray, X = ⟨p.1.toArray⟩ := ⟨_, rfl⟩
          rw [← hX] at d1 NU SM SA
          obtain ⟨zl, hzl⟩ : ∃ zl, zl = (M.bytes X).1.length := ⟨_, rfl⟩
          rw [← hzl] at SM SA
          have LMW := Lib.hid lm
          have STW := Lib.hid (And.intro st hlo)
          have HNO := Lib.hid hno
          have HNR := Lib.hid hnr
          have z1 : (0 : Int) ≤ (i : Int) := by omega
          have z2 : (i : Int) < (n : Int) := by omega
          have HLT := Lib.hid hlt
          cases hq : segOf p.1 with
          | none =>
            rw [hq] at NU SA
            have EX := Lib.hid (show segsOf M (N.take (i + 1)) = segsOf M (N.take i) by rw [TK.out, SA.out]; exact List.append_nil _)
            clear hh hnr hcs lm st hlo hno hp hX hzl hlt hq hsz SM
            go_wp2_with fail
            refine NU.out.mono ?_
            rintro e w2 ⟨rfl, s2⟩
            have S2 := Lib.hid s2
            clear s2
            go_wp2_with fail
            go_roundw
            case rel => exact ⟨i + 1, by have := HLT.out; omega, by go_num, by rw [EX.out]; exact OP.still ⟨lo, LMW.out, STW.out.1, STW.out.2, HNO.out⟩ S2.out, HNR.out.still S2.out⟩
            case measure => simp [intOf]; have := HLT.out; omega
          | some q =>
            rw [hq] at NU SA
            have EX := Lib.hid (show segsOf M (N.take (i + 1)) = segsOf M (N.take i) ++ [(q, zl)] by rw [TK.out, SA.out]; rfl)
            obtain ⟨X0, hX0⟩ : ∃ X0, X0 = segsOf M (N.take i) := ⟨_, rfl⟩
            have hX0l : X0.length ≤ 800000 := by
              have h1 := segsOf_len M (N.take i)
              rw [← hX0, List.length_take] at h1
              have := LEN.out
              omega
            rw [← hX0] at EX LMW
            have XL := Lib.hid hX0l
            clear hh hnr hcs lm st hlo hno hp hX hzl hlt hq hsz hX0 hX0l
            go_wp2_with fail
            refine NU.out.mono ?_
            rintro e w2 ⟨rfl, s2⟩
            have S2 := Lib.hid s2
            clear s2 NU
            go_wp2_with fail
            refine (SM.out w2 S2.out).mono ?_
            rintro e w3 ⟨rfl, rfl⟩
            clear SM
            have lm2 := LMW.out.still S2.out
            obtain ⟨sv, hl⟩ := lm2.log
            obtain ⟨A5, c5, hsv, q1, q2, _⟩ := hl.form
            subst hsv
            have k2 := hl.cells.2.2.1
            have ORW := Lib.hid hl.row
            have LOW := Lib.hid lm2.med.low
            have FIN := Lib.hid (fun w6 v6 o6 g6 loc6 => LM.found (limit := limit) (X := X0) (p := (q, zl)) (w4 := w6) (v' := v6) (o := .cells #[.int .i64 (q : Int), .int .i64 (zl : Int)] 160) lm2 hl o6 g6 loc6)
            have B6 := Lib.hid (fun w6 (g6 : (w2.alloc (.cells #[.int .i64 (q : Int), .int .i64 (zl : Int)] 160)).grownBy w6 (Value.slice A5 (logOf limit X0).segs.length c5).ownBlock) => show Blk w6 gl 156 (logC g (logOf limit X0) (Value.slice A5 (logOf limit X0).segs.length c5)) from (Chg.of_grown g6 (S := fun x => (Value.slice A5 (logOf limit X0).segs.length c5).ownBlock = some x) (fun x hx _ => hx)).blk (hl.blk.alloc _) (own_neM hl.blk hl.row (by decide)))
            change w2.cell? ⟨gl, 2, none⟩ = some (.slice A5 X0.length c5) at k2
            obtain ⟨xl, hxl⟩ : ∃ xl, xl = X0.length := ⟨_, rfl⟩
            have ORW2 := Lib.hid (show w2.ownsRow base 160 2 (.slice A5 xl c5) xl (segV X0) by rw [hxl]; exact ORW.out)
            have FIN2 := Lib.hid (show ∀ (w6 : World) (v6 : Value), w6.ownsRow base 160 2 v6 (xl + 1) (segV X0 ++ [.int .i64 (q : Int), .int .i64 (zl : Int)]) → (w2.alloc (.cells #[.int .i64 (q : Int), .int .i64 (zl : Int)] 160)).grownBy w6 (Value.slice A5 xl c5).ownBlock → (v6.ownBlock = (Value.slice A5 xl c5).ownBlock ∨ v6.ownBlock = some (w2.alloc (.cells #[.int .i64 (q : Int), .int .i64 (zl : Int)] 160)).heap.size) → ∃ lo' : LOwn, (∀ b, b < w2.heap.size → lo' b = lo b) ∧ Chg w2 (w6.setCell ⟨gl, 2, none⟩ v6) (fun b => lo b ≠ none) ∧ LM (w6.setCell ⟨gl, 2, none⟩ v6) base g gl own lo' M (logOf limit (X0 ++ [(q, zl)])) by rw [hxl]; exact FIN.out)
            have B62 := Lib.hid (show ∀ w6 : World, (w2.alloc (.cells #[.int .i64 (q : Int), .int .i64 (zl : Int)] 160)).grownBy w6 (Value.slice A5 xl c5).ownBlock → Blk w6 gl 156 (logC g (logOf limit X0) (Value.slice A5 xl c5)) by rw [hxl]; exact B6.out)
            have hxl8 : xl ≤ 1048576 := by have := XL.out; omega
            rw [← hxl] at k2
            clear FIN B6 ORW lm2 hl q1 q2 hxl
            go_wp2_with (first
              | (guard_target =~ wpList _ _ _ (Oper.mk (some 60) _ _ _ _ _ :: _) _ _; go_must (refine wpList_boxSg _ rfl _ rfl (q : Int) (zl : Int) rfl ?_))
              | (guard_target =~ wpList _ _ _ (Oper.mk (some 61) _ _ _ _ _ :: _) _ _; go_must (refine wpList_pushSg _ rfl _ _ rfl base (.slice A5 xl c5) xl (segV X0) rfl (ORW2.out.alloc _) w2.heap.size [.int .i64 (q : Int), .int .i64 (zl : Int)] rfl (fun j u hj => ((Blk.new w2 160 #[.int .i64 (q : Int), .int .i64 (zl : Int)]).cell j).trans (by simpa using hj)) rfl (by simp [Value.oneCell']) hxl8 (by have := LOW.out; simp; omega) ?_); intro v6 w6 o6 g6 loc6; obtain ⟨A6, c6, rfl⟩ := own_formN3 o6; have F6 := Lib.hid (FIN2.out _ _ o6 g6 loc6); have c62 := (B62.out w6 g6).cell 2; have z62 := (B62.out w6 g6).frozen 2; clear o6 g6 loc6))
            have NEXT := Lib.hid (show OP (some ⟨gs, o, none⟩) w (w6.setCell ⟨gl, 2, none⟩ (.slice A6 (xl + 1) c6)) base g gl own M limit (X0 ++ [(q, zl)]) ∧ NamesR (w6.setCell ⟨gl, 2, none⟩ (.slice A6 (xl + 1) c6)) (some ⟨gs, o, none⟩) n N from by
              obtain ⟨lo', f1, f2, f3⟩ := F6.out
              obtain ⟨st, hlo⟩ := STW.out
              have s02 := Still.trans st S2.out
              have hlo2 : ∀ b, lo b ≠ none → b < w2.heap.size := fun b hb => by
                obtain ⟨sv, hl⟩ := LMW.out.log
                exact Nat.lt_of_lt_of_le (hl.dom b hb).2 S2.out.size
              have hg := HNO.out gs o rfl
              have hg2 : gs < w2.heap.size := Nat.lt_of_lt_of_le hg.2 S2.out.size
              refine ⟨⟨lo', f3, f2.still s02 (fun b hb => hlo b hb), fun b hb => ?_, fun b o' e => ?_⟩, ?_⟩
              · by_cases hlt : b < w2.heap.size
                · rw [f1 b hlt] at hb; exact hlo b hb
                · have := s02.size; omega
              · injection e with e
                injection e with e
                subst e
                exact ⟨(f1 _ hg2).trans hg.1, Nat.lt_of_lt_of_le hg2 f2.size⟩
              · have h2 := HNR.out.still S2.out
                refine ⟨h2.1, fun hn => ?_⟩
                obtain ⟨b, o', e, hb, hc⟩ := h2.2 hn
                refine ⟨b, o', e, Nat.lt_of_lt_of_le hb f2.size, fun i p hp => ?_⟩
                injection e with e
                injection e with e
                subst e
                exact (World.cell?_of_block (w := w2) (f2.block gs hb (fun hh => hh hg.1))).trans (hc i p hp))
            go_roundw
            case rel => exact ⟨i + 1, by have := HLT.out; omega, by go_num, by rw [EX.out]; exact NEXT.out.1, NEXT.out.2⟩
            case measure => simp [intOf]; have := HLT.out; omega
        · obtain rfl : i = n := by omega
          have eN : N.take i = N := List.take_of_length_le (by have := LEN.out; omega)
          rw [eN] at hop
          have HOP := Lib.hid hop
          clear hh hop hnr hlt
          go_wp2_with fail
          go_ret2
          obtain ⟨lo, a, b, c, _⟩ := HOP.out
          exact ⟨b, .inr (.inr ⟨(by first | rfl | trivial), HLI.out, gl, rfl, lo, a, b, c, fun x o e => by cases e⟩)⟩
    · by_cases h1 : limit < 128
      · have HLI := Lib.hid hlim
        clear h hg T hne hnm hb0 ho hlim
        go_enter Tryz.func18, Tryz.ntmps18
        go_wp2_with fail
        refine SZ.out.mono ?_
        rintro e w1 ⟨rfl, rfl⟩
        go_wp2_with fail
        go_ret2
        exact ⟨Still.refl _, .inr (.inl ⟨(by first | rfl | trivial), HLI.out, rfl⟩)⟩
      · have h2 : 1048576 < limit := by omega
        have HLI := Lib.hid hlim
        clear h hg T hne hnm hb0 ho hlim
        go_enter Tryz.func18, Tryz.ntmps18
        go_wp2_with fail
        refine SZ.out.mono ?_
        rintro e w1 ⟨rfl, rfl⟩
        go_wp2_with fail
        go_ret2
        exact ⟨Still.refl _, .inr (.inl ⟨(by first | rfl | trivial), HLI.out, rfl⟩)⟩
end Go.Proofs.YtfneloobfidckaaGreatDoor

/- Contracts: bytes as a number, the document's own answer. It proves no statement. -/


namespace Go.Proofs.YtfneloobfidckaaGreatDoor
open Go.RowKit
set_option linter.unusedVariables false
set_option linter.unusedSimpArgs false

/-- The number that bytes are, the lowest first. -/
def leNum : List UInt8 → Nat
  | [] => 0
  | b :: r => b.toNat + 256 * leNum r

theorem leNum_snoc (l : List UInt8) (b : UInt8) : leNum (l ++ [b]) = leNum l + b.toNat * 2 ^ (8 * l.length) := by
  induction l with
  | nil => simp [leNum]
  | cons c r ih =>
    simp only [List.cons_append, leNum, ih, List.length_cons]
    rw [show 8 * (r.length + 1) = 8 + 8 * r.length by omega, Nat.pow_add, Nat.mul_add]
    have : 256 * (b.toNat * 2 ^ (8 * r.length)) = b.toNat * (2 ^ 8 * 2 ^ (8 * r.length)) := by
      rw [Nat.mul_left_comm]
    omega
theorem leNum_lt (l : List UInt8) : leNum l < 2 ^ (8 * l.length) := by
  induction l with
  | nil => simp [leNum]
  | cons c r ih =>
    have := c.toNat_lt
    simp only [leNum, List.length_cons]
    rw [show 8 * (r.length + 1) = 8 + 8 * r.length by omega, Nat.pow_add]
    omega
theorem leNum_take (l : List UInt8) (k : Nat) (h : k < l.length) : leNum (l.take (k + 1)) = leNum (l.take k) + (l.getD k 0).toNat * 2 ^ (8 * k) := by
  have e : l.take (k + 1) = l.take k ++ [l.getD k 0] := by
    rw [List.take_add_one]; simp [List.getD, h]
  rw [e, leNum_snoc]
  simp [show min k l.length = k by omega]
theorem pow_le8 (k : Nat) (h : k ≤ 7) : 2 ^ (8 * k) ≤ 72057594037927936 := by
  have := Nat.pow_le_pow_right (show 0 < 2 by omega) (show 8 * k ≤ 56 by omega)
  simpa using this
theorem u64_wrap_nat (x : Nat) (h : x < 18446744073709551616) : IntKind.u64.wrap (x : Int) = (x : Int) := by
  rw [IntKind.wrap_u64]; omega
theorem rget_no (A : Option Addr) (n c : Nat) (w : World) (h : n < 1 ∨ 8 < n) :
    Calls Tryz.prog 171 #[.slice A n c] w fun e w' => e = .returned (.tuple #[.int .u64 0, .bool false]) ∧ w = w' := by
  rcases h with h | h
  · obtain rfl : n = 0 := by omega
    go_enter Tryz.func171, Tryz.ntmps171
    go_wp2
    go_ret2
    exact ⟨rfl, rfl⟩
  · have h0 : ((n : Int) == 0) = false := by simp; omega
    go_enter Tryz.func171, Tryz.ntmps171
    go_wp2
    go_ret2
    exact ⟨rfl, rfl⟩

set_option maxHeartbeats 400000 in
theorem rget_yes (A : Option Addr) (n c : Nat) (l : List UInt8) (w : World) (B : Nat) (h : Reads w B A n l) (h1 : 1 ≤ n) (h2 : n ≤ 8) :
    Calls Tryz.prog 171 #[.slice A n c] w fun e w' => e = .returned (.tuple #[.int .u64 (leNum l : Int), .bool true]) ∧ w = w' := by
  have hl := h.1
  obtain ⟨b, o, rfl, hb, hc⟩ := h.at_ (by omega)
  have h0 : ((n : Int) == 0) = false := by simp; omega
  have h8 : decide ((8 : Int) < n) = false := by simp; omega
  go_enter Tryz.func171, Tryz.ntmps171
  go_wp2_with fail
  go_loop [4, 5] (fun x i => ∃ k : Nat, k ≤ n ∧ i = .int .i64 ((n : Int) - 1 - k) ∧ ∃ y : Nat, x = .int .u64 y ∧ Hid (y = leNum (l.drop (n - k)))) (fun _ i => (intOf i + 1).toNat)
  case atStart => exact ⟨0, Nat.zero_le _, by simp, 0, rfl, by show _ = _; rw [List.drop_of_length_le (by omega)]; rfl⟩
  case round =>
    obtain ⟨k, hk, rfl, y, rfl, hy⟩ := hrel
    by_cases hlt : k < n
    · obtain ⟨j, hj⟩ : ∃ j : Nat, n = k + 1 + j := ⟨n - k - 1, by omega⟩
      have hj' : ((n : Int) - 1 - (k : Int)) = (j : Int) := by omega
      rw [hj']
      have c1 := hc j (by omega)
      obtain ⟨d, hd⟩ : ∃ d, d = (l.getD j 0).toNat := ⟨_, rfl⟩
      rw [← hd] at c1
      have hd' : d < 256 := by rw [hd]; exact (l.getD j 0).toNat_lt
      have HD := Lib.hid hd
      have hyb : y < 72057594037927936 := by
        have := leNum_lt (l.drop (n - k))
        have h8 := pow_le8 k (by omega)
        rw [hy.out]
        simp only [List.length_drop, show l.length - (n - k) = k by omega] at this
        omega
      have J := Lib.hid hj
      have z1 : (j : Int) < (n : Int) := by omega
      clear hc hd hj hj'
      go_wp2_with fail
      have hj := J.out
      go_round
      case rel =>
        refine ⟨k + 1, by omega, by go_num, d + 256 * y, ?_, ?_⟩
        · go_num
        · show _ = _
          rw [show n - (k + 1) = j by omega, List.drop_eq_getElem_cons (by omega), hy.out, HD.out, show n - k = j + 1 by omega]
          simp [leNum, List.getD, show j < l.length by omega]
      case measure => simp [intOf]
    · obtain rfl : k = n := by omega
      have e := hy.out
      rw [Nat.sub_self, List.drop_zero] at e
      have E := Lib.hid e
      clear e hy
      go_wp2_with fail
      go_ret2
      rw [E.out]
      exact ⟨rfl, rfl⟩
end Go.Proofs.YtfneloobfidckaaGreatDoor

/- Contract: bytes as a number, the lowest first. It proves no statement. -/



namespace Go.Proofs.YtfneloobfidckaaGreatDoor
open Go.RowKit
set_option linter.unusedVariables false
set_option linter.unusedSimpArgs false

theorem get_or (y d k : Nat) (hy : y < 2 ^ (8 * k)) (hd : d < 256) (hk : k ≤ 7) :
    bits BinOp.or IntKind.u64 (y : Int) (IntKind.u64.wrap ((d : Int) * 2 ^ (8 * k))) = ((y + d * 2 ^ (8 * k) : Nat) : Int) := by
  have hp := pow_le8 k hk
  have hm : d * 2 ^ (8 * k) ≤ 255 * 72057594037927936 := Nat.mul_le_mul (by omega) hp
  have e : (d : Int) * 2 ^ (8 * k) = ((d * 2 ^ (8 * k) : Nat) : Int) := by simp
  rw [e, u64_wrap_nat _ (by omega), u64_or_nat _ _ (by omega) (by omega), Nat.or_comm, nat_join (8 * k) _ _ (by simp) hy, Nat.add_comm]
set_option maxHeartbeats 400000 in
theorem get_yes (A : Option Addr) (n c : Nat) (l : List UInt8) (w : World) (B : Nat) (h : Reads w B A n l) (h1 : 1 ≤ n) (h2 : n ≤ 8) :
    Calls Tryz.prog 211 #[.slice A n c] w fun e w' => e = .returned (.tuple #[.int .u64 (leNum l : Int), .bool true]) ∧ w = w' := by
  have hl := h.1
  obtain ⟨b, o, rfl, hb, hc⟩ := h.at_ (by omega)
  go_enter Tryz.func211, Tryz.ntmps211
  go_wp2_with (go_at_call 193; refine (fits_yes _ _ (by omega) (by omega)).mono ?_; rintro e w' ⟨rfl, rfl⟩)
  go_loop [4, 13] (fun x i => ∃ k : Nat, k ≤ n ∧ i = .int .i64 k ∧ ∃ y : Nat, x = .int .u64 y ∧ Hid (y = leNum (l.take k))) (fun _ i => n - (intOf i).toNat)
  case atStart => exact ⟨0, Nat.zero_le _, rfl, 0, rfl, rfl⟩
  case round =>
    obtain ⟨k, hk, rfl, y, rfl, hy⟩ := hrel
    by_cases hlt : k < n
    · have c1 := hc k hlt
      obtain ⟨d, hd⟩ : ∃ d, d = (l.getD k 0).toNat := ⟨_, rfl⟩
      rw [← hd] at c1
      have hd' : d < 256 := by rw [hd]; exact (l.getD k 0).toNat_lt
      have HD := Lib.hid hd
      clear hc hd
      go_wp2_with fail
      go_round
      case rel =>
        have hyb : y < 2 ^ (8 * k) := by
          have := leNum_lt (l.take k)
          rw [hy.out]
          simpa [show min k l.length = k by omega] using this
        refine ⟨k + 1, by omega, by go_num, y + d * 2 ^ (8 * k), ?_, ?_⟩
        · rw [get_or y d k hyb hd' (by omega)]
        · show _ = _
          rw [leNum_take l k (by omega), hy.out, HD.out]
      case measure => simp [intOf]; omega
    · obtain rfl : k = n := by omega
      have e := hy.out
      rw [List.take_of_length_le (by omega)] at e
      have E := Lib.hid e
      clear e hy
      go_wp2_with fail
      go_ret2
      rw [E.out]
      exact ⟨rfl, rfl⟩
theorem get_no (A : Option Addr) (n c : Nat) (w : World) (h : n < 1 ∨ 8 < n) :
    Calls Tryz.prog 211 #[.slice A n c] w fun e w' => e = .returned (.tuple #[.int .u64 0, .bool false]) ∧ w = w' := by
  go_enter Tryz.func211, Tryz.ntmps211
  go_wp2_with (go_at_call 193; refine (fits_no _ _ (by omega)).mono ?_; rintro e w' ⟨rfl, rfl⟩)
  go_ret2
  exact ⟨rfl, rfl⟩
end Go.Proofs.YtfneloobfidckaaGreatDoor
