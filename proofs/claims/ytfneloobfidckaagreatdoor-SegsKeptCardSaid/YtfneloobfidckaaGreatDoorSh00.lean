/- Contracts and facts, several texts in one. It proves no statement. -/
import Derived.Test.YtfneloobfidckaaGreatDoorSf33
import Derived.Test.YtfneloobfidckaaGreatDoorSf30
import Derived.Test.YtfneloobfidckaaGreatDoorSf34
import Derived.Test.YtfneloobfidckaaGreatDoorSf20
import Derived.Test.YtfneloobfidckaaGreatDoorSf32
import Derived.Test.YtfneloobfidckaaGreatDoorSf42
import Derived.Test.YtfneloobfidckaaGreatDoorSf28

/- Contract: slices.Delete of one segment. It proves no statement. -/

namespace Go.Proofs.YtfneloobfidckaaGreatDoor
open Go.RowKit Go.Maps Go.WideMaps Go.Sort
set_option linter.unusedVariables false
set_option linter.unusedSimpArgs false

theorem segV_take (X : List (Nat × Nat)) (i : Nat) : segV (X.take i) = (segV X).take (i * 2) := by
  induction X generalizing i with
  | nil => simp [segV]
  | cons x r ih =>
    cases i with
    | zero => simp [segV]
    | succ i =>
      have e : ∀ (y : Nat × Nat) r, segV (y :: r) = .int .i64 (y.1 : Int) :: .int .i64 (y.2 : Int) :: segV r := fun y r => by simp [segV]
      rw [List.take_succ_cons, e, e, ih, show (i + 1) * 2 = i * 2 + 1 + 1 by omega, List.take_succ_cons, List.take_succ_cons]
theorem segV_drop (X : List (Nat × Nat)) (i : Nat) : segV (X.drop i) = (segV X).drop (i * 2) := by
  induction X generalizing i with
  | nil => simp [segV]
  | cons x r ih =>
    cases i with
    | zero => simp [segV]
    | succ i =>
      have e : ∀ (y : Nat × Nat) r, segV (y :: r) = .int .i64 (y.1 : Int) :: .int .i64 (y.2 : Int) :: segV r := fun y r => by simp [segV]
      rw [List.drop_succ_cons, e, ih, show (i + 1) * 2 = i * 2 + 1 + 1 by omega, List.drop_succ_cons, List.drop_succ_cons]
theorem segV_erase (X : List (Nat × Nat)) (i : Nat) : segV (X.eraseIdx i) = (segV X).take (i * 2) ++ (segV X).drop ((i + 1) * 2) := by
  rw [List.eraseIdx_eq_take_drop_succ, segV_append, segV_take, segV_drop]
theorem segV_one' (X : List (Nat × Nat)) : ∀ u ∈ segV X, u.oneCell' = true := by
  intro u hu
  unfold segV at hu
  obtain ⟨p, _, hp⟩ := List.mem_flatMap.1 hu
  simp at hp
  rcases hp with rfl | rfl <;> rfl
theorem load_cells {P : Program} {W : World} {b o : Nat} {cs : List Value} {k : Nat} (hk : cs.length = k) (h : ∀ j v, cs[j]? = some v → W.cell? ⟨b, o + j, none⟩ = some v) : Sem.run P (loadCellsFrom ⟨b, o, none⟩ 0 k #[]) W = .ok cs.toArray W := by
  have := run_loadCells_list (P := P) (w := W) ⟨b, o, none⟩ cs (fun j v hv => by rw [Addr.add_lit]; exact h j v hv)
  rw [hk] at this
  simpa [loadCells] using this
theorem del_grown (w : World) (b : Nat) (c1 c2 : Array Value) : w.grownBy ((w.drew.setRow b c1).setRow b c2) (some b) := by
  have c := ((Chg.drew w (fun k => k = b)).trans (chg_setRow w.drew b c1) (fun _ _ h => h)).trans (chg_setRow _ b c2) (fun _ _ h => h)
  exact ⟨c.os, c.tape, c.output, c.size, fun k hk hne => c.block k hk (fun e => hne (by rw [e]))⟩
theorem del_grown1 (w : World) (b : Nat) (c2 : Array Value) : w.grownBy (w.drew.setRow b c2) (some b) := by
  have c := (Chg.drew w (fun k => k = b)).trans (chg_setRow _ b c2) (fun _ _ h => h)
  exact ⟨c.os, c.tape, c.output, c.size, fun k hk hne => c.block k hk (fun e => hne (by rw [e]))⟩
theorem del_own {W : World} {base n r c b i : Nat} {X : List (Nat × Nat)} {row1 : Array Value} (hnr : n = r + 1) (hnc : n ≤ c) (hcm : c ≤ 9223372036854775807) (hX : X.length = n) (hi : i ≤ r) (hbb : base ≤ b) (hr1 : row1.size = c * 2) (ht1 : row1.toList.take (r * 2) = segV (X.eraseIdx i)) (hh : W.heap[b]? = some (.cells row1 160 (0, 0))) :
    (W.setRow b (row1.toList.take (r * 2) ++ Value.int .i64 0 :: Value.int .i64 0 :: row1.toList.drop (r * 2 + 2)).toArray).ownsRow base 160 2 (.slice (some ⟨b, 0, none⟩) r c) r (segV (X.eraseIdx i)) := by
  have hl : row1.toList.length = c * 2 := by rw [← hr1]; exact Array.length_toList
  have e : (row1.toList.take (r * 2)).length = r * 2 := by rw [List.length_take, hl]; omega
  have hlen : (segV (X.eraseIdx i)).length = r * 2 := by rw [← ht1, e]
  refine ⟨hlen, .inr ⟨b, c, _, rfl, hbb, setRow_heap _ _ _ _ _ _ hh, by omega, by unfold maxLen; omega, ?_, ?_⟩⟩
  · simp only [List.size_toArray, List.length_append, e, List.length_drop, hl, List.length_cons, List.length_nil]
    omega
  · rw [List.toList_toArray]
    have : ((row1.toList.take (r * 2)) ++ (Value.int .i64 0 :: Value.int .i64 0 :: row1.toList.drop (r * 2 + 2))).take (row1.toList.take (r * 2)).length = row1.toList.take (r * 2) := List.take_left
    rw [e] at this
    rw [this, ht1]
theorem zeroSegI : (Tryz.prog.info? 160).map (fun i => (i.zero, i.size)) = some (some (.agg #[.int .i64 0, .int .i64 0]), 2) := by kernel_rfl
theorem clear_seg {W W' : World} {b o c : Nat} (l3 : Sem.run Tryz.prog (storeCells ⟨b, o, none⟩ [Value.int .i64 0, Value.int .i64 0]) W = .ok () W') : Sem.run Tryz.prog (Builtin.clear_ #[154] 0 #[.slice (some ⟨b, o, none⟩) 1 c]) W = .ok (.tuple #[]) W' := by
  cases hi : Tryz.prog.info? 160 with
  | none => have := zeroSegI; rw [hi] at this; cases this
  | some inf =>
    have h0 := zeroSegI
    rw [hi] at h0
    simp only [Option.map_some, Option.some.injEq, Prod.mk.injEq] at h0
    obtain ⟨h1, h2⟩ := h0
    have hz : (Builtin.zeroCells #[Value.int .i64 0, Value.int .i64 0] 1).toList = [Value.int .i64 0, Value.int .i64 0] := by kernel_rfl
    simp [Builtin.clear_, run_underlying Tryz.underlying154, zeroValue, typeInfo, hi, h1, Value.cells, hz, l3]
set_option maxRecDepth 100000 in
set_option maxHeartbeats 6400000 in
theorem del_any {w : World} {base n r c b i : Nat} {X : List (Nat × Nat)} (h : w.ownsRow base 160 2 (.slice (some ⟨b, 0, none⟩) n c) n (segV X)) (hX : X.length = n) (hnr : n = r + 1) (hi : i ≤ r) (hn : n ≤ 1048577) (hnc : n ≤ c) (hcm : c ≤ 9223372036854775807) :
    Calls Tryz.prog 154 #[.slice (some ⟨b, 0, none⟩) n c, .int .i64 (i : Int), .int .i64 ((i : Int) + 1)] w fun e w' => e = .returned (.slice (some ⟨b, 0, none⟩) r c) ∧ w'.ownsRow base 160 2 (.slice (some ⟨b, 0, none⟩) r c) r (segV (X.eraseIdx i)) ∧ w.grownBy w' (some b) := by
  obtain ⟨cur, hbb, hg, hcs, htk⟩ : ∃ cur, base ≤ b ∧ w.heap[b]? = some (.cells cur 160 (0, 0)) ∧ cur.size = c * 2 ∧ cur.toList.take (n * 2) = segV X := by
    rcases h.2 with ⟨e, h0⟩ | ⟨g, cap, cur, e, h1, h2, h3, h4, h5, h6⟩
    · cases e
    · injection e with e1 e2 e3
      injection e1 with e1
      injection e1 with e1
      subst e1 e3
      exact ⟨cur, h1, h2, h5, h6⟩
  obtain ⟨news, hnews⟩ : ∃ news, news = (segV X).drop ((i + 1) * 2) := ⟨_, rfl⟩
  have hnl : news.length = (n - (i + 1)) * 2 := by rw [hnews, List.length_drop, segV_length, hX]; omega
  have hn1 : ∀ u ∈ news, u.oneCell' = true := fun u hu => segV_one' X u (by rw [hnews] at hu; exact List.mem_of_mem_drop hu)
  have hcl : cur.toList.length = c * 2 := by rw [← hcs]; exact Array.length_toList
  have LD := Lib.hid (fun (W : World) (hW : W.heap[b]? = some (.cells cur 160 (0, 0))) => show Sem.run Tryz.prog (loadCellsFrom ⟨b, (i + 1) * 2, none⟩ 0 ((n - (i + 1)) * 2) #[]) W = .ok news.toArray W from load_cells hnl (fun j v hv => by
    have hj := (List.getElem?_eq_some_iff.1 hv).1
    rw [cell_of_row W b _ cur _ (0, 0) hW, ← hv, hnews, ← htk, List.getElem?_drop, List.getElem?_take, if_pos (by omega), Array.getElem?_toList]))
  obtain ⟨row1, hrow1⟩ : ∃ row1, row1 = (cur.toList.take (i * 2) ++ news ++ cur.toList.drop (i * 2 + news.length)).toArray := ⟨_, rfl⟩
  have ST := Lib.hid (fun (W : World) (hW : W.heap[b]? = some (.cells cur 160 (0, 0))) => show Sem.run Tryz.prog (storeCells ⟨b, i * 2, none⟩ news) W = .ok () (W.setRow b row1) from by
    have := run_storeCells_at Tryz.prog b (i * 2) 160 news 0 cur W hW (by omega) hn1
    rw [hrow1]
    simpa using this)
  have hr1 : row1.size = c * 2 := by
    rw [hrow1]
    simp only [List.size_toArray, List.length_append, List.length_take, List.length_drop, hcl, hnl]
    omega
  have ht1 : row1.toList.take (r * 2) = segV (X.eraseIdx i) := by
    have e : (cur.toList.take (i * 2) ++ news).length = r * 2 := by
      rw [List.length_append, List.length_take, hcl, hnl]; omega
    rw [hrow1, segV_erase, ← hnews, List.toList_toArray, ← e, List.take_left]
    congr 1
    rw [← htk, List.take_take, Nat.min_eq_left (by omega)]
  have CL := Lib.hid (fun (W : World) (hW : W.heap[b]? = some (.cells row1 160 (0, 0))) => show Sem.run Tryz.prog (storeCells ⟨b, r * 2, none⟩ [Value.int .i64 0, Value.int .i64 0]) W = .ok () (W.setRow b (row1.toList.take (r * 2) ++ [Value.int .i64 0, Value.int .i64 0] ++ row1.toList.drop (r * 2 + 2)).toArray) from by
    have := run_storeCells_at Tryz.prog b (r * 2) 160 [Value.int .i64 0, Value.int .i64 0] 0 row1 W hW (by rw [hr1]; show _ + 0 + 2 ≤ _; omega) (by simp [Value.oneCell'])
    simpa using this)
  have RC := Lib.hid (show c = i + 1 → row1 = cur from fun e => by
    have hn0 : news = [] := List.eq_nil_of_length_eq_zero (by rw [hnl]; omega)
    rw [hrow1, hn0, List.append_nil, List.length_nil, Nat.add_zero, List.take_append_drop, Array.toArray_toList])
  have HG := Lib.hid hg
  have HNR := Lib.hid (And.intro hnr hi)
  have HX := Lib.hid (And.intro hX (And.intro hn (And.intro hbb (And.intro hr1 ht1))))
  have z0 : (0 : Int) ≤ (i : Int) := by omega
  have z1 : (i : Int) ≤ (i : Int) + 1 := by omega
  have z2 : (i : Int) + 1 ≤ (n : Int) := by omega
  have z3 : (i : Int) ≤ (n : Int) := by omega
  have z9 : (i : Int) ≤ (c : Int) := by omega
  have za : (0 : Int) ≤ (i : Int) + 1 := by omega
  have zb : ¬ c = 0 := by omega
  have zc : ((i : Int) + 1).toNat = i + 1 := by omega
  have zd : (r : Int) ≤ (c : Int) := by omega
  have ze : (n : Int) ≤ (c : Int) := by omega
  have z4 : i + (n - (i + 1)) = r := by omega
  have z6 : (0 : Int) ≤ (r : Int) := by omega
  have z7 : (r : Int) ≤ (n : Int) := by omega
  have z8 : n - r = 1 := by omega
  have z5 : ((i : Int) == (i : Int) + 1) = false := by rw [beq_eq_false_iff_ne]; omega
  clear h hX hn hnr hi hg hcs htk hnews hrow1 hr1 ht1 hcl hnl hn1 hbb
  go_enter Tryz.func154, Tryz.ntmps154
  go_upto_region 5 with fail
  have l1 := LD.out w.drew HG.out
  have l2 := ST.out w.drew HG.out
  by_cases hc : c = i + 1
  · have hcr : r = i := by have := HNR.out; omega
    subst hcr
    have hcn : n = r + 1 := HNR.out.1
    subst hcn
    subst hc
    have hrc := RC.out rfl
    have GC := Lib.hid (show w.drew.heap[b]? = some (.cells row1 160 (0, 0)) by rw [hrc]; exact HG.out)
    clear hrc l1 l2 LD ST RC
    go_region_held3 (fun _ => True) (trivial) (fail)
    all_goals
      have l3 := CL.out _ GC.out
      have l4 := clear_seg (c := 1) l3
      obtain ⟨W, hW⟩ : ∃ W, W = w.drew := ⟨_, rfl⟩
      have HW := Lib.hid hW
      rw [← hW] at l3 l4 ⊢
      clear hW l3
      go_wp2_with fail
      go_ret
      refine ⟨rfl, ?_, ?_⟩
      · rw [HW.out]
        exact del_own rfl hnc hcm HX.out.1 HNR.out.2 HX.out.2.2.1 HX.out.2.2.2.1 HX.out.2.2.2.2 GC.out
      · rw [HW.out]
        exact del_grown1 w _ _
  · have c1 : ¬ ((c : Int) = (i : Int) + 1) := by omega
    have c2 : ¬ ((i : Int) + 1 = (c : Int)) := by omega
    go_region_held3 (fun _ => True) (trivial) (fail)
    all_goals
      have hb3 : (w.drew.setRow b row1).heap[b]? = some (.cells row1 160 (0, 0)) := setRow_heap w.drew b _ _ _ _ HG.out
      have l3 := CL.out _ hb3
      have l4 := clear_seg (c := c - r) l3
      clear l1 l2 hb3
      obtain ⟨W, hW⟩ : ∃ W, W = w.drew.setRow b row1 := ⟨_, rfl⟩
      have HW := Lib.hid hW
      rw [← hW] at l3 l4 ⊢
      clear hW
      clear l3
      go_wp2_with fail
      go_ret
      refine ⟨rfl, ?_, ?_⟩
      · rw [HW.out]
        exact del_own HNR.out.1 hnc hcm HX.out.1 HNR.out.2 HX.out.2.2.1 HX.out.2.2.2.1 HX.out.2.2.2.2 (setRow_heap w.drew b _ _ _ _ HG.out)
      · rw [HW.out]
        exact del_grown w b _ _
end Go.Proofs.YtfneloobfidckaaGreatDoor

/- Contract: a segment taken away. It proves no statement. -/


namespace Go.Proofs.YtfneloobfidckaaGreatDoor
open Go.RowKit Go.Maps Go.WideMaps Go.Sort
set_option linter.unusedVariables false
set_option linter.unusedSimpArgs false

/-- A log without its i-th segment. -/
def Lg.cut (S : Lg) (i : Nat) : Lg := { limit := S.limit, segs := S.segs.eraseIdx i, fresh := if S.segs.length ≤ i + S.fresh then S.fresh - 1 else S.fresh, isOpen := if i + 1 = S.segs.length then false else S.isOpen }
def dropL (M : Me) (S : Lg) (i : Nat) : Int × Me × Lg := match S.segs[i]? with
  | some p => if (opRemove M (nameS (p.1 : Int))).1 ≠ 0 then ((opRemove M (nameS (p.1 : Int))).1, (opRemove M (nameS (p.1 : Int))).2, S) else (0, (opRemove M (nameS (p.1 : Int))).2, S.cut i)
  | none => (0, M, S)
theorem drop_turn {W3 W5 W6 : World} {base g gl bq r c i : Nat} {own : Own} {lo : LOwn} {M : Me} {S S5 : Lg} {sv : Value} (h : LM W3 base g gl own lo M S) (hl : LogI W3 base lo g gl S sv) (hsv : sv.ownBlock = some bq) (cc : Chg W3 W5 (fun b => b = gl)) (b5 : Blk W5 gl 156 (logC g S5 sv)) (o6 : W6.ownsRow base 160 2 (.slice (some ⟨bq, 0, none⟩) r c) r (segV (S.segs.eraseIdx i))) (g6 : W5.grownBy W6 (some bq)) (hr : (S.segs.eraseIdx i).length = r) :
    W6.cell? ⟨gl, 2, none⟩ = some sv ∧ W6.frozen? ⟨gl, 2, none⟩ = false ∧ LLeft W3 (W6.setCell ⟨gl, 2, none⟩ (.slice (some ⟨bq, 0, none⟩) r c)) base g gl own lo M { S5 with segs := S.segs.eraseIdx i } := by
  have hne : bq ≠ gl := fun e => own_neM hl.blk hl.row (by decide) (by rw [hsv, e])
  have c6 : Chg W5 W6 (fun b => b = bq) := Chg.of_grown g6 (S := fun b => b = bq) (fun k hk _ => by injection hk with hk; exact hk.symm)
  have b6 : Blk W6 gl 156 (logC g S5 sv) := c6.blk b5 (fun e => hne e.symm)
  have c7 := chg_set W6 gl 2 (.slice (some ⟨bq, 0, none⟩) r c)
  refine ⟨b6.cell 2, b6.frozen 2, h.turn hl (((cc.mono (fun b _ e => .inl e)).trans c6 (fun b _ e => .inr (by rw [hsv, show b = bq from e]))).trans c7 (fun b _ e => .inl e)) (sv' := .slice (some ⟨bq, 0, none⟩) r c) (b6.setc 2 _) ?_ (.inl hsv.symm)⟩
  have o7 := c7.own o6 (fun k hk e => hne (by have e2 : some bq = some k := hk; injection e2 with e2; rw [e2]; exact e))
  show World.ownsRow _ _ _ _ _ (S.segs.eraseIdx i).length _
  rw [hr]
  exact o7
set_option maxRecDepth 100000 in
set_option maxHeartbeats 12800000 in
theorem drop_any {w0 w : World} {base g gl k i : Nat} {own : Own} {lo : LOwn} {M : Me} {S : Lg} {p : Nat × Nat} (h : LM w base g gl own lo M S) (hok : S.ok) (hg : M.good k) (hk : k ≤ 700000) (T : SgT w0) (s0 : Still w0 w) (hp : S.segs[i]? = some p) :
    Calls Tryz.prog 91 #[.pointer (some ⟨gl, 0, none⟩), .int .i64 (i : Int)] w fun e w' => e = .returned (.int .i64 (dropL M S i).1) ∧ LLeft w w' base g gl own lo (dropL M S i).2.1 (dropL M S i).2.2 := by
  have hi := (List.getElem?_eq_some_iff.1 hp).1
  obtain ⟨n, hn⟩ : ∃ n, n = S.segs.length := ⟨_, rfl⟩
  obtain ⟨r, hnr⟩ : ∃ r, n = r + 1 := ⟨n - 1, by omega⟩
  have hfew := hok.few
  have hfr := hok.fresh
  obtain ⟨sv, hl⟩ := h.log
  obtain ⟨A, c, hsv, q1, q2, hcl⟩ := hl.form
  obtain ⟨bq, hA, hlo, d1, d2⟩ := hcl i p hp
  subst hA
  rw [← hn] at hsv q1
  have k0 := hl.cells.1
  have k2 := hl.cells.2.2.1
  rw [hsv] at k2
  have hgl : gl < w.heap.size := hl.blk.lt
  have hbq : bq < w.heap.size := (hl.dom bq (by rw [hlo]; simp)).2
  have KC := Lib.hid (fun W (s : Still w W) => show W.cell? ⟨gl, 0, none⟩ = some (.pointer (some ⟨g, 0, none⟩)) ∧ W.cell? ⟨gl, 2, none⟩ = some (.slice (some ⟨bq, 0, none⟩) n c) ∧ W.cell? ⟨bq, i * 2, none⟩ = some (.int .i64 (p.1 : Int)) from ⟨(s.cell (p := ⟨gl, 0, none⟩) hgl).trans k0, (s.cell (p := ⟨gl, 2, none⟩) hgl).trans k2, (s.cell (p := ⟨bq, i * 2, none⟩) hbq).trans d1⟩)
  have NM := Lib.hid (fun W (s : Still w W) => name_any (p.1 : Int) W (T.still (Still.trans s0 s)))
  have RM := Lib.hid (fun W (s : Still w W) => remove_M (nameS (p.1 : Int)) (h.med.still s) hg.ok (by have := hg.cnt; omega) (by have := nameS_size (p.1 : Int); unfold maxLen; omega))
  obtain ⟨M2, hM2⟩ : ∃ M2, M2 = (opRemove M (nameS (p.1 : Int))).2 := ⟨_, rfl⟩
  obtain ⟨er, her⟩ : ∃ er, er = (opRemove M (nameS (p.1 : Int))).1 := ⟨_, rfl⟩
  have EL := Lib.hid (show dropL M S i = if er ≠ 0 then (er, M2, S) else (0, M2, S.cut i) by unfold dropL; rw [hp, hM2, her])
  rw [← hM2, ← her] at RM
  clear hM2 her
  have CELLS := Lib.hid (fun W W' (s : Still w W) (l : Left W W' base g own M2) => show W'.cell? ⟨gl, 0, none⟩ = some (.pointer (some ⟨g, 0, none⟩)) ∧ W'.cell? ⟨gl, 2, none⟩ = some (.slice (some ⟨bq, 0, none⟩) n c) ∧ W'.cell? ⟨bq, i * 2, none⟩ = some (.int .i64 (p.1 : Int)) from by
    have n1 : own gl = none := h.ap2 gl (by rw [hl.ol]; simp)
    have n2 : own bq = none := h.ap2 bq (by rw [hlo]; simp)
    exact ⟨(World.cell?_of_block (w := W) (l.1.block gl (Nat.lt_of_lt_of_le hgl s.size) (fun hh => hh n1))).trans (KC.out W s).1, (World.cell?_of_block (w := W) (l.1.block gl (Nat.lt_of_lt_of_le hgl s.size) (fun hh => hh n1))).trans (KC.out W s).2.1, (World.cell?_of_block (w := W) (l.1.block bq (Nat.lt_of_lt_of_le hbq s.size) (fun hh => hh n2))).trans (KC.out W s).2.2⟩)
  -- what stands behind Remove
  have AFT := Lib.hid (fun W W' (s : Still w W) (l : Left W W' base g own M2) => show LLeft w W' base g gl own lo M2 S ∧ ∃ lo', LogI W' base lo' g gl S (.slice (some ⟨bq, 0, none⟩) n c) ∧ ∃ own', LM W' base g gl own' lo' M2 S ∧ ∀ W7 S7, LLeft W' W7 base g gl own' lo' M2 S7 → LLeft w W7 base g gl own lo M2 S7 from by
    have LL := LLeft.med (h.still s) l
    obtain ⟨c1, own1, lo1, ho1, lm1⟩ := LL
    have hW := hl.keep (Chg.of_still s (fun _ => False)) (fun _ h => h.elim)
    have hl1 : LogI W' base lo g gl S sv := hW.keep l.1 (fun x hx => h.ap x hx)
    refine ⟨LLeft.of_still s ⟨c1, own1, lo1, ho1, lm1⟩, lo1, ?_, own1, lm1, fun W7 S7 z => LLeft.of_still s (LLeft.chain c1 ho1 z)⟩
    rw [← hsv]
    refine ⟨hl1.blk, hl1.row, ?_, fun x hx => ?_, fun x hx => ?_⟩
    · rw [(ho1 gl hW.blk.lt).2]; exact hl1.ol
    · rw [(ho1 x (hW.row.lt x hx).2).2]; exact hl1.os x hx
    · obtain ⟨sv1, hx1⟩ := lm1.log
      exact hx1.dom x hx)
  obtain ⟨nm, hnm⟩ : ∃ nm, nm = nameS (p.1 : Int) := ⟨_, rfl⟩
  rw [← hnm] at RM NM
  obtain ⟨pa, hpa⟩ : ∃ pa, pa = p.1 := ⟨_, rfl⟩
  rw [← hpa] at KC NM CELLS
  have z3 : (0 : Int) ≤ (i : Int) := by omega
  have z4 : (i : Int) < (n : Int) := by omega
  have HN := Lib.hid (show n = S.segs.length ∧ n = r + 1 ∧ i ≤ r ∧ n ≤ 1048576 ∧ S.fresh ≤ n ∧ n ≤ c ∧ c ≤ 9223372036854775807 from ⟨hn, hnr, by omega, by omega, by omega, q1, q2⟩)
  obtain ⟨fr, hfrs⟩ : ∃ fr, fr = S.fresh := ⟨_, rfl⟩
  have HFR := Lib.hid hfrs
  clear h hl hsv hcl hlo d1 d2 k0 k2 hgl hbq hok hg hk T s0 hp hi hfew hfr hnr hnm hpa hn hfrs
  go_enter Tryz.func91, Tryz.ntmps91
  go_upto_region 1 with fail
  have D1 := Lib.hid (show Still w w.drew from (Still.refl _).drew)
  go_region_held3 (fun W => W.cell? ⟨gl, 0, none⟩ = some (.pointer (some ⟨g, 0, none⟩)) ∧ W.cell? ⟨gl, 2, none⟩ = some (.slice (some ⟨bq, 0, none⟩) n c) ∧ W.cell? ⟨bq, i * 2, none⟩ = some (.int .i64 (pa : Int))) (first | exact KC.out _ D1.out | exact KC.out _ S2.out | exact HLD.out) (first
    | (go_at_call 89; with_reducible refine (NM.out _ D1.out).mono ?_; rintro e w2 ⟨rfl, s2⟩; have S2 := Lib.hid (Still.trans D1.out s2); clear s2)
    | (go_at_call 153; with_reducible refine (RM.out _ S2.out).mono ?_; rintro e w3 ⟨rfl, l3⟩; have L3 := Lib.hid l3; clear l3; have HLD := Lib.hid (CELLS.out _ _ S2.out L3.out)))
  all_goals
    by_cases z1 : er = 0
    · subst z1
      have E1 := Lib.hid (EL.out.trans (if_neg (by simp)))
      obtain ⟨_, lo3, x3, own3, lm3, ch3⟩ := AFT.out _ _ S2.out L3.out
      have LAST := Lib.hid (fun W (s : Still w3 W) => llast_w (x3.keep (Chg.of_still s (fun _ => False)) (fun _ h => h.elim)) (m := r) (by have := HN.out; omega) (by have := HN.out; omega))
      have X3 := Lib.hid x3
      have LM3 := Lib.hid lm3
      have CH3 := Lib.hid ch3
      have k4 := x3.cells.2.2.2.2
      have f4 := x3.frozen 4
      clear x3 lm3 ch3 NM RM KC CELLS AFT EL
      by_cases hlast : i = r
      · obtain ⟨W4, hW4⟩ : ∃ W4, W4 = w3.setCell ⟨gl, 4, none⟩ (.bool false) := ⟨_, rfl⟩
        have HB4 := Lib.hid (show Blk W4 gl 156 (logC g { S with isOpen := false } (.slice (some ⟨bq, 0, none⟩) n c)) by rw [hW4]; exact X3.out.blk.setc 4 (.bool false))
        have C4 := Lib.hid (show Chg w3 W4 (fun b => b = gl) by rw [hW4]; exact chg_set w3 gl 4 _)
        have HW4 := Lib.hid hW4
        have ie : (i : Int) = (r : Int) := by omega
        clear hW4
        go_wp2_with fail
        refine (LAST.out _ (Still.refl _)).mono ?_
        rintro e w4 ⟨rfl, h34⟩
        obtain rfl := h34.symm
        go_upto_region 6 with fail
        rw [← HW4.out]
        clear HW4 k4 f4
        have KD := Lib.hid (show W4.drew.cell? ⟨gl, 2, none⟩ = some (.slice (some ⟨bq, 0, none⟩) n c) ∧ W4.drew.cell? ⟨gl, 3, none⟩ = some (.int .i64 (fr : Int)) ∧ W4.drew.frozen? ⟨gl, 3, none⟩ = false from ⟨(Blk.still HB4.out (Still.refl W4).drew).cell 2, by rw [HFR.out]; exact (Blk.still HB4.out (Still.refl W4).drew).cell 3, (Blk.still HB4.out (Still.refl W4).drew).frozen 3⟩)
        have vs : IntKind.i64.wrap ((n : Int) - (fr : Int)) = (n : Int) - (fr : Int) := by have := HN.out; have := HFR.out; rw [IntKind.wrap_i64]; omega
        go_region_held3 (fun W => W.cell? ⟨gl, 2, none⟩ = some (.slice (some ⟨bq, 0, none⟩) n c) ∧ W.cell? ⟨gl, 3, none⟩ = some (.int .i64 (fr : Int))) (exact ⟨KD.out.1, KD.out.2.1⟩) (fail)
        all_goals
          clear vs
          by_cases hf : n ≤ i + fr
          · have hge : (n : Int) - (fr : Int) ≤ (i : Int) := by omega
            have k3d := KD.out.2.1
            have f3d := KD.out.2.2
            have v3 : wrap64 ((fr : Int) - 1) = ((fr - 1 : Nat) : Int) := by have := HN.out; have := HFR.out; unfold wrap64; omega
            have B5 : Blk ((W4.setCell ⟨gl, 3, none⟩ (.int .i64 ((fr - 1 : Nat) : Int))).drew) gl 156 (logC g { S with isOpen := false, fresh := fr - 1 } (.slice (some ⟨bq, 0, none⟩) n c)) := Blk.still (HB4.out.setc 3 (.int .i64 ((fr - 1 : Nat) : Int))) (Still.refl _).drew
            have C5 : Chg w3 ((W4.setCell ⟨gl, 3, none⟩ (.int .i64 ((fr - 1 : Nat) : Int))).drew) (fun b => b = gl) := (C4.out.trans (chg_set W4 gl 3 _) (fun _ _ h => h)).trans (Chg.drew _ (fun b => b = gl)) (fun _ _ h => h)
            obtain ⟨W5, hW5⟩ : ∃ W5, W5 = (W4.setCell ⟨gl, 3, none⟩ (.int .i64 ((fr - 1 : Nat) : Int))).drew := ⟨_, rfl⟩
            rw [← hW5] at B5 C5
            have HW5 := Lib.hid hW5
            clear hW5
            go_upto_region 8 with fail
            rw [← HW5.out]
            clear k3d f3d v3 hge
            have EC : S.cut i = { ({ S with isOpen := false, fresh := fr - 1 } : Lg) with segs := S.segs.eraseIdx i } := by
              unfold Lg.cut
              rw [if_pos (by have := HN.out; have := HFR.out; omega), if_pos (by have := HN.out; omega)]
              rw [HFR.out]
            rw [EC] at E1
            have EC2 := Lib.hid E1.out
            have hne : bq ≠ gl := fun e => own_neM X3.out.blk X3.out.row (by decide) (by show some bq = some gl; rw [e])
            have O5 := C5.own X3.out.row (fun k hk e => hne (by have e2 : some bq = some k := hk; injection e2 with e2; rw [e2]; exact e))
            rw [← HN.out.1] at O5
            have DEL := Lib.hid (del_any (r := r) (i := i) O5 HN.out.1.symm HN.out.2.1 HN.out.2.2.1 (by have := HN.out; omega) HN.out.2.2.2.2.2.1 HN.out.2.2.2.2.2.2)
            have TURN := Lib.hid (fun W6 o6 g6 => drop_turn (W6 := W6) (r := r) (c := c) (i := i) (S5 := { S with isOpen := false, fresh := fr - 1 }) LM3.out X3.out rfl C5 B5 o6 g6 (by rw [List.length_eraseIdx]; have := HN.out; rw [if_pos (by omega)]; omega))
            have k2 := B5.cell 2
            change W5.cell? ⟨gl, 2, none⟩ = some (.slice (some ⟨bq, 0, none⟩) n c) at k2
            have vi : wrap64 ((i : Int) + 1) = (i : Int) + 1 := by have := HN.out; unfold wrap64; omega
            clear B5 C5 O5 hne HW5 EC E1
            go_wp2_with fail
            rw [ie] at DEL
            refine DEL.out.mono ?_
            rintro e W6 ⟨rfl, o6, g6⟩
            obtain ⟨k6, f6, L6⟩ := TURN.out W6 o6 g6
            have L6w := Lib.hid (CH3.out _ _ L6)
            clear o6 g6 L6 k2 vi DEL TURN
            go_wp2_with fail
            go_ret
            exact ⟨by rw [EC2.out]; rfl, by rw [EC2.out]; exact L6w.out⟩
          · have hge : ¬ (n : Int) - (fr : Int) ≤ (i : Int) := by omega
            have B5 : Blk W4.drew gl 156 (logC g { S with isOpen := false } (.slice (some ⟨bq, 0, none⟩) n c)) := (Blk.still HB4.out (Still.refl W4).drew)
            have C5 : Chg w3 W4.drew (fun b => b = gl) := C4.out.trans (Chg.drew W4 (fun b => b = gl)) (fun _ _ h => h)
            obtain ⟨W5, hW5⟩ : ∃ W5, W5 = W4.drew := ⟨_, rfl⟩
            rw [← hW5] at B5 C5
            have HW5 := Lib.hid hW5
            clear hW5
            go_upto_region 8 with fail
            rw [← HW5.out]
            clear hge
            have EC : S.cut i = { ({ S with isOpen := false } : Lg) with segs := S.segs.eraseIdx i } := by
              unfold Lg.cut
              rw [if_neg (by have := HN.out; have := HFR.out; omega), if_pos (by have := HN.out; omega)]
            rw [EC] at E1
            have EC2 := Lib.hid E1.out
            have hne : bq ≠ gl := fun e => own_neM X3.out.blk X3.out.row (by decide) (by show some bq = some gl; rw [e])
            have O5 := C5.own X3.out.row (fun k hk e => hne (by have e2 : some bq = some k := hk; injection e2 with e2; rw [e2]; exact e))
            rw [← HN.out.1] at O5
            have DEL := Lib.hid (del_any (r := r) (i := i) O5 HN.out.1.symm HN.out.2.1 HN.out.2.2.1 (by have := HN.out; omega) HN.out.2.2.2.2.2.1 HN.out.2.2.2.2.2.2)
            have TURN := Lib.hid (fun W6 o6 g6 => drop_turn (W6 := W6) (r := r) (c := c) (i := i) (S5 := { S with isOpen := false }) LM3.out X3.out rfl C5 B5 o6 g6 (by rw [List.length_eraseIdx]; have := HN.out; rw [if_pos (by omega)]; omega))
            have k2 := B5.cell 2
            change W5.cell? ⟨gl, 2, none⟩ = some (.slice (some ⟨bq, 0, none⟩) n c) at k2
            have vi : wrap64 ((i : Int) + 1) = (i : Int) + 1 := by have := HN.out; unfold wrap64; omega
            clear B5 C5 O5 hne HW5 EC E1
            go_wp2_with fail
            rw [ie] at DEL
            refine DEL.out.mono ?_
            rintro e W6 ⟨rfl, o6, g6⟩
            obtain ⟨k6, f6, L6⟩ := TURN.out W6 o6 g6
            have L6w := Lib.hid (CH3.out _ _ L6)
            clear o6 g6 L6 k2 vi DEL TURN
            go_wp2_with fail
            go_ret
            exact ⟨by rw [EC2.out]; rfl, by rw [EC2.out]; exact L6w.out⟩
      · have HB4 := Lib.hid (show Blk w3 gl 156 (logC g S (.slice (some ⟨bq, 0, none⟩) n c)) from X3.out.blk)
        have C4 := Lib.hid (Chg.refl w3 (fun b => b = gl))
        have ie : ((i : Int) == (r : Int)) = false := by rw [beq_eq_false_iff_ne]; omega
        go_wp2_with fail
        refine (LAST.out _ (Still.refl _)).mono ?_
        rintro e w4 ⟨rfl, h34⟩
        obtain rfl := h34.symm
        go_upto_region 6 with fail
        clear k4 f4
        have KD := Lib.hid (show w3.drew.cell? ⟨gl, 2, none⟩ = some (.slice (some ⟨bq, 0, none⟩) n c) ∧ w3.drew.cell? ⟨gl, 3, none⟩ = some (.int .i64 (fr : Int)) ∧ w3.drew.frozen? ⟨gl, 3, none⟩ = false from ⟨(Blk.still HB4.out (Still.refl w3).drew).cell 2, by rw [HFR.out]; exact (Blk.still HB4.out (Still.refl w3).drew).cell 3, (Blk.still HB4.out (Still.refl w3).drew).frozen 3⟩)
        have vs : IntKind.i64.wrap ((n : Int) - (fr : Int)) = (n : Int) - (fr : Int) := by have := HN.out; have := HFR.out; rw [IntKind.wrap_i64]; omega
        go_region_held3 (fun W => W.cell? ⟨gl, 2, none⟩ = some (.slice (some ⟨bq, 0, none⟩) n c) ∧ W.cell? ⟨gl, 3, none⟩ = some (.int .i64 (fr : Int))) (exact ⟨KD.out.1, KD.out.2.1⟩) (fail)
        all_goals
          clear vs
          by_cases hf : n ≤ i + fr
          · have hge : (n : Int) - (fr : Int) ≤ (i : Int) := by omega
            have k3d := KD.out.2.1
            have f3d := KD.out.2.2
            have v3 : wrap64 ((fr : Int) - 1) = ((fr - 1 : Nat) : Int) := by have := HN.out; have := HFR.out; unfold wrap64; omega
            have B5 : Blk ((w3.setCell ⟨gl, 3, none⟩ (.int .i64 ((fr - 1 : Nat) : Int))).drew) gl 156 (logC g { S with fresh := fr - 1 } (.slice (some ⟨bq, 0, none⟩) n c)) := Blk.still (HB4.out.setc 3 (.int .i64 ((fr - 1 : Nat) : Int))) (Still.refl _).drew
            have C5 : Chg w3 ((w3.setCell ⟨gl, 3, none⟩ (.int .i64 ((fr - 1 : Nat) : Int))).drew) (fun b => b = gl) := (C4.out.trans (chg_set w3 gl 3 _) (fun _ _ h => h)).trans (Chg.drew _ (fun b => b = gl)) (fun _ _ h => h)
            obtain ⟨W5, hW5⟩ : ∃ W5, W5 = (w3.setCell ⟨gl, 3, none⟩ (.int .i64 ((fr - 1 : Nat) : Int))).drew := ⟨_, rfl⟩
            rw [← hW5] at B5 C5
            have HW5 := Lib.hid hW5
            clear hW5
            go_upto_region 8 with fail
            rw [← HW5.out]
            clear k3d f3d v3 hge
            have EC : S.cut i = { ({ S with fresh := fr - 1 } : Lg) with segs := S.segs.eraseIdx i } := by
              unfold Lg.cut
              rw [if_pos (by have := HN.out; have := HFR.out; omega), if_neg (by have := HN.out; omega)]
              rw [HFR.out]
            rw [EC] at E1
            have EC2 := Lib.hid E1.out
            have hne : bq ≠ gl := fun e => own_neM X3.out.blk X3.out.row (by decide) (by show some bq = some gl; rw [e])
            have O5 := C5.own X3.out.row (fun k hk e => hne (by have e2 : some bq = some k := hk; injection e2 with e2; rw [e2]; exact e))
            rw [← HN.out.1] at O5
            have DEL := Lib.hid (del_any (r := r) (i := i) O5 HN.out.1.symm HN.out.2.1 HN.out.2.2.1 (by have := HN.out; omega) HN.out.2.2.2.2.2.1 HN.out.2.2.2.2.2.2)
            have TURN := Lib.hid (fun W6 o6 g6 => drop_turn (W6 := W6) (r := r) (c := c) (i := i) (S5 := { S with fresh := fr - 1 }) LM3.out X3.out rfl C5 B5 o6 g6 (by rw [List.length_eraseIdx]; have := HN.out; rw [if_pos (by omega)]; omega))
            have k2 := B5.cell 2
            change W5.cell? ⟨gl, 2, none⟩ = some (.slice (some ⟨bq, 0, none⟩) n c) at k2
            have vi : wrap64 ((i : Int) + 1) = (i : Int) + 1 := by have := HN.out; unfold wrap64; omega
            clear B5 C5 O5 hne HW5 EC E1
            go_wp2_with fail
            skip
            refine DEL.out.mono ?_
            rintro e W6 ⟨rfl, o6, g6⟩
            obtain ⟨k6, f6, L6⟩ := TURN.out W6 o6 g6
            have L6w := Lib.hid (CH3.out _ _ L6)
            clear o6 g6 L6 k2 vi DEL TURN
            go_wp2_with fail
            go_ret
            exact ⟨by rw [EC2.out]; rfl, by rw [EC2.out]; exact L6w.out⟩
          · have hge : ¬ (n : Int) - (fr : Int) ≤ (i : Int) := by omega
            have B5 : Blk w3.drew gl 156 (logC g S (.slice (some ⟨bq, 0, none⟩) n c)) := (Blk.still HB4.out (Still.refl w3).drew)
            have C5 : Chg w3 w3.drew (fun b => b = gl) := C4.out.trans (Chg.drew w3 (fun b => b = gl)) (fun _ _ h => h)
            obtain ⟨W5, hW5⟩ : ∃ W5, W5 = w3.drew := ⟨_, rfl⟩
            rw [← hW5] at B5 C5
            have HW5 := Lib.hid hW5
            clear hW5
            go_upto_region 8 with fail
            rw [← HW5.out]
            clear hge
            have EC : S.cut i = { (S : Lg) with segs := S.segs.eraseIdx i } := by
              unfold Lg.cut
              rw [if_neg (by have := HN.out; have := HFR.out; omega), if_neg (by have := HN.out; omega)]
            rw [EC] at E1
            have EC2 := Lib.hid E1.out
            have hne : bq ≠ gl := fun e => own_neM X3.out.blk X3.out.row (by decide) (by show some bq = some gl; rw [e])
            have O5 := C5.own X3.out.row (fun k hk e => hne (by have e2 : some bq = some k := hk; injection e2 with e2; rw [e2]; exact e))
            rw [← HN.out.1] at O5
            have DEL := Lib.hid (del_any (r := r) (i := i) O5 HN.out.1.symm HN.out.2.1 HN.out.2.2.1 (by have := HN.out; omega) HN.out.2.2.2.2.2.1 HN.out.2.2.2.2.2.2)
            have TURN := Lib.hid (fun W6 o6 g6 => drop_turn (W6 := W6) (r := r) (c := c) (i := i) (S5 := S) LM3.out X3.out rfl C5 B5 o6 g6 (by rw [List.length_eraseIdx]; have := HN.out; rw [if_pos (by omega)]; omega))
            have k2 := B5.cell 2
            change W5.cell? ⟨gl, 2, none⟩ = some (.slice (some ⟨bq, 0, none⟩) n c) at k2
            have vi : wrap64 ((i : Int) + 1) = (i : Int) + 1 := by have := HN.out; unfold wrap64; omega
            clear B5 C5 O5 hne HW5 EC E1
            go_wp2_with fail
            skip
            refine DEL.out.mono ?_
            rintro e W6 ⟨rfl, o6, g6⟩
            obtain ⟨k6, f6, L6⟩ := TURN.out W6 o6 g6
            have L6w := Lib.hid (CH3.out _ _ L6)
            clear o6 g6 L6 k2 vi DEL TURN
            go_wp2_with fail
            go_ret
            exact ⟨by rw [EC2.out]; rfl, by rw [EC2.out]; exact L6w.out⟩
    · have b1 : (er != 0) = true := by simpa using z1
      have E1 := Lib.hid (EL.out.trans (if_pos z1))
      have L3w := Lib.hid (AFT.out _ _ S2.out L3.out).1
      clear NM RM KC CELLS AFT EL z1
      go_wp2_with fail
      go_ret
      exact ⟨by rw [E1.out]; rfl, by rw [E1.out]; exact L3w.out⟩
end Go.Proofs.YtfneloobfidckaaGreatDoor

/- Contracts: Remove and Rollback of a log. It proves no statement. -/



namespace Go.Proofs.YtfneloobfidckaaGreatDoor
open Go.RowKit Go.Maps Go.WideMaps Go.Sort
set_option linter.unusedVariables false
set_option linter.unusedSimpArgs false

theorem Lg.cut_ok {S : Lg} (h : S.ok) {i : Nat} (hi : i < S.segs.length) : (S.cut i).ok := by
  have hf := h.fresh
  have hl : (S.cut i).segs.length = S.segs.length - 1 := by
    show (S.segs.eraseIdx i).length = _
    rw [List.length_eraseIdx, if_pos hi]
  have hfc : (S.cut i).fresh = if S.segs.length ≤ i + S.fresh then S.fresh - 1 else S.fresh := rfl
  refine ⟨h.lim, fun p hp => h.num p (List.mem_of_mem_eraseIdx hp), h.rise.sublist (List.eraseIdx_sublist _ _), by have := h.few; omega, ?_, fun ho => ?_⟩
  · rw [hl, hfc]
    split <;> omega
  · have ho' : (if i + 1 = S.segs.length then false else S.isOpen) = true := ho
    rw [hfc]
    by_cases hl2 : i + 1 = S.segs.length
    · rw [if_pos hl2] at ho'
      cases ho'
    · rw [if_neg hl2] at ho'
      have := h.opn ho'
      split <;> omega
theorem dropL_all {M : Me} {S : Lg} {k i : Nat} (h : S.ok) (hg : M.good k) (hi : i < S.segs.length) : (dropL M S i).2.2.ok ∧ (dropL M S i).2.1.good (k + 1) := by
  unfold dropL
  rw [List.getElem?_eq_getElem hi]
  dsimp only
  split
  · exact ⟨h, opRemove_good hg _⟩
  · exact ⟨Lg.cut_ok h hi, opRemove_good hg _⟩
def remL (M : Me) (S : Lg) (n : Int) : Int × Me × Lg := match findL S n with
  | some (i, _) => dropL M S i
  | none => (9, M, S)
theorem remL_all {M : Me} {S : Lg} {k : Nat} (h : S.ok) (hg : M.good k) (n : Int) : (remL M S n).2.2.ok ∧ (remL M S n).2.1.good (k + 1) := by
  unfold remL
  split
  · rename_i i p hf
    refine dropL_all h hg ?_
    unfold findL at hf
    split at hf
    · rename_i j hj
      cases hq : S.segs[j]? with
      | none => rw [hq] at hf; cases hf
      | some q =>
        rw [hq] at hf
        have : (j, q) = (i, p) := Option.some.inj hf
        injection this with h1 h2
        rw [← h1]
        exact (List.getElem?_eq_some_iff.1 hq).1
    · cases hf
  · exact ⟨h, hg.mono (by omega)⟩
/-- A log's last segments, as many as are fresh. -/
def rollL : Nat → Me → Lg → Int × Me × Lg
  | 0, M, S => (0, M, S)
  | f + 1, M, S => if (dropL M S (S.segs.length - 1)).1 ≠ 0 then dropL M S (S.segs.length - 1) else rollL f (dropL M S (S.segs.length - 1)).2.1 (dropL M S (S.segs.length - 1)).2.2
theorem dropL_last {M : Me} {S : Lg} (h : S.ok) (hf : 0 < S.fresh) (h0 : (dropL M S (S.segs.length - 1)).1 = 0) : (dropL M S (S.segs.length - 1)).2.2 = S.cut (S.segs.length - 1) ∧ (dropL M S (S.segs.length - 1)).2.2.fresh = S.fresh - 1 := by
  have hl : 0 < S.segs.length := by have := h.fresh; omega
  have hc : (dropL M S (S.segs.length - 1)).2.2 = S.cut (S.segs.length - 1) := by
    unfold dropL at h0 ⊢
    rw [List.getElem?_eq_getElem (by omega)] at h0 ⊢
    dsimp only at h0 ⊢
    split
    · rename_i hne
      rw [if_pos hne] at h0
      exact absurd h0 hne
    · rfl
  refine ⟨hc, ?_⟩
  have hfc : (S.cut (S.segs.length - 1)).fresh = if S.segs.length ≤ S.segs.length - 1 + S.fresh then S.fresh - 1 else S.fresh := rfl
  rw [hc, hfc, if_pos (by omega)]
theorem rollL_all : ∀ {f : Nat} {M : Me} {S : Lg} {k : Nat}, S.ok → M.good k → f = S.fresh → (rollL f M S).2.2.ok ∧ (rollL f M S).2.1.good (k + f)
  | 0, M, S, k, h, hg, _ => ⟨h, hg⟩
  | f + 1, M, S, k, h, hg, hf => by
    have hl : 0 < S.segs.length := by have := h.fresh; omega
    have ha := dropL_all h hg (i := S.segs.length - 1) (by omega)
    unfold rollL
    by_cases h0 : (dropL M S (S.segs.length - 1)).1 = 0
    · rw [if_neg (by rw [h0]; decide)]
      have hfr : (dropL M S (S.segs.length - 1)).2.2.fresh = f := by
        rw [(dropL_last h (by omega) h0).2]
        omega
      have := rollL_all ha.1 ha.2 hfr.symm
      exact ⟨this.1, this.2.mono (by omega)⟩
    · rw [if_pos h0]
      exact ⟨ha.1, ha.2.mono (by omega)⟩
def freshOf (gl : Nat) (w : World) : Nat := ((w.cell? ⟨gl, 3, none⟩).map fun v => (intOf v).toNat).getD 0
theorem freshOf_eq {gl f : Nat} {w : World} (h : w.cell? ⟨gl, 3, none⟩ = some (.int .i64 (f : Int))) : freshOf gl w = f := by
  unfold freshOf
  rw [h]
  simp [intOf]
section
variable {w : World} {base g gl k : Nat} {own : Own} {lo : LOwn} {M : Me} {S : Lg} {sv : Value}
set_option maxRecDepth 100000 in
set_option maxHeartbeats 3200000 in
theorem lremove_any {w0 : World} (h : LM w base g gl own lo M S) (hok : S.ok) (hg : M.good k) (hk : k ≤ 700000) (T : SgT w0) (s0 : Still w0 w) (n : Int) : Calls Tryz.prog 26 #[.pointer (some ⟨gl, 0, none⟩), .int .i64 n] w fun e w' => e = .returned (.int .i64 (remL M S n).1) ∧ LLeft w w' base g gl own lo (remL M S n).2.1 (remL M S n).2.2 := by
  obtain ⟨sv, hl⟩ := h.log
  have FI := Lib.hid (lfind_any hl hok n)
  have EN := Lib.hid (fun (hh : ∀ p ∈ S.segs, (p.1 : Int) ≠ n) => show remL M S n = (9, M, S) by unfold remL; rw [findL_none hh])
  have ES := Lib.hid (fun (i : Nat) (p : Nat × Nat) (hp : S.segs[i]? = some p) (e : (p.1 : Int) = n) => show remL M S n = dropL M S i by unfold remL; rw [findL_some hok hp e])
  have SZ := Lib.hid (fun W i p (s : Still w W) (hp : S.segs[i]? = some p) => drop_any (h.still s) hok hg hk T (Still.trans s0 s) hp)
  have HH := Lib.hid h
  clear h hl hok hg hk T s0
  go_enter Tryz.func26, Tryz.ntmps26
  go_wp2_with fail
  refine FI.out.mono ?_
  rintro e w1 ⟨s1, ⟨hno, rfl⟩ | ⟨i, p, hp, hpe, rfl⟩⟩
  · have E := Lib.hid (EN.out hno)
    have S1 := Lib.hid s1
    clear hno s1
    go_wp2_with fail
    go_ret
    exact ⟨by rw [E.out]; rfl, by rw [E.out]; exact LLeft.still HH.out S1.out⟩
  · have E := Lib.hid (ES.out i p hp hpe)
    have S1 := Lib.hid s1
    have SZ1 := Lib.hid (SZ.out w1 i p s1 hp)
    clear hp hpe s1 SZ
    go_wp2_with fail
    refine SZ1.out.mono ?_
    rintro e w2 ⟨rfl, l2⟩
    have L2 := Lib.hid (LLeft.of_still S1.out l2)
    clear l2
    go_wp2_with fail
    go_ret
    exact ⟨by rw [E.out]; rfl, by rw [E.out]; exact L2.out⟩
set_option maxRecDepth 100000 in
set_option maxHeartbeats 3200000 in
theorem lrollback_any {w0 : World} (h : LM w base g gl own lo M S) (hok : S.ok) (hg : M.good k) (hk : k + S.fresh ≤ 700000) (T : SgT w0) (s0 : Still w0 w) (hb : w0.heap.size ≤ base) : Calls Tryz.prog 24 #[.pointer (some ⟨gl, 0, none⟩)] w fun e w' => e = .returned (.int .i64 (rollL S.fresh M S).1) ∧ LLeft w w' base g gl own lo (rollL S.fresh M S).2.1 (rollL S.fresh M S).2.2 := by
  obtain ⟨sv, hl⟩ := h.log
  have WK := Lib.hid (lworks_any hl)
  have HK := Lib.hid hk
  have TT := Lib.hid T
  have HB := Lib.hid hb
  have fr0 := hl.cells.2.2.2.1
  have START := Lib.hid (show ∃ (M' : Me) (S' : Lg) (k' : Nat) (own' : Own) (lo' : LOwn), rollL S.fresh M S = rollL S'.fresh M' S' ∧ Chg w w (fun b => own b ≠ none ∨ lo b ≠ none) ∧ (∀ b, b < w.heap.size → own' b = own b ∧ lo' b = lo b) ∧ LM w base g gl own' lo' M' S' ∧ S'.ok ∧ M'.good k' ∧ k' + S'.fresh ≤ k + S.fresh ∧ S'.fresh = S.fresh ∧ Still w0 w from ⟨M, S, k, own, lo, rfl, Chg.refl w _, fun _ _ => ⟨rfl, rfl⟩, h, hok, hg, Nat.le_refl _, rfl, s0⟩)
  clear h hl hok hg hk T s0 hb
  go_enter Tryz.func24, Tryz.ntmps24
  go_wp2_with fail
  refine WK.out.mono ?_
  rintro e w1 ⟨rfl, rfl⟩
  go_wp2_with fail
  obtain ⟨F, hF⟩ : ∃ F, F = S.fresh := ⟨_, rfl⟩
  rw [← hF] at fr0 START HK
  have HF := Lib.hid hF
  clear hF
  go_loopw [] (fun wr => ∃ (f : Nat), wr.cell? ⟨gl, 3, none⟩ = some (.int .i64 (f : Int)) ∧ Hid (∃ (M' : Me) (S' : Lg) (k' : Nat) (own' : Own) (lo' : LOwn), rollL F M S = rollL S'.fresh M' S' ∧ Chg w1 wr (fun b => own b ≠ none ∨ lo b ≠ none) ∧ (∀ b, b < w1.heap.size → own' b = own b ∧ lo' b = lo b) ∧ LM wr base g gl own' lo' M' S' ∧ S'.ok ∧ M'.good k' ∧ k' + S'.fresh ≤ k + F ∧ S'.fresh = f ∧ Still w0 wr)) (fun wr => freshOf gl wr)
  case atStart => exact ⟨F, fr0, START⟩
  case round =>
    clear START fr0
    obtain ⟨f, kf, hh⟩ := hrel
    obtain ⟨M1, S1, k1, own1, lo1, e1, c1, ho1, lm1, ok1, gd1, kb1, hf1, st1⟩ := hh.out
    have FO := Lib.hid (freshOf_eq kf)
    by_cases h0 : f = 0
    · have z0 : ¬ (0 : Int) < (f : Int) := by omega
      have FIN := Lib.hid (show rollL S.fresh M S = (0, M1, S1) from by rw [← HF.out, e1, hf1, h0]; rfl)
      have LL := Lib.hid (show LLeft w1 wr base g gl own lo M1 S1 from ⟨c1, own1, lo1, ho1, lm1⟩)
      clear hh e1 c1 ho1 lm1 ok1 gd1 kb1 hf1 st1
      go_wp2_with fail
      go_ret
      exact ⟨by rw [FIN.out]; rfl, by rw [FIN.out]; exact LL.out⟩
    · have z0 : (0 : Int) < (f : Int) := by omega
      obtain ⟨sv1, hl1⟩ := lm1.log
      obtain ⟨m, hm⟩ : ∃ m, S1.segs.length = m + 1 := ⟨S1.segs.length - 1, by have := ok1.fresh; omega⟩
      have LA := Lib.hid (llast_w hl1 hm (by have := ok1.few; omega))
      have DR := Lib.hid (drop_any (i := m) lm1 ok1 gd1 (by have := HK.out; omega) TT.out st1 (List.getElem?_eq_getElem (by omega)))
      have RL := Lib.hid (show rollL F M S = if (dropL M1 S1 m).1 ≠ 0 then dropL M1 S1 m else rollL (f - 1) (dropL M1 S1 m).2.1 (dropL M1 S1 m).2.2 from by
        rw [e1, hf1, show f = (f - 1) + 1 by omega]
        show (if (dropL M1 S1 (S1.segs.length - 1)).1 ≠ 0 then _ else _) = _
        rw [show S1.segs.length - 1 = m by omega]
        rfl)
      have LAST := Lib.hid (fun (h0 : (dropL M1 S1 m).1 = 0) => show (dropL M1 S1 m).2.2.fresh = S1.fresh - 1 from by have := (dropL_last ok1 (by omega) (M := M1) (by rw [show S1.segs.length - 1 = m by omega]; exact h0)).2; rw [show S1.segs.length - 1 = m by omega] at this; exact this)
      have ALL := Lib.hid (dropL_all ok1 gd1 (i := m) (by omega))
      have CH := Lib.hid (fun W M2 S2 (l : LLeft wr W base g gl own1 lo1 M2 S2) => And.intro (LLeft.chain c1 ho1 l) (LLeft.low lm1 l st1 HB.out))
      have KB := Lib.hid (And.intro kb1 hf1)
      obtain ⟨R, hR⟩ : ∃ R, R = dropL M1 S1 m := ⟨_, rfl⟩
      rw [← hR] at DR RL LAST ALL
      obtain ⟨er, M2, S2⟩ := R
      dsimp only at DR RL LAST ALL
      clear hh e1 c1 ho1 lm1 ok1 gd1 kb1 hf1 st1 hl1 hR
      go_wp2_with fail
      refine LA.out.mono ?_
      rintro e w2 ⟨rfl, rfl⟩
      go_wp2_with fail
      refine DR.out.mono ?_
      rintro e w3 ⟨rfl, l3⟩
      have L3 := Lib.hid (CH.out _ _ _ l3)
      clear l3
      by_cases ze : er = 0
      · subst ze
        have R2 := Lib.hid (RL.out.trans (if_neg (by simp)))
        have fr2 : S2.fresh = f - 1 := by rw [LAST.out rfl, KB.out.2]
        obtain ⟨⟨c3, own3, lo3, ho3, lm3⟩, st3⟩ := L3.out
        obtain ⟨sv3, hl3⟩ := lm3.log
        have kf3 := hl3.cells.2.2.2.1
        rw [fr2] at kf3
        have NXT := Lib.hid (show ∃ (M' : Me) (S' : Lg) (k' : Nat) (own' : Own) (lo' : LOwn), rollL F M S = rollL S'.fresh M' S' ∧ Chg w1 w3 (fun b => own b ≠ none ∨ lo b ≠ none) ∧ (∀ b, b < w1.heap.size → own' b = own b ∧ lo' b = lo b) ∧ LM w3 base g gl own' lo' M' S' ∧ S'.ok ∧ M'.good k' ∧ k' + S'.fresh ≤ k + F ∧ S'.fresh = f - 1 ∧ Still w0 w3 from ⟨M2, S2, k1 + 1, own3, lo3, by rw [R2.out, fr2], c3, ho3, lm3, ALL.out.1, ALL.out.2, by have := KB.out; omega, fr2, st3⟩)
        have K3 := Lib.hid kf3
        have F3 := Lib.hid (freshOf_eq kf3)
        clear fr2 c3 ho3 lm3 st3 hl3 kf3 kf
        go_wp2_with fail
        go_roundw
        case rel => exact ⟨f - 1, K3.out, NXT⟩
        case measure => rw [F3.out, FO.out]; omega
      · have b1 : (er != 0) = true := by simpa using ze
        have R2 := Lib.hid (show rollL S.fresh M S = (er, M2, S2) from by rw [← HF.out]; exact RL.out.trans (if_pos ze))
        clear ze
        go_wp2_with fail
        go_ret
        exact ⟨by rw [R2.out]; rfl, by rw [R2.out]; exact L3.out.1⟩
end
end Go.Proofs.YtfneloobfidckaaGreatDoor

/- What lasts: bytes that stand in a file whatever the power does. Mathematics; it proves no statement. -/


namespace Go.Proofs.YtfneloobfidckaaGreatDoor
open Go.RowKit Go.Maps Go.WideMaps Go.Sort
set_option linter.unusedVariables false
set_option linter.unusedSimpArgs false

/-- Bytes at a place of a text. -/
def Stands (l : List UInt8) (a : Nat) (b : List UInt8) : Prop := ∃ p q, l = p ++ b ++ q ∧ p.length = a
theorem Stands.pre {l l' : List UInt8} {a : Nat} {b : List UInt8} (h : Stands l a b) (hp : l <+: l') : Stands l' a b := by
  obtain ⟨p, q, rfl, e⟩ := h
  obtain ⟨r, rfl⟩ := hp
  exact ⟨p, q ++ r, by simp, e⟩
/-- A file that only grows behind what lasts of it. -/
def Fi.gr (F : Fi) : Prop := F.fast <+: F.now ∧ ∀ c ∈ F.wait, F.fast.length ≤ c.fin
theorem app_pre {f : List UInt8} : ∀ {Y : List Ch} {l : List UInt8}, (∀ c ∈ Y, f.length ≤ c.fin) → f <+: l → f <+: appAll l Y
  | [], l, _, h => h
  | c :: Y, l, hY, h => by
    show f <+: appAll (Ch.app l c) Y
    refine app_pre (fun d hd => hY d (List.mem_cons_of_mem _ hd)) ?_
    show f <+: l.take c.fin ++ c.more
    exact (List.prefix_take_iff.2 ⟨h, hY c List.mem_cons_self⟩).trans (List.prefix_append _ _)
theorem Fi.gr.wrote {F : Fi} (h : F.gr) (x : List UInt8) : (F.wrote ⟨F.now.length, x⟩).gr := by
  refine ⟨?_, fun c hc => ?_⟩
  · show F.fast <+: F.now.take F.now.length ++ x
    rw [List.take_length]
    exact h.1.trans (List.prefix_append _ _)
  · rcases List.mem_append.1 (show c ∈ F.wait ++ [⟨F.now.length, x⟩] from hc) with hc | hc
    · exact h.2 c hc
    · have : c = ⟨F.now.length, x⟩ := by simpa using hc
      rw [this]
      exact h.1.length_le
theorem Fi.gr.synced (F : Fi) : F.synced.gr := ⟨List.prefix_refl _, fun c hc => by cases hc⟩
theorem Fi.gr.crash {F : Fi} (h : F.gr) (zs : List Int) : (F.crash zs).gr ∧ F.fast <+: (F.crash zs).fast := by
  refine ⟨⟨List.prefix_refl _, fun c hc => by cases hc⟩, ?_⟩
  show F.fast <+: crashL F.fast F.wait zs
  unfold crashL
  exact (app_pre (fun c hc => h.2 c (List.mem_of_mem_take hc)) (List.prefix_refl _)).trans (List.prefix_append _ _)
theorem nFind_delN {N : NT} {s t : List UInt8} (h : s ≠ t) : nFind (nDel N s) t = nFind N t := by
  induction N with
  | nil => rfl
  | cons y r ih =>
    unfold nDel at ih ⊢
    rw [List.filter_cons]
    by_cases e : y.1 = s
    · have : (!(y.1 == s)) = false := by simp [e]
      rw [this, if_neg (by decide), nFind_cons, if_neg (fun e2 => h (e.symm.trans e2))]
      exact ih
    · have : (!(y.1 == s)) = true := by simp [e]
      rw [this, if_pos rfl, nFind_cons, nFind_cons, ih]
theorem nFind_delS {N : NT} {s : List UInt8} : nFind (nDel N s) s = none := nFind_none.2 fun p hp => by
  have := (List.mem_filter.1 hp).2
  simpa using this
theorem nFind_put {N : NT} {s t : List UInt8} (f : Nat) : nFind (nPut N s f) t = if s = t then some f else nFind N t := by
  unfold nPut
  rw [nFind_ins (s, f) nFind_delS]
  by_cases e : s = t
  · rw [if_pos e, if_pos e]
  · rw [if_neg e, if_neg e, nFind_delN e]
theorem nFind_link {N : NT} {s : ByteArray} {gf : Nat} {t : List UInt8} (ht : t ≠ []) : nFind (nmStep N (⟨#[]⟩, s, (gf : Int))) t = if s.data.toList = t then some gf else nFind N t := by
  unfold nmStep
  rw [if_neg (show ¬ ((gf : Int) < 0) by omega)]
  show nFind (nPut (nDel N []) s.data.toList gf) t = _
  rw [nFind_put, nFind_delN (fun e => ht e.symm)]
theorem nFind_gone {N : NT} {s : ByteArray} {t : List UInt8} (h : s.data.toList ≠ t) : nFind (nmStep N (s, ⟨#[]⟩, -1)) t = nFind N t := by
  unfold nmStep
  rw [if_pos (show ((-1 : Int)) < 0 by decide)]
  exact nFind_delN h
theorem sgnB_ne (n : Nat) : sgnB n ≠ [] := fun e => by have := congrArg List.length e; rw [sgnB_length] at this; cases this
theorem find_fs {M : Me} {s : ByteArray} {gf : Nat} {F : Fi} (h : M.find s = .inr (gf, F)) : M.off = false ∧ nFind M.now s.data.toList = some gf ∧ M.fs gf = some F := by
  unfold Me.find at h
  by_cases c : M.off = true
  · rw [if_pos c] at h; cases h
  · rw [if_neg c] at h
    cases hn : nFind M.now s.data.toList with
    | none => rw [hn] at h; cases h
    | some g1 =>
      rw [hn] at h
      cases hf : M.fs g1 with
      | none => simp only [hf] at h; cases h
      | some F1 =>
        simp only [hf] at h
        injection h with h
        injection h with h1 h2
        subst h1 h2
        exact ⟨by simpa using c, rfl, hf⟩
/-- A piece: a segment's number, a place in it, bytes. -/
structure Pc where
  n : Nat
  a : Nat
  b : List UInt8
/-- It lasts, whatever the power does. -/
def Sure (M : Me) (x : Pc) : Prop := ∃ gf F, (∀ j, nFind (nmSteps M.fast (M.wait.take j)) (sgnB x.n) = some gf) ∧ M.fs gf = some F ∧ F.gr ∧ Stands F.fast x.a x.b
section
variable {M : Me} {x : Pc}
theorem sure_now (hok : M.ok) {gf : Nat} (h : ∀ j, nFind (nmSteps M.fast (M.wait.take j)) (sgnB x.n) = some gf) : nFind M.now (sgnB x.n) = some gf := by
  rw [hok.eq]
  have := h M.wait.length
  rwa [List.take_length] at this
theorem sure_link (hok : M.ok) {gf : Nat} (h : ∀ j, nFind (nmSteps M.fast (M.wait.take j)) (sgnB x.n) = some gf) {y : ByteArray × ByteArray × Int} (hn : nFind (nmStep M.now y) (sgnB x.n) = nFind M.now (sgnB x.n)) : ∀ j, nFind (nmSteps M.fast ((M.wait ++ [y]).take j)) (sgnB x.n) = some gf := fun j => by
  by_cases hj : j ≤ M.wait.length
  · rw [List.take_append_of_le_length hj]; exact h j
  · rw [List.take_of_length_le (by simp; omega), nmSteps_snoc, ← hok.eq, hn]
    exact sure_now hok h
theorem Sure.dead (h : Sure M x) : Sure M.dead x := h
theorem Sure.create (h : Sure M x) (hok : M.ok) (s : ByteArray) {g1 : Nat} (hg : M.fs g1 = none) : Sure (opCreate M s g1).2 x := by
  obtain ⟨gf, F, h1, h2, h3, h4⟩ := h
  unfold opCreate
  split
  · exact ⟨gf, F, h1, h2, h3, h4⟩
  split
  · exact ⟨gf, F, h1, h2, h3, h4⟩
  split
  · exact ⟨gf, F, h1, h2, h3, h4⟩
  rename_i hs
  split
  · exact ⟨gf, F, h1, h2, h3, h4⟩
  split
  · exact ⟨gf, F, h1, h2, h3, h4⟩
  · refine ⟨gf, F, sure_link hok h1 ?_, ?_, h3, h4⟩
    · rw [nFind_link (sgnB_ne _), if_neg (fun e => hs (by rw [e, sure_now hok h1]; rfl))]
    · exact (upd_other _ _ (fun e => by rw [← e, h2] at hg; cases hg)).trans h2
theorem Sure.append (h : Sure M x) (s : ByteArray) (b : List UInt8) : Sure (opAppend M s b).2 x := by
  obtain ⟨gf, F, h1, h2, h3, h4⟩ := h
  unfold opAppend
  cases hf : M.find s with
  | inl E => exact ⟨gf, F, h1, h2, h3, h4⟩
  | inr q =>
    obtain ⟨g1, F1⟩ := q
    dsimp only
    split
    · exact ⟨gf, F, h1, h2, h3, h4⟩
    split
    · exact ⟨gf, F, h1, h2, h3, h4⟩
    · have e1 := (find_fs hf).2.2
      by_cases e : gf = g1
      · subst e
        rw [h2] at e1
        injection e1 with e1
        subst e1
        exact ⟨gf, F.wrote ⟨F.now.length, b⟩, h1, upd_same _ _ _, h3.wrote b, h4⟩
      · exact ⟨gf, F, h1, (upd_other _ _ e).trans h2, h3, h4⟩
theorem Sure.sync (h : Sure M x) (s : ByteArray) : Sure (opSync M s).2 x := by
  obtain ⟨gf, F, h1, h2, h3, h4⟩ := h
  unfold opSync
  cases hf : M.find s with
  | inl E => exact ⟨gf, F, h1, h2, h3, h4⟩
  | inr q =>
    obtain ⟨g1, F1⟩ := q
    dsimp only
    split
    · exact ⟨gf, F, h1, h2, h3, h4⟩
    · have e1 := (find_fs hf).2.2
      by_cases e : gf = g1
      · subst e
        rw [h2] at e1
        injection e1 with e1
        subst e1
        exact ⟨gf, F.synced, h1, upd_same _ _ _, Fi.gr.synced F, h4.pre h3.1⟩
      · exact ⟨gf, F, h1, (upd_other _ _ e).trans h2, h3, h4⟩
theorem Sure.remove (h : Sure M x) (hok : M.ok) {s : ByteArray} (hs : s.data.toList ≠ sgnB x.n) : Sure (opRemove M s).2 x := by
  obtain ⟨gf, F, h1, h2, h3, h4⟩ := h
  unfold opRemove
  cases hf : M.find s with
  | inl E => exact ⟨gf, F, h1, h2, h3, h4⟩
  | inr q =>
    dsimp only
    unfold opName
    split
    · exact ⟨gf, F, h1, h2, h3, h4⟩
    · exact ⟨gf, F, sure_link hok h1 (nFind_gone hs), h2, h3, h4⟩
theorem Sure.syncDir (h : Sure M x) (hok : M.ok) : Sure (opSyncDir M).2 x := by
  obtain ⟨gf, F, h1, h2, h3, h4⟩ := h
  unfold opSyncDir
  split
  · exact ⟨gf, F, h1, h2, h3, h4⟩
  split
  · exact ⟨gf, F, h1, h2, h3, h4⟩
  · refine ⟨gf, F, fun j => ?_, h2, h3, h4⟩
    show nFind (nmSteps M.now (([] : List (ByteArray × ByteArray × Int)).take j)) _ = _
    rw [List.take_nil]
    exact sure_now hok h1
theorem Sure.arm (h : Sure M x) (n : Int) : Sure (opArm M n).2 x := by
  obtain ⟨gf, F, h1, h2, h3, h4⟩ := h
  unfold opArm
  split
  · exact ⟨gf, F, h1, h2, h3, h4⟩
  split
  · exact ⟨gf, F, h1, h2, h3, h4⟩
  · exact ⟨gf, F, h1, h2, h3, h4⟩
theorem crSt_gr {s : (Nat → Option Fi) × List Int} {f y : Nat} {F : Fi} (h : s.1 y = some F) (hg : F.gr) : ∃ G, (crSt s f).1 y = some G ∧ G.gr ∧ F.fast <+: G.fast := by
  unfold crSt
  cases hf : s.1 f with
  | none => exact ⟨F, h, hg, List.prefix_refl _⟩
  | some H =>
    by_cases e : y = f
    · subst e
      rw [h] at hf
      injection hf with hf
      subst hf
      exact ⟨F.crash s.2, upd_same _ _ _, (hg.crash s.2).1, (hg.crash s.2).2⟩
    · exact ⟨F, (upd_other _ _ e).trans h, hg, List.prefix_refl _⟩
theorem crFold_gr {y : Nat} : ∀ (L : List Nat) (s : (Nat → Option Fi) × List Int) {F : Fi}, s.1 y = some F → F.gr → ∃ G, (L.foldl crSt s).1 y = some G ∧ G.gr ∧ F.fast <+: G.fast
  | [], s, F, h, hg => ⟨F, h, hg, List.prefix_refl _⟩
  | f :: r, s, F, h, hg => by
    obtain ⟨G, h1, h2, h3⟩ := crSt_gr (f := f) h hg
    obtain ⟨G', h1', h2', h3'⟩ := crFold_gr r _ h1 h2
    exact ⟨G', h1', h2', h3.trans h3'⟩
theorem Sure.crash (h : Sure M x) (zs : List Int) : Sure (M.crash zs) x := by
  obtain ⟨gf, F, h1, h2, h3, h4⟩ := h
  obtain ⟨G, g1, g2, g3⟩ := crFold_gr ((M.lasts zs).map (·.2)) (M.fs, zs.tail) h2 h3
  refine ⟨gf, G, fun j => ?_, g1, g2, h4.pre g3⟩
  show nFind (nmSteps (M.lasts zs) (([] : List (ByteArray × ByteArray × Int)).take j)) _ = _
  rw [List.take_nil]
  exact h1 _
/-- Its bytes are there now. -/
theorem Sure.there (h : Sure M x) (hok : M.ok) : ∃ gf F, nFind M.now (sgnB x.n) = some gf ∧ M.fs gf = some F ∧ Stands F.now x.a x.b := by
  obtain ⟨gf, F, h1, h2, h3, h4⟩ := h
  exact ⟨gf, F, sure_now hok h1, h2, h4.pre h3.1⟩
end
end Go.Proofs.YtfneloobfidckaaGreatDoor

/- What a log's calls leave of what lasts and of what is to last. Mathematics; it proves no statement. -/

namespace Go.Proofs.YtfneloobfidckaaGreatDoor
open Go.RowKit Go.Maps Go.WideMaps Go.Sort
set_option linter.unusedVariables false
set_option linter.unusedSimpArgs false

def Lg.nums (S : Lg) : List Nat := S.segs.map (·.1)
theorem Lg.nums_len (S : Lg) : S.nums.length = S.segs.length := List.length_map _
theorem Lg.sized_nums (S : Lg) (i z : Nat) : (S.sized i z).nums = S.nums := by
  unfold Lg.nums Lg.sized
  refine List.ext_getElem? fun j => ?_
  rw [List.getElem?_map, List.getElem?_map, List.getElem?_modify]
  split
  · rename_i h
    cases S.segs[j]? <;> rfl
  · cases S.segs[j]? <;> rfl
/-- It will last once its file and the names are synced; all files but the open one are. -/
def Pend (M : Me) (S : Lg) (x : Pc) : Prop := x.n < 1048576 ∧ ∃ gf F, nFind M.now (sgnB x.n) = some gf ∧ M.fs gf = some F ∧ Stands F.now x.a x.b ∧ ((S.isOpen = true ∧ ∃ n, S.nums.getLast? = some n ∧ nFind M.now (sgnB n) = some gf) ∨ F.fast = F.now)
structure KI (M : Me) (S : Lg) (U O : List Pc) : Prop where
  sure : ∀ x ∈ U, Sure M x
  un : ∀ x ∈ U, x.n < 1048576
  old : ∀ x ∈ U, ∀ i n, S.nums[i]? = some n → S.nums.length ≤ i + S.fresh → n ≠ x.n
  num : ∀ n ∈ S.nums, n < 1048576
  there : M.off = false → ∀ n ∈ S.nums, ∃ gf, nFind M.now (sgnB n) = some gf
  gr : ∀ gf F, M.fs gf = some F → F.gr
  op : M.off = false → ∀ x ∈ O, Pend M S x
section
variable {M : Me} {S S' : Lg} {U O : List Pc}
theorem KI.congr (h : KI M S U O) (h1 : S'.nums = S.nums) (h2 : S'.fresh = S.fresh) (h3 : S'.isOpen = S.isOpen) : KI M S' U O := by
  refine ⟨h.sure, h.un, fun x hx i n hi hl => h.old x hx i n (by rw [← h1]; exact hi) (by rw [← h1, ← h2]; exact hl), by rw [h1]; exact h.num, by rw [h1]; exact h.there, h.gr, fun ho x hx => ?_⟩
  obtain ⟨a, gf, F, b, c, d, e⟩ := h.op ho x hx
  exact ⟨a, gf, F, b, c, d, by rw [h1, h3]; exact e⟩
theorem KI.dead (h : KI M S U O) : KI M.dead S U O := ⟨h.sure, h.un, h.old, h.num, fun ho => (by cases ho), h.gr, fun ho => (by cases ho)⟩
theorem nameS_sg {n : Nat} (h : n < 1048576) : (nameS (n : Int)).data.toList = sgnB n := by rw [nameS_nat h]
/-- A name more. -/
theorem KI.create (h : KI M S U O) (hok : M.ok) {n gf : Nat} (hn : n < 1048576) (hg : M.fs gf = none) :
    KI (opCreate M (nameS (n : Int)) gf).2 S U O ∧ ((opCreate M (nameS (n : Int)) gf).1 = 0 → nFind M.now (sgnB n) = none ∧ (opCreate M (nameS (n : Int)) gf).2.off = false ∧ nFind (opCreate M (nameS (n : Int)) gf).2.now (sgnB n) = some gf ∧ (opCreate M (nameS (n : Int)) gf).2.fs gf = some ⟨[], [], []⟩ ∧ M.off = false ∧ ∀ (m g : Nat), nFind M.now (sgnB m) = some g → nFind (opCreate M (nameS (n : Int)) gf).2.now (sgnB m) = some g) := by
  have hs := fun x hx => (h.sure x hx).create hok (nameS (n : Int)) hg
  unfold opCreate at hs ⊢
  split
  · exact ⟨h, fun e => by cases e⟩
  split
  · exact ⟨h, fun e => by cases e⟩
  split
  · exact ⟨h, fun e => by cases e⟩
  rename_i hoff hnm hex
  split
  · exact ⟨h, fun e => by cases e⟩
  rename_i hlen
  split
  · exact ⟨h.dead, fun e => by cases e⟩
  rename_i hleft
  rw [if_neg hoff, if_neg hnm, if_neg hex, if_neg hlen, if_neg hleft] at hs
  have hno : nFind M.now (sgnB n) = none := by
    rw [nameS_sg hn] at hex
    cases hq : nFind M.now (sgnB n) with
    | none => rfl
    | some g => rw [hq] at hex; exact absurd rfl hex
  have hoff2 : M.off = false := by simpa using hoff
  have keep : ∀ (m g : Nat), nFind M.now (sgnB m) = some g → nFind (nmStep M.now (⟨#[]⟩, nameS (n : Int), (gf : Int))) (sgnB m) = some g := fun m g hm => by
    rw [nFind_link (sgnB_ne m), nameS_sg hn, if_neg (fun e => by rw [e, hm] at hno; cases hno)]
    exact hm
  refine ⟨⟨hs, h.un, h.old, h.num, fun _ m hm => ?_, fun g F hF => ?_, fun _ x hx => ?_⟩, fun _ => ⟨hno, hoff2, ?_, upd_same _ _ _, hoff2, keep⟩⟩
  · obtain ⟨g, hg2⟩ := h.there hoff2 m hm
    exact ⟨g, keep m g hg2⟩
  · by_cases e : g = gf
    · subst e
      have : F = ⟨[], [], []⟩ := (Option.some.inj ((upd_same M.fs g ⟨[], [], []⟩).symm.trans hF)).symm
      rw [this]
      exact ⟨List.prefix_refl _, fun c hc => by cases hc⟩
    · exact h.gr g F ((upd_other M.fs _ e).symm.trans hF)
  · obtain ⟨a, g, F, b, c, d, e⟩ := h.op hoff2 x hx
    refine ⟨a, g, F, keep _ _ b, (upd_other _ _ (fun e2 => by rw [← e2, c] at hg; cases hg)).trans c, d, ?_⟩
    rcases e with ⟨e1, m, e2, e3⟩ | e
    · exact .inl ⟨e1, m, e2, keep _ _ e3⟩
    · exact .inr e
  · show nFind (nmStep M.now (⟨#[]⟩, nameS (n : Int), (gf : Int))) (sgnB n) = some gf
    rw [nFind_link (sgnB_ne n), nameS_sg hn, if_pos rfl]
/-- Bytes behind the others of a file that is open, or that holds nothing that is to last. -/
theorem KI.append (h : KI M S U O) (s : ByteArray) (b : List UInt8) (hc : ∀ g F, M.find s = .inr (g, F) → (S.isOpen = true ∧ ∃ n, S.nums.getLast? = some n ∧ nFind M.now (sgnB n) = some g) ∨ ∀ x ∈ O, nFind M.now (sgnB x.n) ≠ some g) :
    KI (opAppend M s b).2 S U O ∧ ((opAppend M s b).1 = 0 → ∃ g F, M.find s = .inr (g, F) ∧ (opAppend M s b).2.off = false ∧ (opAppend M s b).2.now = M.now ∧ (opAppend M s b).2.fs g = some (F.wrote ⟨F.now.length, b⟩)) := by
  have hs := fun x hx => (h.sure x hx).append s b
  unfold opAppend at hs ⊢
  cases hf : M.find s with
  | inl E =>
    refine ⟨h, fun e => ?_⟩
    exfalso
    have e : E = 0 := e
    unfold Me.find at hf
    split at hf
    · injection hf with hf; omega
    · split at hf
      · injection hf with hf; omega
      · split at hf
        · injection hf with hf; omega
        · cases hf
  | inr q =>
    obtain ⟨g1, F1⟩ := q
    rw [hf] at hs
    dsimp only at hs ⊢
    have hff := find_fs hf
    split
    · exact ⟨h, fun e => by cases e⟩
    rename_i hroom
    split
    · exact ⟨h.dead, fun e => by cases e⟩
    rename_i hleft
    rw [if_neg hroom, if_neg hleft] at hs
    refine ⟨⟨hs, h.un, h.old, h.num, h.there, fun g F hF => ?_, fun _ x hx => ?_⟩, fun _ => ⟨g1, F1, rfl, hff.1, rfl, upd_same _ _ _⟩⟩
    · by_cases e : g = g1
      · subst e
        rw [← Option.some.inj ((upd_same M.fs g (F1.wrote ⟨F1.now.length, b⟩)).symm.trans hF)]
        exact (h.gr g F1 hff.2.2).wrote b
      · exact h.gr g F ((upd_other M.fs _ e).symm.trans hF)
    · obtain ⟨a, g, F, b1, c, d, e⟩ := h.op hff.1 x hx
      by_cases eg : g = g1
      · subst eg
        rw [hff.2.2] at c
        injection c with c
        subst c
        refine ⟨a, g, F1.wrote ⟨F1.now.length, b⟩, b1, upd_same _ _ _, d.pre ?_, .inl ?_⟩
        · show F1.now <+: F1.now.take F1.now.length ++ b
          rw [List.take_length]
          exact List.prefix_append _ _
        · rcases hc g F1 hf with hl | hl
          · exact hl
          · exact absurd b1 (hl x hx)
      · exact ⟨a, g, F, b1, (upd_other _ _ eg).trans c, d, e⟩
/-- A file synced; if it is the open one, nothing is open any more. -/
theorem KI.sync (h : KI M S U O) (s : ByteArray) :
    KI (opSync M s).2 S U O ∧ ((opSync M s).1 = 0 → (∀ n, S.nums.getLast? = some n → s.data.toList = sgnB n) → KI (opSync M s).2 { S with isOpen := false } U O) ∧ ((opSync M s).1 = 0 → (opSync M s).2.off = false ∧ (opSync M s).2.now = M.now) := by
  have hs := fun x hx => (h.sure x hx).sync s
  unfold opSync at hs ⊢
  cases hf : M.find s with
  | inl E =>
    have hE : E ≠ 0 := fun e => by
      unfold Me.find at hf
      split at hf
      · injection hf with hf; omega
      · split at hf
        · injection hf with hf; omega
        · split at hf
          · injection hf with hf; omega
          · cases hf
    exact ⟨h, fun e => absurd e hE, fun e => absurd e hE⟩
  | inr q =>
    obtain ⟨g1, F1⟩ := q
    rw [hf] at hs
    dsimp only at hs ⊢
    have hff := find_fs hf
    split
    · exact ⟨h.dead, fun e => (by cases e), fun e => (by cases e)⟩
    rename_i hleft
    rw [if_neg hleft] at hs
    have hgr : ∀ g F, (M.wrote g1 F1.synced).fs g = some F → F.gr := fun g F hF => by
      by_cases e : g = g1
      · subst e
        rw [← Option.some.inj ((upd_same M.fs g F1.synced).symm.trans hF)]
        exact Fi.gr.synced F1
      · exact h.gr g F ((upd_other M.fs _ e).symm.trans hF)
    refine ⟨⟨hs, h.un, h.old, h.num, h.there, hgr, fun _ x hx => ?_⟩, fun _ hl => ⟨hs, h.un, h.old, h.num, h.there, hgr, fun _ x hx => ?_⟩, fun _ => ⟨hff.1, rfl⟩⟩
    · obtain ⟨a, g, F, b1, c, d, e⟩ := h.op hff.1 x hx
      by_cases eg : g = g1
      · subst eg
        rw [hff.2.2] at c
        injection c with c
        subst c
        exact ⟨a, g, F1.synced, b1, upd_same _ _ _, d, .inr rfl⟩
      · exact ⟨a, g, F, b1, (upd_other _ _ eg).trans c, d, e⟩
    · obtain ⟨a, g, F, b1, c, d, e⟩ := h.op hff.1 x hx
      by_cases eg : g = g1
      · subst eg
        rw [hff.2.2] at c
        injection c with c
        subst c
        exact ⟨a, g, F1.synced, b1, upd_same _ _ _, d, .inr rfl⟩
      · refine ⟨a, g, F, b1, (upd_other _ _ eg).trans c, d, .inr ?_⟩
        rcases e with ⟨_, n, e2, e3⟩ | e
        · exfalso
          have := hff.2.1
          rw [hl n e2, e3] at this
          exact eg (Option.some.inj this)
        · exact e
/-- A name that holds nothing. -/
theorem KI.remove (h : KI M S U O) (hok : M.ok) {n : Nat} (hn : n < 1048576) (h1 : ∀ x ∈ U, x.n ≠ n) (h2 : ∀ x ∈ O, x.n ≠ n) (h3 : ∀ m ∈ S.nums, m ≠ n) : KI (opRemove M (nameS (n : Int))).2 S U O := by
  have hs := fun x hx => (h.sure x hx).remove hok (s := nameS (n : Int)) (by rw [nameS_sg hn]; exact fun e => h1 x hx (sgnB_inj (h.un x hx) hn e.symm))
  unfold opRemove at hs ⊢
  cases hf : M.find (nameS (n : Int)) with
  | inl E => exact h
  | inr q =>
    rw [hf] at hs
    dsimp only at hs ⊢
    unfold opName at hs ⊢
    split
    · exact h.dead
    rename_i hleft
    rw [if_neg hleft] at hs
    have hff := find_fs (gf := q.1) (F := q.2) hf
    have keep : ∀ (m g : Nat), m < 1048576 → m ≠ n → nFind M.now (sgnB m) = some g → nFind (nmStep M.now (nameS (n : Int), ⟨#[]⟩, -1)) (sgnB m) = some g := fun m g hm hne h5 => by
      rw [nFind_gone (by rw [nameS_sg hn]; exact fun e => hne (sgnB_inj hm hn e.symm))]
      exact h5
    refine ⟨hs, h.un, h.old, h.num, fun _ m hm => ?_, h.gr, fun _ x hx => ?_⟩
    · obtain ⟨g, hg⟩ := h.there hff.1 m hm
      exact ⟨g, keep m g (h.num m hm) (h3 m hm) hg⟩
    · obtain ⟨a, g, F, b1, c, d, e⟩ := h.op hff.1 x hx
      refine ⟨a, g, F, keep _ _ a (h2 x hx) b1, c, d, ?_⟩
      rcases e with ⟨e1, m, e2, e3⟩ | e
      · have hm := List.mem_of_getLast? e2
        exact .inl ⟨e1, m, e2, keep _ _ (h.num m hm) (h3 m hm) e3⟩
      · exact .inr e
theorem KI.syncDir (h : KI M S U O) (hok : M.ok) : KI (opSyncDir M).2 S U O ∧ ((opSyncDir M).1 = 0 → S.isOpen = false → ∀ x ∈ O, Sure (opSyncDir M).2 x) := by
  have hs := fun x hx => (h.sure x hx).syncDir hok
  unfold opSyncDir at hs ⊢
  split
  · exact ⟨h, fun e => by cases e⟩
  rename_i hoff
  split
  · exact ⟨h.dead, fun e => by cases e⟩
  rename_i hleft
  rw [if_neg hoff, if_neg hleft] at hs
  have hoff2 : M.off = false := by simpa using hoff
  refine ⟨⟨hs, h.un, h.old, h.num, h.there, h.gr, h.op⟩, fun _ ho x hx => ?_⟩
  obtain ⟨a, g, F, b1, c, d, e⟩ := h.op hoff2 x hx
  refine ⟨g, F, fun j => ?_, c, h.gr g F c, ?_⟩
  · show nFind (nmSteps M.now (([] : List (ByteArray × ByteArray × Int)).take j)) _ = _
    rw [List.take_nil]
    exact b1
  · rcases e with ⟨e1, _⟩ | e
    · rw [ho] at e1; cases e1
    · rw [e]; exact d
end
end Go.Proofs.YtfneloobfidckaaGreatDoor

/- What Append and Commit of a log leave of what lasts. Mathematics; it proves no statement. -/

namespace Go.Proofs.YtfneloobfidckaaGreatDoor
open Go.RowKit Go.Maps Go.WideMaps Go.Sort
set_option linter.unusedVariables false
set_option linter.unusedSimpArgs false

section
variable {M : Me} {S S' : Lg} {U O : List Pc} {k gf : Nat}
theorem KI.next (h : KI M S U O) : nextL S ≤ 1048576 := by
  unfold nextL
  cases hl : S.segs.getLast? with
  | none => exact Nat.zero_le _
  | some p =>
    have := h.num p.1 (List.mem_map.2 ⟨p, List.mem_of_getLast? hl, rfl⟩)
    show p.1 + 1 ≤ _
    omega
theorem Lg.grown_nums (S : Lg) (p : Nat × Nat) : (S.grown p).nums = S.nums ++ [p.1] := by
  unfold Lg.nums Lg.grown
  rw [List.map_append]
  rfl
theorem find_at {M : Me} {s : ByteArray} {g gf : Nat} {F : Fi} (h : M.find s = .inr (g, F)) (h2 : nFind M.now s.data.toList = some gf) : g = gf := by
  have := (find_fs h).2.1
  rw [h2] at this
  exact (Option.some.inj this).symm
theorem KI.begin (h : KI M S U O) (hg : M.good k) (hg0 : M.fs gf = none) (ho : S.isOpen = false) (b : List UInt8) :
    KI (beginL M S b gf).2.1 (beginL M S b gf).2.2 U O ∧ ((beginL M S b gf).1 = 0 → Pend (beginL M S b gf).2.1 (beginL M S b gf).2.2 ⟨nextL S, 8, b⟩ ∧ placeL (beginL M S b gf).2.2 b.length = (nextL S, 8, b.length) ∧ (beginL M S b gf).2.2.nums.getLast? = some (nextL S)) := by
  have hnx := h.next
  unfold beginL
  by_cases c0 : nextL S = 1048576
  · rw [if_pos c0]
    exact ⟨h, fun e => by cases e⟩
  rw [if_neg c0]
  have hn : nextL S < 1048576 := by omega
  have hc := h.create hg.ok hn hg0
  have g1 := opCreate_good hg (nameS (nextL S)) gf
  obtain ⟨R1, hR1⟩ : ∃ R, R = opCreate M (nameS (nextL S)) gf := ⟨_, rfl⟩
  rw [← hR1] at hc g1 ⊢
  obtain ⟨E1, M1⟩ := R1
  dsimp only at hc g1 ⊢
  by_cases c1' : E1 ≠ 0
  · rw [if_pos c1']
    exact ⟨hc.1, fun e => absurd e c1'⟩
  rw [if_neg c1']
  have c1 : E1 = 0 := Decidable.not_not.1 c1'
  obtain ⟨hno, off1, now1, fs1, off0, keep⟩ := hc.2 c1
  have hU : ∀ x ∈ U, x.n ≠ nextL S := fun x hx e => by
    obtain ⟨g, F, a, _⟩ := (h.sure x hx).there hg.ok
    rw [e, hno] at a
    cases a
  have hO : ∀ x ∈ O, x.n ≠ nextL S := fun x hx e => by
    obtain ⟨_, g, F, a, _⟩ := h.op off0 x hx
    rw [e, hno] at a
    cases a
  have hS : ∀ m ∈ S.nums, m ≠ nextL S := fun m hm e => by
    obtain ⟨g, a⟩ := h.there off0 m hm
    rw [e, hno] at a
    cases a
  have now1' : nFind M1.now (nameS (nextL S)).data.toList = some gf := by rw [nameS_sg hn]; exact now1
  have ha := hc.1.append (nameS (nextL S)) (magicL ++ b) (fun g F hf => .inr fun x hx e => by
    obtain ⟨_, g0, F0, a, c, _⟩ := h.op off0 x hx
    rw [find_at hf now1', keep _ _ a] at e
    injection e with e
    rw [e, hg0] at c
    cases c)
  have g2 := opAppend_good g1 (nameS (nextL S)) (magicL ++ b)
  obtain ⟨R2, hR2⟩ : ∃ R, R = opAppend M1 (nameS (nextL S)) (magicL ++ b) := ⟨_, rfl⟩
  rw [← hR2] at ha g2 ⊢
  obtain ⟨E2, M2⟩ := R2
  dsimp only at ha g2 ⊢
  by_cases c2 : E2 = 11
  · rw [if_pos c2]
    refine ⟨ha.1.remove g2.ok hn hU hO hS, fun e => ?_⟩
    exfalso
    revert e
    dsimp only
    split <;> intro e <;> cases e
  rw [if_neg c2]
  by_cases c3' : E2 ≠ 0
  · rw [if_pos c3']
    exact ⟨ha.1, fun e => absurd e c3'⟩
  rw [if_neg c3']
  have c3 : E2 = 0 := Decidable.not_not.1 c3'
  obtain ⟨g, F, hf, off2, now2, fs2⟩ := ha.2 c3
  have eg := find_at hf now1'
  subst eg
  have eF : F = ⟨[], [], []⟩ := by have := (find_fs hf).2.2; rw [fs1] at this; exact (Option.some.inj this).symm
  subst eF
  have hgl : (S.grown (nextL S, 8 + b.length)).nums.getLast? = some (nextL S) := by rw [Lg.grown_nums, List.getLast?_append]; rfl
  refine ⟨⟨ha.1.sure, ha.1.un, fun x hx i n hi hl => ?_, fun m hm => ?_, fun _ m hm => ?_, ha.1.gr, fun _ x hx => ?_⟩, fun _ => ⟨⟨hn, g, _, by rw [now2]; exact now1, fs2, ⟨magicL, [], by show ([] : List UInt8).take 0 ++ (magicL ++ b) = _; simp, rfl⟩, .inl ⟨rfl, nextL S, hgl, by rw [now2]; exact now1⟩⟩, ?_, hgl⟩⟩
  · rw [Lg.grown_nums] at hi hl
    rw [List.length_append, List.length_singleton] at hl
    by_cases hi2 : i < S.nums.length
    · rw [List.getElem?_append_left hi2] at hi
      exact h.old x hx i n hi (by have hl : S.nums.length + 1 ≤ i + (S.fresh + 1) := hl; omega)
    · have := (List.getElem?_eq_some_iff.1 hi).1
      rw [List.length_append, List.length_singleton] at this
      have hie : i = S.nums.length := by omega
      subst hie
      rw [List.getElem?_append_right (Nat.le_refl _), Nat.sub_self] at hi
      have : nextL S = n := by simpa using hi
      rw [← this]
      exact fun e => hU x hx e.symm
  · rw [Lg.grown_nums] at hm
    rcases List.mem_append.1 hm with hm | hm
    · exact h.num m hm
    · have : m = nextL S := by simpa using hm
      rw [this]
      exact hn
  · rw [Lg.grown_nums] at hm
    rw [now2]
    rcases List.mem_append.1 hm with hm | hm
    · exact hc.1.there off1 m hm
    · have : m = nextL S := by simpa using hm
      rw [this]
      exact ⟨g, now1⟩
  · obtain ⟨a, g', F', b1, c, d, e⟩ := ha.1.op off2 x hx
    refine ⟨a, g', F', b1, c, d, .inr ?_⟩
    rcases e with ⟨e1, _⟩ | e
    · rw [ho] at e1; cases e1
    · exact e
  · unfold placeL Lg.grown
    rw [List.getLast?_append]
    show ((nextL S, 8 + b.length - b.length, b.length) : Nat × Nat × Nat) = _
    rw [Nat.add_sub_cancel]
theorem sizeL_keep (M : Me) (S : Lg) (i : Nat) : (sizeL M S i).2.nums = S.nums ∧ (sizeL M S i).2.fresh = S.fresh ∧ (sizeL M S i).2.isOpen = S.isOpen ∧ (sizeL M S i).2.segs.length = S.segs.length := by
  unfold sizeL
  split
  · split
    · exact ⟨rfl, rfl, rfl, rfl⟩
    · exact ⟨Lg.sized_nums _ _ _, rfl, rfl, Lg.sized_length _ _ _⟩
  · exact ⟨rfl, rfl, rfl, rfl⟩
/-- With the power on, the last segment's size is its file's. -/
theorem sizeL_last {p : Nat × Nat} {g : Nat} {F : Fi} (hp : S.segs.getLast? = some p) (hf : M.find (nameS (p.1 : Int)) = .inr (g, F)) : (sizeL M S (S.segs.length - 1)).2.segs.getLast? = some (p.1, F.now.length) := by
  have hl : 0 < S.segs.length := by
    cases hs : S.segs with
    | nil => rw [hs] at hp; cases hp
    | cons y r => simp
  have hp2 : S.segs[S.segs.length - 1]? = some p := by rw [← List.getLast?_eq_getElem?]; exact hp
  have hb : M.bytes (nameS (p.1 : Int)) = (F.now, 0) := by unfold Me.bytes; rw [hf]
  unfold sizeL
  rw [hp2]
  dsimp only
  rw [hb, if_neg (show ¬ ((0 : Int) = 12) by decide)]
  unfold Lg.sized
  dsimp only
  rw [List.getLast?_eq_getElem?, List.length_modify, List.getElem?_modify, hp2]
  simp
theorem nums_last {p : Nat × Nat} (hp : S.segs.getLast? = some p) : S.nums.getLast? = some p.1 := by
  unfold Lg.nums
  rw [List.getLast?_map, hp]
  rfl
theorem opSync_none {s : ByteArray} (h : M.fs gf = none) : (opSync M s).2.fs gf = none := by
  unfold opSync
  cases hf : M.find s with
  | inl E => exact h
  | inr q =>
    dsimp only
    split
    · exact h
    · have := (find_fs (gf := q.1) (F := q.2) hf).2.2
      exact (upd_other _ _ (fun e => by rw [← e, h] at this; cases this)).trans h
/-- What a log's next entry is told of its place. -/
def NewP (M : Me) (S : Lg) (b : List UInt8) : Prop := ∃ n a, Pend M S ⟨n, a, b⟩ ∧ placeL S b.length = (n, a, b.length) ∧ S.nums.getLast? = some n
theorem KI.extend (h : KI M S U O) {p : Nat × Nat} (hp : S.segs.getLast? = some p) (ho : S.isOpen = true) (b : List UInt8) (hz : ∀ g F, M.find (nameS (p.1 : Int)) = .inr (g, F) → p.2 = F.now.length) :
    KI (extendL M S b).2.1 (extendL M S b).2.2 U O ∧ ((extendL M S b).1 = 0 → NewP (extendL M S b).2.1 (extendL M S b).2.2 b) := by
  have hpn : p.1 < 1048576 := h.num p.1 (List.mem_of_getLast? (nums_last hp))
  unfold extendL
  rw [hp]
  dsimp only
  have ha := h.append (nameS (p.1 : Int)) b (fun g F hf => .inl ⟨ho, p.1, nums_last hp, by have := (find_fs hf).2.1; rw [nameS_sg hpn] at this; exact this⟩)
  by_cases c : (opAppend M (nameS (p.1 : Int)) b).1 = 0
  · rw [if_pos c]
    obtain ⟨g, F, hf, off2, now2, fs2⟩ := ha.2 c
    have hl : 0 < S.segs.length := by
      cases hs : S.segs with
      | nil => rw [hs] at hp; cases hp
      | cons y r => simp
    have hp2 : S.segs[S.segs.length - 1]? = some p := by rw [← List.getLast?_eq_getElem?]; exact hp
    refine ⟨ha.1.congr (Lg.sized_nums _ _ _) rfl rfl, fun _ => ⟨p.1, p.2, ⟨hpn, g, _, ?_, fs2, ⟨F.now, [], ?_, ?_⟩, .inl ⟨ho, p.1, ?_, ?_⟩⟩, ?_, ?_⟩⟩
    · rw [now2]; have := (find_fs hf).2.1; rw [nameS_sg hpn] at this; exact this
    · show F.now.take F.now.length ++ b = _
      rw [List.take_length, List.append_nil]
    · exact (hz g F hf).symm
    · rw [Lg.sized_nums]; exact nums_last hp
    · rw [now2]; have := (find_fs hf).2.1; rw [nameS_sg hpn] at this; exact this
    · unfold placeL Lg.sized
      dsimp only
      rw [List.getLast?_eq_getElem?, List.length_modify, List.getElem?_modify, hp2]
      simp
    · rw [Lg.sized_nums]; exact nums_last hp
  · rw [if_neg c]
    exact ⟨ha.1, fun e => absurd e c⟩
theorem KI.lay (h : KI M S U O) (hg : M.good k) (hg0 : M.fs gf = none) (hop : S.isOpen = true → 0 < S.segs.length) (b : List UInt8) :
    KI (layA M S b gf).2.1 (layA M S b gf).2.2 U O ∧ ((layA M S b gf).1 = 0 → NewP (layA M S b gf).2.1 (layA M S b gf).2.2 b) := by
  unfold layA
  cases ho : S.isOpen with
  | false =>
    rw [if_pos rfl]
    have hb := h.begin hg hg0 ho b
    exact ⟨hb.1, fun e => ⟨_, _, (hb.2 e).1, (hb.2 e).2.1, (hb.2 e).2.2⟩⟩
  | true =>
    rw [if_neg (by decide)]
    obtain ⟨p, hp⟩ : ∃ p, S.segs.getLast? = some p := by
      cases hs : S.segs.getLast? with
      | none => rw [List.getLast?_eq_none_iff] at hs; have := hop ho; rw [hs] at this; cases this
      | some p => exact ⟨p, rfl⟩
    rw [hp]
    dsimp only
    have hpn : p.1 < 1048576 := h.num p.1 (List.mem_of_getLast? (nums_last hp))
    obtain ⟨s1, s2, s3, s4⟩ := sizeL_keep M S (S.segs.length - 1)
    have h1 := h.congr s1 s2 s3
    unfold layO
    by_cases c : (((sizeL M S (S.segs.length - 1)).1 + b.length : Nat) : Int) ≤ S.limit
    · rw [if_pos c]
      obtain ⟨p1, hp1, e1⟩ : ∃ p1, (sizeL M S (S.segs.length - 1)).2.segs.getLast? = some p1 ∧ p1.1 = p.1 := by
        have hq := nums_last hp
        rw [← s1] at hq
        unfold Lg.nums at hq
        rw [List.getLast?_map] at hq
        cases hx : (sizeL M S (S.segs.length - 1)).2.segs.getLast? with
        | none => rw [hx] at hq; cases hq
        | some p1 => rw [hx] at hq; exact ⟨p1, rfl, Option.some.inj hq⟩
      refine h1.extend hp1 (by rw [s3]; exact ho) b (fun g F hf => ?_)
      rw [e1] at hf
      have := sizeL_last hp hf
      rw [hp1] at this
      rw [Option.some.inj this]
    · rw [if_neg c]
      have hy := h1.sync (nameS (p.1 : Int))
      have gy := opSync_good hg (nameS (p.1 : Int))
      have ny := opSync_none (s := nameS (p.1 : Int)) hg0
      obtain ⟨R, hR⟩ : ∃ R, R = opSync M (nameS (p.1 : Int)) := ⟨_, rfl⟩
      rw [← hR] at hy gy ny ⊢
      obtain ⟨E, M1⟩ := R
      dsimp only at hy gy ny ⊢
      by_cases c2 : E ≠ 0
      · rw [if_pos c2]
        exact ⟨hy.1, fun e => absurd e c2⟩
      · rw [if_neg c2]
        have c2 : E = 0 := Decidable.not_not.1 c2
        have hb := (hy.2.1 c2 (fun n hn => by
          rw [s1, nums_last hp] at hn
          rw [nameS_sg hpn, Option.some.inj hn])).begin gy ny rfl b
        exact ⟨hb.1, fun e => ⟨_, _, (hb.2 e).1, (hb.2 e).2.1, (hb.2 e).2.2⟩⟩
theorem KI.appendL (h : KI M S U O) (hg : M.good k) (hg0 : M.fs gf = none) (hop : S.isOpen = true → 0 < S.segs.length) (E : Int × List UInt8) :
    KI (appendL M S E gf).2.2.1 (appendL M S E gf).2.2.2 U O ∧ ((appendL M S E gf).2.1 = 0 → ∃ n a, (appendL M S E gf).1 = (n, a, E.2.length) ∧ Pend (appendL M S E gf).2.2.1 (appendL M S E gf).2.2.2 ⟨n, a, E.2⟩ ∧ (appendL M S E gf).2.2.2.nums.getLast? = some n) := by
  have hl := h.lay hg hg0 hop E.2
  unfold Go.Proofs.YtfneloobfidckaaGreatDoor.appendL appendR
  split
  · rename_i hE
    exact ⟨h, fun e => absurd e hE⟩
  split
  · rename_i hE
    exact ⟨hl.1, fun e => absurd e hE⟩
  · rename_i hE
    have hE : (layA M S E.2 gf).1 = 0 := Decidable.not_not.1 hE
    obtain ⟨n, a, b1, b2, b3⟩ := hl.2 hE
    exact ⟨hl.1, fun _ => ⟨n, a, b2, b1, b3⟩⟩
/-- What was put lasts behind a Commit. -/
theorem KI.commitL (h : KI M S U O) (hg : M.good k) (hg0 : M.fs gf = none) (hop : S.isOpen = true → 0 < S.segs.length) (hgood : (Go.Proofs.YtfneloobfidckaaGreatDoor.appendL M S cmE gf).2.2.1.good (k + 4)) :
    ((commitL M S gf).2.1 ≠ 0 → KI (commitL M S gf).2.2.1 (commitL M S gf).2.2.2 U O) ∧ ((commitL M S gf).2.1 = 0 → KI (commitL M S gf).2.2.1 (commitL M S gf).2.2.2 (U ++ O) []) := by
  have ha := h.appendL hg hg0 hop cmE
  unfold Go.Proofs.YtfneloobfidckaaGreatDoor.commitL commitR
  obtain ⟨R, hR⟩ : ∃ R, R = Go.Proofs.YtfneloobfidckaaGreatDoor.appendL M S cmE gf := ⟨_, rfl⟩
  rw [← hR] at ha hgood ⊢
  obtain ⟨⟨pa, pb, pc⟩, er, M3, S3⟩ := R
  dsimp only at ha hgood ⊢
  by_cases c : er ≠ 0
  · rw [if_pos c]
    exact ⟨fun _ => ha.1, fun e => absurd e c⟩
  rw [if_neg c]
  have c : er = 0 := Decidable.not_not.1 c
  obtain ⟨n, a, e1, pn, ln⟩ := ha.2 c
  injection e1 with e1 _
  subst e1
  have hy := ha.1.sync (nameS (pa : Int))
  have gy := opSync_good hgood (nameS (pa : Int))
  obtain ⟨R, hR⟩ : ∃ R, R = opSync M3 (nameS (pa : Int)) := ⟨_, rfl⟩
  rw [← hR] at hy gy ⊢
  obtain ⟨E4, M4⟩ := R
  dsimp only at hy gy ⊢
  by_cases c2 : E4 ≠ 0
  · rw [if_pos c2]
    exact ⟨fun _ => hy.1, fun e => absurd e c2⟩
  rw [if_neg c2]
  have c2 : E4 = 0 := Decidable.not_not.1 c2
  have hk := hy.2.1 c2 (fun n hn => by
    rw [ln] at hn
    rw [nameS_sg pn.1, Option.some.inj hn])
  have off4 := (hy.2.2 c2).1
  have hz := hk.syncDir gy.ok
  have hz1 := (hy.1.syncDir gy.ok).1
  obtain ⟨R, hR⟩ : ∃ R, R = opSyncDir M4 := ⟨_, rfl⟩
  rw [← hR] at hz hz1 ⊢
  obtain ⟨E5, M5⟩ := R
  dsimp only at hz hz1 ⊢
  by_cases c3 : E5 ≠ 0
  · rw [if_pos c3]
    exact ⟨fun _ => hz1, fun e => absurd e c3⟩
  rw [if_neg c3]
  have c3 : E5 = 0 := Decidable.not_not.1 c3
  refine ⟨fun e => absurd rfl e, fun _ => ⟨fun x hx => ?_, fun x hx => ?_, fun x hx i m hi hl => ?_, hz.1.num, hz.1.there, hz.1.gr, fun _ x hx => by cases hx⟩⟩
  · rcases List.mem_append.1 hx with hx | hx
    · exact hz.1.sure x hx
    · exact hz.2 c3 rfl x hx
  · rcases List.mem_append.1 hx with hx | hx
    · exact h.un x hx
    · exact (hk.op off4 x hx).1
  · have := (List.getElem?_eq_some_iff.1 hi).1
    have hl : _ ≤ i + 0 := hl
    omega
end
end Go.Proofs.YtfneloobfidckaaGreatDoor

/- Two names never lead to one file, whatever lasts. Mathematics; it proves no statement. -/

namespace Go.Proofs.YtfneloobfidckaaGreatDoor
open Go.RowKit Go.Maps Go.WideMaps Go.Sort
set_option linter.unusedVariables false
set_option linter.unusedSimpArgs false

def InjN (N : NT) : Prop := ∀ a b g, nFind N a = some g → nFind N b = some g → a = b
def Inj (M : Me) : Prop := ∀ j, InjN (nmSteps M.fast (M.wait.take j))
section
variable {M : Me} {S : Lg} {k gf : Nat}
theorem nFind_del_some {N : NT} {s t : List UInt8} {g : Nat} (h : nFind (nDel N s) t = some g) : nFind N t = some g := by
  by_cases e : s = t
  · rw [e, nFind_delS] at h; cases h
  · rw [nFind_delN e] at h; exact h
theorem Inj.now (h : Inj M) (hok : M.ok) : InjN M.now := by
  rw [hok.eq]
  have := h M.wait.length
  rwa [List.take_length] at this
theorem Inj.same {M' : Me} (h : Inj M) (h1 : M'.fast = M.fast) (h2 : M'.wait = M.wait) : Inj M' := fun j => by rw [h1, h2]; exact h j
theorem Inj.link (h : Inj M) (hok : M.ok) (y : ByteArray × ByteArray × Int) (fs : Nat → Option Fi) (hn : InjN (nmStep M.now y)) : Inj (M.link y fs) := fun j => by
  show InjN (nmSteps M.fast ((M.wait ++ [y]).take j))
  by_cases hj : j ≤ M.wait.length
  · rw [List.take_append_of_le_length hj]; exact h j
  · rw [List.take_of_length_le (by simp; omega), nmSteps_snoc, ← hok.eq]
    exact hn
theorem Inj.create (h : Inj M) (hok : M.ok) (s : ByteArray) (hg : M.fs gf = none) : Inj (opCreate M s gf).2 := by
  unfold opCreate
  split
  · exact h
  split
  · exact h
  split
  · exact h
  split
  · exact h
  split
  · exact h
  · refine h.link hok _ _ ?_
    have e : ∀ t g, nFind (nmStep M.now (⟨#[]⟩, s, (gf : Int))) t = some g → (s.data.toList = t ∧ g = gf) ∨ (nFind M.now t = some g ∧ g ≠ gf) := fun t g ht => by
      have ht : nFind (nPut (nDel M.now []) s.data.toList gf) t = some g := by
        unfold nmStep at ht
        rw [if_neg (show ¬ ((gf : Int) < 0) by omega)] at ht
        exact ht
      rw [nFind_put] at ht
      by_cases e : s.data.toList = t
      · rw [if_pos e] at ht
        exact .inl ⟨e, (Option.some.inj ht).symm⟩
      · rw [if_neg e] at ht
        have h1 := nFind_del_some ht
        refine .inr ⟨h1, fun e2 => ?_⟩
        obtain ⟨F, hF⟩ := Me.there hok h1
        rw [e2, hg] at hF
        cases hF
    intro a b g ha hb
    rcases e a g ha with ⟨e1, e2⟩ | ⟨e1, e2⟩ <;> rcases e b g hb with ⟨e3, e4⟩ | ⟨e3, e4⟩
    · exact e1.symm.trans e3
    · exact absurd e2 e4
    · exact absurd e4 e2
    · exact h.now hok a b g e1 e3
theorem Inj.append (h : Inj M) (s : ByteArray) (b : List UInt8) : Inj (opAppend M s b).2 := by
  unfold opAppend
  split
  · exact h
  · split
    · exact h
    · split
      · exact h
      · exact h.same rfl rfl
theorem Inj.sync (h : Inj M) (s : ByteArray) : Inj (opSync M s).2 := by
  unfold opSync
  split
  · exact h
  · split
    · exact h
    · exact h.same rfl rfl
theorem Inj.remove (h : Inj M) (hok : M.ok) (s : ByteArray) : Inj (opRemove M s).2 := by
  unfold opRemove
  split
  · exact h
  · unfold opName
    split
    · exact h
    · refine h.link hok _ _ fun a b g ha hb => ?_
      have e : ∀ t, nFind (nmStep M.now (s, ⟨#[]⟩, -1)) t = some g → nFind M.now t = some g := fun t ht => by
        unfold nmStep at ht
        rw [if_pos (show ((-1 : Int)) < 0 by decide)] at ht
        exact nFind_del_some ht
      exact h.now hok a b g (e a ha) (e b hb)
theorem Inj.syncDir (h : Inj M) (hok : M.ok) : Inj (opSyncDir M).2 := by
  unfold opSyncDir
  split
  · exact h
  split
  · exact h
  · intro j
    show InjN (nmSteps M.now (([] : List (ByteArray × ByteArray × Int)).take j))
    rw [List.take_nil]
    exact h.now hok
theorem Inj.arm (h : Inj M) (n : Int) : Inj (opArm M n).2 := by
  unfold opArm
  split
  · exact h
  split
  · exact h
  · exact h.same rfl rfl
theorem Inj.crash (h : Inj M) (zs : List Int) : Inj (M.crash zs) := fun j => by
  show InjN (nmSteps (M.lasts zs) (([] : List (ByteArray × ByteArray × Int)).take j))
  rw [List.take_nil]
  exact h _
theorem Inj.begin (h : Inj M) (hg : M.good k) (hg0 : M.fs gf = none) (b : List UInt8) : Inj (beginL M S b gf).2.1 := by
  have h1 := h.create hg.ok (nameS (nextL S)) hg0
  have g1 := opCreate_good hg (nameS (nextL S)) gf
  have h2 := h1.append (nameS (nextL S)) (magicL ++ b)
  have g2 := opAppend_good g1 (nameS (nextL S)) (magicL ++ b)
  have h3 := h2.remove g2.ok (nameS (nextL S))
  unfold beginL
  split
  · exact h
  split
  · exact h1
  split
  · exact h3
  split
  · exact h2
  · exact h2
theorem Inj.lay (h : Inj M) (hg : M.good k) (hg0 : M.fs gf = none) (b : List UInt8) : Inj (layA M S b gf).2.1 := by
  unfold layA
  split
  · exact h.begin hg hg0 b
  split
  · rename_i p hp
    unfold layO
    split
    · unfold extendL
      split
      · split
        · exact h.append _ _
        · exact h.append _ _
      · exact h
    split
    · exact h.sync _
    · exact (h.sync _).begin (opSync_good hg _) (opSync_none hg0) b
  · exact h
theorem Inj.appendL (h : Inj M) (hg : M.good k) (hg0 : M.fs gf = none) (E : Int × List UInt8) : Inj (appendL M S E gf).2.2.1 := by
  unfold Go.Proofs.YtfneloobfidckaaGreatDoor.appendL appendR
  split
  · exact h
  split
  · exact h.lay hg hg0 _
  · exact h.lay hg hg0 _
theorem Inj.commitL (h : Inj M) (hg : M.good k) (hg0 : M.fs gf = none) (hgood : (Go.Proofs.YtfneloobfidckaaGreatDoor.appendL M S cmE gf).2.2.1.good (k + 4)) : Inj (commitL M S gf).2.2.1 := by
  have ha := h.appendL (S := S) hg hg0 cmE
  unfold Go.Proofs.YtfneloobfidckaaGreatDoor.commitL commitR
  split
  · exact ha
  split
  · exact ha.sync _
  split
  · exact (ha.sync _).syncDir (opSync_good hgood _).ok
  · exact (ha.sync _).syncDir (opSync_good hgood _).ok
theorem Inj.drop (h : Inj M) (hg : M.good k) (i : Nat) : Inj (dropL M S i).2.1 := by
  unfold dropL
  split
  · split
    · exact h.remove hg.ok _
    · exact h.remove hg.ok _
  · exact h
end
end Go.Proofs.YtfneloobfidckaaGreatDoor

/- What Remove, Rollback, a crash and Open leave of what lasts; and that it is read. Mathematics; it proves no statement. -/



namespace Go.Proofs.YtfneloobfidckaaGreatDoor
open Go.RowKit Go.Maps Go.WideMaps Go.Sort
set_option linter.unusedVariables false
set_option linter.unusedSimpArgs false

section
variable {M : Me} {S : Lg} {U O : List Pc} {k gf : Nat}
def outN (n : Nat) (U : List Pc) : List Pc := U.filter fun x => !(x.n == n)
theorem outN_mem {n : Nat} {U : List Pc} {x : Pc} (h : x ∈ outN n U) : x ∈ U ∧ x.n ≠ n := by
  have := List.mem_filter.1 h
  exact ⟨this.1, by simpa using this.2⟩
theorem KI.out (h : KI M S U O) (n : Nat) : KI M S (outN n U) (outN n O) := ⟨fun x hx => h.sure x (outN_mem hx).1, fun x hx => h.un x (outN_mem hx).1, fun x hx => h.old x (outN_mem hx).1, h.num, h.there, h.gr, fun ho x hx => h.op ho x (outN_mem hx).1⟩
theorem Lg.cut_nums (S : Lg) (i : Nat) : (S.cut i).nums = S.nums.eraseIdx i := by
  show (S.segs.eraseIdx i).map (·.1) = (S.segs.map (·.1)).eraseIdx i
  refine List.ext_getElem? fun j => ?_
  rw [List.getElem?_map, List.getElem?_eraseIdx, List.getElem?_eraseIdx]
  split <;> rw [List.getElem?_map]
/-- The log's side of a segment taken away. -/
theorem KI.cut (h : KI M S U O) (hok : M.ok) (hi : Inj M) {i : Nat} {p : Nat × Nat} (hp : S.segs[i]? = some p) : KI M (S.cut i) (outN p.1 U) (outN p.1 O) := by
  have hil := (List.getElem?_eq_some_iff.1 hp).1
  have hnl := S.nums_len
  have hpn : S.nums[i]? = some p.1 := by unfold Lg.nums; rw [List.getElem?_map, hp]; rfl
  have hp1 : p.1 < 1048576 := h.num p.1 (List.mem_of_getElem? hpn)
  have hfc : (S.cut i).fresh = if S.segs.length ≤ i + S.fresh then S.fresh - 1 else S.fresh := rfl
  have hsub : ∀ n ∈ (S.cut i).nums, n ∈ S.nums := fun n hn => by rw [Lg.cut_nums] at hn; exact List.mem_of_mem_eraseIdx hn
  refine ⟨fun x hx => h.sure x (outN_mem hx).1, fun x hx => h.un x (outN_mem hx).1, fun x hx j n hj hl => ?_, fun n hn => h.num n (hsub n hn), fun ho n hn => h.there ho n (hsub n hn), h.gr, fun ho x hx => ?_⟩
  · have hlen : (S.cut i).nums.length = S.nums.length - 1 := by rw [Lg.cut_nums, List.length_eraseIdx, if_pos (by omega)]
    rw [hlen, hfc] at hl
    rw [Lg.cut_nums, List.getElem?_eraseIdx] at hj
    split at hj
    · refine h.old x (outN_mem hx).1 j n hj ?_
      split at hl <;> omega
    · refine h.old x (outN_mem hx).1 (j + 1) n hj ?_
      split at hl <;> omega
  · obtain ⟨hxo, hxn⟩ := outN_mem hx
    obtain ⟨a, gf, F, b1, c, d, e⟩ := h.op ho x hxo
    refine ⟨a, gf, F, b1, c, d, ?_⟩
    rcases e with ⟨e1, n, e2, e3⟩ | e
    · by_cases hl : i + 1 = S.segs.length
      · exfalso
        have : S.nums.getLast? = some p.1 := by
          rw [List.getLast?_eq_getElem?, hnl, show S.segs.length - 1 = i by omega]
          exact hpn
        rw [this] at e2
        have e4 := (hi.now hok) _ _ _ e3 b1
        rw [← Option.some.inj e2] at e4
        exact hxn (sgnB_inj hp1 a e4).symm
      · refine .inl ⟨?_, n, ?_, e3⟩
        · show (if i + 1 = S.segs.length then false else S.isOpen) = true
          rw [if_neg hl]
          exact e1
        · rw [Lg.cut_nums, List.getLast?_eq_getElem?, List.length_eraseIdx, if_pos (by omega), List.getElem?_eraseIdx, if_neg (by omega), ← e2, List.getLast?_eq_getElem?]
          congr 1
          omega
    · exact .inr e
theorem KI.drop (h : KI M S U O) (hg : M.good k) (hi : Inj M) (hok : S.ok) {i : Nat} {p : Nat × Nat} (hp : S.segs[i]? = some p) :
    KI (dropL M S i).2.1 (dropL M S i).2.2 (outN p.1 U) (outN p.1 O) ∧ ((dropL M S i).1 ≠ 0 → (dropL M S i).2.1.off = true) := by
  have hil := (List.getElem?_eq_some_iff.1 hp).1
  have hp1 : p.1 < 1048576 := (hok.num p (List.mem_of_getElem? hp)).1
  have hpn : p.1 ∈ S.nums := List.mem_map.2 ⟨p, List.mem_of_getElem? hp, rfl⟩
  have hc := h.cut hg.ok hi hp
  have hr := hc.remove hg.ok hp1 (fun x hx => (outN_mem hx).2) (fun x hx => (outN_mem hx).2) (fun m hm => by
    rw [Lg.cut_nums] at hm
    obtain ⟨j, hj⟩ := List.mem_iff_getElem?.1 hm
    rw [List.getElem?_eraseIdx] at hj
    have hnr : S.nums.Pairwise (· < ·) := by unfold Lg.nums; rw [List.pairwise_map]; exact hok.rise
    have hpi : S.nums[i]? = some p.1 := by unfold Lg.nums; rw [List.getElem?_map, hp]; rfl
    obtain ⟨l1, e1⟩ := List.getElem?_eq_some_iff.1 hpi
    intro e
    split at hj
    · obtain ⟨l2, e2⟩ := List.getElem?_eq_some_iff.1 hj
      have := List.pairwise_iff_getElem.1 hnr j i l2 l1 (by omega)
      omega
    · obtain ⟨l2, e2⟩ := List.getElem?_eq_some_iff.1 hj
      have := List.pairwise_iff_getElem.1 hnr i (j + 1) l1 l2 (by omega)
      omega)
  unfold dropL
  rw [hp]
  dsimp only
  by_cases c : (opRemove M (nameS (p.1 : Int))).1 ≠ 0
  · rw [if_pos c]
    have hoff : (opRemove M (nameS (p.1 : Int))).2.off = true := by
      unfold opRemove at c ⊢
      cases hf : M.find (nameS (p.1 : Int)) with
      | inl E =>
        rw [hf] at c
        dsimp only at c ⊢
        cases ho : M.off with
        | true => rfl
        | false =>
          exfalso
          obtain ⟨g, hgn⟩ := h.there ho p.1 hpn
          obtain ⟨F, hF⟩ := Me.there hg.ok hgn
          unfold Me.find at hf
          rw [if_neg (by rw [ho]; decide), nameS_sg hp1, hgn] at hf
          simp only [hF] at hf
          cases hf
      | inr q =>
        rw [hf] at c
        dsimp only at c ⊢
        unfold opName at c ⊢
        split
        · rfl
        · rename_i hl
          rw [if_neg hl] at c
          exact absurd rfl c
    refine ⟨⟨hr.sure, hr.un, fun x hx => h.old x (outN_mem hx).1, h.num, fun ho => ?_, hr.gr, fun ho => ?_⟩, fun _ => hoff⟩
    · have ho : (opRemove M (nameS (p.1 : Int))).2.off = false := ho
      rw [hoff] at ho; cases ho
    · have ho : (opRemove M (nameS (p.1 : Int))).2.off = false := ho
      rw [hoff] at ho; cases ho
  · rw [if_neg c]
    exact ⟨hr, fun e => absurd rfl e⟩
theorem KI.crash (h : KI M S U O) (hok : M.ok) (zs : List Int) {S' : Lg} (h1 : S'.fresh = 0) (h2 : ∀ n ∈ S'.nums, n < 1048576 ∧ ∃ gf, nFind (M.crash zs).now (sgnB n) = some gf) : KI (M.crash zs) S' U [] := by
  refine ⟨fun x hx => (h.sure x hx).crash zs, h.un, fun x hx i n hi hl => ?_, fun n hn => (h2 n hn).1, fun _ n hn => (h2 n hn).2, fun g F hF => ?_, fun _ x hx => by cases hx⟩
  · have := (List.getElem?_eq_some_iff.1 hi).1
    rw [h1] at hl
    omega
  · cases hq : M.fs g with
    | none =>
      have hn : (M.crash zs).fs g = none := crAll_none _ (M.fs, zs.tail) (fun f hf => ?_) hq
      · rw [hn] at hF; cases hF
      · obtain ⟨p, hp, e⟩ := List.mem_map.1 hf
        rw [← e]
        exact M.lasts_files hok zs p hp
    | some F0 =>
      obtain ⟨G, g1, g2, _⟩ := crFold_gr ((M.lasts zs).map (·.2)) (M.fs, zs.tail) hq (h.gr g F0 hq)
      have : (M.crash zs).fs g = some G := g1
      rw [this] at hF
      rw [← Option.some.inj hF]
      exact g2
theorem KI.arm (h : KI M S U O) (n : Int) : KI (opArm M n).2 S U O := by
  have hs := fun x hx => (h.sure x hx).arm n
  unfold opArm at hs ⊢
  split
  · exact h
  split
  · exact h
  · rename_i h1 h2
    rw [if_neg h1, if_neg h2] at hs
    exact ⟨hs, h.un, h.old, h.num, h.there, h.gr, h.op⟩
theorem KI.weak {O' : List Pc} (h : KI M S U O') (ho : M.off = true ∨ ∀ x ∈ O, x ∈ O') : KI M S U O := ⟨h.sure, h.un, h.old, h.num, h.there, h.gr, fun hoff x hx => by
  rcases ho with ho | ho
  · rw [ho] at hoff; cases hoff
  · exact h.op hoff x (ho x hx)⟩
theorem KI.roll : ∀ {f : Nat} {M : Me} {S : Lg} {O : List Pc} {k : Nat}, KI M S U O → M.good k → Inj M → S.ok → f = S.fresh → KI (rollL f M S).2.1 (rollL f M S).2.2 U [] ∧ ((rollL f M S).1 ≠ 0 → (rollL f M S).2.1.off = true) ∧ Inj (rollL f M S).2.1
  | 0, M, S, O, k, h, hg, hi, hok, hf => ⟨h.weak (.inr fun x hx => by cases hx), fun e => absurd rfl e, hi⟩
  | f + 1, M, S, O, k, h, hg, hi, hok, hf => by
    have hl : 0 < S.segs.length := by have := hok.fresh; omega
    have hp := List.getElem?_eq_getElem (l := S.segs) (i := S.segs.length - 1) (by omega)
    have hd := h.drop hg hi hok hp
    have hid := hi.drop (S := S) hg (S.segs.length - 1)
    have ha := dropL_all hok hg (i := S.segs.length - 1) (by omega)
    have hU : outN (S.segs[S.segs.length - 1]'(by omega)).1 U = U := by
      unfold outN
      rw [List.filter_eq_self]
      intro x hx
      have := h.old x hx (S.segs.length - 1) _ (show S.nums[S.segs.length - 1]? = some _ by unfold Lg.nums; rw [List.getElem?_map, hp]; rfl) (by rw [S.nums_len]; omega)
      simpa using fun e => this e.symm
    rw [hU] at hd
    unfold rollL
    by_cases h0 : (dropL M S (S.segs.length - 1)).1 = 0
    · rw [if_neg (by rw [h0]; decide)]
      exact hd.1.roll ha.2 hid ha.1 (by rw [(dropL_last hok (by omega) h0).2]; omega)
    · rw [if_pos h0]
      exact ⟨hd.1.weak (.inr fun x hx => by cases hx), fun _ => hd.2 h0, hid⟩
/-- What lasts is read. -/
theorem Sure.read {x : Pc} (h : Sure M x) (hok : M.ok) (hoff : M.off = false) (hS : S.ok) (hn : x.n ∈ S.nums) (hu : x.n < 1048576) {e : Ee} (he : okE e) (hb : x.b = byE e) : readL M S (x.n : Int) (x.a : Int) (x.b.length : Int) = (0, e.t, e.K, e.D) := by
  obtain ⟨gf, F, h1, h2, p, q, h3, h4⟩ := h.there hok
  obtain ⟨i, hi⟩ := List.mem_iff_getElem?.1 hn
  unfold Lg.nums at hi
  rw [List.getElem?_map] at hi
  obtain ⟨sg, hs, hse⟩ : ∃ sg, S.segs[i]? = some sg ∧ sg.1 = x.n := by
    cases hq : S.segs[i]? with
    | none => rw [hq] at hi; cases hi
    | some sg => rw [hq] at hi; exact ⟨sg, rfl, Option.some.inj hi⟩
  have f1 : M.find (nameS (x.n : Int)) = .inr (gf, F) := by
    unfold Me.find
    rw [if_neg (by rw [hoff]; decide), nameS_sg hu, h1]
    simp only [h2]
  have e2 : (F.now.drop x.a).take x.b.length = x.b := by
    rw [h3, List.append_assoc, List.drop_left' h4, List.take_left' rfl]
  have e3 : opRead M (nameS (x.n : Int)) (x.a : Int) (x.b.length : Int) = (x.b, 0) := by
    unfold opRead
    rw [f1]
    simp only
    rw [if_neg (by omega), if_neg ?_, Int.toNat_natCast, Int.toNat_natCast, e2]
    rw [h3, List.length_append, List.length_append, h4]
    omega
  have hr := rd_back (R := []) he.1 he.2
  rw [List.append_nil] at hr
  unfold readL
  rw [findL_some hS hs (by rw [hse])]
  dsimp only
  rw [e3, if_neg (show ¬ ((0 : Int) ≠ 0) by decide)]
  dsimp only
  rw [hb]
  rw [if_neg (by rw [show rdE (byE e) = 0 from hr.1]; decide), if_neg (by rw [show rdN (byE e) = _ from hr.2.2.2.2]; show ¬ ((byE e).length : Int) < (byE e).length; omega)]
  rw [show rdT (byE e) = e.t from hr.2.1, show rdK (byE e) = e.K from hr.2.2.1, show rdD (byE e) = e.D from hr.2.2.2.1]
end
end Go.Proofs.YtfneloobfidckaaGreatDoor

/- All names are segments' names, whatever lasts; what Open finds. Mathematics; it proves no statement. -/


namespace Go.Proofs.YtfneloobfidckaaGreatDoor
open Go.RowKit Go.Maps Go.WideMaps Go.Sort
set_option linter.unusedVariables false
set_option linter.unusedSimpArgs false

def OnlyN (N : NT) : Prop := ∀ t g, nFind N t = some g → ∃ n, n < 1048576 ∧ t = sgnB n
def Only (M : Me) : Prop := ∀ j, OnlyN (nmSteps M.fast (M.wait.take j))
section
variable {M : Me} {S : Lg} {k gf : Nat}
theorem nums_next (S : Lg) : nextL S = match S.nums.getLast? with | none => 0 | some n => n + 1 := by
  unfold nextL Lg.nums
  rw [List.getLast?_map]
  cases S.segs.getLast? <;> rfl
theorem sized_next {i : Nat} : nextL ({ (sizeL M S i).2 with isOpen := false } : Lg) = nextL S := by
  rw [nums_next, nums_next S]
  rw [show Lg.nums ({ (sizeL M S i).2 with isOpen := false } : Lg) = S.nums from (sizeL_keep M S i).1]
theorem Only.now (h : Only M) (hok : M.ok) : OnlyN M.now := by
  rw [hok.eq]
  have := h M.wait.length
  rwa [List.take_length] at this
theorem Only.same {M' : Me} (h : Only M) (h1 : M'.fast = M.fast) (h2 : M'.wait = M.wait) : Only M' := fun j => by rw [h1, h2]; exact h j
theorem Only.link (h : Only M) (hok : M.ok) (y : ByteArray × ByteArray × Int) (fs : Nat → Option Fi) (hn : OnlyN (nmStep M.now y)) : Only (M.link y fs) := fun j => by
  show OnlyN (nmSteps M.fast ((M.wait ++ [y]).take j))
  by_cases hj : j ≤ M.wait.length
  · rw [List.take_append_of_le_length hj]; exact h j
  · rw [List.take_of_length_le (by simp; omega), nmSteps_snoc, ← hok.eq]
    exact hn
theorem Only.createS (h : Only M) (hok : M.ok) {n : Nat} (hn : n < 1048576) {s : ByteArray} (hs : s.data.toList = sgnB n) : Only (opCreate M s gf).2 := by
  unfold opCreate
  split
  · exact h
  split
  · exact h
  split
  · exact h
  split
  · exact h
  split
  · exact h
  · refine h.link hok _ _ fun t g ht => ?_
    have ht : nFind (nPut (nDel M.now []) s.data.toList gf) t = some g := by
      unfold nmStep at ht
      rw [if_neg (show ¬ ((gf : Int) < 0) by omega)] at ht
      exact ht
    rw [nFind_put] at ht
    by_cases e : s.data.toList = t
    · exact ⟨n, hn, by rw [← e, hs]⟩
    · rw [if_neg e] at ht
      have h1 := nFind_del_some ht
      exact (h.now hok) t g h1
theorem Only.create (h : Only M) (hok : M.ok) {n : Nat} (hn : n < 1048576) : Only (opCreate M (nameS (n : Int)) gf).2 := h.createS hok hn (nameS_sg hn)
theorem Only.append (h : Only M) (s : ByteArray) (b : List UInt8) : Only (opAppend M s b).2 := by
  unfold opAppend
  split
  · exact h
  · split
    · exact h
    · split
      · exact h
      · exact h.same rfl rfl
theorem Only.sync (h : Only M) (s : ByteArray) : Only (opSync M s).2 := by
  unfold opSync
  split
  · exact h
  · split
    · exact h
    · exact h.same rfl rfl
theorem Only.remove (h : Only M) (hok : M.ok) (s : ByteArray) : Only (opRemove M s).2 := by
  unfold opRemove
  split
  · exact h
  · unfold opName
    split
    · exact h
    · refine h.link hok _ _ fun t g ht => ?_
      unfold nmStep at ht
      rw [if_pos (show ((-1 : Int)) < 0 by decide)] at ht
      exact h.now hok t g (nFind_del_some ht)
theorem Only.syncDir (h : Only M) (hok : M.ok) : Only (opSyncDir M).2 := by
  unfold opSyncDir
  split
  · exact h
  split
  · exact h
  · intro j
    show OnlyN (nmSteps M.now (([] : List (ByteArray × ByteArray × Int)).take j))
    rw [List.take_nil]
    exact h.now hok
theorem Only.arm (h : Only M) (n : Int) : Only (opArm M n).2 := by
  unfold opArm
  split
  · exact h
  split
  · exact h
  · exact h.same rfl rfl
theorem Only.crash (h : Only M) (zs : List Int) : Only (M.crash zs) := fun j => by
  show OnlyN (nmSteps (M.lasts zs) (([] : List (ByteArray × ByteArray × Int)).take j))
  rw [List.take_nil]
  exact h _
theorem Only.begin (h : Only M) (hg : M.good k) (hnx : nextL S ≤ 1048576) (b : List UInt8) : Only (beginL M S b gf).2.1 := by
  unfold beginL
  split
  · exact h
  rename_i hne
  have h1 := h.create (gf := gf) hg.ok (show nextL S < 1048576 by omega)
  have g1 := opCreate_good hg (nameS (nextL S)) gf
  have h2 := h1.append (nameS (nextL S)) (magicL ++ b)
  have g2 := opAppend_good g1 (nameS (nextL S)) (magicL ++ b)
  have h3 := h2.remove g2.ok (nameS (nextL S))
  split
  · exact h1
  split
  · exact h3
  split
  · exact h2
  · exact h2
theorem Only.lay (h : Only M) (hg : M.good k) (hnx : nextL S ≤ 1048576) (b : List UInt8) : Only (layA M S b gf).2.1 := by
  unfold layA
  split
  · exact h.begin hg hnx b
  split
  · rename_i p hp
    unfold layO
    split
    · unfold extendL
      split
      · split
        · exact h.append _ _
        · exact h.append _ _
      · exact h
    split
    · exact h.sync _
    · exact (h.sync _).begin (opSync_good hg _) (by rw [sized_next]; exact hnx) b
  · exact h
theorem Only.appendL (h : Only M) (hg : M.good k) (hnx : nextL S ≤ 1048576) (E : Int × List UInt8) : Only (appendL M S E gf).2.2.1 := by
  unfold Go.Proofs.YtfneloobfidckaaGreatDoor.appendL appendR
  split
  · exact h
  split
  · exact h.lay hg hnx _
  · exact h.lay hg hnx _
theorem Only.commitL (h : Only M) (hg : M.good k) (hnx : nextL S ≤ 1048576) (hgood : (Go.Proofs.YtfneloobfidckaaGreatDoor.appendL M S cmE gf).2.2.1.good (k + 4)) : Only (commitL M S gf).2.2.1 := by
  have ha := h.appendL (S := S) (gf := gf) hg hnx cmE
  unfold Go.Proofs.YtfneloobfidckaaGreatDoor.commitL commitR
  split
  · exact ha
  split
  · exact ha.sync _
  split
  · exact (ha.sync _).syncDir (opSync_good hgood _).ok
  · exact (ha.sync _).syncDir (opSync_good hgood _).ok
theorem Only.drop (h : Only M) (hg : M.good k) (i : Nat) : Only (dropL M S i).2.1 := by
  unfold dropL
  split
  · split
    · exact h.remove hg.ok _
    · exact h.remove hg.ok _
  · exact h
theorem segsOf_nums {M : Me} {limit : Int} (hok : M.ok) : ∀ n ∈ (logOf limit (segsOf M M.now)).nums, n < 1048576 ∧ ∃ gf, nFind M.now (sgnB n) = some gf := by
  intro n hn
  obtain ⟨q, hq, e⟩ := List.mem_map.1 hn
  obtain ⟨p, hp, e2⟩ := List.mem_filterMap.1 hq
  unfold segAt at e2
  cases hs : segOf p.1 with
  | none => rw [hs] at e2; cases e2
  | some m =>
    rw [hs] at e2
    have e3 : m = n := by rw [← e, ← Option.some.inj e2]
    subst e3
    have := segOf_some hs
    exact ⟨this.2, p.2, by rw [← this.1]; exact nFind_of_mem hok.rn hp⟩
theorem mem_segsOf {M : Me} {limit : Int} {n gf : Nat} (hn : n < 1048576) (h : nFind M.now (sgnB n) = some gf) : n ∈ (logOf limit (segsOf M M.now)).nums := by
  have hp := nFind_mem h
  refine List.mem_map.2 ⟨(n, (M.bytes (⟨(sgnB n).toArray⟩ : ByteArray)).1.length), List.mem_filterMap.2 ⟨(sgnB n, gf), hp, ?_⟩, rfl⟩
  unfold segAt
  rw [segOf_sgnB n hn]
  rfl
/-- What Open wants of the names. -/
theorem Only.opens (h : Only M) (hok : M.ok) : nFind M.now [] = none ∧ ∀ p ∈ M.now, p.1.length ≤ 30 := by
  refine ⟨?_, fun p hp => ?_⟩
  · cases hq : nFind M.now [] with
    | none => rfl
    | some g =>
      obtain ⟨n, _, e⟩ := h.now hok _ _ hq
      exact absurd e.symm (sgnB_ne n)
  · obtain ⟨n, _, e⟩ := h.now hok _ _ (nFind_of_mem hok.rn hp)
    rw [e, sgnB_length]
    omega
/-- Behind a crash, and Open. -/
theorem KI.opened {U O : List Pc} (h : KI M S U O) (hok : M.ok) (zs : List Int) (limit : Int) : KI (M.crash zs) (logOf limit (segsOf (M.crash zs) (M.crash zs).now)) U [] ∧ ∀ x ∈ U, x.n ∈ (logOf limit (segsOf (M.crash zs) (M.crash zs).now)).nums := by
  have hok2 := Me.crash_ok hok zs
  refine ⟨h.crash hok zs rfl (segsOf_nums hok2), fun x hx => ?_⟩
  obtain ⟨gf, F, h1, _⟩ := ((h.sure x hx).crash zs).there hok2
  exact mem_segsOf (h.un x hx) h1
end
end Go.Proofs.YtfneloobfidckaaGreatDoor

/- What Open finds: rising numbers, a log that is in order. Mathematics; it proves no statement. -/

namespace Go.Proofs.YtfneloobfidckaaGreatDoor
open Go.RowKit Go.Maps Go.WideMaps Go.Sort
set_option linter.unusedVariables false
set_option linter.unusedSimpArgs false

theorem before_app : ∀ {x y : List UInt8} (c d : List UInt8), x.length = y.length → bytesBefore x y = true → bytesBefore (x ++ c) (y ++ d) = true
  | [], [], c, d, _, h => by simp [bytesBefore] at h
  | a :: x, b :: y, c, d, hl, h => by
    simp only [bytesBefore, Bool.or_eq_true, Bool.and_eq_true, decide_eq_true_eq, beq_iff_eq] at h
    show bytesBefore (a :: (x ++ c)) (b :: (y ++ d)) = true
    simp only [bytesBefore, Bool.or_eq_true, Bool.and_eq_true, decide_eq_true_eq, beq_iff_eq]
    rcases h with h | ⟨h1, h2⟩
    · exact .inl h
    · exact .inr ⟨h1, before_app c d (by simpa using hl) h2⟩
theorem before_same : ∀ (x : List UInt8) {c d : List UInt8}, bytesBefore c d = true → bytesBefore (x ++ c) (x ++ d) = true
  | [], c, d, h => h
  | a :: x, c, d, h => by
    show bytesBefore (a :: (x ++ c)) (a :: (x ++ d)) = true
    simp only [bytesBefore, Bool.or_eq_true, Bool.and_eq_true, decide_eq_true_eq, beq_iff_eq]
    exact .inr ⟨trivial, before_same x h⟩
theorem dig_before : ∀ (k a b : Nat), a < b → b < 10 ^ k → bytesBefore (dig k a) (dig k b) = true
  | 0, a, b, h, hb => by simp at hb; omega
  | k + 1, a, b, h, hb => by
    show bytesBefore (dig k (a / 10) ++ [UInt8.ofNat (48 + a % 10)]) (dig k (b / 10) ++ [UInt8.ofNat (48 + b % 10)]) = true
    have hk : b / 10 < 10 ^ k := by rw [Nat.pow_succ] at hb; omega
    by_cases e : a / 10 = b / 10
    · rw [e]
      refine before_same _ ?_
      simp only [bytesBefore, Bool.or_eq_true, Bool.and_eq_true, decide_eq_true_eq, beq_iff_eq]
      left
      rw [UInt8.lt_iff_toNat_lt, digit_nat _ (by omega), digit_nat _ (by omega)]
      omega
    · exact before_app _ _ (by rw [dig_length, dig_length]) (dig_before k (a / 10) (b / 10) (by omega) hk)
theorem sgnB_rise {a b : Nat} (ha : a < 1048576) (hb : b < 1048576) (h : bytesBefore (sgnB a) (sgnB b) = true) : a < b := by
  by_cases e : a < b
  · exact e
  · exfalso
    by_cases e2 : a = b
    · rw [e2, WideAt.bytes_irrefl] at h
      cases h
    · have h2 : bytesBefore (sgnB b) (sgnB a) = true := before_same _ (dig_before 8 b a (by omega) (by omega))
      have := WideShapes.bytes_trans _ _ _ h h2
      rw [WideAt.bytes_irrefl] at this
      cases this
/-- What Open finds is in order. -/
theorem segsOf_ok {M : Me} {limit : Int} {k : Nat} (hg : M.good k) (hk : k ≤ 900000) (hl : 128 ≤ limit ∧ limit ≤ 1048576) (hz : ∀ gf F, M.fs gf = some F → F.now.length ≤ 16777216) : (logOf limit (segsOf M M.now)).ok := by
  have hlen : M.now.length ≤ M.cnt := by
    rw [hg.ok.eq]
    have h1 : ∀ (X : List (ByteArray × ByteArray × Int)) (N : NT), (nmSteps N X).length ≤ N.length + X.length := by
      intro X
      induction X with
      | nil => intro N; exact Nat.le_refl _
      | cons y r ih =>
        intro N
        have := ih (nmStep N y)
        have h2 : (nmStep N y).length ≤ N.length + 1 := by
          unfold nmStep
          split
          · exact Nat.le_trans (List.length_filter_le _ _) (by omega)
          · unfold nPut
            have h3 : ∀ (x : List UInt8 × Nat) (L : NT), (nIns x L).length = L.length + 1 := by
              intro x L
              induction L with
              | nil => rfl
              | cons z s ih2 =>
                unfold nIns
                split
                · rfl
                · rw [List.length_cons, ih2, List.length_cons]
            rw [h3]
            have a1 := List.length_filter_le (fun p : List UInt8 × Nat => !(p.1 == y.2.1.data.toList)) (nDel N y.1.data.toList)
            have a2 := List.length_filter_le (fun p : List UInt8 × Nat => !(p.1 == y.1.data.toList)) N
            unfold nDel at a1 ⊢
            omega
        show (nmSteps (nmStep N y) r).length ≤ _
        rw [List.length_cons]
        omega
    exact Nat.le_trans (h1 _ _) hg.ok.len
  refine ⟨hl, fun p hp => ?_, ?_, ?_, Nat.zero_le _, fun e => by cases e⟩
  · have h1 := segsOf_nums (limit := limit) hg.ok p.1 (List.mem_map.2 ⟨p, hp, rfl⟩)
    refine ⟨h1.1, ?_⟩
    obtain ⟨q, hq, e2⟩ := List.mem_filterMap.1 hp
    unfold segAt at e2
    cases hs : segOf q.1 with
    | none => rw [hs] at e2; cases e2
    | some m =>
      rw [hs] at e2
      rw [← Option.some.inj e2]
      show (M.bytes _).1.length ≤ _
      unfold Me.bytes
      cases hf : M.find (⟨q.1.toArray⟩ : ByteArray) with
      | inl E => exact Nat.zero_le _
      | inr r => exact hz r.1 r.2 (find_fs (gf := r.1) (F := r.2) hf).2.2
  · show (segsOf M M.now).Pairwise fun p q => p.1 < q.1
    unfold segsOf
    rw [List.pairwise_filterMap]
    refine hg.ok.rn.imp fun {p q} hb x hx y hy => ?_
    unfold segAt at hx hy
    cases hs : segOf p.1 with
    | none => rw [hs] at hx; cases hx
    | some m =>
      cases hs2 : segOf q.1 with
      | none => rw [hs2] at hy; cases hy
      | some m2 =>
        rw [hs] at hx
        rw [hs2] at hy
        have a1 := segOf_some hs
        have a2 := segOf_some hs2
        rw [← Option.some.inj hx, ← Option.some.inj hy]
        rw [a1.1, a2.1] at hb
        exact sgnB_rise a1.2 a2.2 hb
  · have := segsOf_len M M.now
    have := hg.cnt
    show (segsOf M M.now).length ≤ _
    omega
end Go.Proofs.YtfneloobfidckaaGreatDoor
