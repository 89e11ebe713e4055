/- Contracts and facts, several texts in one. It proves no statement. -/
import Derived.Test.YtfneloobfidckaaGreatDoorSf00
import Derived.Maps.AppendAt
import Derived.Test.YtfneloobfidckaaGreatDoorSf33
import Derived.Test.YtfneloobfidckaaGreatDoorSf27
import Derived.Test.YtfneloobfidckaaGreatDoorSf32
import Derived.Test.YtfneloobfidckaaGreatDoorSf09
import Derived.Deep.QuietTactic
import Derived.Great.BuildSlice
import Derived.OwnWalk

/- Rows of numbers that grow. It proves no statement. -/


namespace Go.Proofs.YtfneloobfidckaaGreatDoor
open Go.RowKit
set_option linter.unusedVariables false
set_option linter.unusedSimpArgs false

theorem Tryz.infoI : (Tryz.prog.info? 3).map (fun i => (i.zero, i.size, i.bytes)) = some (some (.int .i64 0), 1, 8) := by kernel_rfl
theorem run_moreI (w : World) (ty : TypeId) (base : Nat) (v : Value) (n : Nat) (xs : List Value) (hown : w.ownsRow base 3 1 v n xs) (A : Option Addr) (m c : Nat) (ys : List Value)
    (hl : ys.length = m) (hA : A = none → m = 0 ∧ c = 0) (hr : ∀ ad, A = some ad → ∀ j u, ys[j]? = some u → w.cell? (ad.add j) = some u) (h1 : ∀ u ∈ ys, u.oneCell' = true) (hn : n + m ≤ 1048576) (hbase : base ≤ w.heap.size) :
    ∃ v' w', (Builtin.append_ #[45, 45] ty #[v, .slice A m c]).run Tryz.prog w = .ok v' w' ∧ w'.ownsRow base 3 1 v' (n + m) (xs ++ ys) ∧ w.grownBy w' v.ownBlock ∧ (v'.ownBlock = v.ownBlock ∨ v'.ownBlock = some w.heap.size) := by
  obtain ⟨i0, hi, hz0, hz1, hz2⟩ := info_parts Tryz.infoI
  rcases A with _ | ad
  · obtain ⟨rfl, rfl⟩ := hA rfl
    obtain rfl := List.eq_nil_of_length_eq_zero hl
    exact ⟨v, w, run_append_owned_none (P := Tryz.prog) w base 45 ty 3 i0 1 Tryz.underlying45 hi v n _ hown, by simpa using hown, World.grownBy.refl _ _, .inl rfl⟩
  · obtain ⟨v', w', hrun, h2, h3, _, h5⟩ := run_append_own_at (P := Tryz.prog) w base 45 ty 3 i0 _ 1 8 Tryz.underlying45 hi hz0 hz1 hz2 rfl (by decide) v n xs hown ad m c ys (by rw [hl, Nat.mul_one]) (hr ad rfl) h1 (by unfold maxLen; omega) (by omega) hbase
    exact ⟨v', w', hrun, h2, h3, h5⟩
theorem step_moreI (w : World) {o : Oper} {a : Act} {K : Act → World → Prop} {Q : Exit → Act → World → Prop} (s x : Operand)
    (ho : o.op = .call { callee := .builtin .append, args := #[s, x], argTypes := #[45, 45] })
    (base : Nat) (v : Value) (n : Nat) (xs : List Value) (hs : a.eval s = v) (hown : w.ownsRow base 3 1 v n xs) (A : Option Addr) (m c : Nat) (ys : List Value) (hx : a.eval x = .slice A m c)
    (hl : ys.length = m) (hA : A = none → m = 0 ∧ c = 0) (hr : ∀ ad, A = some ad → ∀ j u, ys[j]? = some u → w.cell? (ad.add j) = some u) (h1 : ∀ u ∈ ys, u.oneCell' = true) (hn : n + m ≤ 1048576) (hbase : base ≤ w.heap.size)
    (h : ∀ v' w', w'.ownsRow base 3 1 v' (n + m) (xs ++ ys) → w.grownBy w' v.ownBlock → (v'.ownBlock = v.ownBlock ∨ v'.ownBlock = some w.heap.size) → K (a.put o.dst v') w') :
    o.wp Tryz.prog a w K Q := by
  obtain ⟨v', w', hrun, h2, h3, h5⟩ := run_moreI w o.type base v n xs hown A m c ys hl hA hr h1 hn hbase
  unfold Oper.wp execOp
  simp only [ho, resolve, invoke, builtin, Sem.run_bind, Sem.run_pure, Result.andThen_ok, List.map_toArray, List.map_cons, List.map_nil, hs, hx, hrun]
  exact h v' w' h2 h3 h5
theorem wpList_moreI (w : World) {ops : Array Oper} {rest : List Oper} {o : Oper} {a : Act} {Q : Exit → Act → World → Prop} (hgd : o.guard = none) (s x : Operand)
    (ho : o.op = .call { callee := .builtin .append, args := #[s, x], argTypes := #[45, 45] })
    (base : Nat) (v : Value) (n : Nat) (xs : List Value) (hs : a.eval s = v) (hown : w.ownsRow base 3 1 v n xs) (A : Option Addr) (m c : Nat) (ys : List Value) (hx : a.eval x = .slice A m c)
    (hl : ys.length = m) (hA : A = none → m = 0 ∧ c = 0) (hr : ∀ ad, A = some ad → ∀ j u, ys[j]? = some u → w.cell? (ad.add j) = some u) (h1 : ∀ u ∈ ys, u.oneCell' = true) (hn : n + m ≤ 1048576) (hbase : base ≤ w.heap.size)
    (h : ∀ v' w', w'.ownsRow base 3 1 v' (n + m) (xs ++ ys) → w.grownBy w' v.ownBlock → (v'.ownBlock = v.ownBlock ∨ v'.ownBlock = some w.heap.size) → wpList Tryz.prog ops Q rest (a.put o.dst v') w') :
    wpList Tryz.prog ops Q (o :: rest) a w :=
  wpList_plain hgd fun _ hQ => step_moreI w s x ho base v n xs hs hown A m c ys hx hl hA hr h1 hn hbase fun v' w' h2 h3 h5 => hQ _ _ (h v' w' h2 h3 h5)
/-- The same for one thing in a box of its own. -/
theorem wpList_oneI (w : World) {ops : Array Oper} {rest : List Oper} {o : Oper} {a : Act} {Q : Exit → Act → World → Prop} (hgd : o.guard = none) (s x : Operand)
    (ho : o.op = .call { callee := .builtin .append, args := #[s, x], argTypes := #[45, 45] })
    (base : Nat) (v : Value) (n : Nat) (xs : List Value) (hs : a.eval s = v) (hown : w.ownsRow base 3 1 v n xs) (u : Value) (h1 : u.oneCell' = true)
    (hx : a.eval x = .slice (some ⟨w.heap.size, 0, none⟩) 1 1) (hn : n < 1048576) (hbase : base ≤ w.heap.size)
    (h : ∀ v' w', w'.ownsRow base 3 1 v' (n + 1) (xs ++ [u]) → w.grownBy w' v.ownBlock → (v'.ownBlock = v.ownBlock ∨ v'.ownBlock = some (w.heap.size + 1)) → wpList Tryz.prog ops Q rest (a.put o.dst v') w') :
    wpList Tryz.prog ops Q (o :: rest) a (w.alloc (.cells #[u] 3)) := by
  refine wpList_moreI _ hgd s x ho base v n xs hs (hown.alloc _) _ 1 1 [u] hx rfl (fun e => by cases e) (fun ad e j y hy => ?_) (fun y hy => by simp only [List.mem_singleton] at hy; subst hy; exact h1) (by omega) (by simp; omega) ?_
  · obtain rfl := Option.some.inj e
    rcases j with _ | j
    · simp only [List.getElem?_cons_zero, Option.some.injEq] at hy
      subst hy
      rw [Addr.add_lit]
      exact (Blk.new w 3 #[u]).cell 0
    · simp at hy
  · intro v' w' h2 h3 h5
    refine h v' w' h2 ⟨h3.os, h3.tape, h3.output, by have := h3.size; simp at this; omega, fun k hk hne => ?_⟩ (by simpa using h5)
    rw [h3.block k (by simp; omega) hne]
    exact Below.heap_alloc w _ k hk
end Go.Proofs.YtfneloobfidckaaGreatDoor

/- Contract: all numbers of a log's segments. It proves no statement. -/


namespace Go.Proofs.YtfneloobfidckaaGreatDoor
open Go.RowKit Go.Maps Go.WideMaps Go.Sort
set_option linter.unusedVariables false
set_option linter.unusedSimpArgs false

def numV (X : List (Nat × Nat)) : List Value := X.map fun p => .int .i64 (p.1 : Int)
theorem numV_take {X : List (Nat × Nat)} {i : Nat} {p : Nat × Nat} (h : X[i]? = some p) : numV (X.take (i + 1)) = numV (X.take i) ++ [.int .i64 (p.1 : Int)] := by
  unfold numV
  rw [List.take_add_one, h, List.map_append]
  rfl
theorem zeroSeg : (Tryz.prog.info? 160).map (fun i => (i.zero, i.size)) = some (some (.agg #[.int .i64 0, .int .i64 0]), 2) := by kernel_rfl
theorem grown_stillS {w w' : World} {r : Option Nat} (b : Still w w') : w.grownBy w' r := ⟨b.os, b.tape, b.output, b.size, fun k hk _ => b.block k hk⟩
theorem own_form1 {w : World} {base n z : Nat} {e : TypeId} {v : Value} {xs : List Value} (h : w.ownsRow base e z v n xs) : ∃ A c, v = .slice A n c := by
  rcases h.2 with ⟨h, h0⟩ | ⟨g, cp, cur, h, _⟩
  · exact ⟨none, 0, by rw [h, h0]⟩
  · exact ⟨_, cp, h⟩
set_option maxRecDepth 100000 in
set_option maxHeartbeats 6400000 in
theorem lsegments_any {w : World} {base g gl : Nat} {lo : LOwn} {S : Lg} {sv : Value} (hl : LogI w base lo g gl S sv) (hok : S.ok) : Calls Tryz.prog 40 #[.pointer (some ⟨gl, 0, none⟩)] w fun e w' => (∃ v, e = .returned v ∧ w'.ownsRow w.heap.size 3 1 v S.segs.length (numV S.segs)) ∧ Still w w' := by
  have WK := Lib.hid (lworks_any hl)
  obtain ⟨A, c, hsv, hr⟩ := hl.segR
  have k2 := hl.cells.2.2.1
  rw [hsv] at k2
  obtain ⟨X, hX⟩ : ∃ X, X = S.segs := ⟨_, rfl⟩
  have hfew := hok.few
  rw [← hX] at hr hfew ⊢
  obtain ⟨ml, hml⟩ : ∃ ml, ml = X.length := ⟨_, rfl⟩
  rw [show S.segs.length = ml by rw [hml, hX]] at k2
  rw [← hml] at hr hfew ⊢
  have hnc := hr.fit
  have hcm := hr.cap
  have HR := Lib.hid (fun W (s : Still w W) => hr.still s)
  have HM := Lib.hid (And.intro hml hfew)
  have US := Lib.hid (show Tryz.prog.underlying 160 = some _ from Tryz.underlying160)
  clear hl hok hsv hr hX hml hfew
  go_enter Tryz.func40, Tryz.ntmps40
  go_wp2_with fail
  refine WK.out.mono ?_
  rintro e w1 ⟨rfl, rfl⟩
  go_wp2_with fail
  go_loopw [3, 14] (fun v iv wr => ∃ (i : Nat) (v' : Value), v' = v ∧ i ≤ ml ∧ iv = .int .i64 i ∧ Hid (wr.ownsRow w1.heap.size 3 1 v' i (numV (X.take i)) ∧ Still w1 wr)) (fun _ iv _ => ml - (intOf iv).toNat)
  case atStart => exact ⟨0, _, rfl, Nat.zero_le _, rfl, Lib.hid ⟨World.ownsRow_nil _ _ _ _, Still.refl _⟩⟩
  case round =>
    obtain ⟨i, v, rfl, hi, rfl, hh⟩ := hrel
    by_cases hlt : i < ml
    · obtain ⟨p, hp⟩ : ∃ p, X[i]? = some p := ⟨_, List.getElem?_eq_getElem (by have := HM.out.1; omega)⟩
      obtain ⟨b, hA, hb, rng⟩ := (HR.out _ hh.out.2).at_ i p hp
      subst hA
      have RNG := Lib.hid rng
      have TK := Lib.hid (numV_take hp)
      obtain ⟨pa, hpa⟩ : ∃ pa, pa = p.1 := ⟨_, rfl⟩
      obtain ⟨pb, hpb⟩ : ∃ pb, pb = p.2 := ⟨_, rfl⟩
      rw [← hpa, ← hpb] at RNG
      rw [← hpa] at TK
      have z3 : (0 : Int) ≤ (i : Int) := by omega
      have z4 : (i : Int) < (ml : Int) := by omega
      have HLT := Lib.hid hlt
      obtain ⟨w2, hw2⟩ : ∃ w2, w2 = (wr.alloc (.cells #[.int .i64 0, .int .i64 0] 160)).setRow wr.heap.size #[.int .i64 (pa : Int), .int .i64 (pb : Int)] := ⟨_, rfl⟩
      have s12 : Still wr w2 := by rw [hw2]; exact below_setRow ((Still.refl _).alloc (Nat.le_refl _) _) (Nat.le_refl _) _
      have B2 : Blk w2 wr.heap.size 160 #[.int .i64 (pa : Int), .int .i64 (pb : Int)] := by rw [hw2]; exact setRow_heap _ _ _ _ _ _ (Blk.new wr _ _)
      have k0 := B2.cell 0
      have OW := Lib.hid (show w2.ownsRow w1.heap.size 3 1 v i (numV (X.take i)) from hh.out.1.kept (row := none) (grown_stillS s12) (by cases v.ownBlock <;> simp))
      have S2 := Lib.hid (Still.trans hh.out.2 s12)
      have HW2 := Lib.hid hw2
      obtain ⟨gx, hgx⟩ : ∃ gx, gx = wr.heap.size := ⟨_, rfl⟩
      clear hp hb rng hpa hpb hh hw2 s12 B2 hlt
      go_upto_region 7 with (first
        | (guard_target =~ wpList _ _ _ (Oper.mk (some 17) _ _ _ _ _ :: _) _ _; go_must (refine wpList_load_mid rfl 160 (.tmp 16) rfl b (i * 2) rfl [.int .i64 (pa : Int), .int .i64 (pb : Int)] _ RNG.out US.out rfl sizeSeg ?_))
        | (guard_target =~ wpList _ _ _ (Oper.mk (some 5) (Op.alloc _) _ _ _ _ :: _) _ _; go_must (refine wpList_alloc_arr rfl 160 rfl (some 5) rfl #[.int .i64 0, .int .i64 0] 2 zeroSeg ?_))
        | (guard_target =~ wpList _ _ _ (Oper.mk none (Op.store _ _ _) _ _ _ _ :: _) _ _; go_must (refine wpList_store_rowTo rfl 160 (.tmp 5) (.tmp 17) rfl rfl wr.heap.size #[.int .i64 (pa : Int), .int .i64 (pb : Int)] rfl rfl 160 _ (Blk.new wr _ _) (sizeSeg.trans rfl) rfl (by simp [Value.oneCell']) ?_); rw [← HW2.out]))
      clear HW2
      go_wp2_with (guard_target =~ wpList _ _ _ (Oper.mk (some 22) _ _ _ _ _ :: _) _ _; go_must (refine wpList_oneI w2 rfl (.tmp 18) (.tmp 21) rfl w1.heap.size v i (numV (X.take i)) rfl OW.out (.int .i64 (pa : Int)) rfl rfl (by have := HM.out.2; have := HLT.out; omega) S2.out.size ?_); intro v3 w3 o3 g3 _; have NX := Lib.hid (show w3.ownsRow w1.heap.size 3 1 v3 (i + 1) (numV (X.take (i + 1))) ∧ Still w1 w3 from ⟨by rw [TK.out]; exact o3, S2.out.grown g3 S2.out.size (fun k hk => (OW.out.lt k hk).1)⟩); clear o3 g3)
      go_roundw
      case rel => exact ⟨i + 1, v3, rfl, by have := HLT.out; omega, by go_num, NX⟩
      case measure => simp [intOf]; have := HLT.out; omega
    · obtain rfl : i = ml := by omega
      have E := Lib.hid (show X.take i = X from List.take_of_length_le (by have := HM.out.1; omega))
      have S1 := Lib.hid hh.out.2
      have O1 := Lib.hid hh.out.1
      clear hh hlt
      go_wp2_with fail
      go_ret
      exact ⟨⟨_, rfl, by have := O1.out; rw [E.out] at this; exact this⟩, S1.out⟩
end Go.Proofs.YtfneloobfidckaaGreatDoor

/- Contracts: what a log tells: Fresh, Sync, Size, Bytes. It proves no statement. -/


namespace Go.Proofs.YtfneloobfidckaaGreatDoor
open Go.RowKit Go.Maps Go.WideMaps Go.Sort
set_option linter.unusedVariables false
set_option linter.unusedSimpArgs false

section
variable {w : World} {base g gl k : Nat} {own : Own} {lo : LOwn} {M : Me} {S : Lg} {sv : Value}
theorem lfresh_any (hl : LogI w base lo g gl S sv) : Calls Tryz.prog 49 #[.pointer (some ⟨gl, 0, none⟩)] w fun e w' => e = .returned (.int .i64 (S.fresh : Int)) ∧ w' = w := by
  have WK := Lib.hid (lworks_any hl)
  have k3 := hl.cells.2.2.2.1
  clear hl
  go_enter Tryz.func49, Tryz.ntmps49
  go_wp2_with fail
  refine WK.out.mono ?_
  rintro e w1 ⟨rfl, rfl⟩
  go_wp2_with fail
  go_ret
  exact ⟨rfl, rfl⟩
theorem lsync_any (h : LM w base g gl own lo M S) (hg : M.good k) (hk : k ≤ 900000) : Calls Tryz.prog 28 #[.pointer (some ⟨gl, 0, none⟩)] w fun e w' => e = .returned (.int .i64 (opSyncDir M).1) ∧ LLeft w w' base g gl own lo (opSyncDir M).2 S := by
  obtain ⟨sv, hl⟩ := h.log
  have WK := Lib.hid (lworks_any hl)
  have k0 := hl.cells.1
  have SD := Lib.hid (syncDir_M h.med hg.ok (by have := hg.cnt; omega))
  have CH := Lib.hid (fun W M' (l : Left w W base g own M') => LLeft.med h l)
  clear hl h
  go_enter Tryz.func28, Tryz.ntmps28
  go_wp2_with fail
  refine WK.out.mono ?_
  rintro e w1 ⟨rfl, rfl⟩
  go_wp2_with fail
  refine SD.out.mono ?_
  rintro e w2 ⟨rfl, l2⟩
  have L2 := Lib.hid (CH.out _ _ l2)
  clear l2
  go_wp2_with fail
  go_ret
  exact ⟨rfl, L2.out⟩
/-- Size: what it answers, what it leaves. -/
def findL (S : Lg) (n : Int) : Option (Nat × (Nat × Nat)) := match S.segs.findIdx? (fun p => decide ((p.1 : Int) = n)) with
  | some i => (S.segs[i]?).map fun p => (i, p)
  | none => none
theorem findL_none {S : Lg} {n : Int} (h : ∀ p ∈ S.segs, (p.1 : Int) ≠ n) : findL S n = none := by
  unfold findL
  have : S.segs.findIdx? (fun p => decide ((p.1 : Int) = n)) = none := by
    rw [List.findIdx?_eq_none_iff]
    intro p hp
    simpa using h p hp
  rw [this]
theorem findL_some {S : Lg} (hok : S.ok) {n : Int} {i : Nat} {p : Nat × Nat} (hp : S.segs[i]? = some p) (e : (p.1 : Int) = n) : findL S n = some (i, p) := by
  unfold findL
  have : S.segs.findIdx? (fun p => decide ((p.1 : Int) = n)) = some i := by
    obtain ⟨k2, e2⟩ := List.getElem?_eq_some_iff.1 hp
    rw [List.findIdx?_eq_some_iff_getElem]
    refine ⟨k2, by rw [e2]; simpa using e, fun j hj => ?_⟩
    have := List.pairwise_iff_getElem.1 hok.rise j i (by omega) k2 hj
    rw [e2] at this
    simp
    omega
  rw [this]
  simp [hp]
def szL (M : Me) (S : Lg) (n : Int) : Nat × Lg := match findL S n with
  | some (i, _) => sizeL M S i
  | none => (0, S)
theorem lSize_any {w0 : World} (h : LM w base g gl own lo M S) (hok : S.ok) (hg : M.good k) (T : SgT w0) (s0 : Still w0 w) (n : Int) : Calls Tryz.prog 43 #[.pointer (some ⟨gl, 0, none⟩), .int .i64 n] w fun e w' => e = .returned (.int .i64 ((szL M S n).1 : Int)) ∧ LLeft w w' base g gl own lo M (szL M S n).2 := by
  obtain ⟨sv, hl⟩ := h.log
  have FI := Lib.hid (lfind_any hl hok n)
  have EN := Lib.hid (fun (hh : ∀ p ∈ S.segs, (p.1 : Int) ≠ n) => show szL M S n = (0, S) by unfold szL; rw [findL_none hh])
  have ES := Lib.hid (fun (i : Nat) (p : Nat × Nat) (hp : S.segs[i]? = some p) (e : (p.1 : Int) = n) => show szL M S n = sizeL M S i by unfold szL; rw [findL_some hok hp e])
  have SZ := Lib.hid (fun W i (s : Still w W) (hi : i < S.segs.length) => lsize_any (h.still s) hg (T.still (Still.trans s0 s)) hi (by have := hok.few; omega))
  have HH := Lib.hid h
  clear h hl hok hg T s0
  go_enter Tryz.func43, Tryz.ntmps43
  go_wp2_with fail
  refine FI.out.mono ?_
  rintro e w1 ⟨s1, ⟨hno, rfl⟩ | ⟨i, p, hp, hpe, rfl⟩⟩
  · have E := Lib.hid (EN.out hno)
    have S1 := Lib.hid s1
    clear hno s1
    go_wp2_with fail
    go_ret
    exact ⟨by rw [E.out]; rfl, by rw [E.out]; exact LLeft.still HH.out S1.out⟩
  · have E := Lib.hid (ES.out i p hp hpe)
    have S1 := Lib.hid s1
    have SZ1 := Lib.hid (SZ.out w1 i s1 (List.getElem?_eq_some_iff.1 hp).1)
    clear hp hpe s1 SZ
    go_wp2_with fail
    refine SZ1.out.mono ?_
    rintro e w2 ⟨rfl, l2⟩
    have L2 := Lib.hid (LLeft.of_still S1.out l2)
    clear l2
    go_wp2_with fail
    go_ret
    exact ⟨by rw [E.out]; rfl, by rw [E.out]; exact L2.out⟩
/-- Bytes: a segment's file. -/
def bytesL (M : Me) (S : Lg) (n : Int) : List UInt8 × Int := match findL S n with
  | some _ => M.bytes (nameS n)
  | none => ([], 9)
theorem lbytes_any {w0 : World} (h : LM w base g gl own lo M S) (hok : S.ok) (hg : M.good k) (T : SgT w0) (s0 : Still w0 w) (n : Int) : Calls Tryz.prog 41 #[.pointer (some ⟨gl, 0, none⟩), .int .i64 n] w fun e w' => (∃ v, e = .returned (.tuple #[v, .int .i64 (bytesL M S n).2]) ∧ w'.ownsRow w.heap.size 5 1 v (bytesL M S n).1.length (bytesV (bytesL M S n).1)) ∧ Still w w' := by
  obtain ⟨sv, hl⟩ := h.log
  have FI := Lib.hid (lfind_any hl hok n)
  have EN := Lib.hid (fun (hh : ∀ p ∈ S.segs, (p.1 : Int) ≠ n) => show bytesL M S n = ([], 9) by unfold bytesL; rw [findL_none hh])
  have ES := Lib.hid (fun (i : Nat) (p : Nat × Nat) (hp : S.segs[i]? = some p) (e : (p.1 : Int) = n) => show bytesL M S n = M.bytes (nameS n) by unfold bytesL; rw [findL_some hok hp e])
  have NM := Lib.hid (fun W (s : Still w W) => name_any n W (T.still (Still.trans s0 s)))
  have AL := Lib.hid (fun W (s : Still w W) => all_M (nameS n) (h.med.still s) hg.ok (by have := nameS_size n; unfold maxLen; omega))
  have KC := Lib.hid (fun W (s : Still w W) => show W.cell? ⟨gl, 0, none⟩ = some (.pointer (some ⟨g, 0, none⟩)) from (s.cell (p := ⟨gl, 0, none⟩) hl.blk.lt).trans hl.cells.1)
  clear h hl hok hg T s0
  go_enter Tryz.func41, Tryz.ntmps41
  go_wp2_with fail
  refine FI.out.mono ?_
  rintro e w1 ⟨s1, ⟨hno, rfl⟩ | ⟨i, p, hp, hpe, rfl⟩⟩
  · have E := Lib.hid (EN.out hno)
    have S1 := Lib.hid s1
    clear hno s1
    go_wp2_with fail
    go_ret2
    exact ⟨⟨_, by rw [E.out]; rfl, by rw [E.out]; exact World.ownsRow_nil _ _ _ _⟩, S1.out⟩
  · have E := Lib.hid (ES.out i p hp hpe)
    have S1 := Lib.hid s1
    obtain ⟨nm, hnm⟩ : ∃ nm, nm = nameS n := ⟨_, rfl⟩
    rw [← hnm] at E NM AL
    obtain ⟨Z, hZ⟩ : ∃ Z, Z = M.bytes nm := ⟨_, rfl⟩
    rw [← hZ] at E AL
    clear hp hpe s1 hnm hZ EN ES FI
    go_upto_region 4 with fail
    have D1 := Lib.hid (show Still w w1.drew from S1.out.drew)
    go_region_held3 (fun W => W.cell? ⟨gl, 0, none⟩ = some (.pointer (some ⟨g, 0, none⟩))) (first | exact KC.out _ D1.out | exact KC.out _ S3.out | exact KC.out _ S4.out) (first
      | (go_at_call 89; with_reducible refine (NM.out _ D1.out).mono ?_; rintro e w3 ⟨rfl, s3⟩; have S3 := Lib.hid (Still.trans D1.out s3); clear s3)
      | (go_at_call 115; with_reducible refine (AL.out _ S3.out).mono ?_; rintro e w4 ⟨⟨v, rfl, o4⟩, s4⟩; obtain ⟨A4, c4, rfl⟩ := own_formN2 o4; have O4 := Lib.hid (own_lower9 o4 S3.out.size); have S4 := Lib.hid (Still.trans S3.out s4); clear o4 s4))
    all_goals
      obtain ⟨er, her⟩ : ∃ er, er = Z.2 := ⟨_, rfl⟩
      rw [← her]
      go_wp2_with fail
      go_ret2
      exact ⟨⟨_, by rw [E.out, her]; rfl, by rw [E.out]; exact O4.out⟩, S4.out⟩
end
end Go.Proofs.YtfneloobfidckaaGreatDoor

/- Contract: the document's own comparison of two rows of numbers that are alike; a log from call to call while the power is on. It proves no statement. -/





namespace Go.Proofs.YtfneloobfidckaaGreatDoor
open Go.RowKit Go.Maps Go.WideMaps Go.Sort
set_option linter.unusedVariables false
set_option linter.unusedSimpArgs false

theorem ReadsI.stillS {w w' : World} {B : Nat → Prop} {n : Nat} {A : Option Addr} {zs : List Int} (h : ReadsI w B A n zs) (s : Still w w') : ReadsI w' B A n zs := h.chg (Chg.of_still s (fun _ => False)) (fun _ _ h => h)
theorem ReadsI.of_ownS {w : World} {base n c : Nat} {A : Option Addr} {zs : List Int} (h : w.ownsRow base 3 1 (.slice A n c) n (zs.map (Value.int .i64))) : ReadsI w (fun b => base ≤ b) A n zs := by
  have hl : zs.length = n := by have := h.1; rw [List.length_map] at this; omega
  refine ⟨hl, fun hn => ?_⟩
  rcases h.2 with ⟨_, h0⟩ | ⟨g, cp, cur, hv, hg, hb, _⟩
  · omega
  · injection hv with hv1
    subst hv1
    refine ⟨g, 0, rfl, hg, (Array.getElem?_eq_some_iff.1 hb).1, fun i hi => ?_⟩
    rw [Nat.zero_add, h.cellAt i (by omega), List.getElem?_map, List.getElem?_eq_getElem (by omega)]
    simp [List.getD, List.getElem?_eq_getElem (show i < zs.length by omega)]
set_option maxRecDepth 100000 in
set_option maxHeartbeats 1600000 in
theorem ints_same (A A' : Option Addr) (n c c' : Nat) (zs : List Int) (P P' : Nat → Prop) (w : World) (h : ReadsI w P A n zs) (h' : ReadsI w P' A' n zs) (hn : n ≤ 70368744177664) :
    Calls Tryz.prog 53 #[.slice A n c, .slice A' n c'] w fun e w' => e = .returned (.bool true) ∧ ∃ m, w' = w.drewN m := by
  have HH := Lib.hid h
  have HH' := Lib.hid h'
  clear h h'
  go_enter Tryz.func53, Tryz.ntmps53
  go_wp2_with fail
  go_loopw [5] (fun iv wr => ∃ k : Nat, k ≤ n ∧ iv = .int .i64 k ∧ Hid (∃ m, wr = w.drewN m)) (fun iv _ => n - (intOf iv).toNat)
  case atStart => exact ⟨0, Nat.zero_le _, rfl, 0, rfl⟩
  case round =>
    obtain ⟨k, hk, rfl, hin⟩ := hrel
    obtain ⟨mm, hwm⟩ := hin.out
    have st : Still w wr := by rw [hwm]; exact still_drewN (Still.refl w) mm
    have HWM := Lib.hid hwm
    have hr := HH.out.stillS st
    have hr' := HH'.out.stillS st
    clear hwm st
    by_cases hlt : k < n
    · obtain ⟨b, o, rfl, _, hb, hc⟩ := hr.2 (by omega)
      obtain ⟨b', o', rfl, _, hb', hc'⟩ := hr'.2 (by omega)
      have d1 := hc k hlt
      have d2 := hc' k hlt
      obtain ⟨X, hX⟩ : ∃ X : Int, X = zs.getD k 0 := ⟨_, rfl⟩
      rw [← hX] at d1 d2
      have z1 : (0 : Int) ≤ (k : Int) := by omega
      have z2 : (k : Int) < (n : Int) := by omega
      have HLT := Lib.hid hlt
      clear hc hc' hb hb' hlt hr hr' hX
      go_wp2_with fail
      go_quiet (fail)
      go_wp2_with fail
      go_roundw
      case rel => exact ⟨k + 1, by have := HLT.out; omega, by go_num, mm + nq, by rw [HWM.out, World.drewN_drewN]⟩
      case measure => simp [intOf]; have := HLT.out; omega
    · obtain rfl : k = n := by omega
      clear hr hr'
      go_wp2_with fail
      go_ret
      exact ⟨rfl, mm, HWM.out⟩
/-- A log from call to call. -/
def SAt (w4 wr : World) (g gl : Nat) (rm : Int) (k : Nat) : Prop := ∃ (own : Own) (lo : LOwn) (M : Me) (S : Lg) (X : Sb), LM wr w4.heap.size g gl own lo M S ∧ AB M S X rm ∧ M.good k ∧ Still w4 wr
theorem SAt.left {w4 wr w' : World} {g gl k : Nat} {rm : Int} {own : Own} {lo : LOwn} {M M' : Me} {S S' : Lg} {X' : Sb} (h : LM wr w4.heap.size g gl own lo M S) (s : Still w4 wr) (l : LLeft wr w' w4.heap.size g gl own lo M' S') (a : AB M' S' X' rm) (hg : M'.good k) : SAt w4 w' g gl rm k := by
  have s' := LLeft.low h l s (Nat.le_refl _)
  obtain ⟨_, own', lo', _, lm⟩ := l
  exact ⟨own', lo', M', S', X', lm, a, hg, s'⟩
theorem AB.any_append {M : Me} {S : Lg} {X : Sb} {rm : Int} (h : AB M S X rm) {gf : Nat} (hg : M.fs gf = none) (E : Int × List UInt8) (hb : E.2.length ≤ 17000) : ∃ X', AB (appendL M S E gf).2.2.1 (appendL M S E gf).2.2.2 X' rm := by
  rcases h.append hg E hb with ⟨_, a, _⟩ | ⟨_, _, a, _⟩
  · exact ⟨_, a.ab⟩
  · exact ⟨_, a⟩
theorem AB.any_commit {M : Me} {S : Lg} {X : Sb} {rm : Int} (h : AB M S X rm) {gf : Nat} (hg : M.fs gf = none) : ∃ X', AB (commitL M S gf).2.2.1 (commitL M S gf).2.2.2 X' rm := by
  rcases h.commit hg with ⟨_, a, _⟩ | ⟨_, a, _⟩
  · exact ⟨_, a.ab⟩
  · exact ⟨_, a⟩
theorem commitL_good {w : World} {base g : Nat} {own : Own} {M : Me} {k : Nat} (hM : MedI w base own g M) (hg : M.good k) {S : Lg} (h : S.ok) (gf : Nat) : (commitL M S gf).2.2.2.ok ∧ (commitL M S gf).2.2.1.good (k + 6) := by
  have ha := appendL_all hM hg h cmE_ok.2 gf
  unfold commitL commitR
  have s1 := opSync_good ha.2 (nameS ((appendL M S cmE gf).1.1 : Int))
  have s2 := opSyncDir_good s1
  split
  · exact ⟨ha.1, ha.2.mono (by omega)⟩
  · split
    · exact ⟨ha.1, s1.mono (by omega)⟩
    · split
      · exact ⟨ha.1, s2⟩
      · exact ⟨Lg.settled_ok ha.1, s2⟩
theorem AB.new {room limit : Int} (h : 0 ≤ room ∧ room ≤ 16777216) (hl : 128 ≤ limit ∧ limit ≤ 1048576) : AB (Me.new room) (logOf limit []) [] room :=
  ⟨Me.new_ok h, ⟨hl, fun p hp => (by cases hp), List.Pairwise.nil, Nat.zero_le _, Nat.le_refl _, fun e => (by cases e)⟩, rfl, rfl, rfl, fun p hp => (by cases hp), fun q hq => (by cases hq), Me.Fits.new h.1⟩
end Go.Proofs.YtfneloobfidckaaGreatDoor

/- Rows of whatever structs: one laid in a row of its own, one put behind the others. It proves no statement. -/




namespace Go.Proofs.YtfneloobfidckaaGreatDoor
open Go.RowKit Go.Maps
set_option linter.unusedVariables false
set_option linter.unusedSimpArgs false

theorem set_fold : ∀ (l : List Value) (k : Nat) (init : Array Value), ((l.zipIdx k).foldl (fun cs (p : Value × Nat) => cs.setIfInBounds p.2 p.1) init).size = init.size ∧ ∀ j, j < init.size → ((l.zipIdx k).foldl (fun cs (p : Value × Nat) => cs.setIfInBounds p.2 p.1) init)[j]? = if k ≤ j ∧ j < k + l.length then l[j - k]? else init[j]?
  | [], k, init => ⟨rfl, fun j hj => by
    rw [if_neg (by simp)]
    rfl⟩
  | x :: l, k, init => by
    have ih := set_fold l (k + 1) (init.setIfInBounds k x)
    rw [List.zipIdx_cons, List.foldl_cons]
    refine ⟨by rw [ih.1, Array.size_setIfInBounds], fun j hj => ?_⟩
    rw [ih.2 j (by rw [Array.size_setIfInBounds]; exact hj)]
    by_cases h1 : k + 1 ≤ j ∧ j < k + 1 + l.length
    · rw [if_pos h1, if_pos ⟨by omega, by simp; omega⟩, show j - k = j - (k + 1) + 1 by omega, List.getElem?_cons_succ]
    · rw [if_neg h1]
      by_cases h2 : j = k
      · subst h2
        rw [if_pos ⟨Nat.le_refl _, by simp⟩, Nat.sub_self, List.getElem?_cons_zero, Array.getElem?_setIfInBounds_self_of_lt hj]
      · rw [if_neg (by simp; omega), Array.getElem?_setIfInBounds_ne (fun e => h2 e.symm)]
theorem fill_one {z : Nat} {init : Array Value} {v : Value} (hv : v.cells.size = z) (hi : init.size = z) : Instr.fill (fun i => some (i * z, z)) init [(0, v)] = some v.cells := by
  unfold Instr.fill
  simp only [Nat.zero_mul]
  rw [if_neg (by simp [hv, hi])]
  unfold Instr.fill
  congr 1
  rw [← Array.foldl_toList, Array.toList_zipIdx]
  have h := set_fold v.cells.toList 0 init
  have e : (fun (cs : Array Value) (x : Value × Nat) => match x with | (c, j) => cs.setIfInBounds (0 + j) c) = fun cs (p : Value × Nat) => cs.setIfInBounds p.2 p.1 := by
    funext cs p
    obtain ⟨c, j⟩ := p
    simp
  rw [e]
  apply Array.ext_getElem?
  intro j
  by_cases hj : j < init.size
  · rw [h.2 j hj, if_pos ⟨Nat.zero_le _, by rw [Array.length_toList]; omega⟩]
    simp
  · rw [Array.getElem?_eq_none (by rw [h.1]; omega), Array.getElem?_eq_none (by omega)]
section
variable {P : Program}
/-- '[]T{x}', one operation. -/
theorem step_boxStr (ts te : TypeId) (z by_ : Nat) (zero : Value) (hi : (P.info? te).map (fun i => (i.zero, i.size, i.bytes)) = some (some zero, z, by_)) (hu : P.underlying ts = some (.slice te)) (hz : 0 < z) (hz2 : z ≤ 16777216)
    (w : World) {o : Oper} {a : Act} {K : Act → World → Prop} {Q : Exit → Act → World → Prop} (x : Operand) (ho : o.op = .buildSlice ts 1 #[(0, x)]) (v : Value) (hx : a.eval x = v) (hv : v.cells.size = z)
    (h : K (a.put o.dst (.slice (some ⟨w.heap.size, 0, none⟩) 1 1)) (w.alloc (.cells v.cells te))) : o.wp P a w K Q := by
  obtain ⟨i0, hi, hz0, hz1, _⟩ := info_parts hi
  refine wp_buildSlice ts te 1 #[(0, x)] ho v.cells i0 _ hu hi hz0 (by rw [hz1]; omega) (by rw [hz1]; omega) ?_ h
  rw [hz1]
  simp only [List.map_toArray, List.map_cons, List.map_nil, hx]
  exact fill_one hv (by simp)
theorem wpList_boxStr (ts te : TypeId) (z by_ : Nat) (zero : Value) (hi : (P.info? te).map (fun i => (i.zero, i.size, i.bytes)) = some (some zero, z, by_)) (hu : P.underlying ts = some (.slice te)) (hz : 0 < z) (hz2 : z ≤ 16777216)
    (w : World) {ops : Array Oper} {rest : List Oper} {o : Oper} {a : Act} {Q : Exit → Act → World → Prop} (hgd : o.guard = none) (x : Operand) (ho : o.op = .buildSlice ts 1 #[(0, x)]) (v : Value) (hx : a.eval x = v) (hv : v.cells.size = z)
    (h : wpList P ops Q rest (a.put o.dst (.slice (some ⟨w.heap.size, 0, none⟩) 1 1)) (w.alloc (.cells v.cells te))) : wpList P ops Q (o :: rest) a w :=
  wpList_plain hgd fun _ hQ => step_boxStr ts te z by_ zero hi hu hz hz2 w x ho v hx hv (hQ _ _ h)
/-- 'append(out, more...)', one operation: m structs that lie one behind the other. -/
theorem step_pushStr (ts te : TypeId) (z by_ : Nat) (zero : Value) (hi : (P.info? te).map (fun i => (i.zero, i.size, i.bytes)) = some (some zero, z, by_)) (hu : P.underlying ts = some (.slice te)) (hz : 0 < z) (hzc : zero.cells.size = z)
    (w : World) {o : Oper} {a : Act} {K : Act → World → Prop} {Q : Exit → Act → World → Prop} (s x : Operand)
    (ho : o.op = .call { callee := .builtin .append, args := #[s, x], argTypes := #[ts, ts] })
    (base : Nat) (v : Value) (n : Nat) (xs : List Value) (hs : a.eval s = v) (hown : w.ownsRow base te z v n xs) (A : Addr) (m c : Nat) (cs : List Value)
    (hx : a.eval x = .slice (some A) m c) (hc : ∀ q u, cs[q]? = some u → w.cell? (A.add q) = some u) (hcl : cs.length = m * z) (h1 : ∀ u ∈ cs, u.oneCell' = true) (hn : (n + m) * by_ ≤ 140737488355328) (hn2 : n + m ≤ 9223372036854775807) (hbase : base ≤ w.heap.size)
    (h : ∀ v' w', w'.ownsRow base te z v' (n + m) (xs ++ cs) → w.grownBy w' v.ownBlock → (v'.ownBlock = v.ownBlock ∨ v'.ownBlock = some w.heap.size) → K (a.put o.dst v') w') :
    o.wp P a w K Q := by
  obtain ⟨i0, hi, hz0, hz1, hz2⟩ := info_parts hi
  obtain ⟨v', w', hrun, h2, h3, _, h5⟩ := run_append_own_at (P := P) w base ts o.type te i0 _ z by_ hu hi hz0 hz1 hz2 hzc hz v n xs hown A m c cs hcl hc h1 (by unfold maxLen; omega) hn hbase
  unfold Oper.wp execOp
  simp only [ho, resolve, invoke, builtin, Sem.run_bind, Sem.run_pure, Result.andThen_ok, List.map_toArray, List.map_cons, List.map_nil, hs, hx, hrun]
  exact h v' w' h2 h3 h5
theorem wpList_pushStr (ts te : TypeId) (z by_ : Nat) (zero : Value) (hi : (P.info? te).map (fun i => (i.zero, i.size, i.bytes)) = some (some zero, z, by_)) (hu : P.underlying ts = some (.slice te)) (hz : 0 < z) (hzc : zero.cells.size = z)
    (w : World) {ops : Array Oper} {rest : List Oper} {o : Oper} {a : Act} {Q : Exit → Act → World → Prop} (hgd : o.guard = none) (s x : Operand)
    (ho : o.op = .call { callee := .builtin .append, args := #[s, x], argTypes := #[ts, ts] })
    (base : Nat) (v : Value) (n : Nat) (xs : List Value) (hs : a.eval s = v) (hown : w.ownsRow base te z v n xs) (A : Addr) (m c : Nat) (cs : List Value)
    (hx : a.eval x = .slice (some A) m c) (hc : ∀ q u, cs[q]? = some u → w.cell? (A.add q) = some u) (hcl : cs.length = m * z) (h1 : ∀ u ∈ cs, u.oneCell' = true) (hn : (n + m) * by_ ≤ 140737488355328) (hn2 : n + m ≤ 9223372036854775807) (hbase : base ≤ w.heap.size)
    (h : ∀ v' w', w'.ownsRow base te z v' (n + m) (xs ++ cs) → w.grownBy w' v.ownBlock → (v'.ownBlock = v.ownBlock ∨ v'.ownBlock = some w.heap.size) → wpList P ops Q rest (a.put o.dst v') w') :
    wpList P ops Q (o :: rest) a w :=
  wpList_plain hgd fun _ hQ => step_pushStr ts te z by_ zero hi hu hz hzc w s x ho base v n xs hs hown A m c cs hx hc hcl h1 hn hn2 hbase fun v' w' h2 h3 h5 => hQ _ _ (h v' w' h2 h3 h5)
end
end Go.Proofs.YtfneloobfidckaaGreatDoor
