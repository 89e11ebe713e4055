/- Contracts and facts, several texts in one. It proves no statement. -/
import Derived.Test.YtgbkpbmilaafgaaBkGg
import Derived.Lib.ConvBytes
import Derived.Lib.FrozenHead
import Derived.Deep.Upon
import Derived.Test.YtgbkpbmilaafgaaBkGc
import Derived.Deep.RegionHeld3
import Derived.BigQuiet
import Derived.BigFrame
import Derived.StillTailTactics

/- Rows of bytes of one's own, of which the first may be what '[]byte(s)' lays: its block bears a mark behind its last cell. It proves no statement. -/




namespace Go.Proofs.Ytgbkpbmilaafgaa
open Go.RowKit
set_option linter.unusedVariables false

theorem run_storeCells_atM (P : Program) (g o : Nat) (t : TypeId) (fz : Nat × Nat) : ∀ (vs : List Value) (i : Nat) (cur : Array Value) (w : World), w.heap[g]? = some (.cells cur t fz) → cur.size ≤ fz.1 → o + i + vs.length ≤ cur.size → (∀ v ∈ vs, v.oneCell' = true) →
    (storeCells ⟨g, o, none⟩ vs i).run P w = .ok () (w.setRow g (cur.toList.take (o + i) ++ vs ++ cur.toList.drop (o + i + vs.length)).toArray)
  | [], i, cur, w, hg, _, _, _ => by
    simp only [storeCells, List.append_nil, List.length_nil, Nat.add_zero, List.take_append_drop, Array.toArray_toList]
    rw [setRow_self w g cur t fz hg]
    rfl
  | v :: rest, i, cur, w, hg, hfz, hl, h1 => by
    have hi : o + i < cur.size := by simp at hl; omega
    have hadd : (⟨g, o, none⟩ : Addr).add i = ⟨g, o + i, none⟩ := by unfold Addr.add; split <;> simp_all
    have hcell : w.cell? ⟨g, o + i, none⟩ = some cur[o + i] := by simp [World.cell?, hg, hi]
    have hfro : w.frozen? ⟨g, o + i, none⟩ = false := by
      obtain ⟨lo, hi'⟩ := fz
      simp only [World.frozen?, hg, Bool.and_eq_false_iff, decide_eq_false_iff_not]
      left
      simp only at hfz
      omega
    have hst : (store ((⟨g, o, none⟩ : Addr).add i) v).run P w = .ok () (w.setRow g (cur.setIfInBounds (o + i) v)) := by
      rw [hadd, run_store P w _ v _ (h1 v (by simp)), hcell]
      simp [hfro, setCell_eq_setRow w g (o + i) cur t fz v hg]
    have ih := run_storeCells_atM P g o t fz rest (i + 1) (cur.setIfInBounds (o + i) v) (w.setRow g (cur.setIfInBounds (o + i) v)) (setRow_heap w g cur _ t _ hg) (by simpa using hfz) (by simp at hl ⊢; omega) (fun x hx => h1 x (by simp [hx]))
    simp only [storeCells, Sem.run_bind, hst, Result.andThen_ok, ih, setRow_setRow]
    congr 3
    have e := list_seg_step cur.toList (o + i) v rest (by simp at hl ⊢; omega)
    simpa [Array.toList_setIfInBounds, Nat.add_assoc] using e
theorem run_append_roomM {P : Program} (w : World) (t ty e : TypeId) (i : TypeInfo) (ht : P.underlying t = some (.slice e)) (hi : P.info? e = some i) (hs1 : i.size = 1)
    (g sLen sCap : Nat) (cur : Array Value) (fz : Nat × Nat) (hg : w.heap[g]? = some (.cells cur e fz)) (hfz : cur.size ≤ fz.1)
    (a : Addr) (m c : Nat) (news : List Value) (hl : news.length = m) (hnews : ∀ j u, news[j]? = some u → w.cell? (a.add j) = some u) (h1 : ∀ u ∈ news, u.oneCell' = true)
    (hroom : sLen + m ≤ sCap) (hfit : sLen + news.length ≤ cur.size) :
    (Builtin.append_ #[t, t] ty #[.slice (some ⟨g, 0, none⟩) sLen sCap, .slice (some a) m c]).run P w =
      .ok (.slice (some ⟨g, 0, none⟩) (sLen + m) sCap) (w.setRow g (cur.toList.take sLen ++ news ++ cur.toList.drop (sLen + news.length)).toArray) := by
  have hf := run_firstCells_some (P := P) w i.size m a m c news (by rw [hs1, Nat.mul_one]; exact hl) hnews
  have hst := run_storeCells_atM P g (sLen * i.size) e fz news 0 cur w hg hfz (by rw [hs1]; simpa using hfit) h1
  simp only [Nat.add_zero, hs1, Nat.mul_one] at hst
  simp only [hs1] at hf
  simp [Builtin.append_, run_underlying ht, sizeOf, typeInfo, hi, hs1, Builtin.lenOf, hroom, hf, Addr.add_lit, hst]
/-- Such a row. -/
def MRow (W : World) (base : Nat) (v : Value) (l : List UInt8) : Prop :=
  (∃ g cap cur fz, v = .slice (some ⟨g, 0, none⟩) l.length cap ∧ base ≤ g ∧ W.heap[g]? = some (.cells cur 5 fz) ∧ cur.size ≤ fz.1 ∧ l.length ≤ cap ∧ cap ≤ maxLen ∧ cur.size = cap ∧ cur.toList.take l.length = bytesV l) ∨
  W.ownsRow base 5 1 v l.length (bytesV l)
theorem MRow.form {W : World} {base : Nat} {v : Value} {l : List UInt8} (h : MRow W base v l) : ∃ A c, v = .slice A l.length c ∧ l.length ≤ c ∧ c ≤ 9223372036854775807 ∧ (A = none → l.length = 0 ∧ c = 0) := by
  rcases h with ⟨g, cap, cur, fz, rfl, _, _, _, h1, h2, _⟩ | h
  · exact ⟨_, cap, rfl, h1, by unfold maxLen at h2; omega, fun e => by cases e⟩
  · exact own_form h
theorem MRow.reads {W : World} {base n : Nat} {A : Option Addr} {c : Nat} {l : List UInt8} (h : MRow W base (.slice A n c) l) : Reads W W.heap.size A n l := by
  rcases h with ⟨g, cap, cur, fz, e, hb, hg, _, h1, _, hs, ht⟩ | h
  · injection e with e1 e2 e3
    subst e1
    subst e2
    refine ⟨rfl, fun hn => ⟨g, 0, rfl, (Array.getElem?_eq_some_iff.1 hg).1, fun i hi => ?_⟩⟩
    rw [Nat.zero_add, cell_of_row _ g i _ _ fz hg, ← bytesV_get l i hi, ← ht, List.getElem?_take, if_pos hi]
    simp
  · obtain ⟨_, _, e, _⟩ := own_form h
    injection e with e1 e2 e3
    subst e2
    exact Reads.of_own h
theorem MRow.still {W W' : World} {base : Nat} {v : Value} {l : List UInt8} (h : MRow W base v l) (s : Still W W') : MRow W' base v l := by
  rcases h with ⟨g, cap, cur, fz, h1, h2, h3, h4⟩ | h
  · exact .inl ⟨g, cap, cur, fz, h1, h2, (s.block g (Array.getElem?_eq_some_iff.1 h3).1).trans h3, h4⟩
  · exact .inr (own_still h s)
theorem MRow.lt {W : World} {base : Nat} {v : Value} {l : List UInt8} (h : MRow W base v l) : ∀ k, v.ownBlock = some k → k < W.heap.size := by
  rcases h with ⟨g, cap, cur, fz, rfl, h2, h3, _⟩ | h
  · intro k hk
    have e : g = k := by simpa [Value.ownBlock] using hk
    rw [← e]
    exact (Array.getElem?_eq_some_iff.1 h3).1
  · exact fun k hk => (h.lt k hk).2
theorem MRow.low {W : World} {base : Nat} {v : Value} {l : List UInt8} (h : MRow W base v l) : ∀ k, v.ownBlock = some k → base ≤ k := by
  rcases h with ⟨g, cap, cur, fz, rfl, h2, _⟩ | h
  · intro k hk
    have : g = k := by simpa [Value.ownBlock] using hk
    omega
  · exact fun k hk => (h.lt k hk).1
theorem run_addsM (w : World) (ty : TypeId) (base : Nat) (v : Value) (l : List UInt8) (hown : MRow w base v l) (A : Option Addr) (n' c' : Nat) (B : Nat) (l' : List UInt8)
    (hr : Reads w B A n' l') (hA : A = none → c' = 0) (hn : l.length + n' ≤ 140737488355328) (hbase : base ≤ w.heap.size) :
    ∃ v' w', (Builtin.append_ #[27, 27] ty #[v, .slice A n' c']).run Try.prog w = .ok v' w' ∧ MRow w' base v' (l ++ l') ∧ w.grownBy w' v.ownBlock ∧ (v'.ownBlock = v.ownBlock ∨ v'.ownBlock = some w.heap.size) := by
  rcases hown with ⟨g, cap, cur, fz, rfl, hb, hg, hfz, h1, h2, hs, ht⟩ | hown
  · obtain ⟨i, hi, hz0, hz1, hz2⟩ := info_parts Try.infoByte
    have hl1 := hr.1
    rcases A with _ | ad
    · have h0 : n' = 0 := by
        rcases Nat.eq_zero_or_pos n' with h0 | h0
        · exact h0
        · obtain ⟨_, _, e, _⟩ := hr.2 h0
          cases e
      subst h0
      have hl : l' = [] := List.eq_nil_of_length_eq_zero hr.1
      subst hl
      obtain rfl := hA rfl
      refine ⟨_, w, ?_, by rw [List.append_nil]; exact .inl ⟨g, cap, cur, fz, rfl, hb, hg, hfz, h1, h2, hs, ht⟩, World.grownBy.refl _ _, .inl rfl⟩
      have hr0 : (storeCells (⟨g, l.length * i.size, none⟩ : Addr) [] 0).run Try.prog w = .ok () w := rfl
      simp [Builtin.append_, run_underlying Try.underlying27, sizeOf, typeInfo, hi, Builtin.lenOf, Builtin.firstCells, h1, loadCells, storeCells]
    · have hnews : ∀ j u, (bytesV l')[j]? = some u → w.cell? (ad.add j) = some u := fun j u hu => by
        rcases Nat.eq_zero_or_pos n' with h0 | h0
        · subst h0
          have hl : l' = [] := List.eq_nil_of_length_eq_zero hr.1
          subst hl
          simp [bytesV] at hu
        · exact hr.news _ rfl h0 j u hu
      by_cases hroom : l.length + n' ≤ cap
      · have hr2 := run_append_roomM (P := Try.prog) w 27 ty 5 i Try.underlying27 hi hz1 g l.length cap cur fz hg hfz ad n' c' (bytesV l') (by rw [bytesV_length, hl1]) hnews (bytesV_one _) hroom (by rw [bytesV_length]; omega)
        refine ⟨_, _, hr2, .inl ⟨g, cap, _, fz, by rw [List.length_append, hl1], hb, setRow_heap w g cur _ _ _ hg, ?_, by rw [List.length_append]; omega, h2, ?_, ?_⟩, ⟨rfl, rfl, rfl, by simp, fun k _ hk => setRow_other w g k _ (fun e => hk (by simp [Value.ownBlock, e]))⟩, .inl rfl⟩
        · simp only [List.size_toArray, List.length_append, List.length_take, List.length_drop, Array.length_toList, bytesV_length]
          omega
        · simp only [List.size_toArray, List.length_append, List.length_take, List.length_drop, Array.length_toList, bytesV_length]
          omega
        · rw [ht]
          simp only [bytesV_append]
          exact List.take_left' (by simp [bytesV_length])
      · have holds : ∀ j u, (bytesV l)[j]? = some u → w.cell? ((⟨g, 0, none⟩ : Addr).add j) = some u := fun j u hu => by
          have hj := (List.getElem?_eq_some_iff.1 hu).1
          rw [bytesV_length] at hj
          rw [Addr.add_lit, Nat.zero_add, cell_of_row _ g j _ _ fz hg, ← hu, ← ht, List.getElem?_take, if_pos hj]
          simp
        have h63 : l.length + n' ≤ maxLen := by unfold maxLen; omega
        have hbytes : (l.length + n') * i.bytes ≤ 140737488355328 := by rw [hz2]; omega
        have hr2 := run_append_grow (P := Try.prog) w 27 ty 5 i (.int .u8 0) Try.underlying27 hi hz0 ⟨g, 0, none⟩ l.length cap (bytesV l) (by rw [hz1, bytesV_length, Nat.mul_one]) holds ad n' c' (bytesV l') (by rw [hz1, bytesV_length, hr.1]; omega) hnews (by omega) (by unfold maxLen at h63; omega) (growslice_fits (by omega) hbytes)
        have hge := grownCap_ge w (l.length + n') cap 5
        have hcm2 : grownCap w (l.length + n') cap 5 ≤ maxLen := grownCap_le_maxLen w (l.length + n') cap 5 h63
        refine ⟨_, _, hr2, .inr ⟨?_, .inr ⟨w.heap.size, _, _, ?_, hbase, heap_alloc_new w.drew _, ?_, hcm2, ?_, ?_⟩⟩, ⟨rfl, rfl, rfl, by simp, fun k hk _ => heap_alloc_old w.drew _ hk⟩, .inr rfl⟩
        · rw [bytesV_length, Nat.mul_one]
        · rw [List.length_append, hl1]
        · rw [List.length_append, hl1]; exact hge
        · have hc1 : (Value.int IntKind.u8 0).cells.size = 1 := rfl
          simp only [Array.size_append, List.size_toArray, size_zeroCells, bytesV_length, hl1]
          rw [hc1, Nat.mul_one]
          omega
        · simp only [Array.toList_append, List.append_assoc]
          rw [bytesV_append, ← List.append_assoc]
          refine List.take_left' ?_
          simp [bytesV_length]
  · obtain ⟨v', w', hrun, h2, h3, h4⟩ := run_adds_at w ty base v l.length l hown A n' c' B l' hr hA hn hbase
    exact ⟨v', w', hrun, .inr (by rw [List.length_append, hr.1]; exact h2), h3, h4⟩
theorem step_addsM (w : World) {o : Oper} {a : Act} {K : Act → World → Prop} {Q : Exit → Act → World → Prop} (s x : Operand)
    (ho : o.op = .call { callee := .builtin .append, args := #[s, x], argTypes := #[27, 27] })
    (base : Nat) (v : Value) (l : List UInt8) (hs : a.eval s = v) (hown : MRow w base v l) (A : Option Addr) (n' c' : Nat) (B : Nat) (l' : List UInt8)
    (hx : a.eval x = .slice A n' c') (hr : Reads w B A n' l') (hA : A = none → c' = 0) (hn : l.length + n' ≤ 140737488355328) (hbase : base ≤ w.heap.size)
    (h : ∀ v' w', MRow w' base v' (l ++ l') → w.grownBy w' v.ownBlock → (v'.ownBlock = v.ownBlock ∨ v'.ownBlock = some w.heap.size) → K (a.put o.dst v') w') :
    o.wp Try.prog a w K Q := by
  obtain ⟨v', w', hrun, h2, h3, h4⟩ := run_addsM w o.type base v l hown A n' c' B l' hr hA hn hbase
  unfold Oper.wp execOp
  simp only [ho, resolve, invoke, builtin, Sem.run_bind, Sem.run_pure, Result.andThen_ok, List.map_toArray, List.map_cons, List.map_nil, hs, hx, hrun]
  exact h v' w' h2 h3 h4
theorem wpList_addsM (w : World) {ops : Array Oper} {rest : List Oper} {o : Oper} {a : Act} {Q : Exit → Act → World → Prop} (hgd : o.guard = none) (s x : Operand)
    (ho : o.op = .call { callee := .builtin .append, args := #[s, x], argTypes := #[27, 27] })
    (base : Nat) (v : Value) (l : List UInt8) (hs : a.eval s = v) (hown : MRow w base v l) (A : Option Addr) (n' c' : Nat) (B : Nat) (l' : List UInt8)
    (hx : a.eval x = .slice A n' c') (hr : Reads w B A n' l') (hA : A = none → c' = 0) (hn : l.length + n' ≤ 140737488355328) (hbase : base ≤ w.heap.size)
    (h : ∀ v' w', MRow w' base v' (l ++ l') → w.grownBy w' v.ownBlock → (v'.ownBlock = v.ownBlock ∨ v'.ownBlock = some w.heap.size) → wpList Try.prog ops Q rest (a.put o.dst v') w') :
    wpList Try.prog ops Q (o :: rest) a w :=
  wpList_plain hgd fun _ hQ => step_addsM w s x ho base v l hs hown A n' c' B l' hx hr hA hn hbase fun v' w' h2 h3 h4 => hQ _ _ (h v' w' h2 h3 h4)
/-- The same at a step of a region that draws its order. -/
theorem if_addsM (w : World) {ops : Array Oper} {o : Oper} {a : Act} {K : Act → World → Prop} {Q : Exit → Act → World → Prop} {E : Prop} (hgd : o.guard = none) (s x : Operand)
    (ho : o.op = .call { callee := .builtin .append, args := #[s, x], argTypes := #[27, 27] })
    (base : Nat) (v : Value) (l : List UInt8) (hs : a.eval s = v) (hown : MRow w base v l) (A : Option Addr) (n' c' : Nat) (B : Nat) (l' : List UInt8)
    (hx : a.eval x = .slice A n' c') (hr : Reads w B A n' l') (hA : A = none → c' = 0) (hn : l.length + n' ≤ 140737488355328) (hbase : base ≤ w.heap.size)
    (h : ∀ v' w', MRow w' base v' (l ++ l') → w.grownBy w' v.ownBlock → (v'.ownBlock = v.ownBlock ∨ v'.ownBlock = some w.heap.size) → K (a.put o.dst v') w') :
    if Region.wanted o (yielded ops a.tmps) = true then Oper.wp Try.prog o a w K Q else E := by
  have hw : Region.wanted o (yielded ops a.tmps) = true := by simp [Region.wanted, hgd]
  rw [if_pos hw]
  exact step_addsM w s x ho base v l hs hown A n' c' B l' hx hr hA hn hbase h
/-- '[]byte(s)' is such a row. -/
theorem mrow_bytes (w : World) (s : ByteArray) (hs : s.size ≤ 1048576) : MRow (Lib.bytesWorld w 5 s) w.heap.size (.slice (some ⟨w.heap.size, 0, none⟩) s.size (grownCap w s.size 0 5)) s.data.toList ∧ Still w (Lib.bytesWorld w 5 s) := by
  have hc : (Lib.bytesCells w 5 s).size = grownCap w s.size 0 5 := by
    have hge := grownCap_ge w s.size 0 5
    simp only [Lib.bytesCells, Array.size_append, Array.size_map, Array.size_replicate]
    show s.size + _ = _
    omega
  refine ⟨.inl ⟨_, _, _, _, by simp, Nat.le_refl _, Lib.bytesWorld_at_new w 5 s, Nat.le_refl _, ?_, ?_, hc, ?_⟩, ?_⟩
  · simpa using grownCap_ge w s.size 0 5
  · exact grownCap_le_maxLen w s.size 0 5 (by unfold maxLen; omega)
  · simp only [Lib.bytesCells, Array.toList_append, Array.toList_map]
    rw [List.take_left' (by simp)]
    rfl
  · exact ⟨rfl, rfl, rfl, by rw [Lib.bytesWorld_size]; omega, fun k hk => Lib.bytesWorld_at_old w _ s k hk⟩
theorem MRow.lower {W : World} {base base' : Nat} {v : Value} {l : List UInt8} (h : MRow W base v l) (hb : base' ≤ base) : MRow W base' v l := by
  rcases h with ⟨g, cap, cur, fz, h1, h2, h3⟩ | h
  · exact .inl ⟨g, cap, cur, fz, h1, Nat.le_trans hb h2, h3⟩
  · exact .inr (by
      refine ⟨h.1, ?_⟩
      rcases h.2 with h0 | ⟨g, cap, cur, h1, h2, h3⟩
      · exact .inl h0
      · exact .inr ⟨g, cap, cur, h1, Nat.le_trans hb h2, h3⟩)
/-- The row behind an append: nothing that was there has turned. -/
theorem MRow.next {w0 w w' : World} {base : Nat} {v : Value} {l : List UInt8} (h : MRow w base v l) (hb : w0.heap.size ≤ base) (s : Still w0 w) (gr : w.grownBy w' v.ownBlock) : Still w0 w' :=
  s.grown gr s.size (fun k hk => Nat.le_trans hb (h.low k hk))
end Go.Proofs.Ytgbkpbmilaafgaa

/- Contracts: the document's own answer for XXH64. It proves no statement. -/

namespace Go.Proofs.Ytgbkpbmilaafgaa
open Go.RowKit
set_option linter.unusedVariables false
set_option linter.unusedSimpArgs false

theorem rturn_any (x n : Nat) (w : World) (hx : x < 18446744073709551616) (hn : n < 64) :
    Calls Try.prog 79 #[.int .u64 x, .int .u64 n] w fun e w' => e = .returned (.int .u64 (rotl 64 x n : Nat)) ∧ w = w' := by
  have hr := rot_cast64 x n hx hn
  have hs : IntKind.u64.wrap (64 - (n : Int)) = ((64 - n : Nat) : Int) := by rw [IntKind.wrap_u64]; omega
  have z1 : (0 : Int) ≤ (n : Int) := by omega
  generalize rotl 64 x n = z at hr ⊢
  go_enter Try.func79, Try.ntmps79
  go_wp2
  go_ret
  exact ⟨rfl, rfl⟩
theorem rprime_any (i : Nat) (w : World) (h1 : 1 ≤ i) (h5 : i ≤ 5) :
    Calls Try.prog 77 #[.int .i64 i] w fun e w' => e = .returned (.int .u64 ((match i with | 1 => xP1 | 2 => xP2 | 3 => xP3 | 4 => xP4 | _ => xP5 : Nat))) ∧ w = w' := by
  obtain rfl | rfl | rfl | rfl | rfl : i = 1 ∨ i = 2 ∨ i = 3 ∨ i = 4 ∨ i = 5 := by omega
  all_goals
    go_enter Try.func77, Try.ntmps77
    go_wp2
    go_ret
    exact ⟨rfl, rfl⟩
theorem rnum_any (A : Option Addr) (n c : Nat) (l : List UInt8) (w : World) (B : Nat) (h : Reads w B A n l) (h1 : 1 ≤ n) (h2 : n ≤ 8) :
    Calls Try.prog 81 #[.slice A n c] w fun e w' => e = .returned (.int .u64 (leNum l : Nat)) ∧ w = w' := by
  have k := rget_yes A n c l w B h h1 h2
  generalize leNum l = z at k ⊢
  clear h h1 h2
  have K := Lib.hid k
  clear k
  go_enter Try.func81, Try.ntmps81
  go_wp2_with fail
  refine K.out.mono ?_
  rintro e w1 ⟨rfl, rfl⟩
  go_wp2_with fail
  go_ret
  exact ⟨rfl, rfl⟩

theorem wrap_mul (x y : Nat) : IntKind.u64.wrap ((x : Int) * (y : Int)) = ((x * y % m64 : Nat) : Int) := by
  rw [IntKind.wrap_u64]; simp [m64]
theorem wrap_add (x y : Nat) : IntKind.u64.wrap ((x : Int) + (y : Int)) = (((x + y) % m64 : Nat) : Int) := by
  rw [IntKind.wrap_u64]; simp [m64]
theorem wrap_sub (x y : Nat) (hy : y ≤ m64) : IntKind.u64.wrap ((x : Int) - (y : Int)) = (((x + (m64 - y)) % m64 : Nat) : Int) := by
  rw [IntKind.wrap_u64]; simp only [m64] at *; omega
theorem rprime1 (w : World) : Calls Try.prog 77 #[.int .i64 1] w fun e w' => e = .returned (.int .u64 (xP1 : Nat)) ∧ w = w' := rprime_any 1 w (by omega) (by omega)
theorem rprime2 (w : World) : Calls Try.prog 77 #[.int .i64 2] w fun e w' => e = .returned (.int .u64 (xP2 : Nat)) ∧ w = w' := rprime_any 2 w (by omega) (by omega)
theorem rprime3 (w : World) : Calls Try.prog 77 #[.int .i64 3] w fun e w' => e = .returned (.int .u64 (xP3 : Nat)) ∧ w = w' := rprime_any 3 w (by omega) (by omega)
theorem rprime4 (w : World) : Calls Try.prog 77 #[.int .i64 4] w fun e w' => e = .returned (.int .u64 (xP4 : Nat)) ∧ w = w' := rprime_any 4 w (by omega) (by omega)
theorem rprime5 (w : World) : Calls Try.prog 77 #[.int .i64 5] w fun e w' => e = .returned (.int .u64 (xP5 : Nat)) ∧ w = w' := rprime_any 5 w (by omega) (by omega)

theorem rlane_any (a x : Nat) (w : World) :
    Calls Try.prog 80 #[.int .u64 a, .int .u64 x] w fun e w' => e = .returned (.int .u64 (xLane a x : Nat)) ∧ w = w' := by
  have p1 := rprime1 w
  have p2 := rprime2 w
  have e1 := wrap_mul x xP2
  have e2 := wrap_add a (x * xP2 % m64)
  rw [Nat.add_mod_mod] at e2
  have hs : (a + x * xP2) % m64 < 18446744073709551616 := Nat.mod_lt _ (by decide)
  have t := rturn_any _ 31 w hs (by omega)
  have e3 := wrap_mul (rotl 64 ((a + x * xP2) % m64) 31) xP1
  have ez : rotl 64 ((a + x * xP2) % m64) 31 * xP1 % m64 = xLane a x := rfl
  rw [ez] at e3
  generalize xLane a x = z at e3 ⊢
  clear ez
  generalize rotl 64 ((a + x * xP2) % m64) 31 = r at e3 t
  generalize (a + x * xP2) % m64 = s at e2 t hs
  generalize x * xP2 % m64 = y at e1 e2
  generalize xP1 = P1 at p1 e3
  generalize xP2 = P2 at p2 e1
  have E1 := Lib.hid p1
  have E2 := Lib.hid p2
  have T := Lib.hid t
  clear p1 p2 t
  go_enter Try.func80, Try.ntmps80
  go_wp2_with fail
  refine E2.out.mono ?_
  rintro e w1 ⟨rfl, rfl⟩
  go_wp2_with fail
  refine T.out.mono ?_
  rintro e w1 ⟨rfl, rfl⟩
  go_wp2_with fail
  refine E1.out.mono ?_
  rintro e w1 ⟨rfl, rfl⟩
  go_wp2_with fail
  go_ret
  exact ⟨rfl, rfl⟩
theorem rlane0 (x : Nat) (w : World) :
    Calls Try.prog 80 #[.int .u64 0, .int .u64 x] w fun e w' => e = .returned (.int .u64 (xLane 0 x : Nat)) ∧ w = w' := rlane_any 0 x w
end Go.Proofs.Ytgbkpbmilaafgaa

/- Contract: the document's own answer for XXH64, of 32 bytes or more. It proves no statement. -/





namespace Go.Proofs.Ytgbkpbmilaafgaa
open Go.RowKit
set_option linter.unusedVariables false
set_option linter.unusedSimpArgs false

set_option maxRecDepth 100000 in
set_option maxHeartbeats 1600000 in
theorem rahead_any (A : Option Addr) (n c : Nat) (l : List UInt8) (seed : Nat) (w : World) (B : Nat) (h : Reads w B A n l) (hB : B ≤ w.heap.size) (hn : n ≤ 70368744177664) (hnc : n ≤ c) (hs : seed < m64) :
    Calls Try.prog 78 #[.slice A n c, .int .u64 seed] w fun e w' => e = .returned (.int .u64 (xHead (fun k => xRun (xLane0 seed k) k l (n / 32)) : Nat)) ∧ Still w w' := by
  obtain ⟨F, hF⟩ : ∃ F : Nat → Nat → Nat, F = fun k m => xRun (xLane0 seed k) k l m := ⟨_, rfl⟩
  have HF := Lib.hid hF
  have p1 := rprime1 w
  have p2 := rprime2 w
  have f0 : F 0 0 = (seed + xP1 + xP2) % m64 := by rw [hF]; exact xLane0_0 seed
  have f1 : F 1 0 = (seed + xP2) % m64 := by rw [hF]; exact xLane0_1 seed
  have f2 : F 2 0 = seed := by rw [hF]; exact xLane0_2 seed
  have f3 : F 3 0 = (seed + (m64 - xP1)) % m64 := by rw [hF]; exact xLane0_3 seed
  have hm1 : xP1 ≤ m64 := by decide
  clear hF
  generalize xP1 = P1 at *
  generalize xP2 = P2 at *
  have e1 : IntKind.u64.wrap (IntKind.u64.wrap ((seed : Int) + (P1 : Nat)) + (P2 : Nat)) = ((F 0 0 : Nat) : Int) := by
    rw [f0, wrap_add, wrap_add, Nat.mod_add_mod]
  have e2 : IntKind.u64.wrap ((seed : Int) + (P2 : Nat)) = ((F 1 0 : Nat) : Int) := by rw [f1, wrap_add]
  have e4 : IntKind.u64.wrap ((seed : Int) - (P1 : Nat)) = ((F 3 0 : Nat) : Int) := by rw [f3, wrap_sub _ _ hm1]
  have e3 : F 2 0 = seed := f2
  clear f0 f1 f2 f3 hm1
  obtain ⟨q, hq⟩ : ∃ q, q = n / 32 := ⟨_, rfl⟩
  rw [← hq]
  have K1 := Lib.hid p1
  have K2 := Lib.hid p2
  clear p1 p2
  go_enter Try.func78, Try.ntmps78
  go_wp2_with fail
  refine K1.out.mono ?_
  rintro e w1 ⟨rfl, rfl⟩
  go_wp2_with fail
  refine K2.out.mono ?_
  rintro e w1 ⟨rfl, rfl⟩
  go_wp2_with fail
  refine K2.out.mono ?_
  rintro e w1 ⟨rfl, rfl⟩
  go_wp2_with fail
  refine K1.out.mono ?_
  rintro e w1 ⟨rfl, rfl⟩
  go_wp2_with fail
  rw [← e3]
  have own0 : (w.alloc (.cells (wordsV (laneVals F q 0 0)).toArray 106)).ownsRow w.heap.size 106 1 (.slice (some ⟨w.heap.size, 0, none⟩) 4 4) 4 (wordsV (laneVals F q 0 0)) := by
    refine ⟨by simp [laneVals, wordsV], .inr ⟨w.heap.size, 4, _, rfl, Nat.le_refl _, heap_alloc_new w _, Nat.le_refl _, by unfold maxLen; omega, by simp [laneVals, wordsV], by simp [laneVals, wordsV]⟩⟩
  rw [laneVals_start] at own0
  have st0 : Still w (w.alloc (.cells (wordsV [F 0 0, F 1 0, F 2 0, F 3 0]).toArray 106)) := (Still.refl w).alloc (Nat.le_refl _) _
  go_loopw [6] (fun i wr => ∃ k : Nat, i = .int .i64 k ∧ k ≤ 4 ∧ wr.ownsRow w.heap.size 106 1 (.slice (some ⟨w.heap.size, 0, none⟩) 4 4) 4 (wordsV (laneVals F q k 0)) ∧ Still w wr) (fun i _ => 4 - (intOf i).toNat)
  case atStart =>
    refine ⟨0, rfl, by omega, ?_, ?_⟩
    · rw [laneVals_start]; exact own0
    · exact st0
  case round =>
    obtain ⟨k, rfl, hk, own, st⟩ := hrel
    by_cases hk4 : k < 4
    · have d7 : (k : Int) < 4 := by omega
      go_wp2_with fail
      go_loopw [7] (fun i wr => ∃ m : Nat, i = .int .i64 ((8 * k + 32 * m : Nat) : Int) ∧ m ≤ q ∧ wr.ownsRow w.heap.size 106 1 (.slice (some ⟨w.heap.size, 0, none⟩) 4 4) 4 (wordsV (laneVals F q k m)) ∧ Still w wr) (fun i _ => 32 * q + 32 - (intOf i).toNat)
      case atStart => exact ⟨0, by go_num, by omega, own, st⟩
      case round =>
        obtain ⟨m, rfl, hm, own, st⟩ := hrel
        by_cases hmq : m < q
        · obtain ⟨b, o, rfl, hb, hc⟩ := h.at_ (by omega)
          obtain ⟨t, ht⟩ : ∃ t, t = 8 * k + 32 * m := ⟨_, rfl⟩
          rw [← ht]
          have d1 : decide ((t : Int) + 8 ≤ (n : Int) / 32 * 32) = true := by simp; omega
          have d2 : ((t : Int) + 8 ≤ (n : Int) / 32 * 32) := by omega
          have d3 : (0 : Int) ≤ (t : Int) := by omega
          have d4 : ((t : Int) + 8 ≤ (c : Int)) := by omega
          have d5 : IntKind.i64.wrap ((t : Int) + 8) = (t : Int) + 8 := by rw [IntKind.wrap_i64]; omega
          have d8 : IntKind.i64.wrap ((n : Int) / 32 * 32) = (n : Int) / 32 * 32 := by rw [IntKind.wrap_i64]; omega
          have d9 : ((t : Int) + 8).toNat = t + 8 := by omega
          have d10 : t + 8 - t = 8 := by omega
          have d11 : ¬ c = t := by omega
          have d12 : (0 : Int) ≤ (t : Int) + 8 := by omega
          have d13 : t ≤ t + 8 := by omega
          have d14 : IntKind.i64.wrap ((t : Int) + 32) = (t : Int) + 32 := by rw [IntKind.wrap_i64]; omega
          have d6 : (0 : Int) ≤ (k : Int) := by omega
          obtain ⟨v, hv⟩ : ∃ v, v = F k m := ⟨_, rfl⟩
          obtain ⟨x, hx⟩ : ∃ x, x = xWord l t := ⟨_, rfl⟩
          have hcell : wr.cell? ⟨w.heap.size, k, none⟩ = some (.int .u64 (v : Int)) := by
            rw [own.cellAt k (by omega), wordsV_get _ _ _ (laneVals_get F q k m hk4), hv]
          have hfro : wr.frozen? ⟨w.heap.size, k, none⟩ = false := own.frozenAt k
          have rw1 := ((h.keep (w' := wr) fun p hp => st.cell (by omega)).dropk (k := t) (by omega)).takek (k := 8) (by omega)
          have rw2 : Reads wr.drew B (some ⟨b, o + t, none⟩) 8 ((l.drop t).take 8) := by
            have r := rw1
            simp only [Option.map_some, Addr.add_lit] at r
            exact r
          have hnum := (rnum_any _ 8 (c - t) _ wr.drew B rw2 (by omega) (by omega)).mono fun e w' h => (⟨h.1, h.2.symm⟩ : e = _ ∧ w' = wr.drew)
          have hw8 : leNum ((l.drop t).take 8) = x := hx.symm
          rw [hw8] at hnum
          have hlane := (rlane_any v x wr.drew).mono fun e w' h => (⟨h.1, h.2.symm⟩ : e = _ ∧ w' = wr.drew)
          have HN := Lib.hid hnum
          have HLN := Lib.hid hlane
          have HV := Lib.hid hv
          have HX := Lib.hid hx
          clear rw1 rw2 hnum hlane hv hx hw8
          have HT := Lib.hid ht
          have hm1 : m + 1 ≤ q := hmq
          have HM := Lib.hid hm1
          have HK := Lib.hid hk4
          clear hm1
          have HQ := Lib.hid hq
          have OW := Lib.hid own
          have ST := Lib.hid st
          have HR := Lib.hid h
          clear hc ht hq own st own0 st0 e1 e2 e3 e4 hmq hm hk hk4 hB hs hb hnc h d1
          go_wp2_with fail
          go_still_tail 14, (by kernel_rfl)
          · still_call HN.out
            repeat still_step
            still_call HLN.out
            repeat still_step
            refine wpStill_nil ?_
            change wpList _ _ _ _ _ wr.drew
            go_wp2_with fail
            go_roundw
            case rel =>
              refine ⟨m + 1, ?_, ?_, ?_, ?_⟩
              · have := HT.out
                go_num
              · exact HM.out
              · have e : F k (m + 1) = xLane v x := by rw [HV.out, HX.out, HT.out, HF.out, Nat.add_comm (8 * k)]; exact xRun_succ _ _ _ _
                have o2 := (OW.out.stored k (.int .u64 ((xLane v x : Nat) : Int))).1
                rw [← e, wordsV_set, laneVals_set F q k m HK.out, e] at o2
                exact o2.drew
              · exact (Below.setCell ST.out (p := ⟨w.heap.size, k, none⟩) (Nat.le_refl _) _).drew
            case measure =>
              have := HM.out
              have := HT.out
              simp [intOf]
              omega
        · obtain rfl : m = q := by omega
          obtain ⟨t, ht⟩ : ∃ t, t = 8 * k + 32 * m := ⟨_, rfl⟩
          rw [← ht]
          have d5 : IntKind.i64.wrap ((t : Int) + 8) = (t : Int) + 8 := by rw [IntKind.wrap_i64]; omega
          have d2 : (n : Int) / 32 * 32 < (t : Int) + 8 := by omega
          have d16 : IntKind.i64.wrap ((k : Int) + 1) = (k : Int) + 1 := by rw [IntKind.wrap_i64]; omega
          have OW := Lib.hid own
          have ST := Lib.hid st
          have hk5 : k + 1 ≤ 4 := hk4
          have HK5 := Lib.hid hk5
          have HK := Lib.hid hk4
          clear ht hq own st own0 st0 e1 e2 e3 e4 hmq hm hk hk4 hk5 hs h hnc hB
          go_wp2_with fail
          · go_roundw
            case rel => exact ⟨k + 1, by go_num, HK5.out, by rw [← laneVals_next F m k HK.out]; exact OW.out, ST.out⟩
            case measure =>
              have := HK.out
              simp [intOf]
              omega
    · obtain rfl : k = 4 := by omega
      rw [show ((4 : Nat) : Int) = 4 from rfl]
      have hFlt : ∀ j, F j q < m64 := fun j => by rw [HF.out]; exact xRun_lt _ _ _ _ (xLane0_lt _ _ hs)
      have c0 : wr.cell? ⟨w.heap.size, 0, none⟩ = some (.int .u64 (F 0 q : Nat)) := by rw [own.cellAt 0 (by omega), laneVals_end]; rfl
      have c1 : wr.cell? ⟨w.heap.size, 1, none⟩ = some (.int .u64 (F 1 q : Nat)) := by rw [own.cellAt 1 (by omega), laneVals_end]; rfl
      have c2 : wr.cell? ⟨w.heap.size, 2, none⟩ = some (.int .u64 (F 2 q : Nat)) := by rw [own.cellAt 2 (by omega), laneVals_end]; rfl
      have c3 : wr.cell? ⟨w.heap.size, 3, none⟩ = some (.int .u64 (F 3 q : Nat)) := by rw [own.cellAt 3 (by omega), laneVals_end]; rfl
      have t0 := fun w => (rturn_any _ 1 w (hFlt 0) (by omega)).mono fun e w' h => (⟨h.1, h.2.symm⟩ : e = _ ∧ w' = w)
      have t1 := fun w => (rturn_any _ 7 w (hFlt 1) (by omega)).mono fun e w' h => (⟨h.1, h.2.symm⟩ : e = _ ∧ w' = w)
      have t2 := fun w => (rturn_any _ 12 w (hFlt 2) (by omega)).mono fun e w' h => (⟨h.1, h.2.symm⟩ : e = _ ∧ w' = w)
      have t3 := fun w => (rturn_any _ 18 w (hFlt 3) (by omega)).mono fun e w' h => (⟨h.1, h.2.symm⟩ : e = _ ∧ w' = w)
      have hH : xHead (fun k => xRun (xLane0 seed k) k l q) = xMixes ((rotl 64 (F 0 q) 1 + rotl 64 (F 1 q) 7 + rotl 64 (F 2 q) 12 + rotl 64 (F 3 q) 18) % m64) (fun k => F k q) 4 := by
        rw [HF.out]; exact xHead_mixes _
      have hcj : ∀ j, j < 4 → wr.cell? ⟨w.heap.size, j, none⟩ = some (.int .u64 (F j q : Nat)) := by
        intro j hj
        rw [own.cellAt j (by omega), laneVals_end]
        obtain rfl | rfl | rfl | rfl : j = 0 ∨ j = 1 ∨ j = 2 ∨ j = 3 := by omega
        all_goals rfl
      have hW : ∀ a b c d : Nat, IntKind.u64.wrap (IntKind.u64.wrap (IntKind.u64.wrap ((a : Int) + (b : Int)) + (c : Int)) + (d : Int)) = (((a + b + c + d) % m64 : Nat) : Int) := by
        intro a b c d
        rw [wrap_add, wrap_add, wrap_add, Nat.mod_add_mod, show (a + b) % m64 + c + d = (a + b) % m64 + (c + d) by omega, Nat.mod_add_mod, Nat.add_assoc (a + b)]
      have hv0 := hW (rotl 64 (F 0 q) 1) (rotl 64 (F 1 q) 7) (rotl 64 (F 2 q) 12) (rotl 64 (F 3 q) 18)
      generalize rotl 64 (F 0 q) 1 = r0 at *
      generalize rotl 64 (F 1 q) 7 = r1 at *
      generalize rotl 64 (F 2 q) 12 = r2 at *
      generalize rotl 64 (F 3 q) 18 = r3 at *
      have hh0 : (r0 + r1 + r2 + r3) % m64 < m64 := Nat.mod_lt _ (by decide)
      generalize (r0 + r1 + r2 + r3) % m64 = h0 at *
      have ST := Lib.hid st
      have CJ := Lib.hid hcj
      have HH := Lib.hid hH
      have FL := Lib.hid hFlt
      have H0 := Lib.hid hh0
      have hH' : xHead (fun k => xRun (xLane0 seed k) k l q) = xMixes h0 (fun k => F k q) 4 := hH
      clear st hcj hH hFlt hh0 own own0 st0 e1 e2 e3 e4 hW hH' h hq
      generalize F 0 q = f0 at *
      generalize F 1 q = f1 at *
      generalize F 2 q = f2 at *
      generalize F 3 q = f3 at *
      have T0 := Lib.hid t0
      have T1 := Lib.hid t1
      have T2 := Lib.hid t2
      have T3 := Lib.hid t3
      clear t0 t1 t2 t3
      go_wp2_with fail
      go_quiet ((first | (go_at_call_of 79 (Value.int .u64 (f0 : Int)); exact Calls.quiet_of_same (T0.out _)) | (go_at_call_of 79 (Value.int .u64 (f1 : Int)); exact Calls.quiet_of_same (T1.out _)) | (go_at_call_of 79 (Value.int .u64 (f2 : Int)); exact Calls.quiet_of_same (T2.out _)) | (go_at_call_of 79 (Value.int .u64 (f3 : Int)); exact Calls.quiet_of_same (T3.out _))))
      go_wp2_with fail
      clear hv0 c0 c1 c2 c3 T0 T1 T2 T3 K1 K2
      go_loop [8, 9] (fun hv iv => ∃ j : Nat, iv = .int .i64 j ∧ j ≤ 4 ∧ ∃ x : Nat, hv = .int .u64 x ∧ Hid (x = xMixes h0 (fun k => F k q) j)) (fun _ iv => 4 - (intOf iv).toNat)
      case atStart => exact ⟨0, rfl, by omega, h0, rfl, rfl⟩
      case round =>
        obtain ⟨j, rfl, hj, x, rfl, hx⟩ := hrel
        by_cases hj4 : j < 4
        · have hxl : x < m64 := by rw [hx.out]; exact xMixes_lt _ _ _ H0.out
          have cj := CJ.out j hj4
          have z1 : (0 : Int) ≤ (j : Int) := by omega
          have z2 : (j : Int) < 4 := by omega
          obtain ⟨v, hv⟩ : ∃ v, v = F j q := ⟨_, rfl⟩
          rw [← hv] at cj
          have lz := fun w => rlane0 v w
          have ex := u64_xor_nat x (xLane 0 v) hxl (xLane_lt _ _)
          have em := wrap_mul (x ^^^ xLane 0 v) xP1
          have ea := wrap_add ((x ^^^ xLane 0 v) * xP1 % m64) xP4
          rw [Nat.mod_add_mod] at ea
          have e0 : ((x ^^^ xLane 0 v) * xP1 + xP4) % m64 = xMixes h0 (fun k => F k q) (j + 1) := by rw [hv, hx.out]; rfl
          have hp1 := fun w => rprime1 w
          have hp4 := fun w => rprime4 w
          generalize xLane 0 v = y at *
          generalize x ^^^ y = y2 at *
          generalize xP1 = P1 at *
          generalize xP4 = P4 at *
          rw [e0] at ea
          clear e0
          generalize y2 * P1 % m64 = y3 at *
          obtain ⟨z, hz⟩ : ∃ z, z = xMixes h0 (fun k => F k q) (j + 1) := ⟨_, rfl⟩
          rw [← hz] at ea
          have HZ := Lib.hid hz
          have LZ := Lib.hid lz
          have HP1 := Lib.hid hp1
          have HP4 := Lib.hid hp4
          clear hz lz hp1 hp4 hv hx
          go_wp2_with fail
          refine (LZ.out _).mono ?_
          rintro e w1 ⟨rfl, rfl⟩
          go_wp2_with fail
          refine (HP1.out _).mono ?_
          rintro e w1 ⟨rfl, rfl⟩
          go_wp2_with fail
          refine (HP4.out _).mono ?_
          rintro e w1 ⟨rfl, rfl⟩
          go_wp2_with fail
          go_round
          case rel => exact ⟨j + 1, by go_num, hj4, z, rfl, HZ.out⟩
          case measure => simp [intOf]; omega
        · obtain rfl : j = 4 := by omega
          go_wp2_with fail
          go_ret
          exact ⟨congrArg (fun z : Nat => Ending.returned (Value.int .u64 (z : Int))) (hx.out.trans HH.out.symm), still_drewN ST.out _⟩
end Go.Proofs.Ytgbkpbmilaafgaa
