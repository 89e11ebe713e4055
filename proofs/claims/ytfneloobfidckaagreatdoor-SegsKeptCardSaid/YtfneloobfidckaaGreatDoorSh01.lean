/- Contracts and facts, several texts in one. It proves no statement. -/
import Derived.Test.YtfneloobfidckaaGreatDoorSf43
import Derived.Test.YtfneloobfidckaaGreatDoorSf34
import Derived.Test.YtfneloobfidckaaGreatDoorSh00

/- Rows of entries kept, with their places; those of other segments. It proves no statement. -/


namespace Go.Proofs.YtfneloobfidckaaGreatDoor
open Go.RowKit Go.Maps Go.WideMaps Go.Sort
set_option linter.unusedVariables false
set_option linter.unusedSimpArgs false

structure Kp where
  n : Nat
  a : Nat
  z : Nat
  x : Ee
def kpL (q : Kp) (v : Value) : List Value := [.int .i64 (q.n : Int), .int .i64 (q.a : Int), .int .i64 (q.z : Int)] ++ entL q.x.t q.x.K v
theorem kpL_len {q : Kp} {v : Value} (hK : q.x.K.length = 32) : (kpL q v).length = 37 := by unfold kpL; rw [List.length_append, entL_len0 _ _ _ hK]; rfl
theorem kpL_one {q : Kp} {A : Option Addr} {n c : Nat} : ∀ u ∈ kpL q (.slice A n c), u.oneCell' = true := by
  intro u hu
  unfold kpL at hu
  rcases List.mem_append.1 hu with hu | hu
  · simp at hu
    rcases hu with rfl | rfl | rfl <;> rfl
  · exact entL_one _ _ _ rfl u hu
theorem infoKp : (Tryz.prog.info? 72).map (fun i => (i.zero, i.size, i.bytes)) = some (some (.agg (kpL ⟨0, 0, 0, ⟨0, List.replicate 32 0, []⟩⟩ (.slice none 0 0)).toArray), 37, 88) := by kernel_rfl
theorem sizeKp : (Tryz.prog.info? 72).map (·.size) = some 37 := by kernel_rfl
/-- A row of kept entries whose data lies in W below B. -/
def HasK (W : World) (B : Nat) (Q : List Kp) (xs : List Value) : Prop := xs.length = 37 * Q.length ∧ ∀ (i : Nat) (q : Kp), Q[i]? = some q → ∃ A m c, q.x.K.length = 32 ∧ (∀ j, j < 37 → xs[i * 37 + j]? = (kpL q (.slice A m c))[j]?) ∧ Reads W B A m q.x.D ∧ m ≤ 300
theorem HasK.nil {W : World} {B : Nat} : HasK W B [] [] := ⟨rfl, fun i x hx => by simp at hx⟩
theorem HasK.more {W : World} {B : Nat} {Q Q' : List Kp} {xs ys : List Value} (h : HasK W B Q xs) (h' : HasK W B Q' ys) : HasK W B (Q ++ Q') (xs ++ ys) := by
  refine ⟨by rw [List.length_append, List.length_append, h.1, h'.1]; omega, fun i q hq => ?_⟩
  by_cases hi : i < Q.length
  · rw [List.getElem?_append_left hi] at hq
    obtain ⟨A, m, c, k0, k1, k2⟩ := h.2 i q hq
    refine ⟨A, m, c, k0, fun j hj => ?_, k2⟩
    rw [List.getElem?_append_left (by rw [h.1]; omega)]
    exact k1 j hj
  · rw [List.getElem?_append_right (by omega)] at hq
    obtain ⟨A, m, c, k0, k1, k2⟩ := h'.2 _ q hq
    refine ⟨A, m, c, k0, fun j hj => ?_, k2⟩
    rw [List.getElem?_append_right (by rw [h.1]; omega), h.1, ← k1 j hj]
    congr 1
    omega
theorem HasK.one {W : World} {B : Nat} {q : Kp} {A : Option Addr} {m c : Nat} (hK : q.x.K.length = 32) (hr : Reads W B A m q.x.D) (hm : m ≤ 300) : HasK W B [q] (kpL q (.slice A m c)) := by
  refine ⟨by rw [kpL_len hK]; rfl, fun i y hy => ?_⟩
  have hi : i = 0 := by have := (List.getElem?_eq_some_iff.1 hy).1; simp at this; omega
  subst hi
  have : q = y := by simpa using hy
  subst this
  exact ⟨A, m, c, hK, fun j _ => by rw [Nat.zero_mul, Nat.zero_add], hr, hm⟩
theorem HasK.at_ {W W0 : World} {B B0 : Nat} {Q : List Kp} {xs : List Value} {g N c : Nat} (h : HasK W0 B Q xs) (ho : W.ownsRow B0 72 37 (.slice (some ⟨g, 0, none⟩) N c) N xs) {i : Nat} {q : Kp} (hq : Q[i]? = some q) (hi : i < N) :
    ∃ A m c, q.x.K.length = 32 ∧ W.rangeAt g (i * 37) (kpL q (.slice A m c)) ∧ Reads W0 B A m q.x.D ∧ m ≤ 300 := by
  obtain ⟨A, m, c, h0, h1, h2⟩ := h.2 i q hq
  refine ⟨A, m, c, h0, fun j u hj => ?_, h2⟩
  have hj37 : j < 37 := by rw [← kpL_len (v := .slice A m c) h0]; exact (List.getElem?_eq_some_iff.1 hj).1
  rw [ho.cellAt (i * 37 + j) (by omega), h1 j hj37]
  exact hj
def outK (m : Int) (Q : List Kp) : List Kp := Q.filter fun q => !((q.n : Int) == m)
theorem outK_snoc {m : Int} {Q : List Kp} {i : Nat} {q : Kp} (hq : Q[i]? = some q) : outK m (Q.take (i + 1)) = outK m (Q.take i) ++ (if (q.n : Int) = m then [] else [q]) := by
  unfold outK
  rw [List.take_add_one, hq, List.filter_append]
  congr 1
  show List.filter _ [q] = _
  by_cases e : (q.n : Int) = m
  · rw [if_pos e, List.filter_cons, if_neg (by simp [e])]
    rfl
  · rw [if_neg e, List.filter_cons, if_pos (by simp [e])]
    rfl
set_option maxRecDepth 100000 in
set_option maxHeartbeats 3200000 in
theorem without_any (Q : List Kp) (xs : List Value) (Ao : Option Addr) (N co B B0 : Nat) (m : Int) (w w0 : World) (o : w.ownsRow B0 72 37 (.slice Ao N co) N xs) (h : HasK w0 B Q xs) (hQ : Q.length = N) (hN : N ≤ 100) :
    Calls Tryz.prog 39 #[.slice Ao N co, .int .i64 m] w fun e w' => (∃ v ys, e = .returned v ∧ w'.ownsRow w.heap.size 72 37 v (outK m Q).length ys ∧ HasK w0 B (outK m Q) ys) ∧ Still w w' := by
  have O := Lib.hid o
  have H := Lib.hid h
  have QN := Lib.hid hQ
  obtain ⟨hco1, hco2⟩ : N ≤ co ∧ co ≤ 9223372036854775807 := by
    obtain ⟨A', c', e, q1, q2, q3⟩ := own_formB o
    injection e with e1 e2 e3
    subst e1 e3
    exact ⟨q1, q2⟩
  have START := Lib.hid (show ∃ ys, w.ownsRow w.heap.size 72 37 (.slice none 0 0) (outK m (Q.take 0)).length ys ∧ HasK w0 B (outK m (Q.take 0)) ys ∧ Still w w from ⟨[], World.ownsRow_nil _ _ _ _, HasK.nil, Still.refl w⟩)
  clear o h hQ
  go_enter Tryz.func39, Tryz.ntmps39
  go_wp2_with fail
  go_loopw [5, 6] (fun ov iv wr => ∃ (i : Nat) (v : Value), v = ov ∧ i ≤ N ∧ iv = .int .i64 i ∧ Hid (∃ ys, wr.ownsRow w.heap.size 72 37 v (outK m (Q.take i)).length ys ∧ HasK w0 B (outK m (Q.take i)) ys ∧ Still w wr)) (fun _ iv _ => N - (intOf iv).toNat)
  case atStart => exact ⟨0, _, rfl, Nat.zero_le _, rfl, START⟩
  case round =>
    clear START
    obtain ⟨i, v, rfl, hi, rfl, hh⟩ := hrel
    by_cases hlt : i < N
    · obtain ⟨q, hq⟩ : ∃ q, Q[i]? = some q := ⟨_, List.getElem?_eq_getElem (by have := QN.out; omega)⟩
      obtain ⟨gr, rfl⟩ : ∃ g, Ao = some ⟨g, 0, none⟩ := by
        rcases O.out.2 with ⟨_, h⟩ | ⟨b, cap, cur, h, _⟩
        · omega
        · injection h with q1
          exact ⟨b, q1⟩
      obtain ⟨A2, n2, c2, hK, rng, red, hn2⟩ := H.out.at_ O.out hq hlt
      obtain ⟨ys, own8, has8, st⟩ := hh.out
      have RG := Lib.hid (rangeAt_still rng st)
      have k0 : wr.cell? ⟨gr, i * 37, none⟩ = some (.int .i64 (q.n : Int)) := by have := RG.out 0 (.int .i64 (q.n : Int)) rfl; exact this
      have SN := Lib.hid (outK_snoc (m := m) hq)
      have KL := Lib.hid (show (kpL q (.slice A2 n2 c2)).length = 37 ∧ ∀ u ∈ kpL q (.slice A2 n2 c2), u.oneCell' = true from ⟨kpL_len hK, kpL_one⟩)
      have ONE := Lib.hid (HasK.one (c := c2) hK red hn2)
      have ROW := Lib.hid (And.intro own8 (And.intro has8 st))
      have LE := Lib.hid (show (outK m (Q.take i)).length ≤ 100 from Nat.le_trans (List.length_filter_le _ _) (by rw [List.length_take]; omega))
      have z3 : (0 : Int) ≤ (i : Int) := by omega
      have z4 : (i : Int) < (N : Int) := by omega
      clear hh own8 has8 st rng red hn2 hq hK
      by_cases hk : (q.n : Int) = m
      · have bk : ((q.n : Int) != m) = false := by simpa using hk
        have NB := Lib.hid (show ∃ ys, wr.ownsRow w.heap.size 72 37 v (outK m (Q.take (i + 1))).length ys ∧ HasK w0 B (outK m (Q.take (i + 1))) ys ∧ Still w wr from by
          rw [SN.out, if_pos hk, List.append_nil]
          exact ⟨ys, ROW.out⟩)
        clear hk SN ROW
        go_wp2_with fail
        go_roundw
        case rel => exact ⟨i + 1, v, rfl, by omega, by go_num, NB⟩
        case measure => simp [intOf]; omega
      · have bk : ((q.n : Int) != m) = true := by simpa using hk
        have EQ := Lib.hid (SN.out.trans (by rw [if_neg hk]))
        obtain ⟨kd, hkd⟩ : ∃ kd, kd = kpL q (.slice A2 n2 c2) := ⟨_, rfl⟩
        rw [← hkd] at RG KL ONE
        have NB8 := Lib.hid (Blk.new wr 72 kd.toArray)
        have RW8 := Lib.hid (still_own ROW.out.1 ((Still.refl wr).alloc (Nat.le_refl _) (.cells kd.toArray 72)))
        have GP := Lib.hid (Nat.le_trans ROW.out.2.2.size ((Still.refl wr).alloc (Nat.le_refl _) (.cells kd.toArray 72)).size)
        clear hk SN hkd
        go_wp2_with (first
          | (guard_target =~ wpList _ _ _ (Oper.mk (some 25) _ _ _ _ _ :: _) _ _; go_must (refine wpList_load_mid rfl 72 (.tmp 24) rfl gr (i * 37) (by kernel_rfl) kd _ RG.out Tryz.underlying72 rfl (by rw [sizeKp, KL.out.1]) ?_))
          | (guard_target =~ wpList _ _ _ (Oper.mk (some 26) _ _ _ _ _ :: _) _ _; go_must (refine wpList_boxStr 70 72 37 88 _ infoKp Tryz.underlying70 (by decide) (by decide) wr rfl (.tmp 25) rfl (.agg kd.toArray) rfl (by show kd.toArray.size = 37; rw [List.size_toArray, KL.out.1]) ?_))
          | (guard_target =~ wpList _ _ _ (Oper.mk (some 27) _ _ _ _ _ :: _) _ _; go_must (refine wpList_pushStr 70 72 37 88 _ infoKp Tryz.underlying70 (by decide) (by rfl) (wr.alloc (.cells kd.toArray 72)) rfl (.tmp 21) (.tmp 26) rfl w.heap.size v (outK m (Q.take i)).length ys rfl RW8.out ⟨wr.heap.size, 0, none⟩ 1 1 kd rfl (fun j u hj => by rw [Addr.add_mid]; exact rangeAt_blk NB8.out j u hj) (by rw [KL.out.1]) KL.out.2 (by have := LE.out; omega) (by have := LE.out; omega) GP.out ?_); intro v8 w8 own8 gr8 hv8; have OG8 := Lib.hid (And.intro own8 (And.intro gr8 hv8)); clear own8 gr8 hv8))
        have NB := Lib.hid (show ∃ ys, w8.ownsRow w.heap.size 72 37 v8 (outK m (Q.take (i + 1))).length ys ∧ HasK w0 B (outK m (Q.take (i + 1))) ys ∧ Still w w8 from by
          rw [EQ.out, List.length_append, List.length_singleton]
          exact ⟨_, OG8.out.1, ROW.out.2.1.more ONE.out, still_push (ROW.out.2.2.alloc ROW.out.2.2.size _) RW8.out (Nat.le_refl _) OG8.out.2.1⟩)
        clear OG8 RW8 NB8 ROW EQ
        go_wp2_with fail
        go_roundw
        case rel => exact ⟨i + 1, v8, rfl, by omega, by go_num, NB⟩
        case measure => simp [intOf]; omega
    · obtain rfl : i = N := by omega
      have FIN := Lib.hid (show (∃ ys, wr.ownsRow w.heap.size 72 37 v (outK m Q).length ys ∧ HasK w0 B (outK m Q) ys) ∧ Still w wr from by
        obtain ⟨ys, a, b, c⟩ := hh.out
        rw [List.take_of_length_le (by have := QN.out; omega)] at a b
        exact ⟨⟨ys, a, b⟩, c⟩)
      clear hh
      go_wp2_with fail
      go_ret
      obtain ⟨⟨ys, a, b⟩, c⟩ := FIN.out
      exact ⟨⟨v, ys, rfl, a, b⟩, c⟩
end Go.Proofs.YtfneloobfidckaaGreatDoor

/- A log with what was kept of it: what each call makes of both. Mathematics; it proves no statement. -/



namespace Go.Proofs.YtfneloobfidckaaGreatDoor
open Go.RowKit Go.Maps Go.WideMaps Go.Sort
set_option linter.unusedVariables false
set_option linter.unusedSimpArgs false

def pcs (Q : List Kp) : List Pc := Q.map fun q => ⟨q.n, q.a, byE q.x⟩
theorem pcs_mem {Q : List Kp} {x : Pc} (h : x ∈ pcs Q) : ∃ q ∈ Q, x = ⟨q.n, q.a, byE q.x⟩ := by
  obtain ⟨q, hq, e⟩ := List.mem_map.1 h
  exact ⟨q, hq, e.symm⟩
def KOk (q : Kp) : Prop := okE q.x ∧ q.z = (byE q.x).length ∧ q.a ≤ 16777216
structure KM (M : Me) (S : Lg) (Qs Qo : List Kp) (i : Nat) : Prop where
  ki : KI M S (pcs Qs) (pcs Qo)
  inj : Inj M
  only : Only M
  sok : S.ok
  gd : M.good (100 * i)
  fr : S.fresh ≤ i
  len : Qs.length + Qo.length ≤ i
  oks : ∀ q ∈ Qs, KOk q
  oko : ∀ q ∈ Qo, KOk q
theorem begin_fresh {M : Me} {S : Lg} {b : List UInt8} {gf : Nat} : (beginL M S b gf).2.2.fresh ≤ S.fresh + 1 := by
  unfold beginL
  split
  · exact Nat.le_succ _
  split
  · exact Nat.le_succ _
  split
  · exact Nat.le_succ _
  split
  · exact Nat.le_succ _
  · exact Nat.le_refl _
theorem layA_fresh {M : Me} {S : Lg} {b : List UInt8} {gf : Nat} : (layA M S b gf).2.2.fresh ≤ S.fresh + 1 := by
  unfold layA
  split
  · exact begin_fresh
  split
  · rename_i p hp
    have hs := (sizeL_keep M S (S.segs.length - 1)).2.1
    unfold layO
    split
    · unfold extendL
      split
      · split
        · show (sizeL M S (S.segs.length - 1)).2.fresh ≤ _
          omega
        · show (sizeL M S (S.segs.length - 1)).2.fresh ≤ _
          omega
      · show (sizeL M S (S.segs.length - 1)).2.fresh ≤ _
        omega
    split
    · show (sizeL M S (S.segs.length - 1)).2.fresh ≤ _
      omega
    · refine Nat.le_trans begin_fresh ?_
      show (sizeL M S (S.segs.length - 1)).2.fresh + 1 ≤ _
      omega
  · exact Nat.le_succ _
theorem appendL_fresh {M : Me} {S : Lg} {E : Int × List UInt8} {gf : Nat} : (appendL M S E gf).2.2.2.fresh ≤ S.fresh + 1 := by
  unfold appendL appendR
  split
  · exact Nat.le_succ _
  split
  · exact layA_fresh
  · exact layA_fresh
theorem appendL_place {M : Me} {S : Lg} {E : Int × List UInt8} {gf : Nat} (h : (appendL M S E gf).2.1 = 0) : (appendL M S E gf).1 = placeL (appendL M S E gf).2.2.2 E.2.length ∧ E.1 = 0 := by
  unfold appendL appendR at h ⊢
  split at h
  · rename_i hE; exact absurd h hE
  · rename_i hE
    split at h
    · rename_i hR; exact absurd h hR
    · rename_i hR
      rw [if_neg hE, if_neg hR]
      exact ⟨rfl, Decidable.not_not.1 hE⟩
theorem placeL_le {S : Lg} (h : S.ok) (n : Nat) : (placeL S n).2.1 ≤ 16777216 := by
  unfold placeL
  cases hl : S.segs.getLast? with
  | none => exact Nat.zero_le _
  | some p =>
    have := (h.num p (List.mem_of_getLast? hl)).2
    show p.2 - n ≤ _
    omega
theorem commitL_fresh {M : Me} {S : Lg} {gf : Nat} : (commitL M S gf).2.2.2.fresh ≤ S.fresh + 1 := by
  have h := appendL_fresh (M := M) (S := S) (E := cmE) (gf := gf)
  unfold commitL commitR
  split
  · exact h
  split
  · exact h
  split
  · exact h
  · exact Nat.zero_le _
theorem dropL_fresh {M : Me} {S : Lg} {i : Nat} : (dropL M S i).2.2.fresh ≤ S.fresh := by
  unfold dropL
  split
  · split
    · exact Nat.le_refl _
    · show (if _ then _ else _) ≤ _
      split
      · exact Nat.sub_le _ _
      · exact Nat.le_refl _
  · exact Nat.le_refl _
theorem rollL_fresh : ∀ {f : Nat} {M : Me} {S : Lg}, (rollL f M S).2.2.fresh ≤ S.fresh
  | 0, M, S => Nat.le_refl _
  | f + 1, M, S => by
    unfold rollL
    split
    · exact dropL_fresh
    · exact Nat.le_trans rollL_fresh dropL_fresh
theorem Only.roll : ∀ {f : Nat} {M : Me} {S : Lg} {k : Nat}, Only M → M.good k → Only (rollL f M S).2.1
  | 0, M, S, k, h, _ => h
  | f + 1, M, S, k, h, hg => by
    have hd := h.drop (S := S) hg (S.segs.length - 1)
    have hg2 : (dropL M S (S.segs.length - 1)).2.1.good (k + 1) := by
      unfold dropL
      split
      · split
        · exact opRemove_good hg _
        · exact opRemove_good hg _
      · exact hg.mono (by omega)
    unfold rollL
    split
    · exact hd
    · exact hd.roll hg2
section
variable {M : Me} {S : Lg} {Qs Qo : List Kp} {i gf : Nat} {w : World} {base g : Nat} {own : Own}
theorem KM.opens (h : KM M S Qs Qo i) : S.isOpen = true → 0 < S.segs.length := fun ho => by have := h.sok.opn ho; have := h.sok.fresh; omega
theorem KM.append (h : KM M S Qs Qo i) (hM : MedI w base own g M) (hg0 : M.fs gf = none) (x : Ee) (hK : x.K.length = 32) :
    ((appendL M S (encE x.t x.K x.D) gf).2.1 ≠ 0 → KM (appendL M S (encE x.t x.K x.D) gf).2.2.1 (appendL M S (encE x.t x.K x.D) gf).2.2.2 Qs Qo (i + 1))
    ∧ ((appendL M S (encE x.t x.K x.D) gf).2.1 = 0 → KM (appendL M S (encE x.t x.K x.D) gf).2.2.1 (appendL M S (encE x.t x.K x.D) gf).2.2.2 Qs (Qo ++ [⟨(appendL M S (encE x.t x.K x.D) gf).1.1, (appendL M S (encE x.t x.K x.D) gf).1.2.1, (appendL M S (encE x.t x.K x.D) gf).1.2.2, x⟩]) (i + 1)) := by
  have hl := encE_len (t := x.t) (K := x.K) (D := x.D) hK
  have ha := appendL_all (E := encE x.t x.K x.D) hM h.gd h.sok (by omega) gf
  have hk := h.ki.appendL h.gd hg0 h.opens (encE x.t x.K x.D)
  have hi := h.inj.appendL (S := S) h.gd hg0 (encE x.t x.K x.D)
  have ho := h.only.appendL (S := S) (gf := gf) h.gd h.ki.next (encE x.t x.K x.D)
  have hf := appendL_fresh (M := M) (S := S) (E := encE x.t x.K x.D) (gf := gf)
  have hfr := h.fr
  have hlen := h.len
  refine ⟨fun _ => ⟨hk.1, hi, ho, ha.1, ha.2.mono (by omega), by omega, by omega, h.oks, h.oko⟩, fun e => ?_⟩
  obtain ⟨hpl, hE⟩ := appendL_place e
  obtain ⟨n, a, e1, pn, _⟩ := hk.2 e
  have hck : ckE x.t x.K x.D.length = 0 := by
    unfold encE at hE
    split at hE
    · rename_i q; exact absurd hE q
    · rename_i q; simpa using q
  have e2 : (encE x.t x.K x.D).2 = byE x := by
    unfold encE
    rw [if_neg (by rw [hck]; decide)]
    rfl
  have hle := placeL_le ha.1 (encE x.t x.K x.D).2.length
  rw [← hpl] at hle
  refine ⟨⟨hk.1.sure, hk.1.un, hk.1.old, hk.1.num, hk.1.there, hk.1.gr, fun hoff y hy => ?_⟩, hi, ho, ha.1, ha.2.mono (by omega), by omega, by rw [List.length_append, List.length_singleton]; omega, h.oks, fun q hq => ?_⟩
  · obtain ⟨q, hq, rfl⟩ := pcs_mem hy
    rcases List.mem_append.1 hq with hq | hq
    · exact hk.1.op hoff _ (List.mem_map.2 ⟨q, hq, rfl⟩)
    · have hq := List.mem_singleton.1 hq
      subst hq
      rw [e1]
      rw [e2] at pn
      exact pn
  · rcases List.mem_append.1 hq with hq | hq
    · exact h.oko q hq
    · have hq := List.mem_singleton.1 hq
      subst hq
      refine ⟨⟨hK, hck⟩, ?_, hle⟩
      show (appendL M S (encE x.t x.K x.D) gf).1.2.2 = _
      rw [e1, e2]
theorem KM.commit (h : KM M S Qs Qo i) (hM : MedI w base own g M) (hg0 : M.fs gf = none) :
    ((commitL M S gf).2.1 ≠ 0 → KM (commitL M S gf).2.2.1 (commitL M S gf).2.2.2 Qs Qo (i + 1)) ∧ ((commitL M S gf).2.1 = 0 → KM (commitL M S gf).2.2.1 (commitL M S gf).2.2.2 (Qs ++ Qo) [] (i + 1)) := by
  have ha := appendL_all (E := cmE) hM h.gd h.sok cmE_ok.2 gf
  have hc := commitL_good hM h.gd h.sok gf
  have hk := h.ki.commitL h.gd hg0 h.opens ha.2
  have hi := h.inj.commitL (S := S) h.gd hg0 ha.2
  have ho := h.only.commitL (S := S) (gf := gf) h.gd h.ki.next ha.2
  have hf := commitL_fresh (M := M) (S := S) (gf := gf)
  have hfr := h.fr
  have hlen := h.len
  refine ⟨fun e => ⟨hk.1 e, hi, ho, hc.1, hc.2.mono (by omega), by omega, by omega, h.oks, h.oko⟩, fun e => ⟨?_, hi, ho, hc.1, hc.2.mono (by omega), by omega, by rw [List.length_append]; simp; omega, fun q hq => ?_, fun q hq => by cases hq⟩⟩
  · have := hk.2 e
    unfold pcs at this ⊢
    rw [List.map_append]
    exact this
  · rcases List.mem_append.1 hq with hq | hq
    · exact h.oks q hq
    · exact h.oko q hq
theorem KM.roll (h : KM M S Qs Qo i) (hi40 : i ≤ 90) :
    ((rollL S.fresh M S).1 ≠ 0 → KM (rollL S.fresh M S).2.1 (rollL S.fresh M S).2.2 Qs Qo (i + 1)) ∧ ((rollL S.fresh M S).1 = 0 → KM (rollL S.fresh M S).2.1 (rollL S.fresh M S).2.2 Qs [] (i + 1)) := by
  have hr := h.ki.roll h.gd h.inj h.sok rfl
  have hall := rollL_all h.sok h.gd rfl
  have ho := h.only.roll (f := S.fresh) (S := S) h.gd
  have hf := rollL_fresh (f := S.fresh) (M := M) (S := S)
  have hfr := h.fr
  have hlen := h.len
  exact ⟨fun e => ⟨hr.1.weak (.inl (hr.2.1 e)), hr.2.2, ho, hall.1, hall.2.mono (by omega), by omega, by omega, h.oks, h.oko⟩, fun _ => ⟨hr.1, hr.2.2, ho, hall.1, hall.2.mono (by omega), by omega, by simp; omega, h.oks, fun q hq => by cases hq⟩⟩
theorem KI.sub {U O U' O' : List Pc} (h : KI M S U O) (hU : ∀ x ∈ U', x ∈ U) (hO : ∀ x ∈ O', x ∈ O) : KI M S U' O' := ⟨fun x hx => h.sure x (hU x hx), fun x hx => h.un x (hU x hx), fun x hx => h.old x (hU x hx), h.num, h.there, h.gr, fun ho x hx => h.op ho x (hO x hx)⟩
theorem outK_pcs {m : Int} {n : Nat} {Q : List Kp} {x : Pc} (e : (n : Int) = m) (h : x ∈ pcs (outK m Q)) : x ∈ outN n (pcs Q) := by
  obtain ⟨q, hq, rfl⟩ := pcs_mem h
  have h1 := List.mem_filter.1 hq
  refine List.mem_filter.2 ⟨List.mem_map.2 ⟨q, h1.1, rfl⟩, ?_⟩
  have h2 : ¬ ((q.n : Int) = m) := by simpa using h1.2
  have : q.n ≠ n := fun e2 => h2 (by rw [e2]; exact e)
  simpa using this
theorem outK_sub {m : Int} {Q : List Kp} {q : Kp} (h : q ∈ outK m Q) : q ∈ Q := (List.mem_filter.1 h).1
theorem outK_len (m : Int) (Q : List Kp) : (outK m Q).length ≤ Q.length := List.length_filter_le _ _
theorem KM.rem (h : KM M S Qs Qo i) (m : Int) : KM (remL M S m).2.1 (remL M S m).2.2 (outK m Qs) (outK m Qo) (i + 1) := by
  have hall := remL_all h.sok h.gd m
  have hfr := h.fr
  have hlen := h.len
  have l1 := outK_len m Qs
  have l2 := outK_len m Qo
  have hk : KI (remL M S m).2.1 (remL M S m).2.2 (pcs (outK m Qs)) (pcs (outK m Qo)) ∧ Inj (remL M S m).2.1 ∧ Only (remL M S m).2.1 ∧ (remL M S m).2.2.fresh ≤ S.fresh := by
    by_cases hh : ∃ p ∈ S.segs, (p.1 : Int) = m
    · obtain ⟨p, hp, e⟩ := hh
      obtain ⟨j, hj⟩ := List.mem_iff_getElem?.1 hp
      have er : remL M S m = dropL M S j := by unfold remL; rw [findL_some h.sok hj e]
      rw [er]
      exact ⟨(h.ki.drop h.gd h.inj h.sok hj).1.sub (fun x hx => outK_pcs e hx) (fun x hx => outK_pcs e hx), h.inj.drop (S := S) h.gd j, h.only.drop (S := S) h.gd j, dropL_fresh⟩
    · have er : remL M S m = (9, M, S) := by unfold remL; rw [findL_none (fun p hp e => hh ⟨p, hp, e⟩)]
      rw [er]
      refine ⟨h.ki.sub (fun x hx => ?_) (fun x hx => ?_), h.inj, h.only, Nat.le_refl _⟩
      · obtain ⟨q, hq, rfl⟩ := pcs_mem hx
        exact List.mem_map.2 ⟨q, outK_sub hq, rfl⟩
      · obtain ⟨q, hq, rfl⟩ := pcs_mem hx
        exact List.mem_map.2 ⟨q, outK_sub hq, rfl⟩
  exact ⟨hk.1, hk.2.1, hk.2.2.1, hall.1, hall.2.mono (by omega), by omega, by omega, fun q hq => h.oks q (outK_sub hq), fun q hq => h.oko q (outK_sub hq)⟩
theorem KM.arm (h : KM M S Qs Qo i) (n : Int) (hn : n ≤ 9223372036854775807) : KM (opArm M n).2 S Qs Qo (i + 1) := ⟨h.ki.arm n, h.inj.arm n, h.only.arm n, h.sok, (opArm_good h.gd n hn).mono (by omega), Nat.le_succ_of_le h.fr, Nat.le_succ_of_le h.len, h.oks, h.oko⟩
theorem KM.mono (h : KM M S Qs Qo i) : KM M S Qs Qo (i + 1) := ⟨h.ki, h.inj, h.only, h.sok, h.gd.mono (by omega), Nat.le_succ_of_le h.fr, Nat.le_succ_of_le h.len, h.oks, h.oko⟩
theorem KM.crash (h : KM M S Qs Qo i) (zs : List Int) {limit : Int} (hl : 128 ≤ limit ∧ limit ≤ 1048576) (hi : i ≤ 90) (hM : MedI w base own g (M.crash zs)) : KM (M.crash zs) (logOf limit (segsOf (M.crash zs) (M.crash zs).now)) Qs [] (i + 1) ∧ ∀ q ∈ Qs, readL (M.crash zs) (logOf limit (segsOf (M.crash zs) (M.crash zs).now)) (q.n : Int) (q.a : Int) (q.z : Int) = (0, q.x.t, q.x.K, q.x.D) := by
  have hg := crash_good h.gd zs
  have ho := h.ki.opened h.gd.ok zs limit
  have hlen := h.len
  have sok := segsOf_ok (limit := limit) hg (by omega) hl (fun gf F hF => Fi.len (hM.files gf F hF).2.1)
  refine ⟨⟨ho.1, h.inj.crash zs, h.only.crash zs, sok, hg.mono (by omega), Nat.zero_le _, by simp; omega, h.oks, fun q hq => by cases hq⟩, fun q hq => ?_⟩
  have hx : (⟨q.n, q.a, byE q.x⟩ : Pc) ∈ pcs Qs := List.mem_map.2 ⟨q, hq, rfl⟩
  have := (ho.1.sure _ hx).read hg.ok rfl sok (ho.2 _ hx) (h.ki.un _ hx) (h.oks q hq).1 rfl
  rw [(h.oks q hq).2.1]
  exact this
theorem KM.start {lim : Int} (h0 : 128 ≤ lim) (h1 : lim ≤ 2000) : KM (Me.new 1048576) (logOf lim []) [] [] 0 := by
  have hn : ∀ (j : Nat) (t : List UInt8), nFind (nmSteps (Me.new 1048576).fast ((Me.new 1048576).wait.take j)) t = none := fun j t => by
    show nFind (nmSteps [] (([] : List (ByteArray × ByteArray × Int)).take j)) t = none
    rw [List.take_nil]
    rfl
  have ki : KI (Me.new 1048576) (logOf lim []) (pcs []) (pcs []) := ⟨fun x hx => (by cases hx), fun x hx => (by cases hx), fun x hx => (by cases hx), fun n hn => (by cases hn), fun _ n hn => (by cases hn), fun gf F hF => (by cases hF), fun _ x hx => (by cases hx)⟩
  have sok : (logOf lim []).ok := ⟨⟨h0, by show lim ≤ 1048576; omega⟩, fun p hp => (by cases hp), List.Pairwise.nil, Nat.zero_le _, Nat.le_refl _, fun e => (by cases e)⟩
  exact ⟨ki, fun j a b g ha => (by rw [hn] at ha; cases ha), fun j t g ht => (by rw [hn] at ht; cases ht), sok, Me.new_good ⟨by decide, by decide⟩, Nat.le_refl _, Nat.le_refl _, fun q hq => (by cases hq), fun q hq => (by cases hq)⟩
end
end Go.Proofs.YtfneloobfidckaaGreatDoor

/- A log and two rows of kept entries beside it, in memory. It proves no statement. -/

namespace Go.Proofs.YtfneloobfidckaaGreatDoor
open Go.RowKit Go.Maps Go.WideMaps Go.Sort
set_option linter.unusedVariables false
set_option linter.unusedSimpArgs false

structure KX (w4 wr : World) (g gl : Nat) (vs vo : Value) (own : Own) (lo : LOwn) (M : Me) (S : Lg) (Qs Qo : List Kp) (xs ys : List Value) : Prop where
  lm : LM wr w4.heap.size g gl own lo M S
  st : Still w4 wr
  rs : wr.ownsRow w4.heap.size 72 37 vs Qs.length xs
  ro : wr.ownsRow w4.heap.size 72 37 vo Qo.length ys
  hs : HasK w4 w4.heap.size Qs xs
  ho : HasK w4 w4.heap.size Qo ys
  aps : ∀ b, vs.ownBlock = some b → own b = none ∧ lo b = none
  apo : ∀ b, vo.ownBlock = some b → own b = none ∧ lo b = none
  apx : ∀ b, vs.ownBlock = some b → vo.ownBlock ≠ some b
section
variable {w4 wr w' : World} {g gl : Nat} {vs vo : Value} {own : Own} {lo : LOwn} {M M' : Me} {S S' : Lg} {Qs Qo : List Kp} {xs ys : List Value}
theorem KX.still (h : KX w4 wr g gl vs vo own lo M S Qs Qo xs ys) (s : Still wr w') : KX w4 w' g gl vs vo own lo M S Qs Qo xs ys := ⟨h.lm.still s, Still.trans h.st s, still_own h.rs s, still_own h.ro s, h.hs, h.ho, h.aps, h.apo, h.apx⟩
/-- A call of the log's. -/
theorem KX.left (h : KX w4 wr g gl vs vo own lo M S Qs Qo xs ys) (l : LLeft wr w' w4.heap.size g gl own lo M' S') : ∃ own' lo', KX w4 w' g gl vs vo own' lo' M' S' Qs Qo xs ys := by
  have s' := LLeft.low h.lm l h.st (Nat.le_refl _)
  obtain ⟨c, own', lo', ho, lm⟩ := l
  have ck : ∀ b, own b = none ∧ lo b = none → ¬ (own b ≠ none ∨ lo b ≠ none) := fun b h hh => by
    rcases hh with hh | hh
    · exact hh h.1
    · exact hh h.2
  refine ⟨own', lo', lm, s', c.own h.rs (fun b hb => ck b (h.aps b hb)), c.own h.ro (fun b hb => ck b (h.apo b hb)), h.hs, h.ho, fun b hb => ?_, fun b hb => ?_, h.apx⟩
  · rw [(ho b (own_block_lt h.rs b hb)).1, (ho b (own_block_lt h.rs b hb)).2]
    exact h.aps b hb
  · rw [(ho b (own_block_lt h.ro b hb)).1, (ho b (own_block_lt h.ro b hb)).2]
    exact h.apo b hb
/-- A call of the medium's. -/
theorem KX.med (h : KX w4 wr g gl vs vo own lo M S Qs Qo xs ys) (l : Left wr w' w4.heap.size g own M') : ∃ own' lo', KX w4 w' g gl vs vo own' lo' M' S Qs Qo xs ys := h.left (LLeft.med h.lm l)
/-- Nothing is open any more. -/
theorem KX.nil0 (h : KX w4 wr g gl vs vo own lo M S Qs Qo xs ys) : KX w4 wr g gl vs (.slice none 0 0) own lo M S Qs [] xs [] := ⟨h.lm, h.st, h.rs, World.ownsRow_nil _ _ _ _, h.hs, HasK.nil, h.aps, fun b hb => by simp [Value.ownBlock] at hb, fun b _ hb => by simp [Value.ownBlock] at hb⟩
/-- The log opened anew. -/
theorem KX.anew (h : KX w4 wr g gl vs vo own lo M S Qs Qo xs ys) {gl' : Nat} {lo' : LOwn} (s : Still wr w') (lm : LM w' w4.heap.size g gl' own lo' M S') (hlo : ∀ b, lo' b ≠ none → wr.heap.size ≤ b) : KX w4 w' g gl' vs vo own lo' M S' Qs Qo xs ys := by
  have e : ∀ b, b < wr.heap.size → lo' b = none := fun b hb => by
    cases hq : lo' b with
    | none => rfl
    | some q => have := hlo b (by rw [hq]; simp); omega
  exact ⟨lm, Still.trans h.st s, still_own h.rs s, still_own h.ro s, h.hs, h.ho, fun b hb => ⟨(h.aps b hb).1, e b (own_block_lt h.rs b hb)⟩, fun b hb => ⟨(h.apo b hb).1, e b (own_block_lt h.ro b hb)⟩, h.apx⟩
/-- One more is open. -/
theorem KX.push (h : KX w4 wr g gl vs vo own lo M S Qs Qo xs ys) {o : Obj} {q : Kp} {cs : List Value} {v' : Value} (hq : HasK w4 w4.heap.size [q] cs) (own8 : w'.ownsRow w4.heap.size 72 37 v' (Qo.length + 1) (ys ++ cs)) (gr : (wr.alloc o).grownBy w' vo.ownBlock) (hv : v'.ownBlock = vo.ownBlock ∨ v'.ownBlock = some (wr.alloc o).heap.size) : KX w4 w' g gl vs v' own lo M S Qs (Qo ++ [q]) xs (ys ++ cs) := by
  obtain ⟨lm8, ap8⟩ := h.lm.beside h.apo gr hv
  have s1 : Still wr (wr.alloc o) := (Still.refl wr).alloc (Nat.le_refl _) o
  refine ⟨lm8, still_push (Still.trans h.st s1) (still_own h.ro s1) (Nat.le_refl _) gr, own_grown gr (still_own h.rs s1) (fun k hk => h.apx k hk), by rw [List.length_append, List.length_singleton]; exact own8, h.hs, h.ho.more hq, h.aps, ap8, fun b hb hb2 => ?_⟩
  rcases hv with e | e
  · rw [e] at hb2; exact h.apx b hb hb2
  · rw [e] at hb2
    injection hb2 with hb2
    have := own_block_lt h.rs b hb
    have := s1.size
    omega
/-- What was open is sure now. -/
theorem KX.all (h : KX w4 wr g gl vs vo own lo M S Qs Qo xs ys) {v' : Value} (own8 : w'.ownsRow w4.heap.size 72 37 v' (Qs.length + Qo.length) (xs ++ ys)) (gr : wr.grownBy w' vs.ownBlock) (hv : v'.ownBlock = vs.ownBlock ∨ v'.ownBlock = some wr.heap.size) : KX w4 w' g gl v' (.slice none 0 0) own lo M S (Qs ++ Qo) [] (xs ++ ys) [] := by
  refine ⟨h.lm.keep (Chg.of_grown gr (S := fun b => vs.ownBlock = some b) (fun k hk _ => hk)) h.aps, still_push h.st h.rs (Nat.le_refl _) gr, by rw [List.length_append]; exact own8, World.ownsRow_nil _ _ _ _, h.hs.more h.ho, HasK.nil, fun b hb => ?_, fun b hb => by simp [Value.ownBlock] at hb, fun b _ hb => by simp [Value.ownBlock] at hb⟩
  rcases hv with e | e
  · rw [e] at hb; exact h.aps b hb
  · rw [e] at hb
    injection hb with hb
    exact h.lm.above (Nat.le_of_eq hb)
/-- Those of other segments. -/
theorem KX.others (h : KX w4 wr g gl vs vo own lo M S Qs Qo xs ys) {w1 w2 : World} {Qs' Qo' : List Kp} {v1 v2 : Value} {xs' ys' : List Value} (s1 : Still wr w1) (s2 : Still w1 w2) (r1 : w1.ownsRow wr.heap.size 72 37 v1 Qs'.length xs') (r2 : w2.ownsRow w1.heap.size 72 37 v2 Qo'.length ys') (h1 : HasK w4 w4.heap.size Qs' xs') (h2 : HasK w4 w4.heap.size Qo' ys') : KX w4 w2 g gl v1 v2 own lo M S Qs' Qo' xs' ys' :=
  ⟨h.lm.still (Still.trans s1 s2), Still.trans h.st (Still.trans s1 s2), own_base (still_own r1 s2) h.st.size, own_base r2 (Nat.le_trans h.st.size s1.size), h1, h2, fun b hb => h.lm.above (own_block_ge r1 b hb), fun b hb => h.lm.above (Nat.le_trans s1.size (own_block_ge r2 b hb)), fun b hb hb2 => by have a := own_block_lt r1 b hb; have c := own_block_ge r2 b hb2; omega⟩
end
end Go.Proofs.YtfneloobfidckaaGreatDoor

/- A kept entry put together out of its place and its entry. It proves no statement. -/

namespace Go.Proofs.YtfneloobfidckaaGreatDoor
open Go.RowKit Go.Maps Go.WideMaps Go.Sort
set_option linter.unusedVariables false
set_option linter.unusedSimpArgs false

theorem fold_put : ∀ (l mid pre post : List Value) (off k : Nat), mid.length = l.length → pre.length = off + k → (l.zipIdx k).foldl (fun cs (p : Value × Nat) => cs.setIfInBounds (off + p.2) p.1) (pre ++ mid ++ post).toArray = (pre ++ l ++ post).toArray
  | [], mid, pre, post, off, k, hm, hp => by
    have : mid = [] := List.length_eq_zero_iff.1 (by simpa using hm)
    subst this
    rfl
  | x :: l, [], pre, post, off, k, hm, hp => by simp at hm
  | x :: l, m :: mid, pre, post, off, k, hm, hp => by
    rw [List.zipIdx_cons, List.foldl_cons]
    have e : (pre ++ m :: mid ++ post).toArray.setIfInBounds (off + k) x = (pre ++ [x] ++ mid ++ post).toArray := by
      rw [List.setIfInBounds_toArray, List.append_assoc, List.set_append_right _ _ (by omega), ← hp, Nat.sub_self]
      simp
    show (l.zipIdx (k + 1)).foldl _ ((pre ++ m :: mid ++ post).toArray.setIfInBounds (off + k) x) = _
    rw [e, fold_put l mid (pre ++ [x]) post off (k + 1) (by simpa using hm) (by rw [List.length_append, hp]; rfl)]
    simp
/-- Two parts, one behind the other, fill all. -/
theorem fill_two {place : Nat → Option (Nat × Nat)} {init a b : List Value} (h0 : place 0 = some (0, a.length)) (h1 : place 1 = some (a.length, b.length)) (hi : init.length = a.length + b.length) : Instr.fill place init.toArray [(0, .agg a.toArray), (1, .agg b.toArray)] = some (a ++ b).toArray := by
  have f : ∀ (l : List Value) (off : Nat) (cs : Array Value), l.toArray.zipIdx.foldl (fun cs (x : Value × Nat) => match x with | (c, j) => cs.setIfInBounds (off + j) c) cs = (l.zipIdx 0).foldl (fun cs (p : Value × Nat) => cs.setIfInBounds (off + p.2) p.1) cs := fun l off cs => by
    rw [← Array.foldl_toList, Array.toList_zipIdx]
  have c1 : (Value.agg a.toArray).cells = a.toArray := rfl
  have c2 : (Value.agg b.toArray).cells = b.toArray := rfl
  have hi1 : init = [] ++ init.take a.length ++ init.drop a.length := by simp
  have s1 : (a.zipIdx 0).foldl (fun cs (p : Value × Nat) => cs.setIfInBounds (0 + p.2) p.1) init.toArray = (a ++ init.drop a.length).toArray := by
    conv => lhs; rw [hi1]
    rw [fold_put a (init.take a.length) [] (init.drop a.length) 0 0 (by rw [List.length_take]; omega) rfl]
    simp
  have s2 : (b.zipIdx 0).foldl (fun cs (p : Value × Nat) => cs.setIfInBounds (a.length + p.2) p.1) (a ++ init.drop a.length).toArray = (a ++ b).toArray := by
    have := fold_put b (init.drop a.length) a [] a.length 0 (by rw [List.length_drop]; omega) (by omega)
    simpa using this
  unfold Instr.fill
  rw [h0]
  dsimp only
  rw [c1, if_neg (by simp; omega), f, s1]
  unfold Instr.fill
  rw [h1]
  dsimp only
  rw [c2, if_neg (by simp; omega), f, s2]
  unfold Instr.fill
  rfl
theorem builtKp (q : Kp) (v : Value) (hK : q.x.K.length = 32) : Tryz.prog.built 72 [(0, .agg #[.int .i64 (q.n : Int), .int .i64 (q.a : Int), .int .i64 (q.z : Int)]), (1, .agg (entV q.x.t q.x.K v))] = some (kpL q v).toArray := by
  obtain ⟨it, hit, hz0, hz1, _⟩ := info_parts infoKp
  have hu := Tryz.underlying72
  unfold Program.built
  rw [hit, hu]
  dsimp only
  rw [hz0]
  have hp : (#[{ name := "p", type := 39, offset := 0, embedded := false, tag := "", pkgPath := "hoard/hoardlaw14", byteOffset := 0 }, { name := "x", type := 44, offset := 3, embedded := false, tag := "", pkgPath := "hoard/hoardlaw14", byteOffset := 24 }] : Array Field).toList.mapM (fun f => (Tryz.prog.info? f.type).map fun i => (f.offset, i.size)) = some [(0, 3), (3, 34)] := by kernel_rfl
  rw [hp]
  dsimp only
  have hl := entL_len0 q.x.t q.x.K v hK
  refine fill_two (init := kpL ⟨0, 0, 0, ⟨0, List.replicate 32 0, []⟩⟩ (.slice none 0 0)) (a := [.int .i64 (q.n : Int), .int .i64 (q.a : Int), .int .i64 (q.z : Int)]) (b := entL q.x.t q.x.K v) rfl (by rw [hl]; rfl) (by rw [hl, kpL_len (by simp)]; rfl)
end Go.Proofs.YtfneloobfidckaaGreatDoor
