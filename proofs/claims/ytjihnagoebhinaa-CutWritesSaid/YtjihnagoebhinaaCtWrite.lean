/- Contract: a cutter is given more. It proves no statement. -/
import Derived.Test.YtjihnagoebhinaaCtMid
namespace Go.Proofs.Ytjihnagoebhinaa
open Go.RowKit
set_option linter.unusedVariables false
set_option linter.unusedSimpArgs false

/-- What is left of a slice, as the model tells it. -/
theorem RowP.cutk {w : World} {P : Nat → Prop} {b o n c k : Nat} {l : List UInt8} (h : RowP w P (some ⟨b, o, none⟩) n c l) (hk : k ≤ n) : RowP w P (if c = k then some ⟨b, o, none⟩ else some ⟨b, o + k, none⟩) (n - k) (c - k) (l.drop k) := by
  by_cases e : c = k
  · rw [if_pos e]
    have := h.fit
    rw [show n - k = 0 by omega, show c - k = 0 by omega]
    exact h.endk (by omega)
  · rw [if_neg e]
    have := h.dropk hk
    simpa [Addr.add_lit] using this
theorem step_adds_at (w : World) {o : Oper} {a : Act} {K : Act → World → Prop} {Q : Exit → Act → World → Prop} (s x : Operand)
    (ho : o.op = .call { callee := .builtin .append, args := #[s, x], argTypes := #[25, 25] })
    (base : Nat) (v : Value) (n : Nat) (l : List UInt8) (hs : a.eval s = v) (hown : w.ownsRow base 5 1 v n (bytesV l)) (A : Option Addr) (n' c' : Nat) (B : Nat) (l' : List UInt8)
    (hx : a.eval x = .slice A n' c') (hr : Reads w B A n' l') (hA : A = none → c' = 0) (hn : n + n' ≤ 140737488355328) (hbase : base ≤ w.heap.size)
    (h : ∀ v' w', w'.ownsRow base 5 1 v' (n + n') (bytesV (l ++ l')) → w.grownBy w' v.ownBlock → (v'.ownBlock = v.ownBlock ∨ v'.ownBlock = some w.heap.size) → K (a.put o.dst v') w') : o.wp Try.prog a w K Q := by
  obtain ⟨v', w', hrun, h2, h3, h4⟩ := run_adds_at w o.type base v n l hown A n' c' B l' hr hA hn hbase
  unfold Oper.wp execOp
  simp only [ho, resolve, invoke, builtin, Sem.run_bind, Sem.run_pure, Result.andThen_ok, List.map_toArray, List.map_cons, List.map_nil, hs, hx, hrun]
  exact h v' w' h2 h3 h4
set_option maxRecDepth 100000 in
set_option maxHeartbeats 3200000 in
theorem write_any (s : Shp) (hs : s.Ok) {base g f r : Nat} {v0 : Value} {l : List UInt8} (hl : l.length < s.mt) (A : Option Addr) (n c : Nat) (b : List UInt8) (w : World) (P : Nat → Prop) (hc : CB w base g f r v0 s l) (h : RowP w P A n c b) (hP : ∀ k, P k → k < w.heap.size ∧ ¬ Cs g f r v0 k) (hn : n ≤ 65536) (hb : base ≤ w.heap.size) :
    Calls Try.prog 21 #[.pointer (some ⟨g, 0, none⟩), .slice A n c] w fun e w' =>
      ∃ lv v xs, e = .returned lv ∧ w'.ownsRow w.heap.size 25 1 lv (run s l b).1.length xs ∧ Rows w' (TellP w g f r v0 lv v) xs (run s l b).1 ∧
        CB w' base g f r v s (run s l b).2 ∧ (∀ k, lv.ownBlock = some k → ¬ Cs g f r v k) ∧ (∀ k, v.ownBlock = some k → v0.ownBlock = some k ∨ w.heap.size ≤ k) ∧ Chg w w' (Cs g f r v0) := by
  have HW := Lib.hid (works_yes w hc.blk)
  have OK := Lib.hid hs
  have HP := Lib.hid hP
  have HBL := Lib.hid h.len
  have HBS := Lib.hid hb
  have I0 : Hid (WrMid w w base g f r v0 s l b A n c b (.slice none 0 0) [] [] v0 l P) := ⟨h, hc, World.ownsRow_nil _ _ _ _, Rows.nil, fun k hk => by simp [Value.ownBlock] at hk, fun k hk => .inl hk, by simp, hl, by simp [h.len], Chg.refl _ _⟩
  clear h hc hs hP hl hb
  go_enter Try.func21, Try.ntmps21
  go_wp2_with fail
  refine HW.out.mono ?_
  rintro e w1 ⟨rfl, rfl⟩
  clear HW
  go_wp2_with fail
  go_loopw [1, 5] (fun bv lv wr => ∃ A' n' c' rest la done xs v l0, bv = .slice A' n' c' ∧ lv = la ∧ Hid (WrMid w1 wr base g f r v0 s l b A' n' c' rest la done xs v l0 P)) (fun bv _ _ => match bv with | .slice _ k _ => k | _ => 0)
  case atStart => exact ⟨A, n, c, b, _, [], [], v0, l, rfl, rfl, I0⟩
  case round =>
    clear I0
    obtain ⟨A', n', c', rest, lv, done, xs, v, l0, rfl, rfl, hin⟩ := hrel
    by_cases hz : n' = 0
    · subst hz
      have e0 : rest = [] := List.eq_nil_of_length_eq_zero hin.out.row.len
      have e1 := hin.out.eq
      rw [e0] at e1
      simp only [run, List.append_nil] at e1
      have H4 := Lib.hid hin.out
      have E1 := Lib.hid e1
      clear e0 e1 hin
      go_wp2_with fail
      go_ret
      rw [E1.out]
      exact ⟨_, v, xs, rfl, H4.out.own, H4.out.rows, H4.out.cb, H4.out.apart, H4.out.held, H4.out.chg⟩
    · have hlen := hin.out.row.len
      have hne : rest ≠ [] := by
        intro e
        rw [e] at hlen
        simp at hlen
        omega
      have hp1 := nx_pos s rest l0 hne
      have hp2 := nx_le s rest l0
      have hlow : ∀ ad, A' = some ad → 0 < n' → ¬ Fi2 f r ad.block := by
        intro ad e hn
        obtain ⟨bb, o, e2, hb, _⟩ := hin.out.row.at_ hn
        rw [e2] at e
        obtain rfl := Option.some.inj e
        have := (HP.out bb hb).2
        exact fun h => this (Or.elim h (fun e => .inr (.inl e)) (fun e => .inr (.inr (.inl e))))
      have HNX := Lib.hid (next_any OK.out (l := l0) hin.out.lt A' n' c' rest wr wr.heap.size hin.out.cb.fb hin.out.row.reads (by have := hin.out.len; have := HBL.out; omega) hlow)
      obtain ⟨N, hN⟩ : ∃ N, N = nx s l0 rest := ⟨_, rfl⟩
      rw [← hN] at HNX hp1 hp2
      obtain ⟨p, q⟩ := N
      simp only at HNX hp1 hp2
      have HNN := Lib.hid hN.symm
      have hpn : p ≤ n' := by omega
      have hpc : p ≤ c' := Nat.le_trans hpn hin.out.row.fit
      have HPN := Lib.hid (And.intro hp1 (And.intro hpn hpc))
      have HLEN := Lib.hid hlen
      have HZ := Lib.hid hz
      have z1 : (0 : Int) < (n' : Int) := by omega
      have z3 : (p : Int) ≤ (n' : Int) := by omega
      have z4 : (0 : Int) ≤ (p : Int) := by omega
      have z5 : (p : Int) ≤ (c' : Int) := by omega
      have c0 := hin.out.cb.blk.cell 0
      simp only [List.getElem?_toArray, List.getElem?_cons_zero] at c0
      obtain ⟨Av, cv, rfl, hv1, hv2, hv3⟩ := own_formB hin.out.cb.own
      clear hN hp1 hp2 hlow hne hlen hpn hz hpc
      go_wp2_with fail
      refine HNX.out.mono ?_
      rintro e w2 ⟨rfl, fb2, c2⟩
      have b2 := c2.blk hin.out.cb.blk (by have := hin.out.cb.gf; have := hin.out.cb.gr; rintro (h1 | h1) <;> omega)
      have c1 := b2.cell 1
      simp only [List.getElem?_toArray, List.getElem?_cons_succ, List.getElem?_cons_zero] at c1
      have r2 : RowP w2 P A' n' c' rest := hin.out.row.chg c2 (fun k hk _ h => (HP.out k hk).2 (Or.elim h (fun e => .inr (.inl e)) (fun e => .inr (.inr (.inl e)))))
      have o2 := c2.own hin.out.cb.own (fun k hk h => Or.elim h (hin.out.cb.far k hk).2.1 (hin.out.cb.far k hk).2.2)
      have C2 : Hid (Chg wr w2.drew (Fi2 f r)) := ⟨c2.os, c2.tape, c2.output, c2.size, c2.block⟩
      have FB2 := Lib.hid (show FB w2.drew f r s (if q = true then [] else l0 ++ rest) from fb2.still ((Still.refl w2).drew))
      have O2 := Lib.hid (show w2.drew.ownsRow base 5 1 (.slice Av l0.length cv) l0.length (bytesV l0) from o2)
      have R2 := Lib.hid ((r2.takek HPN.out.2.1).still ((Still.refl w2).drew))
      have BS2 := Lib.hid (show base ≤ w2.drew.heap.size from Nat.le_trans HBS.out (Nat.le_trans hin.out.chg.size c2.size))
      have HL0 := Lib.hid (show l0.length + p ≤ 140737488355328 by have := hin.out.lt; have := OK.out.mt8; have := hin.out.len; have := HBL.out; have := HPN.out; omega)
      have B2 := Lib.hid (show Blk w2.drew g _ _ from b2)
      obtain ⟨bb, o, rfl, _⟩ := hin.out.row.at_ (by omega)
      clear c0 c2 fb2 b2 r2 o2 HNX
      go_wp2_with fail
      refine wp_region_late (S := fun W => W.cell? ⟨g, 1, none⟩ = some (.slice Av l0.length cv)) [11] (by kernel_rfl) c1 (fun hHeld => ?_)
      clear c1
      try simp only [Act.put, List.setIfInBounds_toArray, List.set_cons_zero, List.set_cons_succ]
      refine wpLate_pure (i := 0) (v := .pointer (some ⟨g, 0, none⟩)) rfl (by kernel_rfl) (by kernel_rfl) (by kernel_rfl) (by kernel_rfl) (fun _ _ _ h => h) (Or.inl ⟨by kernel_rfl, fun w _ => by go_simp⟩) ?_
      try simp only [Act.put, List.setIfInBounds_toArray, List.set_cons_zero, List.set_cons_succ]
      refine wpLate_pure (i := 1) (v := .pointer (some ⟨g, 0, none⟩)) rfl (by kernel_rfl) (by kernel_rfl) (by kernel_rfl) (by kernel_rfl) (fun _ _ _ h => h) (Or.inl ⟨by kernel_rfl, fun w _ => by go_simp⟩) ?_
      try simp only [Act.put, List.setIfInBounds_toArray, List.set_cons_zero, List.set_cons_succ]
      refine wpLate_pure (i := 2) (v := .pointer (some ⟨g, 0, none⟩)) rfl (by kernel_rfl) (by kernel_rfl) (by kernel_rfl) (by kernel_rfl) (fun _ _ _ h => h) (Or.inl ⟨by kernel_rfl, fun w _ => by go_simp⟩) ?_
      try simp only [Act.put, List.setIfInBounds_toArray, List.set_cons_zero, List.set_cons_succ]
      refine wpLate_pure (i := 3) (v := .pointer (some ⟨g, 1, none⟩)) rfl (by kernel_rfl) (by kernel_rfl) (by kernel_rfl) (by kernel_rfl) (fun _ _ _ h => h) (Or.inl ⟨by kernel_rfl, fun w _ => by go_simp⟩) ?_
      try simp only [Act.put, List.setIfInBounds_toArray, List.set_cons_zero, List.set_cons_succ]
      refine wpLate_take (i := 4) (v := .slice Av l0.length cv) [8, 11] rfl (by kernel_rfl) (by kernel_rfl) (by kernel_rfl) (by kernel_rfl) (by kernel_rfl) (by decide) (fun _ _ _ h => h) (Or.inl ⟨by kernel_rfl, fun w hS => by go_simp⟩) (by assumption) (fun hHeld => ?_)
      try simp only [Act.put, List.setIfInBounds_toArray, List.set_cons_zero, List.set_cons_succ]
      refine wpLate_pure (i := 5) (v := .slice (some ⟨bb, o, none⟩) n' c') rfl (by kernel_rfl) (by kernel_rfl) (by kernel_rfl) (by kernel_rfl) (fun _ _ _ h => h) (Or.inl ⟨by kernel_rfl, fun w _ => by go_simp⟩) ?_
      try simp only [Act.put, List.setIfInBounds_toArray, List.set_cons_zero, List.set_cons_succ]
      refine wpLate_pure (i := 6) (v := .int .i64 (p : Nat)) rfl (by kernel_rfl) (by kernel_rfl) (by kernel_rfl) (by kernel_rfl) (fun _ _ _ h => h) (Or.inl ⟨by kernel_rfl, fun w _ => by go_simp⟩) ?_
      try simp only [Act.put, List.setIfInBounds_toArray, List.set_cons_zero, List.set_cons_succ]
      refine wpLate_pure (i := 7) (v := .slice (some ⟨bb, o, none⟩) p c') rfl (by kernel_rfl) (by kernel_rfl) (by kernel_rfl) (by kernel_rfl) (fun _ _ _ h => h) (Or.inl ⟨by kernel_rfl, fun w _ => by go_simp⟩) ?_
      try simp only [Act.put, List.setIfInBounds_toArray, List.set_cons_zero, List.set_cons_succ]
      refine wpLate_one (i := 8) (o := ⟨some 31, .call { callee := .builtin .append, args := #[.tmp 27, .tmp 30], argTypes := #[25, 25] }, _, _, _, none⟩) (by kernel_rfl) rfl (fun K' hK' => ?_)
      rw [if_pos (by kernel_rfl)]
      with_reducible refine step_adds_at w2.drew (.tmp 27) (.tmp 30) (by kernel_rfl) base (.slice Av l0.length cv) l0.length l0 (by kernel_rfl) O2.out (some ⟨bb, o, none⟩) p c' _ (rest.take p) (by kernel_rfl) R2.out.reads (fun e => by cases e) HL0.out BS2.out ?_
      intro v2 w3 o3 g3 hv2
      obtain ⟨A2, cc2, rfl, e1, e2, e3⟩ := own_formB o3
      have b3 : Blk w3 g _ _ := (g3.block g B2.out.lt (fun e => (hin.out.cb.far g e.symm).1 rfl)).trans B2.out
      have f1 := b3.frozen 1
      have c1 := b3.cell 1
      simp only [List.getElem?_toArray, List.getElem?_cons_succ, List.getElem?_cons_zero] at c1
      have B4 := Lib.hid (b3.setc 1 (.slice A2 (l0.length + p) cc2))
      have H3 := Lib.hid (And.intro o3 (And.intro g3 hv2))
      clear o3 g3 hv2 b3 O2 HL0 B2 BS2
      refine hK'.out _ _ (fun _ _ => c1) ?_
      clear hK' K'
      try simp only [Act.put, List.setIfInBounds_toArray, List.set_cons_zero, List.set_cons_succ]
      refine wpLate_pure (i := 9) (v := .pointer (some ⟨g, 0, none⟩)) rfl (by kernel_rfl) (by kernel_rfl) (by kernel_rfl) (by kernel_rfl) (fun _ _ _ h => h) (Or.inl ⟨by kernel_rfl, fun w _ => by go_simp⟩) ?_
      try simp only [Act.put, List.setIfInBounds_toArray, List.set_cons_zero, List.set_cons_succ]
      refine wpLate_pure (i := 10) (v := .pointer (some ⟨g, 1, none⟩)) rfl (by kernel_rfl) (by kernel_rfl) (by kernel_rfl) (by kernel_rfl) (fun _ _ _ h => h) (Or.inl ⟨by kernel_rfl, fun w _ => by go_simp⟩) ?_
      try simp only [Act.put, List.setIfInBounds_toArray, List.set_cons_zero, List.set_cons_succ]
      refine wpLate_one (i := 11) (o := ⟨none, .store 25 (.tmp 33) (.tmp 31), _, _, _, none⟩) (by kernel_rfl) rfl (fun K' hK' => ?_)
      rw [if_pos (by kernel_rfl)]
      with_reducible refine step_storeC w3 25 (.tmp 33) (.tmp 31) (by kernel_rfl) g 1 (.slice A2 (l0.length + p) cc2) (.slice Av l0.length cv) (by kernel_rfl) (by kernel_rfl) rfl (by kernel_rfl) c1 f1 ?_
      refine hK'.out _ _ (fun _ hu => absurd hu (by decide)) ?_
      clear hK' K' hHeld c1 f1
      try simp only [Act.put, List.setIfInBounds_toArray, List.set_cons_zero, List.set_cons_succ]
      refine wpLate_done (by kernel_rfl) ?_ _
      go_simp
      rcases q with _ | _
      · go_wp2_with fail
        go_roundw
        case rel => exact ⟨_, n' - p, c' - p, rest.drop p, u5, done, xs, .slice A2 (l0.length + p) cc2, l0 ++ rest.take p, rfl, rfl, hin.out.no OK.out HP.out HNN.out C2.out (by simpa using FB2.out) H3.out.1 H3.out.2.1 H3.out.2.2 (fun W h => h.cutk HPN.out.2.1) (Nat.le_refl _)⟩
        case measure => simp; have := HPN.out; omega
      · have HT := Lib.hid (take_any _ (show Blk (w3.setCell ⟨g, 1, none⟩ (.slice A2 (l0.length + p) cc2)) g 56 #[.pointer (some ⟨f, 0, none⟩), .slice A2 (l0.length + p) cc2] from B4.out))
        have HD : done.length < 1048576 := by have := hin.out.len; have := HBL.out; omega
        clear B4
        go_wp2_with fail
        refine HT.out.mono ?_
        rintro e w5 ⟨rfl, b5, g5⟩
        have O5 := Lib.hid (show w5.ownsRow w1.heap.size 25 1 u5 done.length xs from by
          have hcm := (hin.out.mid HP.out C2.out H3.out.2.1 H3.out.2.2).1
          have o4 := hcm.own hin.out.own (fun k hk => hin.out.apart k hk)
          exact own_grown g5 o4 (fun k hk e => hin.out.apart k hk (.inl (Option.some.inj e).symm)))
        have SZ5 := Lib.hid (show w1.heap.size ≤ w5.heap.size from by
          have hcm := (hin.out.mid HP.out C2.out H3.out.2.1 H3.out.2.2).1
          exact Nat.le_trans hin.out.chg.size (Nat.le_trans hcm.size g5.size))
        have H5 := Lib.hid (And.intro b5 g5)
        clear b5 g5 HT
        go_wp2_with ((first | (guard_target =~ wpList _ _ _ (Oper.mk (some 38) _ _ _ _ _ :: _) _ _; go_must (refine wpList_boxB _ rfl _ rfl _ _ _ rfl ?_)) | (guard_target =~ wpList _ _ _ (Oper.mk (some 39) _ _ _ _ _ :: _) _ _; go_must (refine wpList_oneB _ rfl _ _ rfl w1.heap.size _ _ _ rfl O5.out _ rfl rfl HD SZ5.out ?_)) | fail))
        intro lv' w6 o6 g6 hlv'
        have H6 := Lib.hid (hin.out.yes OK.out HP.out HNN.out HPN.out.1 HPN.out.2.1 C2.out (by simpa using FB2.out) rfl rfl H3.out.1 H3.out.2.1 H3.out.2.2 H5.out.1 H5.out.2 o6 g6 hlv' (fun W h => h.cutk HPN.out.2.1) (Nat.le_refl _))
        clear o6 g6 hlv' O5 SZ5 HD
        go_wp2_with fail
        go_roundw
        case rel => exact ⟨_, n' - p, c' - p, rest.drop p, lv', _, _, .slice none 0 0, [], rfl, rfl, H6⟩
        case measure => simp; have := HPN.out; omega
end Go.Proofs.Ytjihnagoebhinaa
