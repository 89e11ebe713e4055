/- Contracts: slots copied, a table copied, two rows of the same keys. It proves no statement. -/
import Derived.Test.YthkgnkcedoigiaaTbKeys
import Derived.Test.YthkgnkcedoigiaaNeqId
namespace Go.Proofs.Ythkgnkcedoigiaa
open Go.RowKit
set_option linter.unusedVariables false
set_option linter.unusedSimpArgs false

def slotsV (S : List Sl) : List Value := S.flatMap (slL 1)
theorem slotsV_len {S : List Sl} (h : ∀ (i : Nat) s, S[i]? = some s → SlOK 1 s) : (slotsV S).length = S.length * 34 := by
  induction S with
  | nil => rfl
  | cons s r ih =>
    have h1 := slL_len (h 0 s rfl)
    have h2 := ih (fun i x hx => h (i + 1) x hx)
    unfold slotsV at *
    rw [List.flatMap_cons, List.length_append, h1, h2, List.length_cons]
    omega
theorem slotsV_one (S : List Sl) : ∀ u ∈ slotsV S, u.oneCell' = true := by
  intro u hu
  obtain ⟨s, _, h⟩ := List.mem_flatMap.1 hu
  exact slL_one 1 s u h
theorem slotsV_at {S : List Sl} (h : ∀ (i : Nat) s, S[i]? = some s → SlOK 1 s) : ∀ (i : Nat) (s : Sl), S[i]? = some s → ∀ (r : Nat) (u : Value), (slL 1 s)[r]? = some u → (slotsV S)[i * 34 + r]? = some u := by
  induction S with
  | nil => intro i s hs; simp at hs
  | cons x xs ih =>
    intro i s hs r u hr
    have hx := slL_len (h 0 x rfl)
    unfold slotsV
    rw [List.flatMap_cons]
    match i, hs with
    | 0, hs =>
      simp only [List.getElem?_cons_zero, Option.some.injEq] at hs
      subst hs
      have hr2 := (List.getElem?_eq_some_iff.1 hr).1
      rw [Nat.zero_mul, Nat.zero_add, List.getElem?_append_left hr2, hr]
    | i + 1, hs =>
      rw [List.getElem?_append_right (by rw [hx]; omega), hx, show (i + 1) * 34 + r - (33 + 1) = i * 34 + r by omega]
      exact ih (fun i y hy => h (i + 1) y hy) i s hs r u hr
theorem slotsV_inv {S : List Sl} (h : ∀ (i : Nat) s, S[i]? = some s → SlOK 1 s) (q : Nat) (u : Value) (hq : (slotsV S)[q]? = some u) : ∃ i r s, q = i * 34 + r ∧ S[i]? = some s ∧ (slL 1 s)[r]? = some u := by
  have hl := slotsV_len h
  have hlt := (List.getElem?_eq_some_iff.1 hq).1
  have hi : q / 34 < S.length := by omega
  have hs := slot_eq hi
  have hr : q % 34 < (slL 1 (slot S (q / 34))).length := by rw [slL_len (h _ _ hs)]; omega
  refine ⟨q / 34, q % 34, _, by omega, hs, ?_⟩
  have := slotsV_at h _ _ hs (q % 34) _ (List.getElem?_eq_getElem hr)
  rw [show q / 34 * 34 + q % 34 = q by omega, hq] at this
  rw [List.getElem?_eq_getElem hr, ← this]
/-- Slots in a row of one's own. -/
theorem SlB.of_own {w : World} {base n g c : Nat} {S : List Sl} (h : w.ownsRow base 80 34 (.slice (some ⟨g, 0, none⟩) n c) n (slotsV S)) (hO : ∀ (i : Nat) s, S[i]? = some s → SlOK 1 s) : SlB w g 1 S ∧ base ≤ g := by
  rcases h.2 with ⟨h0, _⟩ | ⟨g', cap, cur, hv, hb, hg, hnc, hm, hcs, ht⟩
  · cases h0
  · injection hv with e1 _ e3
    obtain rfl : g = g' := by injection e1 with e; injection e
    refine ⟨⟨fun i s hs j u hj => ?_, fun q => frozen_of_row w g q cur _ hg, (Array.getElem?_eq_some_iff.1 hg).1⟩, hb⟩
    have h1 := slotsV_at hO i s hs j u hj
    rw [← ht, List.getElem?_take] at h1
    rw [cell_of_row w g _ cur _ (0, 0) hg]
    split at h1
    · simpa using h1
    · cases h1
theorem wpList_addsSlt (w : World) {ops : Array Oper} {rest : List Oper} {o : Oper} {a : Act} {Q : Exit → Act → World → Prop} (hgd : o.guard = none) (s x : Operand)
    (ho : o.op = .call { callee := .builtin .append, args := #[s, x], argTypes := #[73, 73] })
    (base : Nat) (v : Value) (n : Nat) (xs : List Value) (hs : a.eval s = v) (hown : w.ownsRow base 80 34 v n xs) (b n' c' : Nat) (ys : List Value) (hx : a.eval x = .slice (some ⟨b, 0, none⟩) n' c')
    (hl : ys.length = n' * 34) (hr : ∀ j u, ys[j]? = some u → w.cell? ⟨b, j, none⟩ = some u) (h1 : ∀ u ∈ ys, u.oneCell' = true) (hn : n + n' ≤ 1099511627776) (hbase : base ≤ w.heap.size)
    (h : ∀ v' w', w'.ownsRow base 80 34 v' (n + n') (xs ++ ys) → w.grownBy w' v.ownBlock → wpList Try.prog ops Q rest (a.put o.dst v') w') :
    wpList Try.prog ops Q (o :: rest) a w := by
  refine wpList_plain hgd fun _ hQ => ?_
  obtain ⟨i0, hi, hz0, hz1, hz2⟩ := info_parts Try.infoSlt
  obtain ⟨v', w', hrun, h2, h3, _, h5⟩ := run_append_own_at (P := Try.prog) w base 73 o.type 80 i0 _ 34 48 Try.underlying73 hi hz0 hz1 hz2 rfl (by decide) v n xs hown ⟨b, 0, none⟩ n' c' ys hl (fun j u hu => by
    rw [Addr.add_mid, Nat.zero_add]; exact hr j u hu) h1 (by unfold maxLen; omega) (by omega) hbase
  unfold Oper.wp execOp
  simp only [ho, resolve, invoke, builtin, Sem.run_bind, Sem.run_pure, Result.andThen_ok, List.map_toArray, List.map_cons, List.map_nil, hs, hx, hrun]
  exact hQ _ _ (h v' w' h2 h3)
set_option maxHeartbeats 800000 in
theorem clone_slots {w : World} {b n c : Nat} {S : List Sl} (h : SlB w b 1 S) (hO : ∀ (i : Nat) s, S[i]? = some s → SlOK 1 s) (hn : n = S.length) (hS : S.length ≤ 8589934592) (hc : n ≤ c) :
    Calls Try.prog 47 #[.slice (some ⟨b, 0, none⟩) n c] w fun e w' => (∃ v, e = .returned v ∧ w'.ownsRow w.heap.size 80 34 v n (slotsV S)) ∧ Still w w' := by
  have o1 : (w.alloc (.cells #[] 80)).ownsRow w.heap.size 80 34 (.slice (some ⟨w.heap.size, 0, none⟩) 0 0) 0 [] := World.ownsRow_made w #[] 0 (Nat.le_refl _) (by unfold maxLen; omega) rfl
  have s1 : Still w (w.alloc (.cells #[] 80)) := (Below.refl _ _).alloc (Nat.le_refl _) _
  have hk : ∀ w : World, (binOp .eql 73 (.slice (some ⟨b, 0, none⟩) n c) (.slice none 0 0)).run Try.prog w = .ok (.bool false) w := fun w => Lib.run_eql_slice_nil w _ _ (some ⟨b, 0, none⟩) n c 0 0 Try.underlying73
  have CE := Lib.hid (show ∀ j u, (slotsV S)[j]? = some u → (w.alloc (.cells #[] 80)).cell? ⟨b, j, none⟩ = some u from fun j u hu => by
    obtain ⟨i, r, s, rfl, hs, hr⟩ := slotsV_inv hO j u hu
    rw [World.cell?_alloc_lt _ _ _ h.lt]
    exact h.at_ i s hs r u hr)
  have LE := Lib.hid (show (slotsV S).length = n * 34 from by rw [slotsV_len hO, hn])
  have NB := Lib.hid (show 0 + n ≤ 1099511627776 from by omega)
  have S1 := Lib.hid s1
  have O1 := Lib.hid o1
  clear h hO hn hS hc o1 s1
  go_enter Try.func47, Try.ntmps47
  go_wp2_with (at_builtin; go_must (refine wpList_addsSlt _ rfl (.tmp 5) (.tmp 6) rfl w.heap.size _ 0 [] rfl O1.out b n c (slotsV S) rfl LE.out CE.out (slotsV_one S) NB.out (by simp) ?_))
  intro v' w' hown hg
  have FIN := Lib.hid (show w'.ownsRow w.heap.size 80 34 v' n (slotsV S) ∧ Still w w' from ⟨by simpa using hown, S1.out.grown hg (by simp) (fun k hk => by simp [Value.ownBlock] at hk; omega)⟩)
  clear hg hown
  go_wp2_with fail
  go_ret
  exact ⟨⟨_, rfl, FIN.out.1⟩, FIN.out.2⟩
theorem built_table3 (A : Option Addr) (n c : Nat) (x y : Int) : Try.prog.built 75 [(0, .slice A n c), (1, .int .i64 x), (2, .int .i64 y)] = some #[.slice A n c, .int .i64 x, .int .i64 y] := by kernel_rfl
set_option maxRecDepth 100000 in
set_option maxHeartbeats 3200000 in
theorem copy_any {w : World} {g b cp dd : Nat} {L : List KV} (h : Tb w g b L cp dd) (hl : L.length ≤ 1073741824) :
    Calls Try.prog 27 #[.pointer (some ⟨g, 0, none⟩)] w fun e w' => ∃ g2 b2, e = .returned (.pointer (some ⟨g2, 0, none⟩)) ∧ Tb w' g2 b2 L cp dd ∧ Still w w' ∧ w.heap.size ≤ g2 ∧ w.heap.size ≤ b2 := by
  have hcp := h.cpb hl
  obtain ⟨⟨c, S, t, a, hcpe, hdde⟩, gd⟩ := h
  have WY := Lib.hid (works_yes t)
  have CL := Lib.hid (fun W (s : Still w W) => clone_slots (t.still s).row (fun i s hs => t.inv.slOK hs) rfl (by omega) t.cap.1)
  have SK := Lib.hid (fun W (s : Still w W) => show W.cell? ⟨g, 0, none⟩ = some (.slice (some ⟨b, 0, none⟩) S.length c) ∧ W.cell? ⟨g, 1, none⟩ = some (.int .i64 (keysN S : Nat)) ∧ W.cell? ⟨g, 2, none⟩ = some (.int .i64 (deadN S : Nat)) from ⟨(t.still s).c0, (t.still s).c1, (t.still s).c2⟩)
  have FIN := Lib.hid (fun (W0 W : World) (s0 : Still w W0) A c2 (own : W.ownsRow W0.heap.size 80 34 (.slice A S.length c2) S.length (slotsV S)) (s : Still W0 W) (W2 : World) (hW2 : W2 = W.alloc (.cells #[.slice A S.length c2, .int .i64 (keysN S : Nat), .int .i64 (deadN S : Nat)] TT)) =>
    show ∃ g2 b2, Ending.returned (.pointer (some ⟨W.heap.size, 0, none⟩)) = Ending.returned (.pointer (some ⟨g2, 0, none⟩)) ∧ Tb W2 g2 b2 L cp dd ∧ Still w W2 ∧ w.heap.size ≤ g2 ∧ w.heap.size ≤ b2 from by
      have h8 := t.len8
      obtain ⟨b2, c3, hv, hb, hbl, hnc, hcc, _⟩ := own_at own (by omega)
      obtain ⟨rfl, rfl⟩ : A = some ⟨b2, 0, none⟩ ∧ c2 = c3 := by injection hv with e1 _ e3; exact ⟨e1, e3⟩
      obtain ⟨R, hb'⟩ := SlB.of_own own (fun i s hs => t.inv.slOK hs)
      have sW : Still W W2 := by rw [hW2]; exact (Still.refl W).alloc (Nat.le_refl _) _
      refine ⟨W.heap.size, b2, rfl, ⟨⟨c2, S, ⟨by rw [hW2]; exact Blk.new W _ _, R.still sW, t.inv, by omega, hnc, hcc⟩, a, hcpe, hdde⟩, gd⟩, Still.trans s0 (Still.trans s sW), Nat.le_trans s0.size s.size, Nat.le_trans s0.size hb⟩)
  obtain ⟨kn, hkn⟩ : ∃ kn, kn = keysN S := ⟨_, rfl⟩
  obtain ⟨dn, hdn⟩ : ∃ dn, dn = deadN S := ⟨_, rfl⟩
  obtain ⟨n, hn⟩ : ∃ n, n = S.length := ⟨_, rfl⟩
  rw [← hn] at CL SK FIN
  rw [← hkn, ← hdn] at SK FIN
  have BT := Lib.hid (fun A c2 => built_table3 A n c2 (kn : Int) (dn : Int))
  clear hcp hcpe hdde gd t a hn hkn hdn
  go_enter Try.func27, Try.ntmps27
  go_upto_region 3 with (go_at_call 40; refine WY.out.mono ?_; rintro e w1 ⟨rfl, rfl⟩)
  have SD := Lib.hid (show Still w w.drew from (Still.refl _).drew)
  go_region_held3 (fun w' => w'.cell? ⟨g, 0, none⟩ = some (.slice (some ⟨b, 0, none⟩) n c) ∧ w'.cell? ⟨g, 1, none⟩ = some (.int .i64 (kn : Nat)) ∧ w'.cell? ⟨g, 2, none⟩ = some (.int .i64 (dn : Nat))) (first | exact SK.out _ ((Still.refl _).drew) | exact SK.out _ S3.out | exact SK.out _ (S3.out.alloc S3.out.size _))
    (first
      | (go_at_call 47; with_reducible refine (CL.out _ SD.out).mono ?_; rintro e w3 ⟨⟨v3, rfl, own3⟩, s3⟩; obtain ⟨A3, c3, rfl, _, _, _, _⟩ := own_slice own3; have O3 := Lib.hid own3; have T3 := Lib.hid s3; have S3 := Lib.hid (show Still w w3 from Still.trans SD.out s3); clear own3 s3))
  have FF := Lib.hid (FIN.out w.drew w3 SD.out A3 c3 O3.out T3.out _ rfl)
  go_wp2_with fail
  go_ret
  exact FF.out
theorem keysV_at {L : List KV} (h : ∀ z ∈ L, z.1.length = 32) : ∀ (i : Nat) (z : KV), L[i]? = some z → ∀ (r : Nat) (u : Value), (bytesV z.1)[r]? = some u → (keysV L)[i * 32 + r]? = some u := by
  induction L with
  | nil => intro i z hz; simp at hz
  | cons x xs ih =>
    intro i z hz r u hr
    have hx : (bytesV x.1).length = 32 := by rw [bytesV_length]; exact h x (by simp)
    unfold keysV
    rw [List.flatMap_cons]
    match i, hz with
    | 0, hz =>
      simp only [List.getElem?_cons_zero, Option.some.injEq] at hz
      subst hz
      have hr2 := (List.getElem?_eq_some_iff.1 hr).1
      rw [Nat.zero_mul, Nat.zero_add, List.getElem?_append_left hr2, hr]
    | i + 1, hz =>
      rw [List.getElem?_append_right (by rw [hx]; omega), hx, show (i + 1) * 32 + r - 32 = i * 32 + r by omega]
      exact ih (fun y hy => h y (by simp [hy])) i z hz r u hr
theorem Tb.key32 {w : World} {g b cp dd : Nat} {L : List KV} (h : Tb w g b L cp dd) : ∀ z ∈ L, z.1.length = 32 := by
  obtain ⟨⟨c, S, t, a, _⟩, _⟩ := h
  intro z hz
  obtain ⟨p, hp⟩ := mem_fulls.1 ((a.mem z).2 hz)
  exact (t.inv.probe p _ _ hp).1
theorem Tb.val1 {w : World} {g b cp dd : Nat} {L : List KV} (h : Tb w g b L cp dd) : ∀ z ∈ L, ∃ x, z.2 = [x] := by
  obtain ⟨⟨c, S, t, a, _⟩, _⟩ := h
  intro z hz
  obtain ⟨p, hp⟩ := mem_fulls.1 ((a.mem z).2 hz)
  have := (t.inv.probe p _ _ hp).2.1
  match z.2, this with
  | [x], _ => exact ⟨x, rfl⟩
/-- A row of keys that lies in memory. -/
structure KeyRow (w : World) (v : Value) (L : List KV) : Prop where
  ex : ∃ A c, v = .slice A L.length c ∧ L.length ≤ c ∧ c ≤ 9223372036854775807 ∧ (0 < L.length → ∃ g, A = some ⟨g, 0, none⟩ ∧ g < w.heap.size ∧ ∀ (i : Nat) (z : KV), L[i]? = some z → w.rangeAt g (i * 32) (bytesV z.1))
  len : ∀ z ∈ L, z.1.length = 32
theorem KeyRow.of_own {w : World} {base : Nat} {v : Value} {L : List KV} (h : w.ownsRow base 32 32 v L.length (keysV L)) (h32 : ∀ z ∈ L, z.1.length = 32) : KeyRow w v L := by
  refine ⟨?_, h32⟩
  obtain ⟨A, c, rfl, h1, h2, _, h3⟩ := own_slice h
  refine ⟨A, c, rfl, h1, h2, fun hn => ?_⟩
  obtain ⟨g, c2, hv, hb, hg, _, _, hc⟩ := own_at h hn
  injection hv with e1 _ _
  exact ⟨g, e1, hg, fun i z hz j u hj => hc _ u (keysV_at h32 i z hz j u hj)⟩
theorem KeyRow.still {w w' : World} {v : Value} {L : List KV} (h : KeyRow w v L) (s : Still w w') : KeyRow w' v L := by
  obtain ⟨⟨A, c, rfl, h1, h2, h3⟩, h32⟩ := h
  refine ⟨⟨A, c, rfl, h1, h2, fun hn => ?_⟩, h32⟩
  obtain ⟨g, e, hg, hc⟩ := h3 hn
  exact ⟨g, e, Nat.lt_of_lt_of_le hg s.size, fun i z hz j u hj => (s.cell (p := ⟨g, i * 32 + j, none⟩) hg).trans (hc i z hz j u hj)⟩
set_option maxRecDepth 100000 in
set_option maxHeartbeats 3200000 in
/-- Two rows of the same keys. -/
theorem sameKeys_yes {w : World} {v v' : Value} {L L' : List KV} (h : KeyRow w v L) (h' : KeyRow w v' L') (he : L.map (·.1) = L'.map (·.1)) (hl : L.length ≤ 1048576) :
    Calls Try.prog 28 #[v, v'] w fun e w' => e = .returned (.bool true) ∧ Still w w' := by
  have hlen : L.length = L'.length := by have := congrArg List.length he; simpa using this
  have h1 := h.ex
  have h2 := h'.ex
  have KL := Lib.hid h.len
  obtain ⟨A, c, rfl, hc, hcm, hr⟩ := h1
  obtain ⟨A', c', rfl, hc', hcm', hr'⟩ := h2
  rw [← hlen] at hc' hr' ⊢
  obtain ⟨n, hn⟩ : ∃ n, n = L.length := ⟨_, rfl⟩
  rw [← hn] at hc hc' hr hr' hl ⊢
  have RR := Lib.hid (fun (j : Nat) (hj : j < n) => show ∃ K g g', K.length = 32 ∧ A = some ⟨g, 0, none⟩ ∧ A' = some ⟨g', 0, none⟩ ∧ (∀ W, Still w W → W.rangeAt g (j * 32) (bytesV K)) ∧ (∀ W, Still w W → W.rangeAt g' (j * 32) (bytesV K)) from by
    obtain ⟨g, e1, hg, hc1⟩ := hr (by omega)
    obtain ⟨g', e2, hg', hc2⟩ := hr' (by omega)
    have hz : L[j]? = some L[j] := List.getElem?_eq_getElem (by omega)
    have hz' : L'[j]? = some L'[j] := List.getElem?_eq_getElem (by omega)
    have hk : L[j].1 = L'[j].1 := by
      have := congrArg (fun l => l[j]?) he
      simp only [List.getElem?_map, hz, hz', Option.map_some, Option.some.injEq] at this
      exact this
    refine ⟨L[j].1, g, g', KL.out _ (List.getElem_mem _), e1, e2, fun W s q u hq => (s.cell (p := ⟨g, j * 32 + q, none⟩) hg).trans (hc1 j _ hz q u hq), fun W s q u hq => (s.cell (p := ⟨g', j * 32 + q, none⟩) hg').trans (hc2 j _ hz' q u (by rw [← hk]; exact hq))⟩)
  have d4 : (n : Int) ≤ 1048576 := by omega
  have d5 : (n : Int) ≤ (c : Int) := by omega
  have d6 : (n : Int) ≤ (c' : Int) := by omega
  clear h h' he hlen hr hr' hn hl hc hc' hcm hcm'
  go_enter Try.func28, Try.ntmps28
  go_wp2_with fail
  go_loopw [5] (fun iv wr => ∃ j : Nat, j ≤ n ∧ iv = .int .i64 j ∧ Hid (Still w wr)) (fun iv _ => n - (intOf iv).toNat)
  case atStart => exact ⟨0, by omega, rfl, Lib.hid (Still.refl _)⟩
  case round =>
    obtain ⟨j, hj, rfl, SW⟩ := hrel
    by_cases hlt : j < n
    · obtain ⟨K, g, g', hK, rfl, rfl, r1, r2⟩ := RR.out j hlt
      have R1 := Lib.hid (fun W (hW : ∃ q : StillBy w, W = q.W) => show W.rangeAt g (j * 32) (bytesV K) from by obtain ⟨q, rfl⟩ := hW; exact r1 _ q.still)
      have R2 := Lib.hid (fun W (hW : ∃ q : StillBy w, W = q.W) => show W.rangeAt g' (j * 32) (bytesV K) from by obtain ⟨q, rfl⟩ := hW; exact r2 _ q.still)
      have H32 := Lib.hid (show (Try.prog.info? 32).map (·.size) = some (bytesV K).length from by rw [size32, bytesV_length, hK])
      have ne := fun W => neq_ids W K K hK hK
      rw [show (!decide (K = K)) = false by simp] at ne
      obtain ⟨kv, hkv⟩ : ∃ kv, kv = (bytesV K).toArray := ⟨_, rfl⟩
      have HKV := Lib.hid hkv
      rw [← hkv] at ne
      have d1 : (j : Int) < (n : Int) := by omega
      clear r1 r2 hK hkv hlt
      go_upto_region 6 with fail
      refine wp_region_quiet_still w SW.out (by kernel_rfl) (by kernel_rfl) ?_
      repeat (first
        | (guard_target =~ wpQuiet _ _ _ _ (Oper.mk (some 20) _ _ _ _ _ :: _) _; go_must (refine quiet_load_mid (by kernel_rfl) 32 (.tmp 19) rfl g (j * 32) (by kernel_rfl) (bytesV K) _ R1.out under32 rfl H32.out ?_); rw [← HKV.out])
        | (guard_target =~ wpQuiet _ _ _ _ (Oper.mk (some 24) _ _ _ _ _ :: _) _; go_must (refine quiet_load_mid (by kernel_rfl) 32 (.tmp 23) rfl g' (j * 32) (by kernel_rfl) (bytesV K) _ R2.out under32 rfl H32.out ?_); rw [← HKV.out])
        | quiet_step (fail))
      refine wpQuiet_nil ?_
      intro wq hw'
      have SQ := Lib.hid (show Still w wq from by obtain ⟨p, rfl⟩ := hw'; exact p.still)
      clear hw' ne
      go_wp2_with fail
      go_roundw
      case rel => exact ⟨j + 1, by omega, by go_num, SQ⟩
      case measure => simp [intOf]; omega
    · have hjn : j = n := by omega
      subst hjn
      clear hlt
      go_wp2_with fail
      go_ret
      exact ⟨rfl, SW.out⟩
end Go.Proofs.Ythkgnkcedoigiaa
