/- Contract: what All goes through. It proves no statement. -/
import Derived.Test.YtlebancjgjcfjaaTbTaken
import Derived.Test.YtlebancjgjcfjaaTbPut
import Derived.Test.YtlebancjgjcfjaaTbIn
namespace Go.Proofs.Ytlebancjgjcfjaa
open Go.RowKit Go.Shelf
set_option linter.unusedVariables false
set_option linter.unusedSimpArgs false
attribute [local go_sem] Oper.semAt_some

theorem all_any (w : World) (g : Nat) : Calls Try.prog 21 #[.pointer (some ⟨g, 0, none⟩)] w fun e w' => e = .returned (.func (.func 36) #[] #[.pointer (some ⟨w.heap.size, 0, none⟩)]) ∧ w' = w.alloc (.cells #[.pointer (some ⟨g, 0, none⟩)] 23) := by
  go_enter Try.func21, Try.ntmps21
  go_wp2
  go_ret
  exact ⟨rfl, rfl⟩
/-- The i-th key, the i-th value. -/
def keyAt (L : List KV) (i : Nat) : List UInt8 := (L.getD i ([], [])).1
def valAt (L : List KV) (i : Nat) : Int := ((L.getD i ([], [])).2).getD 0 0
abbrev Ixs (n : Nat) := { i : Nat // i < n }
def encX (L : List KV) (x : Ixs L.length) : Array Value := #[.agg (bytesV (keyAt L x.1)).toArray, .int .i64 (valAt L x.1)]
def PreX {n : Nat} (pre : List (Ixs n)) : Prop := pre.map Subtype.val = List.range pre.length
theorem Tb.each {w : World} {g b cp dd : Nat} {L : List KV} (h : Tb w g b L cp dd) : ∀ z ∈ L, z.1.length = 32 ∧ z.2.length = 1 := by
  obtain ⟨⟨c, S, t, a, _⟩, _⟩ := h
  intro z hz
  obtain ⟨p, hp⟩ := mem_fulls.1 ((a.mem z).2 hz)
  exact t.inv.slOK hp
theorem at_full {L : List KV} (hL : ∀ z ∈ L, z.1.length = 32 ∧ z.2.length = 1) {i : Nat} (hi : i < L.length) : L[i]? = some (keyAt L i, [valAt L i]) ∧ (keyAt L i).length = 32 := by
  have e : L[i]? = some L[i] := List.getElem?_eq_getElem hi
  obtain ⟨h1, h2⟩ := hL _ (List.getElem_mem hi)
  have e3 : L.getD i ([], []) = L[i] := by simp [List.getD, hi]
  unfold keyAt valAt
  rw [e3]
  refine ⟨?_, h1⟩
  rw [e]
  congr 1
  generalize L[i] = z at h1 h2 ⊢
  obtain ⟨k, v⟩ := z
  obtain ⟨x, rfl⟩ : ∃ x, v = [x] := by
    match v, h2 with
    | [x], _ => exact ⟨x, rfl⟩
  rfl
theorem slotsOK {L : List KV} (hL : ∀ z ∈ L, z.1.length = 32 ∧ z.2.length = 1) : ∀ (i : Nat) (s : Sl), (fullsL L)[i]? = some s → SlOK 1 s := by
  intro i s hs
  unfold fullsL at hs
  rw [List.getElem?_map] at hs
  cases hz : L[i]? with
  | none => rw [hz] at hs; cases hs
  | some z =>
    rw [hz] at hs
    obtain rfl : Sl.full z.1 z.2 = s := Option.some.inj hs
    exact hL z (List.mem_of_getElem? hz)
/-- Slots of one's own: the row's block, and the i-th slot in it. -/
theorem slots_block {w : World} {base : Nat} {v : Value} {L : List KV} (hL : ∀ z ∈ L, z.1.length = 32 ∧ z.2.length = 1) (h : w.ownsRow base 82 34 v L.length (slotsV (fullsL L))) :
    ∃ A c, v = .slice A L.length c ∧ L.length ≤ c ∧ (0 < L.length → ∃ gt cur, A = some ⟨gt, 0, none⟩ ∧ base ≤ gt ∧ Blk w gt 82 cur ∧ ∀ W, Blk W gt 82 cur → ∀ i, i < L.length → W.rangeAt gt (i * 34) (slL 1 (.full (keyAt L i) [valAt L i]))) := by
  rcases h.2 with ⟨rfl, h0⟩ | ⟨gt, cap, cur, rfl, hb, hg, hnc, hm, hcs, ht⟩
  · exact ⟨none, 0, by rw [h0], by omega, fun h => by omega⟩
  · refine ⟨_, cap, rfl, hnc, fun _ => ⟨gt, cur, rfl, hb, hg, ?_⟩⟩
    intro W hW i hi j u hu
    have e : (fullsL L)[i]? = some (.full (keyAt L i) [valAt L i]) := by unfold fullsL; rw [List.getElem?_map, (at_full hL hi).1]; rfl
    have h1 := slotsV_at (slotsOK hL) i _ e j u hu
    rw [← ht, List.getElem?_take] at h1
    rw [hW.cell]
    split at h1
    · simpa using h1
    · cases h1
theorem zeroSlot : (Try.prog.info? 82).map (fun i => (i.zero, i.size)) = some (some (.agg (slL 1 .empty).toArray), 34) := by kernel_rfl
theorem sizeSlot' : (Try.prog.info? 82).map (·.size) = some 34 := by kernel_rfl
theorem underSlot : ∃ fs, Try.prog.underlying 82 = some (.struct fs) := ⟨_, Try.underlying82⟩
theorem preX_snoc {n k : Nat} {pre : List (Ixs n)} (h : pre.map Subtype.val = List.range k) (hk : k < n) : (pre ++ [(⟨k, hk⟩ : Ixs n)]).map Subtype.val = List.range (k + 1) := by
  rw [List.map_append, h, List.range_succ]; rfl
theorem preX_len {n k : Nat} {pre : List (Ixs n)} (h : pre.map Subtype.val = List.range k) : pre.length = k := by
  have := congrArg List.length h
  simpa using this
set_option maxRecDepth 100000 in
set_option maxHeartbeats 6400000 in
theorem all_stops (n : Nat) (hn : 1 ≤ n) (B g b : Nat) {L : List KV} {cp dd : Nat} (Sx : Nat → Prop) (w : World) (hB : Blk w B 23 #[.pointer (some ⟨g, 0, none⟩)]) (t : Tb w g b L cp dd) (hl : L.length ≤ 65536) (hS : ∀ k, Sx k → k < w.heap.size) :
    SeqStopsK Fence.wide n Try.prog 36 #[.pointer (some ⟨B, 0, none⟩)] (encX L) (Kc Sx) (fun ys => ys.map Subtype.val = List.range L.length) (fun pre => pre.map Subtype.val = List.range pre.length) L.length w := by
  intro l J Jx W hW hJ hJx hY h0
  have hL := t.each
  have cB := (hB.still hW).cell 0
  simp only [List.getElem?_toArray, List.getElem?_cons_zero] at cB
  have TK := Lib.hid (taken_any (t.still hW) hl)
  have SB := Lib.hid (fun (w1 : World) (v : Value) (o : w1.ownsRow W.heap.size 82 34 v L.length (slotsV (fullsL L))) => slots_block hL o)
  have AT := Lib.hid (fun i (hi : i < L.length) => (at_full hL hi).2)
  have HS := Lib.hid (fun k (h : W.heap.size ≤ k) => show ¬ Sx k from fun e => by have h1 := hS k e; have h2 := hW.size; omega)
  have HJ := Lib.hid (fun pre W1 W2 (hj : J pre W1) (s : Still W1 W2) => show J pre W2 from hJ pre W1 W2 none hj (grown_none s) (fun r e => by cases e))
  have HY := Lib.hid hY
  obtain ⟨fs, hu⟩ := underSlot
  have US := Lib.hid hu
  have H0 := Lib.hid h0
  have HL := Lib.hid hl
  have HW := Lib.hid hW
  clear hL hB t hS hJ hJx hY hu h0 hl hW
  refine callsIn_of_wp Try.func36 rfl trivial ?_ rfl
  simp only [Try.ntmps36, List.size_toArray, List.length_cons, List.length_nil, Nat.reduceAdd, Nat.reduceSub, Array.replicate_succ, Array.replicate_zero, List.push_toArray, List.append_toArray, List.nil_append, List.cons_append]
  gi_wp2_with (refine ⟨trivial, ?_⟩; gi_at_call 37; refine (callsIn_wide.2 TK.out).mono ?_; rintro e w1 ⟨v, rfl, own1, s1⟩; obtain ⟨A, c, rfl, hc, hrow⟩ := SB.out _ _ own1; have S1 := Lib.hid s1; have RW := Lib.hid hrow; have HC := Lib.hid hc; clear own1 s1 hrow hc)
  have J1 := Lib.hid (HJ.out [] _ _ H0.out S1.out)
  have d4 : (L.length : Int) ≤ 65536 := by have := HL.out; omega
  have d5 : (L.length : Int) ≤ (c : Int) := by have := HC.out; omega
  clear cB TK SB
  gi_loopw [8] (fun iv wr => ∃ k : Nat, k ≤ L.length ∧ iv = .int .i64 k ∧ Hid (∃ pre : List (Ixs L.length), pre.map Subtype.val = List.range k ∧ J pre wr ∧ (0 < L.length → ∃ gt cur, A = some ⟨gt, 0, none⟩ ∧ W.heap.size ≤ gt ∧ Blk wr gt 82 cur ∧ ∀ W, Blk W gt 82 cur → ∀ i, i < L.length → W.rangeAt gt (i * 34) (slL 1 (.full (keyAt L i) [valAt L i]))))) (fun iv _ => L.length - (intOf iv).toNat)
  case atStart => exact ⟨0, Nat.zero_le _, rfl, Lib.hid ⟨[], rfl, J1.out, RW.out⟩⟩
  case round =>
    obtain ⟨k, hk, rfl, KW⟩ := hrel
    clear J1 RW
    by_cases hlt : k < L.length
    · have hkL : k < L.length := hlt
      obtain ⟨pre, hp, hj, hrow⟩ := KW.out
      obtain ⟨gt, cur, rfl, hbg, hblk, hat⟩ := hrow (by omega)
      have d1 : (k : Int) < (L.length : Int) := by omega
      have RNG := Lib.hid (hat wr hblk k hkL)
      have KL := AT.out k hkL
      obtain ⟨key, hkey⟩ : ∃ key, key = keyAt L k := ⟨_, rfl⟩
      obtain ⟨vx, hvx⟩ : ∃ vx, vx = valAt L k := ⟨_, rfl⟩
      rw [← hkey, ← hvx] at RNG
      rw [← hkey] at KL
      have ok : SlOK 1 (.full key [vx]) := ⟨KL, rfl⟩
      have SL := Lib.hid (slL_len ok)
      have ONE := Lib.hid (show (slL 1 (.full key [vx])).toArray.all (·.oneCell') = true from all_oneCell_toArray (fun v hv => slL_one _ _ v hv))
      obtain ⟨sl, hsl⟩ : ∃ sl, sl = (slL 1 (.full key [vx])).toArray := ⟨_, rfl⟩
      have SLE := Lib.hid hsl
      obtain ⟨gs, hgs⟩ : ∃ gs, gs = wr.heap.size := ⟨_, rfl⟩
      have GS := Lib.hid hgs
      obtain ⟨wC, hwC⟩ : ∃ wC, wC = (wr.alloc (.cells (slL 1 .empty).toArray 82)).setRow gs sl := ⟨_, rfl⟩
      have HWC := Lib.hid hwC
      have SC : Still wr wC := by rw [hwC, hgs]; exact below_setRow ((Still.refl wr).alloc (Nat.le_refl _) _) (Nat.le_refl _) _
      have BC : Blk wC gs 82 sl := by rw [hwC, hgs]; exact setRow_heap _ _ _ _ _ _ (heap_alloc_new wr _)
      have JC := HJ.out pre _ _ hj SC
      obtain ⟨fn, tmps, assign, body, hy, hR⟩ := HY.out pre ⟨k, hkL⟩ wC JC (by rw [preX_len hp]; exact hkL)
      unfold encX at hy
      simp only [← hkey, ← hvx] at hy
      have NX := Lib.hid (fun W3 (j3 : J (pre ++ [⟨k, hkL⟩]) W3) (k3 : Kc Sx wC W3) => show ∃ pre : List (Ixs L.length), pre.map Subtype.val = List.range (k + 1) ∧ J pre W3 ∧ (0 < L.length → ∃ gt' cur, some (⟨gt, 0, none⟩ : Addr) = some ⟨gt', 0, none⟩ ∧ W.heap.size ≤ gt' ∧ Blk W3 gt' 82 cur ∧ ∀ W, Blk W gt' 82 cur → ∀ i, i < L.length → W.rangeAt gt' (i * 34) (slL 1 (.full (keyAt L i) [valAt L i]))) from
        ⟨_, preX_snoc hp hkL, j3, fun _ => ⟨gt, cur, rfl, hbg, k3.blk (hblk.still SC) (HS.out gt hbg), hat⟩⟩)
      have EX := Lib.hid (fun W3 (j3 : Jx (pre ++ [⟨k, hkL⟩]) W3) => show ∃ pre : List (Ixs L.length), pre.map Subtype.val = List.range pre.length ∧ Jx pre W3 from
        ⟨_, by rw [preX_snoc hp hkL, List.length_append, preX_len hp]; rfl, j3⟩)
      have RK := Lib.hid (show wC.rangeAt gs 1 (bytesV key) from fun q u hq => by
        rw [BC.cell, hsl, List.getElem?_toArray]
        exact slL_key (m := 1) (s := .full key [vx]) hq)
      have v33 : wC.cell? ⟨gs, 33, none⟩ = some (.int .i64 vx) := by
        rw [BC.cell, hsl, List.getElem?_toArray]
        exact slL_val (m := 1) (s := .full key [vx]) (j := 0) ok rfl
      have H32 := Lib.hid (show (Try.prog.info? 43).map (·.size) = some (bytesV key).length from by rw [size32, bytesV_length, KL])
      obtain ⟨kv, hkv⟩ : ∃ kv, kv = (bytesV key).toArray := ⟨_, rfl⟩
      rw [← hkv] at hy
      have KV := Lib.hid hkv
      have HLT := Lib.hid hlt
      have HRR := Lib.hid hR
      clear KW hj hrow hbg hblk hat hkey hvx hsl hgs hwC SC BC JC KL ok hkv hlt hR HJ HY HS AT
      gi_wp2_with (first
        | (guard_target =~ wpListIn _ _ _ _ _ (Oper.mk (some 11) _ _ _ _ _ :: _) _ _; refine inList_load_mid (by rfl) 82 (.tmp 10) rfl gt (k * 34) rfl (slL 1 (.full key [vx])) _ RNG.out US.out rfl (by rw [sizeSlot', SL.out]) ?_; rw [← SLE.out])
        | (guard_target =~ wpListIn _ _ _ _ _ (Oper.mk (some 4) _ _ _ _ _ :: _) _ _; refine inList_alloc_arr (by rfl) 82 rfl (some 4) rfl (slL 1 .empty).toArray 34 zeroSlot ?_; rw [← GS.out])
        | (guard_target =~ wpListIn _ _ _ _ _ (Oper.mk none (Op.store _ _ _) _ _ _ _ :: _) _ _; refine inList_store_row (by rfl) 82 (.tmp 4) (.tmp 11) rfl gs sl rfl rfl 82 (slL 1 .empty).toArray (by rw [GS.out]; exact heap_alloc_new wr _) (by rw [sizeSlot', SLE.out, List.size_toArray, SL.out]) (by rw [SLE.out, List.size_toArray, List.size_toArray, SL.out]; exact slL_len (SlOK.empty 1)) (by rw [SLE.out]; exact ONE.out) ?_; rw [← HWC.out])
        | (guard_target =~ wpListIn _ _ _ _ _ (Oper.mk (some 14) _ _ _ _ _ :: _) _ _; refine inList_load_mid (by rfl) 43 (.tmp 13) rfl gs 1 rfl (bytesV key) _ RK.out under32 rfl H32.out ?_; rw [← KV.out]))
      refine HRR.out.mono ?_
      rintro e W3 (⟨rfl, hJ3, hk3⟩ | ⟨rfl, hJx3⟩)
      · have N3 := Lib.hid (NX.out W3 hJ3 hk3)
        clear hJ3 hk3 v33 hy
        gi_wp2
        go_roundw
        case rel => exact ⟨k + 1, HLT.out, by go_num, N3⟩
        case measure => simp [intOf]; have := HLT.out; omega
      · have E3 := Lib.hid (EX.out W3 hJx3)
        clear hJx3 v33 hy
        gi_wp2
        refine bodyPost_ret (results_none rfl _ _ _) rfl ?_
        exact ⟨⟨_, rfl⟩, .inr E3.out⟩
    · have kN : k = L.length := by omega
      obtain ⟨pre, hp, hj, _⟩ := KW.out
      have d1 : ¬ (k : Int) < (L.length : Int) := by omega
      have FIN := Lib.hid (show ∃ xs : List (Ixs L.length), xs.map Subtype.val = List.range L.length ∧ J xs wr from ⟨pre, by rw [hp, kN], hj⟩)
      clear KW hp hj kN
      gi_wp2
      go_end0
      exact ⟨⟨_, rfl⟩, .inl FIN.out⟩
end Go.Proofs.Ytlebancjgjcfjaa
