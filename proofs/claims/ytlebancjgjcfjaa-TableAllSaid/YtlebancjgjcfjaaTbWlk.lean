/- Contract: the law's walk over all. It proves no statement. -/
import Derived.Test.YtlebancjgjcfjaaTbAll
import Derived.Test.YtlebancjgjcfjaaTbOrd
namespace Go.Proofs.Ytlebancjgjcfjaa
open Go.RowKit Go.Shelf
set_option linter.unusedVariables false
set_option linter.unusedSimpArgs false
attribute [local go_sem] Oper.semAt_some

theorem built_Z : Try.prog.built 43 [] = some (bytesV (List.replicate 32 0)).toArray := by kernel_rfl
theorem zeroKey : (Try.prog.info? 43).map (fun i => (i.zero, i.size)) = some (some (.agg (bytesV (List.replicate 32 0)).toArray), 32) := by kernel_rfl
theorem Blk.row {W W' : World} {row : Option Nat} {b : Nat} {t : TypeId} {cs : Array Value} (h : Blk W b t cs) (hg : W.grownBy W' row) (hr : ∀ r, row = some r → ∃ o : Obj, W.heap[r]? = some o ∧ o.isCells = false) : Blk W' b t cs := by
  refine (hg.block b h.lt (fun e => ?_)).trans h
  obtain ⟨o, ho, hc⟩ := hr b e.symm
  rw [show W.heap[b]? = _ from h] at ho
  cases ho
  cases hc
theorem grownBy_setRow' (W : World) (b : Nat) (cs : Array Value) : W.grownBy (W.setRow b cs) (some b) :=
  ⟨rfl, rfl, rfl, by simp [World.setRow], fun k _ hk => setRow_other _ _ _ _ (fun e => hk (by rw [e]))⟩
/-- The boxes of the walk. -/
structure WkB (w W : World) (g : Nat) (stop : Int) (b2 b3 b6 b7 b8 : Nat) (n : Nat) (lk : List UInt8) (gd : Bool) : Prop where
  i2 : Blk W b2 23 #[.pointer (some ⟨g, 0, none⟩)]
  i3 : Blk W b3 3 #[.int .i64 stop]
  i6 : Blk W b6 3 #[.int .i64 (n : Int)]
  i7 : Blk W b7 43 (bytesV lk).toArray
  i8 : Blk W b8 4 #[.bool gd]
  len : lk.length = 32
  bel : Still w W
  ord : w.heap.size ≤ b2 ∧ b2 < b3 ∧ b3 < b6 ∧ b6 < b7 ∧ b7 < b8
section
variable {w W W' : World} {g n : Nat} {stop : Int} {b2 b3 b6 b7 b8 : Nat} {lk : List UInt8} {gd : Bool}
theorem WkB.still (h : WkB w W g stop b2 b3 b6 b7 b8 n lk gd) (s : Still W W') : WkB w W' g stop b2 b3 b6 b7 b8 n lk gd := ⟨h.i2.still s, h.i3.still s, h.i6.still s, h.i7.still s, h.i8.still s, h.len, Still.trans h.bel s, h.ord⟩
theorem WkB.row {row : Option Nat} {B : Nat} (h : WkB w W g stop b2 b3 b6 b7 b8 n lk gd) (hB : w.heap.size ≤ B) (hg : W.grownBy W' row) (hr : ∀ r, row = some r → B ≤ r ∧ ∃ o : Obj, W.heap[r]? = some o ∧ o.isCells = false) : WkB w W' g stop b2 b3 b6 b7 b8 n lk gd := by
  have hr' := fun r e => (hr r e).2
  exact ⟨h.i2.row hg hr', h.i3.row hg hr', h.i6.row hg hr', h.i7.row hg hr', h.i8.row hg hr', h.len, h.bel.grown hg h.bel.size (fun k e => Nat.le_trans hB (hr k e).1), h.ord⟩
theorem Blk.oth {t : TypeId} {cs : Array Value} {b c : Nat} {W W' : World} (h : Blk W b t cs) (hg : W.grownBy W' (some c)) (hne : b ≠ c) : Blk W' b t cs := (hg.block b h.lt (fun e => hne (Option.some.inj e))).trans h
theorem WkB.bad (h : WkB w W g stop b2 b3 b6 b7 b8 n lk gd) : WkB w (W.setCell ⟨b8, 0, none⟩ (.bool false)) g stop b2 b3 b6 b7 b8 n lk false := by
  obtain ⟨o1, o2, o3, o4, o5⟩ := h.ord
  have hg := grownBy_setCell' W b8 (.bool false)
  exact ⟨h.i2.oth hg (by omega), h.i3.oth hg (by omega), h.i6.oth hg (by omega), h.i7.oth hg (by omega), h.i8.setc 0 _, h.len, h.bel.grown hg h.bel.size (fun k e => by cases e; omega), h.ord⟩
theorem WkB.key (h : WkB w W g stop b2 b3 b6 b7 b8 n lk gd) {k : List UInt8} (hk : k.length = 32) : WkB w (W.setRow b7 (bytesV k).toArray) g stop b2 b3 b6 b7 b8 n k gd := by
  obtain ⟨o1, o2, o3, o4, o5⟩ := h.ord
  have hg := grownBy_setRow' W b7 (bytesV k).toArray
  exact ⟨h.i2.oth hg (by omega), h.i3.oth hg (by omega), h.i6.oth hg (by omega), setRow_heap _ _ _ _ _ _ h.i7, h.i8.oth hg (by omega), hk, h.bel.grown hg h.bel.size (fun k e => by cases e; omega), h.ord⟩
theorem WkB.num (h : WkB w W g stop b2 b3 b6 b7 b8 n lk gd) : WkB w (W.setCell ⟨b6, 0, none⟩ (.int .i64 ((n + 1 : Nat) : Int))) g stop b2 b3 b6 b7 b8 (n + 1) lk gd := by
  obtain ⟨o1, o2, o3, o4, o5⟩ := h.ord
  have hg := grownBy_setCell' W b6 (.int .i64 ((n + 1 : Nat) : Int))
  exact ⟨h.i2.oth hg (by omega), h.i3.oth hg (by omega), h.i6.setc 0 _, h.i7.oth hg (by omega), h.i8.oth hg (by omega), h.len, h.bel.grown hg h.bel.size (fun k e => by cases e; omega), h.ord⟩
end
/-- What holds between two rounds. -/
def WkI (L : List KV) (w : World) (g : Nat) (stop : Int) (b2 b3 b6 b7 b8 : Nat) (pre : List (Ixs L.length)) (W : World) : Prop :=
  ∃ lk gd, WkB w W g stop b2 b3 b6 b7 b8 pre.length lk gd ∧ (PreX pre → gd = true ∧ (0 < pre.length → lk = keyAt L (pre.length - 1)))
theorem WkI.own {L : List KV} {w : World} {g : Nat} {stop : Int} {b2 b3 b6 b7 b8 B : Nat} (hB : w.heap.size ≤ B) : OwnFrom B (WkI L w g stop b2 b3 b6 b7 b8) := by
  rintro s W W' row ⟨lk, gd, h, c⟩ hg hr
  exact ⟨lk, gd, h.row hB hg hr, c⟩
theorem PreX.front {n : Nat} {pre : List (Ixs n)} {x : Ixs n} (h : PreX (pre ++ [x])) : PreX pre ∧ x.1 = pre.length := by
  unfold PreX at h ⊢
  rw [List.map_append, List.length_append, List.length_singleton, List.range_succ] at h
  obtain ⟨h1, h2⟩ := List.append_inj' h rfl
  exact ⟨h1, by simpa using h2⟩
theorem rise_at {L : List KV} (h : Rise L) {i : Nat} (hi : i + 1 < L.length) (hL : ∀ z ∈ L, z.1.length = 32 ∧ z.2.length = 1) : ltK (keyAt L i) (keyAt L (i + 1)) = true := by
  have h1 := (at_full hL (show i < L.length by omega)).1
  have h2 := (at_full hL hi).1
  have e1 : L[i]'(by omega) = (keyAt L i, [valAt L i]) := by
    have := List.getElem?_eq_getElem (show i < L.length by omega)
    rw [this] at h1; exact Option.some.inj h1
  have e2 : L[i + 1]'hi = (keyAt L (i + 1), [valAt L (i + 1)]) := by
    have := List.getElem?_eq_getElem hi
    rw [this] at h2; exact Option.some.inj h2
  have := List.pairwise_iff_getElem.1 h i (i + 1) (by omega) hi (by omega)
  rw [e1, e2] at this
  exact this
set_option maxRecDepth 100000 in
set_option maxHeartbeats 6400000 in
theorem walk_any {w : World} {g b cp dd : Nat} {L : List KV} (t : Tb w g b L cp dd) (hl : L.length ≤ 65536) (stop : Int) (hs : -9223372036854775808 ≤ stop ∧ stop ≤ 9223372036854775807) :
    Calls Try.prog 6 #[.pointer (some ⟨g, 0, none⟩), .int .i64 stop] w fun e w' => ∃ m : Nat, e = .returned (.tuple #[.bool true, .int .i64 (m : Int)]) ∧ (m = L.length ∨ ((m : Int) = stop ∧ 1 ≤ m)) ∧ Still w w' := by
  have AL := Lib.hid (fun W => all_any W g)
  have BZ := Lib.hid built_Z
  have ZK := Lib.hid zeroKey
  obtain ⟨zk, hzk⟩ : ∃ zk, zk = (bytesV (List.replicate 32 0)).toArray := ⟨_, rfl⟩
  rw [← hzk] at BZ ZK
  have HZK := Lib.hid hzk
  have ZS := Lib.hid (show zk.size = 32 by rw [hzk]; simp [bytesV_length])
  have ZO := Lib.hid (show zk.all (·.oneCell') = true from by rw [hzk]; exact all_oneCell_toArray (bytesV_one _))
  clear hzk
  -- the boxes
  obtain ⟨w7, h7⟩ : ∃ w7, w7 = ((((w.alloc (.cells #[.pointer (some ⟨g, 0, none⟩)] 23)).alloc (.cells #[.int .i64 stop] 3)).alloc (.cells #[.int .i64 0] 3)).alloc (.cells zk 43)).setRow (w.heap.size + 1 + 1 + 1) zk := ⟨_, rfl⟩
  have B2 := Blk.new w 23 #[.pointer (some ⟨g, 0, none⟩)]
  have B3 := Blk.new (w.alloc (.cells #[.pointer (some ⟨g, 0, none⟩)] 23)) 3 #[.int .i64 stop]
  have B6 := Blk.new ((w.alloc (.cells #[.pointer (some ⟨g, 0, none⟩)] 23)).alloc (.cells #[.int .i64 stop] 3)) 3 #[.int .i64 0]
  simp only [World.size_alloc] at B3 B6
  have q3 := fun (cs : Array Value) => heap_alloc_new (((w.alloc (.cells #[.pointer (some ⟨g, 0, none⟩)] 23)).alloc (.cells #[.int .i64 stop] 3)).alloc (.cells #[.int .i64 0] 3)) (.cells cs 43)
  simp only [World.size_alloc] at q3
  have F7 : Blk w7 w.heap.size 23 #[.pointer (some ⟨g, 0, none⟩)] ∧ Blk w7 (w.heap.size + 1) 3 #[.int .i64 stop] ∧ Blk w7 (w.heap.size + 1 + 1) 3 #[.int .i64 0] ∧ Blk w7 (w.heap.size + 1 + 1 + 1) 43 zk ∧ Still w w7 ∧ w7.heap.size = w.heap.size + 1 + 1 + 1 + 1 := by
    refine ⟨?_, ?_, ?_, ?_, ?_, ?_⟩
    · rw [h7]; exact (setRow_other _ _ _ _ (by omega)).trans (((B2.alloc _).alloc _).alloc _)
    · rw [h7]; exact (setRow_other _ _ _ _ (by omega)).trans ((B3.alloc _).alloc _)
    · rw [h7]; exact (setRow_other _ _ _ _ (by omega)).trans (B6.alloc _)
    · rw [h7]; exact setRow_heap _ _ _ _ _ _ (q3 zk)
    · rw [h7]; exact below_setRow (((((Still.refl w).alloc (Nat.le_refl _) _).alloc (by simp) _).alloc (by simp; omega) _).alloc (by simp; omega) _) (by omega) _
    · rw [h7]; simp [World.setRow]
  have HF7 := Lib.hid F7
  have H7 := Lib.hid h7
  obtain ⟨w8, h8⟩ : ∃ w8, w8 = w7.alloc (.cells #[.bool true] 4) := ⟨_, rfl⟩
  have H8 := Lib.hid h8
  have c2 : (w7.alloc (.cells #[.bool true] 4)).cell? ⟨w.heap.size, 0, none⟩ = some (.pointer (some ⟨g, 0, none⟩)) := by rw [(F7.1.alloc _).cell]; rfl
  have z8 : w8.heap.size = w7.heap.size + 1 := by rw [h8]; simp
  have F8 := Lib.hid (show Blk w8 w7.heap.size 4 #[.bool true] from by rw [h8]; exact Blk.new w7 _ _)
  have S8 := Lib.hid (show Still w7 w8 from by rw [h8]; exact (Still.refl w7).alloc (Nat.le_refl _) _)
  have Z8 := Lib.hid z8
  clear B2 B3 B6 F7 q3 h7 h8 z8
  refine (callsIn_wide (n := 9)).1 ?_
  refine callsIn_of_wp_marks Try.func6 rfl trivial ?_ rfl
  simp only [Try.ntmps6, List.size_toArray, List.length_cons, List.length_nil, Nat.reduceAdd, Nat.reduceSub, Array.replicate_succ, Array.replicate_zero, List.push_toArray, List.append_toArray, List.nil_append, List.cons_append]
  gi_wp2_with (first
    | (guard_target =~ wpListIn _ _ _ _ _ (Oper.mk (some 13) _ _ _ _ _ :: _) _ _; refine inList_build (by rfl) 43 _ rfl zk (by simp only [List.map_toArray, List.map_cons, List.map_nil]; exact BZ.out) ?_)
    | (guard_target =~ wpListIn _ _ _ _ _ (Oper.mk (some 7) _ _ _ _ _ :: _) _ _; refine inList_alloc_arr (by rfl) 43 rfl (some 7) rfl zk 32 ZK.out ?_)
    | (guard_target =~ wpListIn _ _ _ _ _ (Oper.mk none (Op.store _ (Operand.tmp 7) _) _ _ _ _ :: _) _ _; refine inList_store_row (by rfl) 43 (.tmp 7) (.tmp 13) rfl _ zk rfl rfl 43 zk (heap_alloc_new _ _) (by rw [size32, ZS.out]) rfl ZO.out ?_; simp only [World.size_alloc]; rw [← H7.out])
    | (refine ⟨trivial, ?_⟩; gi_at_call 21; refine (callsIn_wide.2 (AL.out _)).mono ?_; rintro e w' ⟨rfl, rfl⟩))
  obtain ⟨w0, h0⟩ : ∃ w0, w0 = w8.alloc (.cells #[.pointer (some ⟨g, 0, none⟩)] 23) := ⟨_, rfl⟩
  have z0 : w0.heap.size = w8.heap.size + 1 := by rw [h0]; simp
  have S0 : Still w8 w0 := by rw [h0]; exact (Still.refl w8).alloc (Nat.le_refl _) _
  have BX : Blk w0 w8.heap.size 23 #[.pointer (some ⟨g, 0, none⟩)] := by rw [h0]; exact Blk.new w8 _ _
  have hz0 : w0.heap.size = w.heap.size + 6 := by have := HF7.out.2.2.2.2.2; have := Z8.out; omega
  have DI : w.heap.size ≤ w.heap.size ∧ w.heap.size < w.heap.size + 1 ∧ w.heap.size + 1 < w.heap.size + 1 + 1 ∧ w.heap.size + 1 + 1 < w.heap.size + 1 + 1 + 1 ∧ w.heap.size + 1 + 1 + 1 < w7.heap.size := by have := HF7.out.2.2.2.2.2; omega
  have W0 : WkB w w0 g stop w.heap.size (w.heap.size + 1) (w.heap.size + 1 + 1) (w.heap.size + 1 + 1 + 1) w7.heap.size 0 (List.replicate 32 0) true := by
    obtain ⟨f1, f2, f3, f4, f5, f6⟩ := HF7.out
    have s80 := Still.trans S8.out S0
    rw [HZK.out] at f4
    exact ⟨f1.still s80, f2.still s80, f3.still s80, f4.still s80, F8.out.still S0, by simp, Still.trans f5 s80, DI⟩
  have hE := t.each
  have s0 : Still w w0 := W0.bel
  have AS := all_stops (9 - 1) (by omega) (w7.heap.size + 1) g b (fun k => k = w.heap.size + 1 + 1 ∨ k = w.heap.size + 1 + 1 + 1 ∨ k = w7.heap.size) w0 (by rw [← Z8.out]; exact BX) (t.still s0) hl (fun k e => by have := HF7.out.2.2.2.2.2; have := Z8.out; omega)
  have RS := Lib.hid t.rise
  have HEV := Lib.hid hE
  have HB6 := Lib.hid (show w.heap.size + 1 + 1 < w0.heap.size ∧ w.heap.size + 1 + 1 + 1 < w0.heap.size ∧ w7.heap.size < w0.heap.size ∧ w.heap.size ≤ w0.heap.size from by have := HF7.out.2.2.2.2.2; have := Z8.out; omega)
  have GE := Lib.hid (fun W (s : Still w W) (x : Ixs L.length) => get_yes (t.still s) (keyAt L x.1) (valAt L x.1) (at_full hE x.2).2 (by omega) (List.mem_of_getElem? (at_full hE x.2).1))
  rw [← H8.out, ← h0]
  refine wpIn_rangeFunc_ownH rfl (by omega) (gf := 36) (lb := #[.pointer (some ⟨w7.heap.size + 1, 0, none⟩)]) rfl trivial (enters_of Try.func36 (by kernel_rfl) rfl)
    AS (fun h k => Kc.trans h k) (fun W l o o' _ h ho _ => Kc.putObj W l o o' h ho) (Below.refl _ _) (fun _ => rfl)
    (WkI L w g stop w.heap.size (w.heap.size + 1) (w.heap.size + 1 + 1) (w.heap.size + 1 + 1 + 1) w7.heap.size)
    (fun c pre W => c = .exit 0 ∧ WkI L w g stop w.heap.size (w.heap.size + 1) (w.heap.size + 1 + 1) (w.heap.size + 1 + 1 + 1) w7.heap.size pre W ∧ (pre.length : Int) = stop ∧ 1 ≤ pre.length)
    (WkI.own HB6.out.2.2.2)
    (fun c s W W' row h hg hr => ⟨h.1, WkI.own HB6.out.2.2.2 s W W' row h.2.1 hg hr, h.2.2⟩)
    ⟨_, _, W0, fun _ => ⟨rfl, fun h => by simp at h⟩⟩
    (fun x a' W => ∃ Bx, w7.heap.size < Bx ∧ Blk W Bx 43 (bytesV (keyAt L x.1)).toArray ∧ a' = { tmps := #[.pointer (some ⟨g, 0, none⟩), .int .i64 stop, .pointer (some ⟨w.heap.size, 0, none⟩), .pointer (some ⟨w.heap.size + 1, 0, none⟩), .bool false, .int .i64 0, .pointer (some ⟨w.heap.size + 1 + 1, 0, none⟩), .pointer (some ⟨w.heap.size + 1 + 1 + 1, 0, none⟩), .pointer (some ⟨w7.heap.size, 0, none⟩), .pointer (some ⟨Bx, 0, none⟩), .int .i64 (valAt L x.1), undef, undef, .agg zk, .pointer (some ⟨g, 0, none⟩), .func (.func 36) #[] #[.pointer (some ⟨w7.heap.size + 1, 0, none⟩)], .agg (bytesV (keyAt L x.1)).toArray, .int .i64 (valAt L x.1), undef, undef, undef, undef, undef, undef, undef, undef, undef, undef, undef, undef, undef, undef, undef, undef, undef, undef, undef, undef, undef, undef, undef, undef, undef, undef, undef, undef, undef, undef, undef], defers := [] })
    (fun x a' u W W' row h hg hr => by obtain ⟨Bx, h1, h2, h3⟩ := h; exact ⟨Bx, h1, h2.row hg (fun r e => (hr r e).2), h3⟩)
    ?assign ?body ?done ?stop
  case assign =>
    rintro l pre x W K ⟨lk, gd, hw, hc⟩ hK
    have ko := (at_full HEV.out x.2).2
    obtain ⟨wx, hx⟩ : ∃ wx, wx = (W.alloc (.cells zk 43)).setRow W.heap.size (bytesV (keyAt L x.1)).toArray := ⟨_, rfl⟩
    have SX : Still W wx := by rw [hx]; exact below_setRow ((Still.refl W).alloc (Nat.le_refl _) _) (Nat.le_refl _) _
    have BK : Blk wx W.heap.size 43 (bytesV (keyAt L x.1)).toArray := by rw [hx]; exact setRow_heap _ _ _ _ _ _ (heap_alloc_new W _)
    have HK := Lib.hid (hK _ wx (keepsFrom_still _ SX) (Kc.of_still SX) ⟨lk, gd, hw.still SX, hc⟩ ⟨W.heap.size, hw.i8.lt, BK, rfl⟩)
    have KS := Lib.hid (show (bytesV (keyAt L x.1)).toArray.size = 32 by simp [bytesV_length, ko])
    have KO := Lib.hid (show (bytesV (keyAt L x.1)).toArray.all (·.oneCell') = true from all_oneCell_toArray (bytesV_one _))
    have HX := Lib.hid hx
    unfold encX
    generalize (bytesV (keyAt L x.1)).toArray = kv at HK KS KO HX ⊢
    generalize valAt L x.1 = vx at HK ⊢
    clear hK hw hc SX BK hx ko
    simp only [List.zip_toArray, List.zip_cons_cons, List.zip_nil_right, List.zip_nil_left, List.foldl_toArray', List.foldl_toArray, List.foldl_cons, List.foldl_nil, List.setIfInBounds_toArray, List.set_cons_succ, List.set_cons_zero]
    gi_wp2_with (first
      | (guard_target =~ wpListIn _ _ _ _ _ (Oper.mk (some 9) _ _ _ _ _ :: _) _ _; refine inList_alloc_arr (by rfl) 43 rfl (some 9) rfl zk 32 ZK.out ?_)
      | (guard_target =~ wpListIn _ _ _ _ _ (Oper.mk none (Op.store _ _ _) _ _ _ _ :: _) _ _; refine inList_store_row (by rfl) 43 (.tmp 9) (.tmp 16) rfl _ kv rfl rfl 43 zk (heap_alloc_new _ _) (by rw [size32, KS.out]) (by rw [ZS.out, KS.out]) KO.out ?_; rw [← HX.out]))
    exact HK.out
  case body =>
    rintro l pre x a' W hlo ⟨rec, hrec⟩ ⟨lk, gd, hw, hc⟩ ⟨Bx, hBx, bx, rfl⟩ hlt
    have ko := (at_full HEV.out x.2).2
    have c2 := hw.i2.cell 0
    simp only [List.getElem?_toArray, List.getElem?_cons_zero] at c2
    have GET := Lib.hid (GE.out W hw.bel x)
    have RX := Lib.hid (fun W' (s : Still W W') => show W'.rangeAt Bx 0 (bytesV (keyAt L x.1)) from fun q u hq => by rw [Nat.zero_add, (bx.still s).cell, List.getElem?_toArray, hq])
    have R7 := Lib.hid (fun W' (s : Still W W') => show W'.rangeAt (w.heap.size + 1 + 1 + 1) 0 (bytesV lk) from fun q u hq => by rw [Nat.zero_add, ((hw.i7).still s).cell, List.getElem?_toArray, hq])
    have LE := Lib.hid (fun W' => less_any lk (keyAt L x.1) W' hw.len ko)
    have H32 := Lib.hid (show (Try.prog.info? 43).map (·.size) = some (bytesV (keyAt L x.1)).length from by rw [size32, bytesV_length, ko])
    have H32' := Lib.hid (show (Try.prog.info? 43).map (·.size) = some (bytesV lk).length from by rw [size32, bytesV_length, hw.len])
    have HWB := Lib.hid hw
    have KS := Lib.hid (show (bytesV (keyAt L x.1)).toArray.size = 32 by simp [bytesV_length, ko])
    have LS := Lib.hid (show (bytesV lk).toArray.size = 32 by simp [bytesV_length, hw.len])
    have KO := Lib.hid (show (bytesV (keyAt L x.1)).toArray.all (·.oneCell') = true from all_oneCell_toArray (bytesV_one _))
    -- what the round leaves
    have FINB := Lib.hid (fun (wX : World) (gd' : Bool) (hs : KeepsFrom w0.heap.size W wX) (hk : Kc (fun k => k = w.heap.size + 1 + 1 ∨ k = w.heap.size + 1 + 1 + 1 ∨ k = w7.heap.size) W wX) (hb : WkB w wX g stop w.heap.size (w.heap.size + 1) (w.heap.size + 1 + 1) (w.heap.size + 1 + 1 + 1) w7.heap.size pre.length lk gd') (hg : PreX (pre ++ [x]) → gd' = true) =>
      show KeepsFrom w0.heap.size W ((wX.setRow (w.heap.size + 1 + 1 + 1) (bytesV (keyAt L x.1)).toArray).setCell ⟨w.heap.size + 1 + 1, 0, none⟩ (.int .i64 ((pre.length + 1 : Nat) : Int))) ∧ Kc (fun k => k = w.heap.size + 1 + 1 ∨ k = w.heap.size + 1 + 1 + 1 ∨ k = w7.heap.size) W ((wX.setRow (w.heap.size + 1 + 1 + 1) (bytesV (keyAt L x.1)).toArray).setCell ⟨w.heap.size + 1 + 1, 0, none⟩ (.int .i64 ((pre.length + 1 : Nat) : Int))) ∧ WkI L w g stop w.heap.size (w.heap.size + 1) (w.heap.size + 1 + 1) (w.heap.size + 1 + 1 + 1) w7.heap.size (pre ++ [x]) ((wX.setRow (w.heap.size + 1 + 1 + 1) (bytesV (keyAt L x.1)).toArray).setCell ⟨w.heap.size + 1 + 1, 0, none⟩ (.int .i64 ((pre.length + 1 : Nat) : Int))) from by
        obtain ⟨b6l, b7l, b8l, _⟩ := HB6.out
        have g1 := grownBy_setRow' wX (w.heap.size + 1 + 1 + 1) (bytesV (keyAt L x.1)).toArray
        have g2 := grownBy_setCell' (wX.setRow (w.heap.size + 1 + 1 + 1) (bytesV (keyAt L x.1)).toArray) (w.heap.size + 1 + 1) (.int .i64 ((pre.length + 1 : Nat) : Int))
        refine ⟨(hs.trans (KeepsFrom.of_grownBy g1 (fun j e => by cases e; omega))).trans (KeepsFrom.of_grownBy g2 (fun j e => by cases e; omega)), (hk.trans (Kc.of_grown g1 (fun k e => by cases e; exact .inr (.inl rfl)))).trans (Kc.of_grown g2 (fun k e => by cases e; exact .inl rfl)), keyAt L x.1, gd', ?_, fun hp => ⟨hg hp, fun _ => ?_⟩⟩
        · have := (hb.key ko).num
          rw [show (pre ++ [x]).length = pre.length + 1 by simp]
          exact this
        · rw [show (pre ++ [x]).length - 1 = pre.length by simp, ← hp.front.2])
    have GOOD := Lib.hid (fun (hp : PreX (pre ++ [x])) => show gd = true ∧ (0 < pre.length → ltK lk (keyAt L x.1) = true) from by
      obtain ⟨h1, h2⟩ := hp.front
      obtain ⟨h3, h4⟩ := hc h1
      refine ⟨h3, fun hpos => ?_⟩
      have h5 := rise_at RS.out (i := pre.length - 1) (by have := x.2; omega) HEV.out
      rw [h4 hpos, h2]
      rwa [show pre.length - 1 + 1 = pre.length by omega] at h5)
    have RXB := Lib.hid (fun W' (s : Still W W') => show (W'.setCell ⟨w7.heap.size, 0, none⟩ (.bool false)).rangeAt Bx 0 (bytesV (keyAt L x.1)) from fun q u hq => by rw [Nat.zero_add, ((bx.still s).oth (grownBy_setCell' W' w7.heap.size (.bool false)) (by omega)).cell, List.getElem?_toArray, hq])
    have HLT := Lib.hid hlt
    have d9 : (pre.length : Int) ≤ 65536 := by omega
    obtain ⟨n, hn⟩ : ∃ n, n = pre.length := ⟨_, rfl⟩
    have HN := Lib.hid hn
    rw [← hn] at d9 FINB HWB
    obtain ⟨kv, hkv⟩ : ∃ kv, kv = (bytesV (keyAt L x.1)).toArray := ⟨_, rfl⟩
    obtain ⟨lv, hlv⟩ : ∃ lv, lv = (bytesV lk).toArray := ⟨_, rfl⟩
    rw [← hkv] at GET LE KS KO FINB ⊢
    rw [← hlv] at LE LS
    have KV := Lib.hid hkv
    have LV := Lib.hid hlv
    obtain ⟨vx, hvx⟩ : ∃ vx, vx = valAt L x.1 := ⟨_, rfl⟩
    rw [← hvx] at GET ⊢
    obtain ⟨q, hq⟩ : ∃ q, q = ltK lk (keyAt L x.1) := ⟨_, rfl⟩
    rw [← hq] at LE GOOD
    have CE := Lib.hid (fun W' (s : Still W W') => show W'.cell? ⟨w.heap.size + 1 + 1, 0, none⟩ = some (.int .i64 (n : Int)) ∧ W'.cell? ⟨w7.heap.size, 0, none⟩ = some (.bool gd) ∧ W'.frozen? ⟨w7.heap.size, 0, none⟩ = false from by
      refine ⟨?_, ?_, (hw.i8.still s).frozen 0⟩
      · rw [(hw.i6.still s).cell, hn]; rfl
      · rw [(hw.i8.still s).cell]; rfl)
    clear hw hc bx hlt ko hkv hlv hvx hn hq
    have KO32 := Lib.hid (show (keyAt L x.1).length = 32 from (at_full HEV.out x.2).2)
    have EN := Lib.hid (fun (wX : World) (gd' : Bool) (hb : WkB w wX g stop w.heap.size (w.heap.size + 1) (w.heap.size + 1 + 1) (w.heap.size + 1 + 1 + 1) w7.heap.size n lk gd') => show Blk wX (w.heap.size + 1 + 1 + 1) 43 lv ∧ (wX.setRow (w.heap.size + 1 + 1 + 1) kv).cell? ⟨w.heap.size + 1 + 1, 0, none⟩ = some (.int .i64 (n : Int)) ∧ (wX.setRow (w.heap.size + 1 + 1 + 1) kv).frozen? ⟨w.heap.size + 1 + 1, 0, none⟩ = false ∧ (wX.setRow (w.heap.size + 1 + 1 + 1) kv).cell? ⟨w.heap.size + 1, 0, none⟩ = some (.int .i64 stop) from by
      rw [KV.out, LV.out]
      have k := hb.key KO32.out
      refine ⟨hb.i7, ?_, k.i6.frozen 0, ?_⟩
      · rw [k.i6.cell]; rfl
      · rw [k.i3.cell]; rfl)
    by_cases h0 : n = 0
    · subst h0
      simp only [Int.natCast_zero, Int.ofNat_zero] at CE
      have FX := Lib.hid (fun (wX : World) (s : Still W wX) => FINB.out wX gd (keepsFrom_still _ s) (Kc.of_still s) (HWB.out.still s) (fun hp => (GOOD.out hp).1))
      simp only [Nat.zero_add, Int.natCast_one, Int.ofNat_one] at FX
      clear GOOD FINB
      gi_wp2_with (first
        | (guard_target =~ wpListIn _ _ _ _ _ (Oper.mk (some 20) _ _ _ _ _ :: _) _ _; refine inList_load_mid (by rfl) 43 (.tmp 9) rfl Bx 0 rfl (bytesV (keyAt L x.1)) _ (RX.out _ (Still.refl _)) under32 rfl H32.out ?_; rw [← KV.out])
        | (refine ⟨trivial, ?_⟩; gi_at_call 22; refine (CallsIn.inRound l (callsIn_wide.2 GET.out)).mono ?_; rintro e w3 ⟨rfl, s3⟩; have S3 := Lib.hid s3; obtain ⟨c6, c8, f8⟩ := CE.out _ s3; clear s3)
        | (guard_target =~ wpListIn _ _ _ _ _ (Oper.mk (some 41) _ _ _ _ _ :: _) _ _; refine inList_load_mid (by rfl) 43 (.tmp 9) rfl Bx 0 rfl (bytesV (keyAt L x.1)) _ (RX.out _ S3.out) under32 rfl H32.out ?_; rw [← KV.out])
        | (guard_target =~ wpListIn _ _ _ _ _ (Oper.mk none (Op.store _ (Operand.tmp 7) _) _ _ _ _ :: _) _ _; refine inList_store_row (by rfl) 43 (.tmp 7) (.tmp 41) rfl _ kv rfl rfl 43 lv (EN.out _ _ (HWB.out.still S3.out)).1 (by rw [size32, KS.out]) (by rw [LS.out, KS.out]) KO.out ?_; obtain ⟨_, e6, g6, e3⟩ := EN.out _ _ (HWB.out.still S3.out))
        | (guard_target =~ Fence.fn _ _ ∧ _; refine ⟨trivial, ?_⟩))
      all_goals have FN := Lib.hid (FX.out _ S3.out)
      all_goals first
        | (guard_target =~ ownPostG _ _ _ _ _ _ Exit.normal _ _; exact FN.out)
        | (have hq1 : (1 : Int) = stop := by simpa using ‹(1 == stop) = true›
           exact ⟨FN.out.1, rfl, FN.out.2.2, by rw [List.length_append, List.length_singleton, ← HN.out, ← hq1]; rfl, by simp⟩)
    · have hposN : 0 < n := by omega
      have NP := Lib.hid (show 0 < pre.length from by have := HN.out; omega)
      have FX := Lib.hid (fun (wX : World) (s : Still W wX) (hq : q = true) => FINB.out wX gd (keepsFrom_still _ s) (Kc.of_still s) (HWB.out.still s) (fun hp => (GOOD.out hp).1))
      have FY := Lib.hid (fun (wX : World) (s : Still W wX) (hq : q = false) => FINB.out (wX.setCell ⟨w7.heap.size, 0, none⟩ (.bool false)) false ((keepsFrom_still _ s).trans (KeepsFrom.of_grownBy (grownBy_setCell' _ _ _) (fun j e => by cases e; exact HB6.out.2.2.1))) ((Kc.of_still s).trans (Kc.of_grown (grownBy_setCell' _ _ _) (fun k e => by cases e; exact .inr (.inr rfl)))) (HWB.out.still s).bad (fun hp => by have := (GOOD.out hp).2 NP.out; rw [hq] at this; cases this))
      have EB := Lib.hid (fun (wX : World) (s : Still W wX) => EN.out _ _ (HWB.out.still s).bad)
      simp only [Int.natCast_add, Int.natCast_one] at FX FY
      clear GOOD FINB h0
      cases q
      · clear FX
        replace FY := Lib.hid (fun wX s => FY.out wX s rfl)
        gi_wp2_with (first
          | (guard_target =~ wpListIn _ _ _ _ _ (Oper.mk (some 20) _ _ _ _ _ :: _) _ _; refine inList_load_mid (by rfl) 43 (.tmp 9) rfl Bx 0 rfl (bytesV (keyAt L x.1)) _ (RX.out _ (Still.refl _)) under32 rfl H32.out ?_; rw [← KV.out])
          | (refine ⟨trivial, ?_⟩; gi_at_call 22; refine (CallsIn.inRound l (callsIn_wide.2 GET.out)).mono ?_; rintro e w3 ⟨rfl, s3⟩; have S3 := Lib.hid s3; obtain ⟨c6, c8, f8⟩ := CE.out _ s3; clear s3)
          | (guard_target =~ wpListIn _ _ _ _ _ (Oper.mk (some 35) _ _ _ _ _ :: _) _ _; refine inList_load_mid (by simp [Region.wanted, yielded, Act.put, hposN]) 43 (.tmp 7) rfl (w.heap.size + 1 + 1 + 1) 0 rfl (bytesV lk) _ (R7.out _ S3.out) under32 rfl H32'.out ?_; rw [← LV.out])
          | (guard_target =~ wpListIn _ _ _ _ _ (Oper.mk (some 36) _ _ _ _ _ :: _) _ _; refine inList_load_mid (by simp [Region.wanted, yielded, Act.put, hposN]) 43 (.tmp 9) rfl Bx 0 rfl (bytesV (keyAt L x.1)) _ (RX.out _ S3.out) under32 rfl H32.out ?_; rw [← KV.out])
          | (refine ⟨trivial, ?_⟩; gi_at_call 23; refine (CallsIn.inRound l (callsIn_wide.2 (LE.out _))).mono ?_; rintro e w4 ⟨rfl, s4⟩; have S4 := Lib.hid (Still.trans S3.out s4); obtain ⟨d6, d8, g8⟩ := CE.out _ S4.out; clear s4)
          | (guard_target =~ wpListIn _ _ _ _ _ (Oper.mk (some 41) _ _ _ _ _ :: _) _ _; have s5 : Still W w4 := S4.out; refine inList_load_mid (by rfl) 43 (.tmp 9) rfl Bx 0 rfl (bytesV (keyAt L x.1)) _ (RXB.out _ S4.out) under32 rfl H32.out ?_; rw [← KV.out])
          | (guard_target =~ wpListIn _ _ _ _ _ (Oper.mk none (Op.store _ (Operand.tmp 7) _) _ _ _ _ :: _) _ _; refine inList_store_row (by rfl) 43 (.tmp 7) (.tmp 41) rfl _ kv rfl rfl 43 lv (EN.out _ _ (HWB.out.still S4.out).bad).1 (by rw [size32, KS.out]) (by rw [LS.out, KS.out]) KO.out ?_; obtain ⟨_, e6, g6, e3⟩ := EN.out _ _ (HWB.out.still S4.out).bad))
        all_goals have FN := Lib.hid (FY.out _ S4.out)
        all_goals first
          | (guard_target =~ ownPostG _ _ _ _ _ _ Exit.normal _ _; exact FN.out)
          | (have hq1 : (n : Int) + 1 = stop := by simpa using ‹((n : Int) + 1 == stop) = true›
             exact ⟨FN.out.1, rfl, FN.out.2.2, by rw [List.length_append, List.length_singleton, ← HN.out, ← hq1]; rfl, by simp⟩)
      · clear FY EB
        replace FX := Lib.hid (fun wX s => FX.out wX s rfl)
        gi_wp2_with (first
          | (guard_target =~ wpListIn _ _ _ _ _ (Oper.mk (some 20) _ _ _ _ _ :: _) _ _; refine inList_load_mid (by rfl) 43 (.tmp 9) rfl Bx 0 rfl (bytesV (keyAt L x.1)) _ (RX.out _ (Still.refl _)) under32 rfl H32.out ?_; rw [← KV.out])
          | (refine ⟨trivial, ?_⟩; gi_at_call 22; refine (CallsIn.inRound l (callsIn_wide.2 GET.out)).mono ?_; rintro e w3 ⟨rfl, s3⟩; have S3 := Lib.hid s3; obtain ⟨c6, c8, f8⟩ := CE.out _ s3; clear s3)
          | (guard_target =~ wpListIn _ _ _ _ _ (Oper.mk (some 35) _ _ _ _ _ :: _) _ _; refine inList_load_mid (by simp [Region.wanted, yielded, Act.put, hposN]) 43 (.tmp 7) rfl (w.heap.size + 1 + 1 + 1) 0 rfl (bytesV lk) _ (R7.out _ S3.out) under32 rfl H32'.out ?_; rw [← LV.out])
          | (guard_target =~ wpListIn _ _ _ _ _ (Oper.mk (some 36) _ _ _ _ _ :: _) _ _; refine inList_load_mid (by simp [Region.wanted, yielded, Act.put, hposN]) 43 (.tmp 9) rfl Bx 0 rfl (bytesV (keyAt L x.1)) _ (RX.out _ S3.out) under32 rfl H32.out ?_; rw [← KV.out])
          | (refine ⟨trivial, ?_⟩; gi_at_call 23; refine (CallsIn.inRound l (callsIn_wide.2 (LE.out _))).mono ?_; rintro e w4 ⟨rfl, s4⟩; have S4 := Lib.hid (Still.trans S3.out s4); obtain ⟨d6, d8, g8⟩ := CE.out _ S4.out; clear s4)
          | (guard_target =~ wpListIn _ _ _ _ _ (Oper.mk (some 41) _ _ _ _ _ :: _) _ _; refine inList_load_mid (by rfl) 43 (.tmp 9) rfl Bx 0 rfl (bytesV (keyAt L x.1)) _ (RX.out _ S4.out) under32 rfl H32.out ?_; rw [← KV.out])
          | (guard_target =~ wpListIn _ _ _ _ _ (Oper.mk none (Op.store _ (Operand.tmp 7) _) _ _ _ _ :: _) _ _; refine inList_store_row (by rfl) 43 (.tmp 7) (.tmp 41) rfl _ kv rfl rfl 43 lv (EN.out _ _ (HWB.out.still S4.out)).1 (by rw [size32, KS.out]) (by rw [LS.out, KS.out]) KO.out ?_; obtain ⟨_, e6, g6, e3⟩ := EN.out _ _ (HWB.out.still S4.out)))
        all_goals have FN := Lib.hid (FX.out _ S4.out)
        all_goals first
          | (guard_target =~ ownPostG _ _ _ _ _ _ Exit.normal _ _; exact FN.out)
          | (have hq1 : (n : Int) + 1 = stop := by simpa using ‹((n : Int) + 1 == stop) = true›
             exact ⟨FN.out.1, rfl, FN.out.2.2, by rw [List.length_append, List.length_singleton, ← HN.out, ← hq1]; rfl, by simp⟩)
  case done =>
    rintro D xs W hD hS ⟨lk, gd, hw, hc⟩ hK
    have hlen : xs.length = L.length := preX_len hS
    obtain ⟨rfl, _⟩ := hc (by unfold PreX; rw [hS, hlen])
    have c6 := hw.i6.cell 0
    have c8 := hw.i8.cell 0
    simp only [List.getElem?_toArray, List.getElem?_cons_zero] at c6 c8
    rw [hlen] at c6
    gi_wp2
    refine wpIn_wide.2 ?_
    go_quiet (fail)
    gi_wp2
    have hK2 : (W.drewN nq).heap[D]? = some (.deferred (some [])) := hK
    refine ⟨by simp, .inl ⟨_, _, rfl, run_takeDeferred hK2, ?_⟩⟩
    exact ⟨_, results_tmp2 rfl _ _ _, L.length, rfl, .inl rfl, Below.trans (still_drewN hw.bel nq) (belowK_b (w := w) (Nat.le_refl _) (W.drewN nq) D _ _ (by have := HB6.out.2.2.2; omega) hK2 rfl rfl)⟩
  case stop =>
    rintro D c pre W hD hS ⟨rfl, ⟨lk, gd, hw, hc⟩, hst, hpos⟩ hK
    obtain ⟨rfl, _⟩ := hc hS
    have c6 := hw.i6.cell 0
    have c8 := hw.i8.cell 0
    simp only [List.getElem?_toArray, List.getElem?_cons_zero] at c6 c8
    have FIN := Lib.hid (show (pre.length = L.length ∨ ((pre.length : Nat) : Int) = stop ∧ 1 ≤ pre.length) from .inr ⟨hst, hpos⟩)
    clear hst hpos hS hc
    gi_wp2
    refine wpIn_wide.2 ?_
    go_quiet (fail)
    gi_wp2
    have hK2 : (W.drewN nq).heap[D]? = some (.deferred (some [])) := hK
    refine ⟨by simp, .inl ⟨_, _, rfl, run_takeDeferred hK2, ?_⟩⟩
    exact ⟨_, results_tmp2 rfl _ _ _, _, rfl, FIN.out, Below.trans (still_drewN hw.bel nq) (belowK_b (w := w) (Nat.le_refl _) (W.drewN nq) D _ _ (by have := HB6.out.2.2.2; omega) hK2 rfl rfl)⟩
end Go.Proofs.Ytlebancjgjcfjaa
