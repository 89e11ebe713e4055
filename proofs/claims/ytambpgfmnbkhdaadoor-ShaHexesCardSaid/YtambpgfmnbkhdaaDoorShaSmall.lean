/- Contracts: does it work, its length, its copy; and of a hasher that no call made. It proves no statement. -/
import Derived.Test.YtambpgfmnbkhdaaDoorShaHas
namespace Go.Proofs.YtambpgfmnbkhdaaDoor
open Go.RowKit
set_option linter.unusedVariables false
set_option linter.unusedSimpArgs false

theorem works_yes (g size : Nat) (s : S8) (R : List UInt8) (w : World) (h : HB w g s R size) :
    Calls Tryd.prog 31 #[.pointer (some ⟨g, 0, none⟩)] w fun e w' => e = .returned (.bool true) ∧ w = w' := by
  have cm := h.made
  clear h
  go_enter Tryd.func31, Tryd.ntmps31
  go_wp2_with fail
  go_ret
  exact ⟨rfl, rfl⟩
/-- No hasher, or one that no call made. -/
def Dead (w : World) (v : Value) : Prop := v = .pointer none ∨ ∃ g, v = .pointer (some ⟨g, 0, none⟩) ∧ w.cell? ⟨g, 73, none⟩ = some (.bool false)
theorem Dead.still {w w' : World} {v : Value} (h : Dead w v) (s : Still w w') : Dead w' v := by
  rcases h with h | ⟨g, h, hc⟩
  · exact .inl h
  · exact .inr ⟨g, h, (s.cell (p := ⟨g, 73, none⟩) (block_lt_of_cell hc)).trans hc⟩
theorem works_no (v : Value) (w : World) (h : Dead w v) :
    Calls Tryd.prog 31 #[v] w fun e w' => e = .returned (.bool false) ∧ w = w' := by
  rcases h with rfl | ⟨g, rfl, hc⟩
  · go_enter Tryd.func31, Tryd.ntmps31
    go_wp2_with fail
    go_ret
    exact ⟨rfl, rfl⟩
  · go_enter Tryd.func31, Tryd.ntmps31
    go_wp2_with fail
    go_ret
    exact ⟨rfl, rfl⟩
theorem write_dead (v b : Value) (w : World) (h : Dead w v) :
    Calls Tryd.prog 17 #[v, b] w fun e w' => e = .returned (.tuple #[]) ∧ w = w' := by
  have k := Lib.hid (works_no v w h)
  clear h
  go_enter Tryd.func17, Tryd.ntmps17
  go_wp2_with fail
  refine k.out.mono ?_
  rintro e w1 ⟨rfl, rfl⟩
  go_wp2_with fail
  (try simp only [Exit.inBlock, Exit.then])
  refine bodyPost_ret (results_none rfl _ _ _) rfl ?_
  exact ⟨rfl, rfl⟩
theorem len_dead (v : Value) (w : World) (h : Dead w v) :
    Calls Tryd.prog 19 #[v] w fun e w' => e = .returned (.int .i64 0) ∧ w = w' := by
  have k := Lib.hid (works_no v w h)
  clear h
  go_enter Tryd.func19, Tryd.ntmps19
  go_wp2_with fail
  refine k.out.mono ?_
  rintro e w1 ⟨rfl, rfl⟩
  go_wp2_with fail
  go_ret
  exact ⟨rfl, rfl⟩
theorem copy_dead (v : Value) (w : World) (h : Dead w v) :
    Calls Tryd.prog 16 #[v] w fun e w' => e = .returned (.pointer none) ∧ w = w' := by
  have k := Lib.hid (works_no v w h)
  clear h
  go_enter Tryd.func16, Tryd.ntmps16
  go_wp2_with fail
  refine k.out.mono ?_
  rintro e w1 ⟨rfl, rfl⟩
  go_wp2_with fail
  go_ret
  exact ⟨rfl, rfl⟩
theorem len_any (g : Nat) (l : List UInt8) (w : World) (h : Had w g l) :
    Calls Tryd.prog 19 #[.pointer (some ⟨g, 0, none⟩)] w fun e w' => e = .returned (.int .i64 (l.length : Int)) ∧ w = w' := by
  obtain ⟨R, hb, _, _⟩ := h
  have cz := hb.sizec
  have k := Lib.hid (works_yes g _ _ R w hb)
  obtain ⟨n, hn⟩ : ∃ n, n = l.length := ⟨_, rfl⟩
  rw [← hn] at cz ⊢
  clear hb hn
  go_enter Tryd.func19, Tryd.ntmps19
  go_wp2_with fail
  refine k.out.mono ?_
  rintro e w1 ⟨rfl, rfl⟩
  go_wp2_with fail
  go_ret
  exact ⟨rfl, rfl⟩
def hzero : List Value := w32 (List.replicate 8 0) ++ (bytesV (List.replicate 64 0) ++ [Value.int .i64 0, Value.bool false])
theorem zeroHasher : (Tryd.prog.info? 51).map (fun i => (i.zero, i.size)) = some (some (.agg hzero.toArray), 74) := by kernel_rfl
theorem isRowHasher : ∃ fs, Tryd.prog.underlying 51 = some (.struct fs) := ⟨_, Tryd.underlying51⟩
theorem hcells_one (s : S8) (R : List UInt8) (size : Nat) : (hcells s R size).toArray.all (·.oneCell') = true := by
  rw [Array.all_eq_true_iff_forall_mem]
  intro v hv
  simp only [hcells, List.mem_toArray, List.mem_append, List.mem_cons, List.not_mem_nil, or_false] at hv
  rcases hv with h | h | rfl | rfl
  · exact w32_one _ v h
  · exact bytesV_one _ v h
  · rfl
  · rfl

set_option maxRecDepth 100000 in
set_option maxHeartbeats 800000 in
theorem copy_any2 (g : Nat) (l : List UInt8) (w : World) (h : Had w g l) :
    Calls Tryd.prog 16 #[.pointer (some ⟨g, 0, none⟩)] w fun e w' => (∃ g', e = .returned (.pointer (some ⟨g', 0, none⟩)) ∧ w.heap.size ≤ g' ∧ Had w' g' l) ∧ Still w w' := by
  obtain ⟨R, hb, h2, h3⟩ := h
  have k := Lib.hid (works_yes g _ _ R w hb)
  have hc := hcells_length (shRun sh0 l (l.length / 64)) R l.length hb.len
  have h1 := hcells_one (shRun sh0 l (l.length / 64)) R l.length
  obtain ⟨cs, hcs⟩ : ∃ cs, cs = hcells (shRun sh0 l (l.length / 64)) R l.length := ⟨_, rfl⟩
  have hbl := hb.blk
  rw [← hcs] at hc h1 hbl
  have HCS := Lib.hid hcs
  have HBL := Lib.hid hbl
  have H1 := Lib.hid h1
  have HLEN := Lib.hid hb.len
  have H2 := Lib.hid h2
  obtain ⟨fs, hfs⟩ := isRowHasher
  have HFS := Lib.hid hfs
  clear hb hcs hbl h1 h2 hfs
  go_enter Tryd.func16, Tryd.ntmps16
  go_upto_region 3 with (go_at_call 31; refine k.out.mono ?_; rintro e w1 ⟨rfl, rfl⟩)
  refine wp_region_lit ?_
  go_wp2_with (first
    | (refine wpList_load_row rfl 51 (.tmp 8) rfl g rfl _ _ _ _ HBL.out HFS.out rfl (by rw [sizeHasher]; simp [hc]) ?_
       refine wpList_alloc_arr rfl 51 rfl (some 3) rfl _ _ zeroHasher ?_
       refine wpList_store_rowTo rfl 51 (.tmp 3) (.tmp 9) rfl rfl w.heap.size cs.toArray rfl rfl 51 _ (heap_alloc_last w _) (by rw [sizeHasher]; simp [hc]) (by simp [hc, hzero, w32, bytesV]) H1.out ?_
       rw [World.setRow_alloc_new]
       refine wpList_nil ?_))
  go_ret
  refine ⟨⟨w.heap.size, rfl, Nat.le_refl _, R, ⟨?_, HLEN.out⟩, H2.out, h3⟩, (Still.refl w).alloc (Nat.le_refl _) _⟩
  rw [← HCS.out]
  exact heap_alloc_last w _
end Go.Proofs.YtambpgfmnbkhdaaDoor
