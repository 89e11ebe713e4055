/- Contracts and facts, several texts in one. It proves no statement. -/
import Derived.Test.YtfneloobfidckaaGreatDoorSf00
import Derived.Outline
import Derived.Deep.DeepMust
import Derived.Deep.RegionHeld
import Derived.Test.YtfneloobfidckaaGreatDoorSf01
import Derived.Deep.QuietTactic
import Derived.BigQuiet
import Derived.RegionTactic
import Derived.ChangeAlike
import Derived.BigRegion
import Derived.Deep.WholeRow
import Derived.Great.Walk
import Derived.Great.BuildSlice
import Derived.StillTailTactics
import Derived.Deep.DeepCutAuto
import Derived.Deep.CutBlock
import Derived.Laws.CopyOwn

/- A region that stores into the very cells that it has loaded: a condition on the world that must hold only behind the operations that may come up while a load is pending. It proves no statement. -/




namespace Go.Proofs.YtfneloobfidckaaGreatDoor
open Go Go.RowKit
set_option linter.unusedVariables false
set_option linter.unusedSimpArgs false

section
variable {P : Program} {ops : Array Oper} {Q : Exit → Act → World → Prop} {md : Region.Mode} {S : World → Prop} {U : List Nat}

/-- Whatever order is picked; behind an operation that is none of U, S holds. -/
def wpLate (P : Program) (md : Region.Mode) (ops : Array Oper) (Q : Exit → Act → World → Prop) (S : World → Prop) (U : List Nat) : Nat → Array Bool → Act → World → Prop
  | 0, done, a, w => Region.ready md ops done = [] ∧ Q .normal a w
  | fuel + 1, done, a, w =>
    (Region.ready md ops done = [] → Q .normal a w) ∧
    ∀ i ∈ Region.ready md ops done, wpOp P ops Q i (fun a' w' => (S w → U.contains i = false → S w') ∧ wpLate P md ops Q S U fuel (done.setIfInBounds i true) a' w') a w
theorem wpAny_of_late : ∀ (fuel : Nat) (done : Array Bool) (a : Act) (w : World), wpLate P md ops Q S U fuel done a w → wpAny P md ops Q fuel done a w
  | 0, _, _, _, h => h
  | fuel + 1, _, _, _, h => ⟨h.1, fun i hi => wpOp_mono (fun a' w' h' => wpAny_of_late fuel _ a' w' h'.2) (h.2 i hi)⟩
/-- What has come up stands with all that it waits for. -/
def Closed (md : Region.Mode) (ops : Array Oper) (done : Array Bool) : Prop :=
  ∀ j o, ops[j]? = some o → done.getD j false = true → ∀ e ∈ o.after, Region.binds md e = true → done.getD e.on false = true
def closedB (md : Region.Mode) (ops : Array Oper) (done : Array Bool) : Bool :=
  (List.range ops.size).all fun j => !done.getD j false || ((ops[j]?).map fun o => o.after.all fun e => !Region.binds md e || done.getD e.on false).getD true
theorem closed_spec {done : Array Bool} (h : closedB md ops done = true) : Closed md ops done := by
  intro j o ho hj e he hb
  have hlt : j < ops.size := (Array.getElem?_eq_some_iff.1 ho).1
  have h1 := List.all_eq_true.1 h j (List.mem_range.2 hlt)
  rw [hj, ho] at h1
  simp only [Bool.not_true, Bool.false_or, Option.map_some, Option.getD_some, Array.all_eq_true_iff_forall_mem] at h1
  have h2 := h1 e he
  rw [hb] at h2
  simpa using h2
theorem Closed.step {done : Array Bool} (h : Closed md ops done) {j : Nat} (hj : j ∈ Region.ready md ops done) : Closed md ops (done.setIfInBounds j true) := by
  intro k o ho hk e he hb
  obtain ⟨_, oj, hoj, hall⟩ := mem_ready.1 hj
  by_cases hkj : j = k
  · subst hkj
    rw [hoj] at ho
    cases ho
    exact getD_set_true (hall e he hb)
  · rw [getD_set_ne false hkj] at hk
    exact getD_set_true (h k o ho hk e he hb)
/-- Each of a row of operations waits for one that stands ahead of it, or for one of the first. -/
def waits (md : Region.Mode) (ops : Array Oper) : List Nat → List Nat → Bool
  | _, [] => true
  | seen, j :: r => ((ops[j]?).map fun o => o.after.any fun e => Region.binds md e && seen.contains e.on).getD false && waits md ops (j :: seen) r
theorem waits_spec {done : Array Bool} {i : Nat} (hc : Closed md ops done) : ∀ (r seen : List Nat), waits md ops seen r = true → (∀ s ∈ seen, done.getD s false = true → done.getD i false = true) →
    ∀ j ∈ r, ∀ o, ops[j]? = some o → (∀ e ∈ o.after, Region.binds md e = true → done.getD e.on false = true) → done.getD i false = true := by
  intro r
  induction r with
  | nil => intro seen _ _ j hj; cases hj
  | cons k r ih =>
    intro seen h hs j hj o ho hall
    unfold waits at h
    rw [Bool.and_eq_true] at h
    obtain ⟨h1, h2⟩ := h
    cases hk : ops[k]? with
    | none => rw [hk] at h1; simp at h1
    | some ok =>
      rw [hk] at h1
      simp only [Option.map_some, Option.getD_some] at h1
      obtain ⟨q, hq, h1⟩ := Array.any_eq_true.1 h1
      rw [Bool.and_eq_true] at h1
      have hmem : ok.after[q] ∈ ok.after := Array.getElem_mem hq
      have hin : ok.after[q].on ∈ seen := by simpa using h1.2
      rcases List.mem_cons.1 hj with rfl | hj
      · rw [hk] at ho
        cases ho
        exact hs _ hin (hall _ hmem h1.1)
      · refine ih (k :: seen) h2 ?_ j hj o ho hall
        intro s hsm hsd
        rcases List.mem_cons.1 hsm with rfl | hsm
        · exact hs _ hin (hc _ ok hk hsd _ hmem h1.1)
        · exact hs s hsm hsd
theorem wpLate_first {i : Nat} {oi : Oper} {v : Value} (hi : ops[i]? = some oi) (hsel : ∀ (j : Nat) (o : Oper) cs b, ops[j]? = some o → o.op ≠ .select cs b)
    (hQ : ∀ c a w, Q (.panic c) (a.put oi.dst v) w → Q (.panic c) a w) {S' : World → Prop} (R : List Nat) (hU : (∀ w, S' w) ∨ (S' = S ∧ waits md ops [i] R = true ∧ ∀ j ∈ U, j ∈ R)) :
    ∀ (fuel : Nat) (done : Array Bool) (a : Act) (w : World), Closed md ops done →
      (∀ j oj, ops[j]? = some oj → j ≠ i → done.getD j true = false → (∀ e ∈ oj.after, Region.binds md e = true → e.on ≠ i) → oi.apart ops oj = true) →
      i ∈ Region.ready md ops done → YieldsIf P ops S' oi v a → S' w →
      wpLate P md ops Q S U fuel (done.setIfInBounds i true) (a.put oi.dst v) w → wpLate P md ops Q S U (fuel + 1) done a w := by
  intro fuel
  induction fuel with
  | zero =>
    intro done a w _ _ hr hy hS H
    refine ⟨fun h => (by rw [h] at hr; cases hr), fun j hj => ?_⟩
    by_cases hji : j = i
    · subst hji; exact hy.wpOp hi hS ⟨fun h _ => h, H⟩
    · have := ready_mono hj hji
      rw [H.1] at this
      cases this
  | succ fuel ih =>
    intro done a w hcl hfree hr hy hS H
    refine ⟨fun h => (by rw [h] at hr; cases hr), fun j hj => ?_⟩
    by_cases hji : j = i
    · subst hji; exact hy.wpOp hi hS ⟨fun h _ => h, H⟩
    · have h1 := H.2 j (ready_mono hj hji)
      obtain ⟨hjun, oj, hoj, hall⟩ := mem_ready.1 hj
      have hiun : done.getD i false = false := by
        have h0 := (mem_ready.1 hr).1
        rcases Nat.lt_or_ge i done.size with h' | h'
        · simp [h'] at h0 ⊢; exact h0
        · simp [Array.getElem?_eq_none h']
      have hnot : ∀ e ∈ oj.after, Region.binds md e = true → e.on ≠ i := fun e he hb heq => by
        have h1 := hall e he hb
        rw [heq, hiun] at h1
        cases h1
      have hnU : (∀ w, S' w) ∨ (S' = S ∧ U.contains j = false) := by
        rcases hU with hU | ⟨hSS, hU, hsub⟩
        · exact .inl hU
        · refine .inr ⟨hSS, ?_⟩
          cases hc : U.contains j with
          | false => rfl
          | true =>
            have := waits_spec hcl R [i] hU (by intro s hs; simp at hs; subst hs; exact id) j (hsub j (by simpa using hc)) oj hoj hall
            rw [hiun] at this
            cases this
      have h2 := wpOp_putIf hoj (hfree j oj hoj hji hjun hnot) (fun cs b => hsel i oi cs b hi) (fun cs b => hsel j oj cs b hoj) hQ hy h1
      have hfree' : ∀ k ok, ops[k]? = some ok → k ≠ i → (done.setIfInBounds j true).getD k true = false →
          (∀ e ∈ ok.after, Region.binds md e = true → e.on ≠ i) → oi.apart ops ok = true := fun k ok hk hki hun hno => by
        refine hfree k ok hk hki ?_ hno
        by_cases hjk : j = k
        · subst hjk; exact hjun
        · rw [getD_set_ne true hjk] at hun; exact hun
      refine wpOp_mono (fun a' w' h3 => ⟨h3.2.1, ih (done.setIfInBounds j true) a' w' (hcl.step hj) hfree' (ready_mono hr (Ne.symm hji)) h3.1 ?_ ?_⟩) h2
      · rcases hnU with h | h
        · exact h w'
        · rw [h.1] at hS ⊢
          exact h3.2.1 hS h.2
      · rw [Array.setIfInBounds_comm _ _ hji]
        exact h3.2.2

/-- A load is taken first: all of U wait for it. -/
theorem wpLate_take {i : Nat} {oi : Oper} {v : Value} {fuel : Nat} {done : Array Bool} {a : Act} {w : World} (R : List Nat) (hi : ops[i]? = some oi)
    (hs : Region.noSelect ops = true) (hc : closedB md ops done = true) (hf : Region.free md ops done i = true) (hr : (Region.ready md ops done).contains i = true)
    (hR : waits md ops [i] R = true) (hsub : ∀ j ∈ U, j ∈ R)
    (hQ : ∀ c a w, Q (.panic c) (a.put oi.dst v) w → Q (.panic c) a w) (hy : YieldsIf P ops S oi v a) (hS : S w)
    (h : S w → wpLate P md ops Q S U fuel (done.setIfInBounds i true) (a.put oi.dst v) w) : wpLate P md ops Q S U (fuel + 1) done a w :=
  wpLate_first hi (Region.noSelect_spec hs) hQ R (.inr ⟨rfl, hR, hsub⟩) fuel done a w (closed_spec hc) (Region.free_spec hi hf) (by simpa using hr) hy hS (h hS)
/-- What yields in whatever world is taken first. -/
theorem wpLate_pure {i : Nat} {oi : Oper} {v : Value} {fuel : Nat} {done : Array Bool} {a : Act} {w : World} (hi : ops[i]? = some oi)
    (hs : Region.noSelect ops = true) (hc : closedB md ops done = true) (hf : Region.free md ops done i = true) (hr : (Region.ready md ops done).contains i = true)
    (hQ : ∀ c a w, Q (.panic c) (a.put oi.dst v) w → Q (.panic c) a w) (hy : YieldsIf P ops (fun _ => True) oi v a)
    (h : wpLate P md ops Q S U fuel (done.setIfInBounds i true) (a.put oi.dst v) w) : wpLate P md ops Q S U (fuel + 1) done a w :=
  wpLate_first hi (Region.noSelect_spec hs) hQ [] (.inl fun _ => trivial) fuel done a w (closed_spec hc) (Region.free_spec hi hf) (by simpa using hr) hy trivial h
/-- Only one may come up. -/
theorem wpLate_one {i : Nat} {o : Oper} {fuel : Nat} {done : Array Bool} {a : Act} {w : World} (hr : Region.ready md ops done = [i]) (ho : ops[i]? = some o)
    (h : ∀ K' : Act → World → Prop, Shut (∀ a' w', (S w → U.contains i = false → S w') → wpLate P md ops Q S U fuel (done.setIfInBounds i true) a' w' → K' a' w') →
      if Region.wanted o (yielded ops a.tmps) = true then Oper.wp P o a w K' Q else K' (a.put o.dst undef) w) : wpLate P md ops Q S U (fuel + 1) done a w := by
  refine ⟨fun h0 => absurd (hr ▸ h0) (by simp), ?_⟩
  intro j hj
  rw [hr] at hj
  have hji : j = i := by simpa using hj
  subst hji
  exact wpOp_step ho (fun K' hK => h K' (fun a w hS hW => hK a w ⟨hS, hW⟩))
theorem wpLate_done {done : Array Bool} {a : Act} {w : World} (hr : Region.ready md ops done = []) (h : Q .normal a w) : ∀ fuel, wpLate P md ops Q S U fuel done a w
  | 0 => ⟨hr, h⟩
  | _ + 1 => ⟨fun _ => h, by rw [hr]; simp⟩
theorem wp_region_late {id : Nat} {a : Act} {w : World} (U : List Nat) (hm : P.follows .mixedOrders = true) (hS : S w.drew)
    (h : S w.drew → wpLate P .any ops Q S U ops.size (Array.replicate ops.size false) a w.drew) : (Code.region id ops true).wp P Q a w :=
  wp_region_any hm (wpAny_of_late _ _ _ _ (h hS))
end
theorem storeVar_cell0 (P : Program) (e : TypeId) (hi : (P.info? e).map (·.size) = some 1) (a : Addr) (v o : Value) (hv : v.oneCell' = true) (w : World) (hc : w.cell? a = some o) (hf : w.frozen? a = false) :
    (storeVar e a v).run P w = .ok () (w.setCell a v) := by
  have h1 : v.cells = #[v] := by cases v <;> first | rfl | simp [Value.oneCell'] at hv
  cases hq : P.info? e with
  | none => simp [hq] at hi
  | some i =>
    have hs : i.size = 1 := by simpa [hq] using hi
    simp [storeVar, h1, sizeOf, typeInfo, hq, hs, storeCells, run_store P _ _ v _ hv, Addr.add_zero', hc, hf, Result.andThen]
theorem step_storeC (w : World) {P : Program} {o : Oper} {a : Act} {K : Act → World → Prop} {Q : Exit → Act → World → Prop} (ty : TypeId) (x y : Operand) (ho : o.op = .store ty x y)
    (b i : Nat) (v old : Value) (hx : a.eval x = .pointer (some ⟨b, i, none⟩)) (hy : a.eval y = v) (hv : v.oneCell' = true) (hi : (P.info? ty).map (·.size) = some 1) (hc : w.cell? ⟨b, i, none⟩ = some old) (hf : w.frozen? ⟨b, i, none⟩ = false)
    (h : K (a.put o.dst undef) (w.setCell ⟨b, i, none⟩ v)) : o.wp P a w K Q := by
  unfold Oper.wp execOp
  simp only [ho, hx, hy, Instr.storeAt, Instr.sureAddr, Sem.run_bind, Sem.run_pure, Result.andThen_ok, storeVar_cell0 P ty hi ⟨b, i, none⟩ v old hv w hc hf]
  exact h
end Go.Proofs.YtfneloobfidckaaGreatDoor

/- The law of Late, for the medium's texts. It proves no statement. -/

/- Contracts: rows of bytes copied, cut. It proves no statement. -/

namespace Go.Proofs.YtfneloobfidckaaGreatDoor
open Go.RowKit
set_option linter.unusedVariables false
set_option linter.unusedSimpArgs false

/-- At most k bytes of a slice, k at least one. -/
theorem cut_any (A : Option Addr) (n c k : Nat) (l : List UInt8) (w : World) (B : Nat) (h : Reads w B A n l) (hc : n ≤ c) (hm : c ≤ 9223372036854775807) (hk : 1 ≤ k) :
    Calls Tryz.prog 118 #[.slice A n c, .int .i64 k] w fun e w' => e = .returned (.slice A (min n k) c) ∧ w = w' := by
  by_cases hlt : k < n
  · obtain ⟨b, o, rfl, hb, hcc⟩ := h.at_ (by omega)
    have hmin : min n k = k := by omega
    rw [hmin]
    go_enter Tryz.func118, Tryz.ntmps118
    go_wp2
    go_ret
    exact ⟨rfl, rfl⟩
  · have hmin : min n k = n := by omega
    rw [hmin]
    go_enter Tryz.func118, Tryz.ntmps118
    go_wp2
    go_ret
    exact ⟨rfl, rfl⟩

/-- A copy in memory of the call's own. -/
theorem copy_any (A : Option Addr) (n c : Nat) (l : List UInt8) (w : World) (B : Nat) (h : Reads w B A n l) (hn : n ≤ 140737488355328) (hA : A = none → n = 0 ∧ c = 0) :
    Calls Tryz.prog 108 #[.slice A n c] w fun e w' => (∃ v, e = .returned v ∧ w'.ownsRow w.heap.size 5 1 v n (bytesV l)) ∧ Still w w' := by
  go_enter Tryz.func108, Tryz.ntmps108
  go_wp2_with (at_builtin; go_must (refine wpList_adds _ rfl _ _ rfl w.heap.size _ 0 [] rfl (World.ownsRow_nil _ _ _ _) _ n c B l rfl h (fun e => (hA e).2) ?c1 ?c2 ?_))
  case c1 => omega
  case c2 => exact Nat.le_refl _
  intro v' w' hown hg _
  have hst : Still w w' := (Below.refl _ _).grown hg (Nat.le_refl _) (fun k hk => by simp [Value.ownBlock] at hk)
  have hown' : w'.ownsRow w.heap.size 5 1 v' n (bytesV l) := by simpa using hown
  clear hg hown
  go_wp2_with fail
  go_ret
  exact ⟨⟨_, rfl, hown'⟩, hst⟩

end Go.Proofs.YtfneloobfidckaaGreatDoor

/- Contracts: rows of bytes compared. It proves no statement. -/








namespace Go.Proofs.YtfneloobfidckaaGreatDoor
open Go.RowKit
set_option linter.unusedVariables false
set_option linter.unusedSimpArgs false

set_option maxHeartbeats 400000 in
theorem same_yes (A A' : Option Addr) (n c c' : Nat) (l : List UInt8) (w : World) (B B' : Nat) (h : Reads w B A n l) (h' : Reads w B' A' n l) (hn : n ≤ 9223372036854775807) :
    Calls Tryz.prog 52 #[.slice A n c, .slice A' n c'] w fun e w' => e = .returned (.bool true) ∧ Still w w' := by
  go_enter Tryz.func52, Tryz.ntmps52
  go_wp2_with fail
  go_loopw [5] (fun i wr => ∃ k : Nat, k ≤ n ∧ i = .int .i64 k ∧ Reads wr B A n l ∧ Reads wr B' A' n l ∧ Still w wr) (fun i _ => n - (intOf i).toNat)
  case atStart => exact ⟨0, Nat.zero_le _, rfl, h, h', Below.refl _ _⟩
  case round =>
    obtain ⟨k, hk, rfl, hr, hr', hst⟩ := hrel
    by_cases hlt : k < n
    · obtain ⟨b, o, rfl, hb, hc⟩ := hr.at_ (by omega)
      obtain ⟨b', o', rfl, hb', hc'⟩ := hr'.at_ (by omega)
      have c1 := hc k hlt
      have c2 := hc' k hlt
      clear hc hc'
      generalize (l.getD k 0).toNat = y at c1 c2
      have z1 : (0 : Int) ≤ (k : Int) := by omega
      have z2 : (k : Int) < (n : Int) := by omega
      go_wp2_with fail
      go_quiet (fail)
      go_wp2_with fail
      go_roundw
      case rel => exact ⟨k + 1, by omega, by go_num, hr, hr', still_drewN hst _⟩
      case measure => simp [intOf]; omega
    · obtain rfl : k = n := by omega
      go_wp2_with fail
      go_ret
      exact ⟨rfl, hst⟩
end Go.Proofs.YtfneloobfidckaaGreatDoor

/- 'var a [n]T': a new block of noughts. It proves no statement. -/




namespace Go.Proofs.YtfneloobfidckaaGreatDoor
open Go.RowKit
set_option linter.unusedVariables false
set_option linter.unusedSimpArgs false

theorem run_alloc_arr {P : Program} (ρ : Operand → Value) (o : Oper) (t : TypeId) (ho : o.op = .alloc t) (cs : Array Value) (n : Nat) (h : (P.info? t).map (fun i => (i.zero, i.size)) = some (some (.agg cs), n)) (w : World) :
    (execOp ρ o).run P w = .ok (.value (.pointer (some ⟨w.heap.size, 0, none⟩))) (w.alloc (.cells cs t)) := by
  have hz := (zero_of_info h).1
  unfold execOp
  simp [ho, Instr.alloc, hz, Value.cells, newVar, newRow, Sem.run_bind]
theorem wpList_alloc_arr {P : Program} {ops : Array Oper} {rest : List Oper} {o : Oper} {a : Act} {w : World} {Q : Exit → Act → World → Prop} (hg : o.guard = none) (t : TypeId) (ho : o.op = .alloc t) (dst : Option Tmp) (hdst : o.dst = dst) (cs : Array Value) (n : Nat)
    (hi : (P.info? t).map (fun i => (i.zero, i.size)) = some (some (.agg cs), n)) (h : wpList P ops Q rest (a.put dst (.pointer (some ⟨w.heap.size, 0, none⟩))) (w.alloc (.cells cs t))) : wpList P ops Q (o :: rest) a w :=
  Go.Great.wpList_runTo hg dst hdst _ _ (run_alloc_arr _ o t ho cs n hi w) h
theorem wpList_box_arr {P : Program} {ops : Array Oper} {rest : List Oper} {o : Oper} {a : Act} {w : World} {Q : Exit → Act → World → Prop} (hg : o.guard = none) (t : TypeId) (x : Operand) (ho : o.op = .box t x) (dst : Option Tmp) (hdst : o.dst = dst) (cs : Array Value)
    (hx : a.eval x = .agg cs) (h : wpList P ops Q rest (a.put dst (.pointer (some ⟨w.heap.size, 0, none⟩))) (w.alloc (.cells cs t))) : wpList P ops Q (o :: rest) a w := by
  refine Go.Great.wpList_runTo hg dst hdst _ _ ?_ h
  unfold execOp
  simp [ho, hx, Instr.box, Value.cells, newVar, newRow, Sem.run_bind]
/-- An element of an array that is a value. -/
theorem run_index_arr {P : Program} (w : World) (t e : TypeId) (n : Nat) (k : IntKind) (ht : P.underlying t = some (.array n e)) (he : P.underlying e = some (.int k)) (hs : (P.info? e).map (·.size) = some 1)
    (cs : List Value) (hn : cs.length = n) (i : Nat) (hi : i < n) (v : Value) (hv : cs[i]? = some v) : (Instr.index t (.agg cs.toArray) (.int .i64 (i : Int))).run P w = .ok v w := by
  cases hq : P.info? e with
  | none => simp [hq] at hs
  | some ie =>
    have hz : ie.size = 1 := by simpa [hq] using hs
    simp [Instr.index, asIntOf, run_underlying ht, Sem.run_bind, sizeOf, typeInfo, hq, hz, part, isAgg, run_underlying he, hv, hi]
end Go.Proofs.YtfneloobfidckaaGreatDoor

/- Texts and numbers that are cut; rows that lie apart. It proves no statement. -/










namespace Go.Proofs.YtfneloobfidckaaGreatDoor
open Go.RowKit Go.Maps Go.WideMaps
set_option linter.unusedVariables false
set_option linter.unusedSimpArgs false

/-- A text cut to k bytes. -/
def shB (k : Nat) (s : ByteArray) : ByteArray := if s.size ≤ k then s else s.extract 0 k
theorem shB_size (k : Nat) (s : ByteArray) : (shB k s).size ≤ k := by
  unfold shB
  split
  · assumption
  · simp; omega
/-- A row of numbers, cut to 60. -/
theorem numbers_any (A : Option Addr) (n c : Nat) (w : World) (hc : n ≤ c) (hm : c ≤ 9223372036854775807) (hA : 0 < n → ∃ b o, A = some ⟨b, o, none⟩) :
    Calls Tryz.prog 65 #[.slice A n c, .int .i64 60] w fun e w' => e = .returned (.slice A (min n 60) c) ∧ w = w' := by
  by_cases hlt : 60 < n
  · obtain ⟨b, o, rfl⟩ := hA (by omega)
    have hmin : min n 60 = 60 := by omega
    have hc60 : (60 : Nat) ≤ c := by omega
    rw [hmin]
    go_enter Tryz.func65, Tryz.ntmps65
    go_wp2
    go_ret
    exact ⟨rfl, rfl⟩
  · have hmin : min n 60 = n := by omega
    rw [hmin]
    go_enter Tryz.func65, Tryz.ntmps65
    go_wp2
    go_ret
    exact ⟨rfl, rfl⟩
theorem own_low {w : World} {b b' n z : Nat} {e : TypeId} {v : Value} {xs : List Value} (h : w.ownsRow b e z v n xs) (hb : b' ≤ b) : w.ownsRow b' e z v n xs := by
  refine ⟨h.1, ?_⟩
  rcases h.2 with q | ⟨k, cap, cur, e1, e2, e3⟩
  · exact .inl q
  · exact .inr ⟨k, cap, cur, e1, Nat.le_trans hb e2, e3⟩
theorem own_apart {W W' : World} {B B' n n' z z' : Nat} {e e' : TypeId} {v v' : Value} {xs xs' : List Value} (h : W.ownsRow B e z v n xs) (h' : W.ownsRow B' e' z' v' n' xs') (ne : e ≠ e') (gr : W.grownBy W' v'.ownBlock) : W'.ownsRow B e z v n xs := by
  refine h.kept (row := v'.ownBlock) gr ?_
  rcases h.2 with ⟨rfl, _⟩ | ⟨g, cap, cur, rfl, _, hg, _⟩
  · exact .inl rfl
  · refine .inr (fun q => ?_)
    rcases h'.2 with ⟨rfl, _⟩ | ⟨g', cap', cur', rfl, _, hg', _⟩
    · cases q
    · have q' : g = g' := by simpa [Value.ownBlock] using q
      subst q'
      rw [hg] at hg'
      simp only [Option.some.injEq, Obj.cells.injEq] at hg'
      exact ne hg'.2.1
end Go.Proofs.YtfneloobfidckaaGreatDoor
