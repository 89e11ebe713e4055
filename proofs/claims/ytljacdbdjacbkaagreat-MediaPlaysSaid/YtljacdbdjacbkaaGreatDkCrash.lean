/- Contract: what lasts of the document's disk behind a crash. It proves no statement. -/
import Derived.Test.YtljacdbdjacbkaaGreatMpGt
import Derived.Test.YtljacdbdjacbkaaGreatMpGc
import Derived.Test.YtljacdbdjacbkaaGreatMpGb
import Derived.Deep.WholeRow
namespace Go.Proofs.YtljacdbdjacbkaaGreat
open Go.RowKit Go.Maps Go.WideMaps Go.Sort
set_option linter.unusedVariables false
set_option linter.unusedSimpArgs false

theorem Tryz.infoFile0 : (Tryz.prog.info? 111).map (fun i => (i.zero, i.size)) = some (some (.agg #[.slice none 0 0, .slice none 0 0, .slice none 0 0]), 3) := by kernel_rfl
theorem own_ne2 {w : World} {base base2 z z2 n n2 : Nat} {e e2 : TypeId} {v v2 : Value} {xs xs2 : List Value} (h : w.ownsRow base e z v n xs) (h2 : w.ownsRow base2 e2 z2 v2 n2 xs2) (ne : e ≠ e2) {b : Nat} (hb : v.ownBlock = some b) (hb2 : v2.ownBlock = some b) : False := by
  rcases h.2 with ⟨rfl, _⟩ | ⟨g, c, cur, rfl, _, hg, _⟩
  · simp [Value.ownBlock] at hb
  · rcases h2.2 with ⟨rfl, _⟩ | ⟨g2, c2, cur2, rfl, _, hg2, _⟩
    · simp [Value.ownBlock] at hb2
    · simp [Value.ownBlock] at hb hb2
      subst hb hb2
      rw [hg] at hg2
      simp only [Option.some.injEq, Obj.cells.injEq] at hg2
      exact ne hg2.2.1
theorem sizeFile : (Tryz.prog.info? 111).map (·.size) = some 3 := by kernel_rfl
theorem step_allocF (w : World) {o : Oper} {a : Act} {K : Act → World → Prop} {Q : Exit → Act → World → Prop} (ho : o.op = .alloc 111)
    (h : K (a.put o.dst (.pointer (some ⟨w.heap.size, 0, none⟩))) (w.alloc (.cells #[.slice none 0 0, .slice none 0 0, .slice none 0 0] 111))) : o.wp Tryz.prog a w K Q := by
  unfold Oper.wp
  rw [run_alloc_arr _ o 111 ho _ 3 Tryz.infoFile0 w]
  exact h
theorem step_storeF (w : World) {o : Oper} {a : Act} {K : Act → World → Prop} {Q : Exit → Act → World → Prop} (x y : Operand) (ho : o.op = .store 111 x y)
    (g : Nat) (cells : Array Value) (hx : a.eval x = .pointer (some ⟨g, 0, none⟩)) (hy : a.eval y = .agg cells) (old : Array Value) (hg : Blk w g 111 old) (h6 : cells.size = 3) (hold : old.size = 3) (h1 : cells.all (·.oneCell') = true)
    (h : K (a.put o.dst undef) (w.setRow g cells)) : o.wp Tryz.prog a w K Q :=
  wp_store_row 111 x y ho g cells hx hy 111 old hg (by rw [sizeFile, h6]) (by rw [hold, h6]) h1 h
/-- What a crash leaves of a file. -/
def crTorn (F : DFi) (n m : Nat) : List UInt8 := match F.waits[n]? with | some x => if x.cut = true then [] else x.b.take m | none => []
def crLen (F : DFi) (n : Nat) : Nat := match F.waits[n]? with | some x => x.b.length | none => 0
def crB (F : DFi) (zs : List Int) (i : Nat) : List UInt8 := bytesD F (numD zs (2 * i + 1) F.waits.length) ++ crTorn F (numD zs (2 * i + 1) F.waits.length) (numD zs (2 * i + 2) (crLen F (numD zs (2 * i + 1) F.waits.length)))
def crFi (F : DFi) (zs : List Int) (i : Nat) : DFi := ⟨crB F zs i, crB F zs i, []⟩
def crFile (D : Dk) (zs : List Int) (N : NT) (i : Nat) : DFi := match N[i]? with | some p => (match D.files[p.2]? with | some F => crFi F zs i | none => ⟨[], [], []⟩) | none => ⟨[], [], []⟩
def crFiles (D : Dk) (zs : List Int) (N : NT) (m : Nat) : List DFi := (List.range m).map (crFile D zs N)
def crNames (N : NT) (m : Nat) : NT := (List.range m).map fun i => (((N[i]?).map (·.1)).getD [], i)
def crashD (D : Dk) (zs : List Int) : Dk :=
  let N := namesD D (numD zs 0 D.waits.length)
  { room := D.room, files := crFiles D zs N N.length, fast := crNames N N.length, now := crNames N N.length, waits := [], armed := false, left := 0, off := false }
theorem crFiles_succ (D : Dk) (zs : List Int) (N : NT) (i : Nat) (p : List UInt8 × Nat) (F : DFi) (hp : N[i]? = some p) (hF : D.files[p.2]? = some F) : crFiles D zs N (i + 1) = crFiles D zs N i ++ [crFi F zs i] := by
  unfold crFiles
  rw [List.range_succ, List.map_append]
  congr 1
  simp only [List.map_cons, List.map_nil]
  unfold crFile
  rw [hp]
  simp only [hF]
theorem crNames_succ (N : NT) (i : Nat) (p : List UInt8 × Nat) (hp : N[i]? = some p) : crNames N (i + 1) = crNames N i ++ [(p.1, i)] := by
  unfold crNames
  rw [List.range_succ, List.map_append]
  congr 1
  simp [hp]
theorem crFiles_length (D : Dk) (zs : List Int) (N : NT) (m : Nat) : (crFiles D zs N m).length = m := by unfold crFiles; rw [List.length_map, List.length_range]
theorem crNames_length (N : NT) (m : Nat) : (crNames N m).length = m := by unfold crNames; rw [List.length_map, List.length_range]
theorem numD_le (zs : List Int) (i m : Nat) : numD zs i m ≤ m := natN_le _ _
/-- What is laid so far: new files, new names. -/
structure CrS (w wr : World) (fv sv : Value) (fcs : List Value) (fs : List DFi) (N : NT) : Prop where
  st : Still w wr
  fown : wr.ownsRow w.heap.size 111 3 fv fs.length fcs
  sown : wr.ownsRow w.heap.size 92 2 sv N.length (nmV N)
  fcl : fcs.length = fs.length * 3
  files : ∀ (j : Nat) (F : DFi), fs[j]? = some F → ∃ A n c A2 n2 c2, (∀ q u, ([.slice A n c, .slice A2 n2 c2, .slice none 0 0] : List Value)[q]? = some u → fcs[j * 3 + q]? = some u) ∧ RowP wr (fun b => w.heap.size ≤ b ∧ fv.ownBlock ≠ some b ∧ sv.ownBlock ≠ some b) A n c F.fast ∧ RowP wr (fun b => w.heap.size ≤ b ∧ fv.ownBlock ≠ some b ∧ sv.ownBlock ≠ some b) A2 n2 c2 F.now ∧ F.waits = []
theorem CrS.nil (w : World) : CrS w w (.slice none 0 0) (.slice none 0 0) [] [] [] := ⟨Still.refl w, World.ownsRow_nil _ _ _ _, World.ownsRow_nil _ _ _ _, rfl, fun j F h => by cases h⟩
theorem CrS.still {w wr w' : World} {fv sv : Value} {fcs : List Value} {fs : List DFi} {N : NT} (h : CrS w wr fv sv fcs fs N) (s : Still wr w') : CrS w w' fv sv fcs fs N :=
  ⟨Still.trans h.st s, still_own h.fown s, still_own h.sown s, h.fcl, fun j F hF => by
    obtain ⟨A, n, c, A2, n2, c2, h1, h2, h3, h4⟩ := h.files j F hF
    exact ⟨A, n, c, A2, n2, c2, h1, h2.still s, h3.still s, h4⟩⟩
/-- One more file. -/
theorem CrS.file {w wr w' : World} {fv fv' sv : Value} {fcs : List Value} {fs : List DFi} {N : NT} {A A2 : Option Addr} {n c n2 c2 lo : Nat} {b : List UInt8} (h : CrS w wr fv sv fcs fs N) (hr : RowP wr (fun b => lo ≤ b) A n c b) (hr2 : RowP wr (fun b => lo ≤ b) A2 n2 c2 b) (hlo : w.heap.size ≤ lo) (hv : ∀ b, fv.ownBlock = some b → b < lo) (hs : ∀ b, sv.ownBlock = some b → b < lo)
    (o' : w'.ownsRow w.heap.size 111 3 fv' (fs.length + 1) (fcs ++ [.slice A n c, .slice A2 n2 c2, .slice none 0 0])) (gr : wr.grownBy w' fv.ownBlock) (hv' : fv'.ownBlock = fv.ownBlock ∨ fv'.ownBlock = some wr.heap.size) : CrS w w' fv' sv (fcs ++ [.slice A n c, .slice A2 n2 c2, .slice none 0 0]) (fs ++ [⟨b, b, []⟩]) N := by
  have cg : Chg wr w' (fun b => fv.ownBlock = some b) := Chg.of_grown gr (fun k e _ => e)
  have ne : ∀ b, fv.ownBlock = some b → sv.ownBlock ≠ some b := fun b e e2 => own_ne2 h.fown h.sown (by decide) e e2
  have mv : ∀ {A : Option Addr} {n c : Nat} {l : List UInt8} {P : Nat → Prop}, RowP wr P A n c l → (∀ b, P b → b < wr.heap.size → w.heap.size ≤ b ∧ fv.ownBlock ≠ some b ∧ sv.ownBlock ≠ some b) → RowP w' (fun b => w.heap.size ≤ b ∧ fv'.ownBlock ≠ some b ∧ sv.ownBlock ≠ some b) A n c l := fun h hP => by
    refine ((h.mono (Q := fun b => (w.heap.size ≤ b ∧ fv'.ownBlock ≠ some b ∧ sv.ownBlock ≠ some b) ∧ fv.ownBlock ≠ some b) (fun b hb hlt => ?_)).chg cg (fun b hb _ hs => hb.2 hs)).mono (fun b hb _ => hb.1)
    obtain ⟨h1, h2, h3⟩ := hP b hb hlt
    refine ⟨⟨h1, fun e => ?_, h3⟩, h2⟩
    rcases hv' with h | h
    · rw [h] at e; exact h2 e
    · rw [h] at e; injection e with e; omega
  refine ⟨cg.still h.st (fun b e => (h.fown.lt b e).1), by rw [List.length_append]; exact o', cg.own h.sown (fun b e hs => ne b hs e), by rw [List.length_append, List.length_append, h.fcl]; simp; omega, fun j F hF => ?_⟩
  by_cases e : j < fs.length
  · rw [List.getElem?_append_left e] at hF
    obtain ⟨A', n', c', A2', n2', c2', h1, h2, h3, h4⟩ := h.files j F hF
    refine ⟨A', n', c', A2', n2', c2', fun q u hq => ?_, mv h2 (fun b hb _ => hb), mv h3 (fun b hb _ => hb), h4⟩
    have hq3 : q < 3 := by have := (List.getElem?_eq_some_iff.1 hq).1; simpa using this
    rw [List.getElem?_append_left (by rw [h.fcl]; omega)]
    exact h1 q u hq
  · have hj := (List.getElem?_eq_some_iff.1 hF).1
    rw [List.length_append, List.length_singleton] at hj
    obtain rfl : j = fs.length := by omega
    rw [List.getElem?_append_right (Nat.le_refl _), Nat.sub_self] at hF
    obtain rfl := Option.some.inj hF
    have hP : ∀ b, lo ≤ b → b < wr.heap.size → w.heap.size ≤ b ∧ fv.ownBlock ≠ some b ∧ sv.ownBlock ≠ some b := fun b hb _ => ⟨by omega, fun e => by have := hv b e; omega, fun e => by have := hs b e; omega⟩
    refine ⟨A, n, c, A2, n2, c2, fun q u hq => ?_, mv hr hP, mv hr2 hP, rfl⟩
    rw [List.getElem?_append_right (by rw [h.fcl]; omega), h.fcl, show fs.length * 3 + q - fs.length * 3 = q by omega]
    exact hq
/-- One more name. -/
theorem CrS.name {w wr w' : World} {fv sv sv' : Value} {fcs : List Value} {fs : List DFi} {N : NT} {p : List UInt8 × Nat} (h : CrS w wr fv sv fcs fs N)
    (o' : w'.ownsRow w.heap.size 92 2 sv' (N.length + 1) (nmV N ++ nmC p)) (gr : wr.grownBy w' sv.ownBlock) (hv' : sv'.ownBlock = sv.ownBlock ∨ sv'.ownBlock = some wr.heap.size) : CrS w w' fv sv' fcs fs (N ++ [p]) := by
  have cg : Chg wr w' (fun b => sv.ownBlock = some b) := Chg.of_grown gr (fun k e _ => e)
  have ne : ∀ b, fv.ownBlock = some b → sv.ownBlock ≠ some b := fun b e e2 => own_ne2 h.fown h.sown (by decide) e e2
  have mv : ∀ {A : Option Addr} {n c : Nat} {l : List UInt8}, RowP wr (fun b => w.heap.size ≤ b ∧ fv.ownBlock ≠ some b ∧ sv.ownBlock ≠ some b) A n c l → RowP w' (fun b => w.heap.size ≤ b ∧ fv.ownBlock ≠ some b ∧ sv'.ownBlock ≠ some b) A n c l := fun h => by
    refine ((h.mono (Q := fun b => (w.heap.size ≤ b ∧ fv.ownBlock ≠ some b ∧ sv'.ownBlock ≠ some b) ∧ sv.ownBlock ≠ some b) (fun b hb hlt => ⟨⟨hb.1, hb.2.1, fun e => ?_⟩, hb.2.2⟩)).chg cg (fun b hb _ hs => hb.2 hs)).mono (fun b hb _ => hb.1)
    rcases hv' with h | h
    · rw [h] at e; exact hb.2.2 e
    · rw [h] at e; injection e with e; omega
  refine ⟨cg.still h.st (fun b e => (h.sown.lt b e).1), cg.own h.fown (fun b e hs => ne b e hs), ?_, h.fcl, fun j F hF => ?_⟩
  · rw [List.length_append, nmV_append]
    have : nmV [p] = nmC p := by simp [nmV]
    rw [this]
    exact o'
  · obtain ⟨A', n', c', A2', n2', c2', h1, h2, h3, h4⟩ := h.files j F hF
    exact ⟨A', n', c', A2', n2', c2', h1, mv h2, mv h3, h4⟩
/-- All is laid in its place. -/
theorem dcrash_end {w w5 w6 : World} {base dk : Nat} {own : DOwn} {D : Dk} {fv wv fv' : Value} {fcs fcs' : List Value} {A A2 A3 : Option Addr} {n c n2 c2 n3 c3 : Nat} {fs : List DFi} {N : NT} (h : DiskC w base own dk D fv fcs A n c A2 n2 c2 wv) (hs : CrS w w5 fv' (.slice A3 n3 c3) fcs' fs N) (hn : n3 = N.length)
    (g : Chg w5 w6 (fun b => b = dk)) (D' : Dk) (e1 : D'.files = fs) (e2 : D'.fast = N) (e3 : D'.now = N) (e4 : D'.waits = []) (hb : Blk w6 dk 47 (dkC D' fv' A3 n3 c3 A3 n3 c3 (.slice none 0 0))) : DLeft w w6 base dk own D' := by
  have hsz := hs.st.size
  have h6 := g.size
  have hdl := h.blk.lt
  have hv2 : ∀ b, fv'.ownBlock = some b → own b = some 2 ∨ w.heap.size ≤ b := fun b e => .inr (hs.fown.lt b e).1
  have ho := relab_old (hi := w6.heap.size) hv2
  have gw : Chg w w6 (fun b => b = dk) := (Chg.of_still hs.st _).trans g (fun _ _ h => h)
  have ne : ∀ b, fv'.ownBlock = some b → (Value.slice A3 n3 c3).ownBlock ≠ some b := fun b e e2 => own_ne2 hs.fown hs.sown (by decide) e e2
  have fz : ∀ {A : Option Addr} {n c : Nat} {l : List UInt8}, RowP w5 (fun b => w.heap.size ≤ b ∧ fv'.ownBlock ≠ some b ∧ (Value.slice A3 n3 c3).ownBlock ≠ some b) A n c l → RowP w6 (frz (relab own w.heap.size w6.heap.size fv' 2)) A n c l := fun h => by
    refine (h.chg g (fun b hb hlt hs => by have hs : b = dk := hs; have := hb.1; omega)).mono (fun b hb hlt => ?_)
    unfold frz relab
    rw [if_neg hb.2.1, if_pos ⟨hb.1, hlt⟩]
  have nr : NRow w6 (frz (relab own w.heap.size w6.heap.size fv' 2)) A3 n3 c3 N := by
    have h0 := hs.sown
    rw [← hn] at h0
    refine ((NRow.of_own h0).chg g (fun b hb hlt hs => by have hs : b = dk := hs; have := hb.1; omega)).mono (fun b hb hlt => ?_)
    unfold frz relab
    rw [if_neg (fun e => ne b e hb.2), if_pos ⟨hb.1, hlt⟩]
  refine ⟨gw.mono (fun b _ e => by rw [e, h.odk]; simp), relab own w.heap.size w6.heap.size fv' 2, ho, fv', fcs', A3, n3, c3, A3, n3, c3, .slice none 0 0, hb, ?_, ?_, by rw [e2]; exact nr, by rw [e3]; exact nr, by rw [e4]; exact World.ownsRow_nil _ _ _ _, ?_, fun b e => by unfold relab; rw [if_pos e], fun b e => by simp [Value.ownBlock] at e, relab_dom (fun b e => ⟨?_, ?_⟩) (fun b hb => ⟨(h.dom b hb).1, Nat.lt_of_lt_of_le (h.dom b hb).2 gw.size⟩) h.low, Nat.le_trans h.low gw.size⟩
  · rw [e1]
    exact own_base (g.own hs.fown (fun b e hs2 => by have hs2 : b = dk := hs2; have := (hs.fown.lt b e).1; omega)) h.low
  · rw [e1]
    refine ⟨hs.fcl, fun i F hF => ?_⟩
    obtain ⟨A', n', c', A2', n2', c2', h1, h2, h3, h4⟩ := hs.files i F hF
    refine ⟨_, rfl, h1, A', n', c', A2', n2', c2', none, 0, 0, [], rfl, fz h2, fz h3, by rw [h4]; rfl, World.ownsRow_nil _ _ _ _, by rw [h4]; exact HasDc.nil _ _, fun b hb => by simp [Value.ownBlock] at hb⟩
  · rw [ho dk hdl]; exact h.odk
  · have := (hs.fown.lt b e).1; have := h.low; omega
  · have := (hs.fown.lt b e).2; omega
set_option maxRecDepth 100000 in
set_option maxHeartbeats 12800000 in
theorem crash_D {w : World} {base dk k : Nat} {own : DOwn} {D : Dk} {P : Nat → Prop} {Az : Option Addr} {nz cz : Nat} {zs : List Int} (h : DiskI w base own dk D) (hg : D.good k) (hk : k ≤ 700000) (hz : ReadsI w P Az nz zs) (hP : ∀ b, P b → own b = none) (hzc : nz ≤ cz) (hzm : cz ≤ 9223372036854775807) :
    Calls Tryz.prog 36 #[.pointer (some ⟨dk, 0, none⟩), .slice Az nz cz] w fun e w' => e = .returned (.tuple #[]) ∧ DLeft w w' base dk own (crashD D zs) := by
  have HI := Lib.hid h
  obtain ⟨fv, fcs, A, n, c, A2, n2, c2, wv, hc⟩ := id h
  have k4 := hc.cells.2.2.2.2.1
  obtain ⟨Aw, cw, hwv⟩ := own_formN hc.wown
  rw [hwv] at k4
  have NU0 := Lib.hid (fun W (t : Still w W) (i m : Nat) (hi : i ≤ 100000000) (hm : m ≤ 9223372036854775807) => number_D Az nz cz i m zs W (hz.chg (Chg.of_still t (fun _ => False)) (fun _ _ h => h)) hzc hzm hi hm)
  obtain ⟨wl, hwl⟩ : ∃ wl, wl = D.waits.length := ⟨_, rfl⟩
  have HWL := Lib.hid hwl
  rw [← hwl] at k4
  have hwl7 : wl ≤ 700000 := by have := hg.nw; omega
  obtain ⟨j0, hj0⟩ : ∃ j0, j0 = numD zs 0 wl := ⟨_, rfl⟩
  have HJ0 := Lib.hid hj0
  have hj0l : j0 ≤ D.waits.length := by rw [hj0, ← hwl]; exact numD_le _ _ _
  have NUA := Lib.hid (NU0.out w (Still.refl w) 0 wl (by omega) (by omega))
  rw [← hj0] at NUA
  have NMS := Lib.hid (namesN_D h hg (by omega) hj0l)
  have HG := Lib.hid hg
  have HKK := Lib.hid hk
  have HC := Lib.hid hc
  obtain ⟨N, hN⟩ : ∃ N, N = namesD D j0 := ⟨_, rfl⟩
  have HN := Lib.hid hN
  have HNP := Lib.hid (show N.length ≤ 700000 ∧ ∀ p ∈ N, p.2 < D.files.length from by rw [hN]; exact ⟨by have := (hg.nm j0).1; omega, (hg.nm j0).2⟩)
  rw [← hN] at NMS
  clear h hc hg hk hz hwv hwl hj0 hj0l hN
  go_enter Tryz.func36, Tryz.ntmps36
  go_wp2_with fail
  refine NUA.out.mono ?_
  rintro e w0 ⟨rfl, h0⟩
  have h0' := h0.symm
  subst h0'
  clear h0
  go_wp2_with fail
  refine NMS.out.mono ?_
  rintro e w1 ⟨⟨AN, nN, cN, rfl, rN⟩, s1⟩
  have RN := Lib.hid rN
  have S1 := Lib.hid s1
  have H1 := Lib.hid (HC.out.still s1)
  have hnc := rN.fit
  have hcm := rN.cap
  have HLN := Lib.hid rN.len
  have hnN : nN ≤ 700000 := by have := HNP.out.1; have := rN.len; omega
  clear rN s1 k4 NUA NMS
  go_wp2_with fail
  go_loopw [5, 6, 7] (fun fw sw iv wr => ∃ (k : Nat) (fv' sv' : Value) (fcs' : List Value), fv' = fw ∧ sv' = sw ∧ iv = .int .i64 k ∧ k ≤ nN ∧ Hid (CrS w1 wr fv' sv' fcs' (crFiles D zs N k) (crNames N k))) (fun _ _ iv _ => nN - (intOf iv).toNat)
  case atStart => exact ⟨0, _, _, [], rfl, rfl, rfl, Nat.zero_le _, Lib.hid (CrS.nil w1)⟩
  case round =>
    obtain ⟨k, fv', sv', fcs', rfl, rfl, rfl, hkn, hin⟩ := hrel
    by_cases hlt : k < nN
    · obtain ⟨bn, p, rfl, hp, hr, c0w, c1w⟩ := RN.out.name hlt
      have c1 := (hin.out.st.cell (p := ⟨bn, k * 2 + 1, none⟩) (World.block_lt_of_cell? _ _ c1w)).trans c1w
      obtain ⟨F, hF⟩ : ∃ F, D.files[p.2]? = some F := ⟨_, List.getElem?_eq_getElem (HNP.out.2 p (List.mem_of_getElem? hp))⟩
      have HR1 := Lib.hid (H1.out.still hin.out.st)
      obtain ⟨g, cap, hfv, g1, g2, g3, FC, hcl, hfd, hrg⟩ := HR1.out.file hF
      have k1 := HR1.out.cells.2.1
      rw [hfv] at k1
      have HFC := Lib.hid hcl
      have HSUF := Lib.hid (crFiles_succ D zs N k p F hp hF)
      have HSUN := Lib.hid (crNames_succ N k p hp)
      have HGF := Lib.hid (HG.out.fs _ F hF)
      have CR := Lib.hid hin.out
      have HLT := Lib.hid hlt
      have q1 : (0 : Int) ≤ (k : Int) := by omega
      have q2 : (k : Int) < (nN : Int) := by omega
      have hpl := (List.getElem?_eq_some_iff.1 hF).1
      obtain ⟨fl, hfl⟩ : ∃ fl, fl = D.files.length := ⟨_, rfl⟩
      rw [← hfl] at k1 g1 hpl
      obtain ⟨pf, hpf⟩ : ∃ pf, pf = p.2 := ⟨_, rfl⟩
      rw [← hpf] at c1 hpl hrg
      have q3 : (0 : Int) ≤ (pf : Int) := by omega
      have q4 : (pf : Int) < (fl : Int) := by omega
      have CK := Lib.hid (fun W (t : Still wr W) => (show W.cell? ⟨dk, 1, none⟩ = some (.slice (some ⟨g, 0, none⟩) fl cap) ∧ W.cell? ⟨bn, k * 2 + 1, none⟩ = some (.int .i64 (pf : Int)) ∧ W.rangeAt g (pf * 3) FC from ⟨(t.cell (p := ⟨dk, 1, none⟩) HR1.out.blk.lt).trans k1, (t.cell (p := ⟨bn, k * 2 + 1, none⟩) (World.block_lt_of_cell? _ _ c1)).trans c1, fun q u hq => (t.cell (p := ⟨g, pf * 3 + q, none⟩) g3).trans (hrg q u hq)⟩))
      have ONE := Lib.hid (show FC.toArray.all (·.oneCell') = true from by
        obtain ⟨_, _, _, _, _, _, _, _, _, _, rfl, _⟩ := hfd
        simp [Value.oneCell'])
      have FD := Lib.hid hfd
      have NMC := Lib.hid (fun W (t : Still w1 W) => (show W.cell? ⟨bn, k * 2, none⟩ = some (.string (nmS p)) from (t.cell (p := ⟨bn, k * 2, none⟩) (World.block_lt_of_cell? _ _ c0w)).trans c0w))
      clear hin hp hr hF hfv hcl hfd hrg hfl hpf hlt c0w c1w c1 k1
      go_wp2_with fail
      refine wp_region_late (S := fun W => W.cell? ⟨dk, 1, none⟩ = some (.slice (some ⟨g, 0, none⟩) fl cap) ∧ W.cell? ⟨bn, k * 2 + 1, none⟩ = some (.int .i64 (pf : Int)) ∧ W.rangeAt g (pf * 3) FC) [12] (by kernel_rfl) (CK.out _ (Still.refl _).drew) (fun hHeld => ?_)
      try simp only [Act.put, List.setIfInBounds_toArray, List.set_cons_zero, List.set_cons_succ]
      refine wpLate_pure (i := 0) (v := .pointer (some ⟨dk, 0, none⟩)) rfl (by kernel_rfl) (by kernel_rfl) (by kernel_rfl) (by kernel_rfl) (fun _ _ _ h => h) (Or.inl ⟨by kernel_rfl, fun w _ => by go_simp⟩) ?_
      try simp only [Act.put, List.setIfInBounds_toArray, List.set_cons_zero, List.set_cons_succ]
      refine wpLate_pure (i := 1) (v := .pointer (some ⟨dk, 0, none⟩)) rfl (by kernel_rfl) (by kernel_rfl) (by kernel_rfl) (by kernel_rfl) (fun _ _ _ h => h) (Or.inl ⟨by kernel_rfl, fun w _ => by go_simp⟩) ?_
      try simp only [Act.put, List.setIfInBounds_toArray, List.set_cons_zero, List.set_cons_succ]
      refine wpLate_pure (i := 2) (v := .pointer (some ⟨dk, 1, none⟩)) rfl (by kernel_rfl) (by kernel_rfl) (by kernel_rfl) (by kernel_rfl) (fun _ _ _ h => h) (Or.inl ⟨by kernel_rfl, fun w _ => by go_simp⟩) ?_
      try simp only [Act.put, List.setIfInBounds_toArray, List.set_cons_zero, List.set_cons_succ]
      refine wpLate_take (i := 3) (v := .slice (some ⟨g, 0, none⟩) fl cap) [9, 10, 12] rfl (by kernel_rfl) (by kernel_rfl) (by kernel_rfl) (by kernel_rfl) (by kernel_rfl) (by decide) (fun _ _ _ h => h) (Or.inl ⟨by kernel_rfl, fun w hS => by obtain ⟨hs0, hs1, hs2⟩ := hS; go_simp⟩) (by assumption) (fun hHeld => ?_)
      try simp only [Act.put, List.setIfInBounds_toArray, List.set_cons_zero, List.set_cons_succ]
      refine wpLate_pure (i := 4) (v := .slice (some ⟨bn, 0, none⟩) nN cN) rfl (by kernel_rfl) (by kernel_rfl) (by kernel_rfl) (by kernel_rfl) (fun _ _ _ h => h) (Or.inl ⟨by kernel_rfl, fun w _ => by go_simp⟩) ?_
      try simp only [Act.put, List.setIfInBounds_toArray, List.set_cons_zero, List.set_cons_succ]
      refine wpLate_pure (i := 5) (v := .int .i64 (k : Int)) rfl (by kernel_rfl) (by kernel_rfl) (by kernel_rfl) (by kernel_rfl) (fun _ _ _ h => h) (Or.inl ⟨by kernel_rfl, fun w _ => by go_simp⟩) ?_
      try simp only [Act.put, List.setIfInBounds_toArray, List.set_cons_zero, List.set_cons_succ]
      refine wpLate_pure (i := 6) (v := .pointer (some ⟨bn, k * 2, none⟩)) rfl (by kernel_rfl) (by kernel_rfl) (by kernel_rfl) (by kernel_rfl) (fun _ _ _ h => h) (Or.inl ⟨by kernel_rfl, fun w _ => by go_simp⟩) ?_
      try simp only [Act.put, List.setIfInBounds_toArray, List.set_cons_zero, List.set_cons_succ]
      refine wpLate_pure (i := 7) (v := .pointer (some ⟨bn, k * 2 + 1, none⟩)) rfl (by kernel_rfl) (by kernel_rfl) (by kernel_rfl) (by kernel_rfl) (fun _ _ _ h => h) (Or.inl ⟨by kernel_rfl, fun w _ => by go_simp⟩) ?_
      try simp only [Act.put, List.setIfInBounds_toArray, List.set_cons_zero, List.set_cons_succ]
      refine wpLate_take (i := 8) (v := .int .i64 (pf : Int)) [9, 10, 12] rfl (by kernel_rfl) (by kernel_rfl) (by kernel_rfl) (by kernel_rfl) (by kernel_rfl) (by decide) (fun _ _ _ h => h) (Or.inl ⟨by kernel_rfl, fun w hS => by obtain ⟨hs0, hs1, hs2⟩ := hS; go_simp⟩) (by assumption) (fun hHeld => ?_)
      try simp only [Act.put, List.setIfInBounds_toArray, List.set_cons_zero, List.set_cons_succ]
      refine wpLate_pure (i := 9) (v := .pointer (some ⟨g, pf * 3, none⟩)) rfl (by kernel_rfl) (by kernel_rfl) (by kernel_rfl) (by kernel_rfl) (fun _ _ _ h => h) (Or.inl ⟨by kernel_rfl, fun w _ => by go_simp⟩) ?_
      try simp only [Act.put, List.setIfInBounds_toArray, List.set_cons_zero, List.set_cons_succ]
      refine wpLate_take (i := 10) (v := .agg FC.toArray) [12] rfl (by kernel_rfl) (by kernel_rfl) (by kernel_rfl) (by kernel_rfl) (by kernel_rfl) (by decide) (fun _ _ _ h => h) (yieldsIf_load_mid (by kernel_rfl) 111 (.tmp 35) rfl g (pf * 3) (by kernel_rfl) FC _ (fun W h => h.2.2) Tryz.underlying111 rfl (by rw [sizeFile, HFC.out])) (by assumption) (fun hHeld => ?_)
      try simp only [Act.put, List.setIfInBounds_toArray, List.set_cons_zero, List.set_cons_succ]
      refine wpLate_one (i := 11) (o := ⟨some 8, .alloc 111, _, _, _, none⟩) (by kernel_rfl) rfl (fun K' hK' => ?_)
      rw [if_pos (by kernel_rfl)]
      with_reducible refine step_allocF _ (by kernel_rfl) ?_
      refine hK'.out _ _ (fun _ _ => CK.out _ ((Still.refl _).drew.alloc (Nat.le_refl _) _)) ?_
      clear hK' K'
      try simp only [Act.put, List.setIfInBounds_toArray, List.set_cons_zero, List.set_cons_succ]
      refine wpLate_one (i := 12) (o := ⟨none, .store 111 (.tmp 8) (.tmp 36), _, _, _, none⟩) (by kernel_rfl) rfl (fun K' hK' => ?_)
      rw [if_pos (by kernel_rfl)]
      with_reducible refine step_storeF _ (.tmp 8) (.tmp 36) (by kernel_rfl) wr.drew.heap.size FC.toArray (by kernel_rfl) (by kernel_rfl) _ (Blk.new wr.drew _ _) (by simp [HFC.out]) rfl ONE.out ?_
      refine hK'.out _ _ (fun _ h => absurd h (by decide)) ?_
      clear hK' K' hHeld
      try simp only [Act.put, List.setIfInBounds_toArray, List.set_cons_zero, List.set_cons_succ]
      refine wpLate_done (by kernel_rfl) ?_ _
      go_simp
      have E6 : ((wr.alloc (.cells #[.slice none 0 0, .slice none 0 0, .slice none 0 0] 111)).drew.setRow wr.heap.size FC.toArray) = (wr.alloc (.cells FC.toArray 111)).drew := by
        rw [← World.setRow_alloc_new wr #[.slice none 0 0, .slice none 0 0, .slice none 0 0] FC.toArray]
        rfl
      rw [E6]
      clear E6
      generalize hw6 : (wr.alloc (.cells FC.toArray 111)).drew = w6
      have S6 := Lib.hid (show Still wr w6 by rw [← hw6]; exact ((Still.refl wr).alloc (Nat.le_refl _) _).drew)
      have B6 := Lib.hid (show Blk w6 wr.heap.size 111 FC.toArray by rw [← hw6]; exact (Blk.new wr _ _).still ((Still.refl _).drew))
      generalize hw6b : wr.heap.size = w6b at B6 ⊢
      have HW6B := Lib.hid hw6b
      clear hw6 hw6b CK
      have FM := Lib.hid (fun W (t : Still wr W) => (show FileD W base own p.2 F FC from FileD.move (S := fun _ => False) (own' := own) FD.out (Chg.of_still t (fun _ => False)) (fun _ h => h.elim) (fun _ h => h.elim) (fun _ _ => rfl)))
      have BYT := Lib.hid (fun W (t : Still w6 W) (m : Nat) (hm : m ≤ F.waits.length) => bytes_D (T := 33554432) (FM.out W (Still.trans S6.out t)) HGF.out.fit (by decide) hm)
      obtain ⟨Af, nf, cf, Ag, ng, cg, Ah, nh, ch, ccs, rfl, r1, r2, r3, r4, r5, r6⟩ := FD.out
      have HNH := Lib.hid r3
      have hnh : nh ≤ 700000 := by have := HGF.out.cnt; have := HKK.out; omega
      have b2 : w6.cell? ⟨w6b, 2, none⟩ = some (.slice Ah nh ch) := B6.out.cell 2
      have NU1 := Lib.hid (NU0.out w6 (Still.trans S1.out (Still.trans CR.out.st S6.out)) (2 * k + 1) nh (by omega) (by omega))
      rw [show ((2 * k + 1 : Nat) : Int) = 2 * (k : Int) + 1 by omega] at NU1
      obtain ⟨m, hm⟩ : ∃ m, m = numD zs (2 * k + 1) nh := ⟨_, rfl⟩
      have HM := Lib.hid hm
      have hmn : m ≤ nh := by rw [hm]; exact numD_le _ _ _
      rw [← hm] at NU1
      have RB6 := Lib.hid (show w6.rangeAt w6b 0 [.slice Af nf cf, .slice Ag ng cg, .slice Ah nh ch] from fun q u hq => by
        rw [Nat.zero_add, B6.out.cell q]
        simpa using hq)
      have q5 : (k : Int) ≤ 700000 := by omega
      clear r1 r2 r3 hm
      go_wp2_with fail
      refine NU1.out.mono ?_
      rintro e w6' ⟨rfl, h0⟩
      have h0' := h0.symm
      subst h0'
      clear h0
      have BY := Lib.hid (BYT.out _ (Still.refl _) m (by rw [← HNH.out]; exact hmn))
      obtain ⟨B7, hB7⟩ : ∃ B7, B7 = bytesD F m := ⟨_, rfl⟩
      have HB7 := Lib.hid hB7
      rw [← hB7] at BY
      clear hB7 NU1
      go_wp2_with ((first
        | (guard_target =~ wpList _ _ _ (Oper.mk (some 45) _ _ _ _ _ :: _) _ _; go_must (refine wpList_load_mid rfl 111 (.tmp 8) rfl w6b 0 rfl [.slice Af nf cf, .slice Ag ng cg, .slice Ah nh ch] _ RB6.out Tryz.underlying111 rfl (by rw [sizeFile]; rfl) ?_))
        | fail))
      refine BY.out.mono ?_
      rintro e w7 ⟨⟨A7, c7, rfl, o7⟩, s7⟩
      have O7 := Lib.hid o7
      have S7 := Lib.hid s7
      have HB7L := Lib.hid (show B7.length ≤ 33554432 from by rw [HB7.out]; exact HGF.out.most m)
      obtain ⟨lb, hlb⟩ : ∃ lb, lb = B7.length := ⟨_, rfl⟩
      rw [← hlb] at O7 ⊢
      have HLBB := Lib.hid hlb
      have b27 : w7.cell? ⟨w6b, 2, none⟩ = some (.slice Ah nh ch) := (B6.out.still s7).cell 2
      clear o7 s7 hlb BY b2
      by_cases hmlt : m < nh
      · obtain ⟨x, hx⟩ : ∃ x, F.waits[m]? = some x := ⟨_, List.getElem?_eq_getElem (by rw [← HNH.out]; exact hmlt)⟩
        obtain ⟨Ax, nx, cx, hxc, hxr⟩ := r5.2 m x hx
        obtain ⟨gw, hgw, hgl, hcl2⟩ : ∃ gw, Ah = some ⟨gw, 0, none⟩ ∧ gw < wr.heap.size ∧ nh ≤ ch ∧ ch ≤ 9223372036854775807 := by
          rcases r4.2 with ⟨_, h0⟩ | ⟨gw, cp, cur, hv, _, hb, hnc, hm2, _⟩
          · omega
          · injection hv with hv1 _ hv3
            subst hv3
            exact ⟨gw, hv1, (Array.getElem?_eq_some_iff.1 hb).1, hnc, by unfold maxLen at hm2; omega⟩
        subst hgw
        obtain ⟨hcl3, hcl4⟩ := hcl2
        have CX0 := Lib.hid (fun W (t : Still wr W) => (show W.cell? ⟨gw, m * 3, none⟩ = some (.bool x.cut) ∧ W.cell? ⟨gw, m * 3 + 2, none⟩ = some (.slice Ax nx cx) from by
          have at_ : ∀ q u, ([.bool x.cut, .int .i64 x.k, .slice Ax nx cx] : List Value)[q]? = some u → W.cell? ⟨gw, m * 3 + q, none⟩ = some u := fun q u hq => by
            have hq3 : q < 3 := by have := (List.getElem?_eq_some_iff.1 hq).1; simpa using this
            rw [t.cell (p := ⟨gw, m * 3 + q, none⟩) hgl, r4.cellAt (m * 3 + q) (by omega)]
            exact hxc q u hq
          exact ⟨at_ 0 _ rfl, at_ 2 _ rfl⟩))
        have RX := Lib.hid (hxr.still (Still.trans S6.out S7.out))
        have HX := Lib.hid hx
        obtain ⟨d0, d2⟩ := CX0.out w7 (Still.trans S6.out S7.out)
        have q6 : (m : Int) < (nh : Int) := by omega
        clear hx hxc hxr r4 r5 r6
        obtain ⟨cu, ki, xb⟩ := x
        cases cu
        · have CX := Lib.hid (fun W (t : Still w6 W) => (show W.cell? ⟨w6b, 2, none⟩ = some (.slice (some ⟨gw, 0, none⟩) nh ch) ∧ W.cell? ⟨gw, m * 3 + 2, none⟩ = some (.slice Ax nx cx) from ⟨(B6.out.still t).cell 2, (CX0.out W (Still.trans S6.out t)).2⟩))
          have NU2 := Lib.hid (fun W (t : Still w6 W) => NU0.out W (Still.trans S1.out (Still.trans CR.out.st (Still.trans S6.out t))) (2 * k + 2) nx (by omega) (by have := RX.out.fit; have := RX.out.cap; omega))
          rw [show ((2 * k + 2 : Nat) : Int) = 2 * (k : Int) + 2 by omega] at NU2
          obtain ⟨mt, hmt⟩ : ∃ mt, mt = numD zs (2 * k + 2) nx := ⟨_, rfl⟩
          have HMT := Lib.hid hmt
          rw [← hmt] at NU2
          have hmtn : mt ≤ nx := by rw [hmt]; exact numD_le _ _ _
          have HXL := Lib.hid (show xb.length = nx from RX.out.len)
          have hnx : nx ≤ 33554432 := by have := HGF.out.each _ (List.mem_of_getElem? HX.out); have h9 : xb.length ≤ 33554432 := this; have := HXL.out; omega
          have hfit := RX.out.fit
          have hcap := RX.out.cap
          have HLB := Lib.hid (show lb + mt ≤ 140737488355328 by have := HB7L.out; have := HLBB.out; omega)
          have RTK := Lib.hid ((RX.out.takek hmtn).still ((Still.refl w7).drew))
          have HTL := Lib.hid (show (B7 ++ xb.take mt).length = lb + mt by rw [List.length_append, List.length_take, HXL.out, ← HLBB.out]; omega)
          have wr1 : IntKind.i64.wrap (2 * (k : Int)) = 2 * (k : Int) := by rw [IntKind.wrap_i64]; omega
          have wr2 : IntKind.i64.wrap (2 * (k : Int) + 2) = 2 * (k : Int) + 2 := by rw [IntKind.wrap_i64]; omega
          clear hmt
          rcases Ax with _ | ax
          · obtain ⟨hn0, hc0⟩ := RX.out.nil rfl
            subst hn0 hc0
            obtain rfl : mt = 0 := by omega
            rw [show ((0 : Nat) : Int) = 0 from rfl] at NU2
            go_upto_region 10 with fail
            refine wp_region_late (S := fun W => W.cell? ⟨w6b, 2, none⟩ = some (.slice (some ⟨gw, 0, none⟩) nh ch) ∧ W.cell? ⟨gw, m * 3 + 2, none⟩ = some (.slice none 0 0)) [] (by kernel_rfl) (CX.out _ S7.out.drew) (fun hHeld => ?_)
            try simp only [Act.put, List.setIfInBounds_toArray, List.set_cons_zero, List.set_cons_succ]
            refine wpLate_pure (i := 0) (v := .slice A7 lb c7) rfl (by kernel_rfl) (by kernel_rfl) (by kernel_rfl) (by kernel_rfl) (fun _ _ _ h => h) (Or.inl ⟨by kernel_rfl, fun w _ => by go_simp <;> first | exact wr1 | exact wr2 | (intro h; omega)⟩) ?_
            try simp only [Act.put, List.setIfInBounds_toArray, List.set_cons_zero, List.set_cons_succ]
            refine wpLate_pure (i := 1) (v := .pointer (some ⟨w6b, 2, none⟩)) rfl (by kernel_rfl) (by kernel_rfl) (by kernel_rfl) (by kernel_rfl) (fun _ _ _ h => h) (Or.inl ⟨by kernel_rfl, fun w _ => by go_simp <;> first | exact wr1 | exact wr2 | (intro h; omega)⟩) ?_
            try simp only [Act.put, List.setIfInBounds_toArray, List.set_cons_zero, List.set_cons_succ]
            refine wpLate_take (i := 2) (v := .slice (some ⟨gw, 0, none⟩) nh ch) [] rfl (by kernel_rfl) (by kernel_rfl) (by kernel_rfl) (by kernel_rfl) (by kernel_rfl) (by decide) (fun _ _ _ h => h) (Or.inl ⟨by kernel_rfl, fun w hS => by obtain ⟨hs0, hs1⟩ := hS; go_simp⟩) (by assumption) (fun hHeld => ?_)
            try simp only [Act.put, List.setIfInBounds_toArray, List.set_cons_zero, List.set_cons_succ]
            refine wpLate_pure (i := 3) (v := .int .i64 (m : Int)) rfl (by kernel_rfl) (by kernel_rfl) (by kernel_rfl) (by kernel_rfl) (fun _ _ _ h => h) (Or.inl ⟨by kernel_rfl, fun w _ => by go_simp <;> first | exact wr1 | exact wr2 | (intro h; omega)⟩) ?_
            try simp only [Act.put, List.setIfInBounds_toArray, List.set_cons_zero, List.set_cons_succ]
            refine wpLate_pure (i := 4) (v := .pointer (some ⟨gw, m * 3, none⟩)) rfl (by kernel_rfl) (by kernel_rfl) (by kernel_rfl) (by kernel_rfl) (fun _ _ _ h => h) (Or.inl ⟨by kernel_rfl, fun w _ => by go_simp <;> first | exact wr1 | exact wr2 | (intro h; omega)⟩) ?_
            try simp only [Act.put, List.setIfInBounds_toArray, List.set_cons_zero, List.set_cons_succ]
            refine wpLate_pure (i := 5) (v := .pointer (some ⟨gw, m * 3 + 2, none⟩)) rfl (by kernel_rfl) (by kernel_rfl) (by kernel_rfl) (by kernel_rfl) (fun _ _ _ h => h) (Or.inl ⟨by kernel_rfl, fun w _ => by go_simp <;> first | exact wr1 | exact wr2 | (intro h; omega)⟩) ?_
            try simp only [Act.put, List.setIfInBounds_toArray, List.set_cons_zero, List.set_cons_succ]
            refine wpLate_take (i := 6) (v := .slice none 0 0) [] rfl (by kernel_rfl) (by kernel_rfl) (by kernel_rfl) (by kernel_rfl) (by kernel_rfl) (by decide) (fun _ _ _ h => h) (Or.inl ⟨by kernel_rfl, fun w hS => by obtain ⟨hs0, hs1⟩ := hS; go_simp⟩) (by assumption) (fun hHeld => ?_)
            try simp only [Act.put, List.setIfInBounds_toArray, List.set_cons_zero, List.set_cons_succ]
            refine wpLate_pure (i := 7) (v := .slice Az nz cz) rfl (by kernel_rfl) (by kernel_rfl) (by kernel_rfl) (by kernel_rfl) (fun _ _ _ h => h) (Or.inl ⟨by kernel_rfl, fun w _ => by go_simp <;> first | exact wr1 | exact wr2 | (intro h; omega)⟩) ?_
            try simp only [Act.put, List.setIfInBounds_toArray, List.set_cons_zero, List.set_cons_succ]
            refine wpLate_pure (i := 8) (v := .int .i64 (k : Int)) rfl (by kernel_rfl) (by kernel_rfl) (by kernel_rfl) (by kernel_rfl) (fun _ _ _ h => h) (Or.inl ⟨by kernel_rfl, fun w _ => by go_simp <;> first | exact wr1 | exact wr2 | (intro h; omega)⟩) ?_
            try simp only [Act.put, List.setIfInBounds_toArray, List.set_cons_zero, List.set_cons_succ]
            refine wpLate_pure (i := 9) (v := .int .i64 (2 * (k : Int))) rfl (by kernel_rfl) (by kernel_rfl) (by kernel_rfl) (by kernel_rfl) (fun _ _ _ h => h) (Or.inl ⟨by kernel_rfl, fun w _ => by go_simp <;> first | exact wr1 | exact wr2 | (intro h; omega)⟩) ?_
            try simp only [Act.put, List.setIfInBounds_toArray, List.set_cons_zero, List.set_cons_succ]
            refine wpLate_pure (i := 10) (v := .int .i64 (2 * (k : Int) + 2)) rfl (by kernel_rfl) (by kernel_rfl) (by kernel_rfl) (by kernel_rfl) (fun _ _ _ h => h) (Or.inl ⟨by kernel_rfl, fun w _ => by go_simp <;> first | exact wr1 | exact wr2 | (intro h; omega)⟩) ?_
            try simp only [Act.put, List.setIfInBounds_toArray, List.set_cons_zero, List.set_cons_succ]
            refine wpLate_pure (i := 11) (v := .pointer (some ⟨w6b, 2, none⟩)) rfl (by kernel_rfl) (by kernel_rfl) (by kernel_rfl) (by kernel_rfl) (fun _ _ _ h => h) (Or.inl ⟨by kernel_rfl, fun w _ => by go_simp <;> first | exact wr1 | exact wr2 | (intro h; omega)⟩) ?_
            try simp only [Act.put, List.setIfInBounds_toArray, List.set_cons_zero, List.set_cons_succ]
            refine wpLate_take (i := 12) (v := .slice (some ⟨gw, 0, none⟩) nh ch) [] rfl (by kernel_rfl) (by kernel_rfl) (by kernel_rfl) (by kernel_rfl) (by kernel_rfl) (by decide) (fun _ _ _ h => h) (Or.inl ⟨by kernel_rfl, fun w hS => by obtain ⟨hs0, hs1⟩ := hS; go_simp⟩) (by assumption) (fun hHeld => ?_)
            try simp only [Act.put, List.setIfInBounds_toArray, List.set_cons_zero, List.set_cons_succ]
            refine wpLate_pure (i := 13) (v := .int .i64 (m : Int)) rfl (by kernel_rfl) (by kernel_rfl) (by kernel_rfl) (by kernel_rfl) (fun _ _ _ h => h) (Or.inl ⟨by kernel_rfl, fun w _ => by go_simp <;> first | exact wr1 | exact wr2 | (intro h; omega)⟩) ?_
            try simp only [Act.put, List.setIfInBounds_toArray, List.set_cons_zero, List.set_cons_succ]
            refine wpLate_pure (i := 14) (v := .pointer (some ⟨gw, m * 3, none⟩)) rfl (by kernel_rfl) (by kernel_rfl) (by kernel_rfl) (by kernel_rfl) (fun _ _ _ h => h) (Or.inl ⟨by kernel_rfl, fun w _ => by go_simp <;> first | exact wr1 | exact wr2 | (intro h; omega)⟩) ?_
            try simp only [Act.put, List.setIfInBounds_toArray, List.set_cons_zero, List.set_cons_succ]
            refine wpLate_pure (i := 15) (v := .pointer (some ⟨gw, m * 3 + 2, none⟩)) rfl (by kernel_rfl) (by kernel_rfl) (by kernel_rfl) (by kernel_rfl) (fun _ _ _ h => h) (Or.inl ⟨by kernel_rfl, fun w _ => by go_simp <;> first | exact wr1 | exact wr2 | (intro h; omega)⟩) ?_
            try simp only [Act.put, List.setIfInBounds_toArray, List.set_cons_zero, List.set_cons_succ]
            refine wpLate_take (i := 16) (v := .slice none 0 0) [] rfl (by kernel_rfl) (by kernel_rfl) (by kernel_rfl) (by kernel_rfl) (by kernel_rfl) (by decide) (fun _ _ _ h => h) (Or.inl ⟨by kernel_rfl, fun w hS => by obtain ⟨hs0, hs1⟩ := hS; go_simp⟩) (by assumption) (fun hHeld => ?_)
            try simp only [Act.put, List.setIfInBounds_toArray, List.set_cons_zero, List.set_cons_succ]
            refine wpLate_pure (i := 17) (v := .int .i64 0) rfl (by kernel_rfl) (by kernel_rfl) (by kernel_rfl) (by kernel_rfl) (fun _ _ _ h => h) (Or.inl ⟨by kernel_rfl, fun w _ => by go_simp <;> first | exact wr1 | exact wr2 | (intro h; omega)⟩) ?_
            try simp only [Act.put, List.setIfInBounds_toArray, List.set_cons_zero, List.set_cons_succ]
            refine wpLate_one (i := 18) (o := ⟨some 80, .call { callee := .value (.func 70), args := #[.tmp 69, .tmp 72, .tmp 79], argTypes := #[34, 3, 3] }, _, _, _, none⟩) (by kernel_rfl) rfl (fun K' hK' => ?_)
            go_simp
            go_wp2_with (go_at_call 70; with_reducible refine (NU2.out _ S7.out.drew).mono ?_; rintro e w8 ⟨rfl, h0⟩)
            have h0' := h0.symm
            subst h0'
            clear h0
            refine hK'.out _ _ (fun _ _ => CX.out _ S7.out.drew) ?_
            clear hK' K'
            try simp only [Act.put, List.setIfInBounds_toArray, List.set_cons_zero, List.set_cons_succ]
            refine wpLate_pure (i := 19) (v := .slice none 0 0) rfl (by kernel_rfl) (by kernel_rfl) (by kernel_rfl) (by kernel_rfl) (fun _ _ _ h => h) (Or.inl ⟨by kernel_rfl, fun w _ => by go_simp <;> first | exact wr1 | exact wr2 | (intro h; omega)⟩) ?_
            try simp only [Act.put, List.setIfInBounds_toArray, List.set_cons_zero, List.set_cons_succ]
            refine wpLate_one (i := 20) (o := ⟨some 82, .call { callee := .builtin .append, args := #[.tmp 62, .tmp 81], argTypes := #[31, 31] }, _, _, _, none⟩) (by kernel_rfl) rfl (fun K' hK' => ?_)
            rw [if_pos (by kernel_rfl)]
            with_reducible refine wp_adds _ (.tmp 62) (.tmp 81) (by kernel_rfl) w6.heap.size (.slice A7 lb c7) lb B7 (by kernel_rfl) (O7.out.drew) none 0 0 _ (xb.take 0) (by kernel_rfl) (RTK.out).reads (fun e => (RTK.out.nil e).2) HLB.out S7.out.drew.size ?_
            intro v9 w9 o9 g9 _
            rw [Nat.add_zero, List.take_zero, List.append_nil] at o9
            obtain ⟨A9, c9, rfl⟩ := own_formN o9
            have S9 := Lib.hid (show Still w6 w9 from still_push S7.out.drew (O7.out.drew) (Nat.le_refl _) g9)
            have O9 := Lib.hid o9
            clear o9 g9
            refine hK'.out _ _ (fun _ _ => CX.out _ S9.out) ?_
            clear hK' K' hHeld
            try simp only [Act.put, List.setIfInBounds_toArray, List.set_cons_zero, List.set_cons_succ]
            refine wpLate_one (i := 21) (o := ⟨some 10, .assign (.tmp 82), _, _, _, none⟩) (by kernel_rfl) rfl (fun K' hK' => ?_)
            rw [if_pos (by kernel_rfl)]
            go_simp
            refine hK'.out _ _ (fun _ h => CX.out _ S9.out) ?_
            clear hK' K'
            try simp only [Act.put, List.setIfInBounds_toArray, List.set_cons_zero, List.set_cons_succ]
            refine wpLate_done (by kernel_rfl) ?_ _
            go_simp
            have S9T := Lib.hid (S9.out)
            have CPY := Lib.hid (copy_any A9 lb c9 B7 w9 _ (Reads.of_own O9.out) (by have := HB7L.out; have := HLBB.out; omega) (by obtain ⟨_, _, ev, _, _, e3⟩ := own_form O9.out; injection ev with q1 _ q3; subst q1 q3; exact e3))
            have CRB := Lib.hid (show crFi F zs k = ⟨B7, B7, []⟩ from by
              unfold crFi crB crTorn crLen
              rw [← HNH.out, ← HM.out, ← HB7.out]
              simp only [HX.out]
              rw [HXL.out, ← HMT.out]
              simp only [List.take_zero, List.append_nil, Bool.false_eq_true, if_false])
            go_wp2_with fail
            refine CPY.out.mono ?_
            rintro e w10 ⟨⟨v10, rfl, o10⟩, s10⟩
            obtain ⟨A10, c10, rfl⟩ := own_formN o10
            have O10 := Lib.hid o10
            have S10 := Lib.hid s10
            have CR10 := Lib.hid (CR.out.still (Still.trans S6.out (Still.trans S9T.out s10)))
            have OF := Lib.hid (show w10.ownsRow w1.heap.size 111 3 fv' k fcs' from by have := CR10.out.fown; rw [crFiles_length] at this; exact this)
            have NMW := Lib.hid (show w1.heap.size ≤ w10.heap.size from CR10.out.st.size)
            have hk7 : k ≤ 1048576 := by omega
            clear o10 s10 CPY
            go_wp2_with ((first
              | (guard_target =~ wpList _ _ _ (Oper.mk (some 88) _ _ _ _ _ :: _) _ _; go_must (refine wpList_boxDf _ rfl _ rfl _ _ _ _ _ _ _ _ _ rfl ?_))
              | (guard_target =~ wpList _ _ _ (Oper.mk (some 89) _ _ _ _ _ :: _) _ _; go_must (refine wpList_pushDf _ rfl _ _ rfl w1.heap.size _ _ _ rfl (OF.out.alloc _) w10.heap.size [.slice A9 lb c9, .slice A10 lb c10, .slice none 0 0] rfl (fun q u hq => ((Blk.new w10 111 #[.slice A9 lb c9, .slice A10 lb c10, .slice none 0 0]).cell q).trans (by simpa using hq)) rfl (by simp [Value.oneCell']) hk7 (by have := NMW.out; simp; omega) ?_))
              | fail))
            intro v12 w12 o12 g12 hv12
            obtain ⟨A12, c12, rfl⟩ := own_formN o12
            have CR12 := Lib.hid (show CrS w1 w12 (.slice A12 (k + 1) c12) sv' (fcs' ++ [.slice A9 lb c9, .slice A10 lb c10, .slice none 0 0]) (crFiles D zs N (k + 1)) (crNames N k) from by
              have sal : Still w10 (w10.alloc (.cells #[.slice A9 lb c9, .slice A10 lb c10, .slice none 0 0] 111)) := (Still.refl w10).alloc (Nat.le_refl _) _
              have ca := CR10.out.still sal
              have h6 := S6.out.size
              have h9 := S9T.out.size
              have hs10 := S10.out.size
              rw [HSUF.out, CRB.out]
              refine ca.file (lo := w6.heap.size) (((RowP.of_own O9.out).mono (fun b hb _ => hb.1)).still (Still.trans S10.out sal)) (((RowP.of_own O10.out).mono (fun b hb _ => by have := hb.1; omega)).still sal) (by have := CR.out.st.size; omega) (fun b e => ?_) (fun b e => ?_) (by rw [crFiles_length]; exact o12) g12 (by simpa using hv12)
              · have := (CR.out.fown.lt b e).2; omega
              · have := (CR.out.sown.lt b e).2; omega)
            have nm12 := NMC.out w12 CR12.out.st
            have OS := Lib.hid (show w12.ownsRow w1.heap.size 92 2 sv' k (nmV (crNames N k)) from by have := CR12.out.sown; rw [crNames_length] at this; exact this)
            have NM12 := Lib.hid (show w1.heap.size ≤ w12.heap.size from CR12.out.st.size)
            obtain ⟨X, hX⟩ : ∃ X, X = nmS p := ⟨_, rfl⟩
            rw [← hX] at nm12
            have HX2 := Lib.hid hX
            clear o12 g12 hv12 hX
            go_wp2_with ((first
              | (guard_target =~ wpList _ _ _ (Oper.mk (some 98) _ _ _ _ _ :: _) _ _; go_must (refine wpList_boxDn _ rfl _ rfl _ _ rfl ?_))
              | (guard_target =~ wpList _ _ _ (Oper.mk (some 99) _ _ _ _ _ :: _) _ _; go_must (refine wpList_pushDn _ rfl _ _ rfl w1.heap.size _ _ _ rfl (OS.out.alloc _) w12.heap.size [.string X, .int .i64 (k : Int)] rfl (fun q u hq => ((Blk.new w12 92 #[.string X, .int .i64 (k : Int)]).cell q).trans (by simpa using hq)) rfl (by simp [Value.oneCell']) hk7 (by have := NM12.out; simp; omega) ?_))
              | fail))
            intro v14 w14 o14 g14 hv14
            have CR14 := Lib.hid (show CrS w1 w14 (.slice A12 (k + 1) c12) v14 (fcs' ++ [.slice A9 lb c9, .slice A10 lb c10, .slice none 0 0]) (crFiles D zs N (k + 1)) (crNames N (k + 1)) from by
              have sal : Still w12 (w12.alloc (.cells #[.string X, .int .i64 (k : Int)] 92)) := (Still.refl w12).alloc (Nat.le_refl _) _
              have ca := CR12.out.still sal
              rw [HSUN.out]
              refine ca.name (p := (p.1, k)) ?_ g14 (by simpa using hv14)
              rw [crNames_length]
              have : nmC (p.1, k) = [.string X, .int .i64 (k : Int)] := by rw [HX2.out]; rfl
              rw [this]
              exact o14)
            clear o14 g14 hv14 nm12
            go_wp2_with fail
            go_roundw
            case rel => exact ⟨k + 1, _, v14, _, rfl, rfl, by go_num, by have := HLT.out; omega, CR14⟩
            case measure => simp [intOf]; have := HLT.out; omega
          · go_upto_region 10 with fail
            refine wp_region_late (S := fun W => W.cell? ⟨w6b, 2, none⟩ = some (.slice (some ⟨gw, 0, none⟩) nh ch) ∧ W.cell? ⟨gw, m * 3 + 2, none⟩ = some (.slice (some ax) nx cx)) [] (by kernel_rfl) (CX.out _ S7.out.drew) (fun hHeld => ?_)
            try simp only [Act.put, List.setIfInBounds_toArray, List.set_cons_zero, List.set_cons_succ]
            refine wpLate_pure (i := 0) (v := .slice A7 lb c7) rfl (by kernel_rfl) (by kernel_rfl) (by kernel_rfl) (by kernel_rfl) (fun _ _ _ h => h) (Or.inl ⟨by kernel_rfl, fun w _ => by go_simp <;> first | exact wr1 | exact wr2 | (intro h; omega)⟩) ?_
            try simp only [Act.put, List.setIfInBounds_toArray, List.set_cons_zero, List.set_cons_succ]
            refine wpLate_pure (i := 1) (v := .pointer (some ⟨w6b, 2, none⟩)) rfl (by kernel_rfl) (by kernel_rfl) (by kernel_rfl) (by kernel_rfl) (fun _ _ _ h => h) (Or.inl ⟨by kernel_rfl, fun w _ => by go_simp <;> first | exact wr1 | exact wr2 | (intro h; omega)⟩) ?_
            try simp only [Act.put, List.setIfInBounds_toArray, List.set_cons_zero, List.set_cons_succ]
            refine wpLate_take (i := 2) (v := .slice (some ⟨gw, 0, none⟩) nh ch) [] rfl (by kernel_rfl) (by kernel_rfl) (by kernel_rfl) (by kernel_rfl) (by kernel_rfl) (by decide) (fun _ _ _ h => h) (Or.inl ⟨by kernel_rfl, fun w hS => by obtain ⟨hs0, hs1⟩ := hS; go_simp⟩) (by assumption) (fun hHeld => ?_)
            try simp only [Act.put, List.setIfInBounds_toArray, List.set_cons_zero, List.set_cons_succ]
            refine wpLate_pure (i := 3) (v := .int .i64 (m : Int)) rfl (by kernel_rfl) (by kernel_rfl) (by kernel_rfl) (by kernel_rfl) (fun _ _ _ h => h) (Or.inl ⟨by kernel_rfl, fun w _ => by go_simp <;> first | exact wr1 | exact wr2 | (intro h; omega)⟩) ?_
            try simp only [Act.put, List.setIfInBounds_toArray, List.set_cons_zero, List.set_cons_succ]
            refine wpLate_pure (i := 4) (v := .pointer (some ⟨gw, m * 3, none⟩)) rfl (by kernel_rfl) (by kernel_rfl) (by kernel_rfl) (by kernel_rfl) (fun _ _ _ h => h) (Or.inl ⟨by kernel_rfl, fun w _ => by go_simp <;> first | exact wr1 | exact wr2 | (intro h; omega)⟩) ?_
            try simp only [Act.put, List.setIfInBounds_toArray, List.set_cons_zero, List.set_cons_succ]
            refine wpLate_pure (i := 5) (v := .pointer (some ⟨gw, m * 3 + 2, none⟩)) rfl (by kernel_rfl) (by kernel_rfl) (by kernel_rfl) (by kernel_rfl) (fun _ _ _ h => h) (Or.inl ⟨by kernel_rfl, fun w _ => by go_simp <;> first | exact wr1 | exact wr2 | (intro h; omega)⟩) ?_
            try simp only [Act.put, List.setIfInBounds_toArray, List.set_cons_zero, List.set_cons_succ]
            refine wpLate_take (i := 6) (v := .slice (some ax) nx cx) [] rfl (by kernel_rfl) (by kernel_rfl) (by kernel_rfl) (by kernel_rfl) (by kernel_rfl) (by decide) (fun _ _ _ h => h) (Or.inl ⟨by kernel_rfl, fun w hS => by obtain ⟨hs0, hs1⟩ := hS; go_simp⟩) (by assumption) (fun hHeld => ?_)
            try simp only [Act.put, List.setIfInBounds_toArray, List.set_cons_zero, List.set_cons_succ]
            refine wpLate_pure (i := 7) (v := .slice Az nz cz) rfl (by kernel_rfl) (by kernel_rfl) (by kernel_rfl) (by kernel_rfl) (fun _ _ _ h => h) (Or.inl ⟨by kernel_rfl, fun w _ => by go_simp <;> first | exact wr1 | exact wr2 | (intro h; omega)⟩) ?_
            try simp only [Act.put, List.setIfInBounds_toArray, List.set_cons_zero, List.set_cons_succ]
            refine wpLate_pure (i := 8) (v := .int .i64 (k : Int)) rfl (by kernel_rfl) (by kernel_rfl) (by kernel_rfl) (by kernel_rfl) (fun _ _ _ h => h) (Or.inl ⟨by kernel_rfl, fun w _ => by go_simp <;> first | exact wr1 | exact wr2 | (intro h; omega)⟩) ?_
            try simp only [Act.put, List.setIfInBounds_toArray, List.set_cons_zero, List.set_cons_succ]
            refine wpLate_pure (i := 9) (v := .int .i64 (2 * (k : Int))) rfl (by kernel_rfl) (by kernel_rfl) (by kernel_rfl) (by kernel_rfl) (fun _ _ _ h => h) (Or.inl ⟨by kernel_rfl, fun w _ => by go_simp <;> first | exact wr1 | exact wr2 | (intro h; omega)⟩) ?_
            try simp only [Act.put, List.setIfInBounds_toArray, List.set_cons_zero, List.set_cons_succ]
            refine wpLate_pure (i := 10) (v := .int .i64 (2 * (k : Int) + 2)) rfl (by kernel_rfl) (by kernel_rfl) (by kernel_rfl) (by kernel_rfl) (fun _ _ _ h => h) (Or.inl ⟨by kernel_rfl, fun w _ => by go_simp <;> first | exact wr1 | exact wr2 | (intro h; omega)⟩) ?_
            try simp only [Act.put, List.setIfInBounds_toArray, List.set_cons_zero, List.set_cons_succ]
            refine wpLate_pure (i := 11) (v := .pointer (some ⟨w6b, 2, none⟩)) rfl (by kernel_rfl) (by kernel_rfl) (by kernel_rfl) (by kernel_rfl) (fun _ _ _ h => h) (Or.inl ⟨by kernel_rfl, fun w _ => by go_simp <;> first | exact wr1 | exact wr2 | (intro h; omega)⟩) ?_
            try simp only [Act.put, List.setIfInBounds_toArray, List.set_cons_zero, List.set_cons_succ]
            refine wpLate_take (i := 12) (v := .slice (some ⟨gw, 0, none⟩) nh ch) [] rfl (by kernel_rfl) (by kernel_rfl) (by kernel_rfl) (by kernel_rfl) (by kernel_rfl) (by decide) (fun _ _ _ h => h) (Or.inl ⟨by kernel_rfl, fun w hS => by obtain ⟨hs0, hs1⟩ := hS; go_simp⟩) (by assumption) (fun hHeld => ?_)
            try simp only [Act.put, List.setIfInBounds_toArray, List.set_cons_zero, List.set_cons_succ]
            refine wpLate_pure (i := 13) (v := .int .i64 (m : Int)) rfl (by kernel_rfl) (by kernel_rfl) (by kernel_rfl) (by kernel_rfl) (fun _ _ _ h => h) (Or.inl ⟨by kernel_rfl, fun w _ => by go_simp <;> first | exact wr1 | exact wr2 | (intro h; omega)⟩) ?_
            try simp only [Act.put, List.setIfInBounds_toArray, List.set_cons_zero, List.set_cons_succ]
            refine wpLate_pure (i := 14) (v := .pointer (some ⟨gw, m * 3, none⟩)) rfl (by kernel_rfl) (by kernel_rfl) (by kernel_rfl) (by kernel_rfl) (fun _ _ _ h => h) (Or.inl ⟨by kernel_rfl, fun w _ => by go_simp <;> first | exact wr1 | exact wr2 | (intro h; omega)⟩) ?_
            try simp only [Act.put, List.setIfInBounds_toArray, List.set_cons_zero, List.set_cons_succ]
            refine wpLate_pure (i := 15) (v := .pointer (some ⟨gw, m * 3 + 2, none⟩)) rfl (by kernel_rfl) (by kernel_rfl) (by kernel_rfl) (by kernel_rfl) (fun _ _ _ h => h) (Or.inl ⟨by kernel_rfl, fun w _ => by go_simp <;> first | exact wr1 | exact wr2 | (intro h; omega)⟩) ?_
            try simp only [Act.put, List.setIfInBounds_toArray, List.set_cons_zero, List.set_cons_succ]
            refine wpLate_take (i := 16) (v := .slice (some ax) nx cx) [] rfl (by kernel_rfl) (by kernel_rfl) (by kernel_rfl) (by kernel_rfl) (by kernel_rfl) (by decide) (fun _ _ _ h => h) (Or.inl ⟨by kernel_rfl, fun w hS => by obtain ⟨hs0, hs1⟩ := hS; go_simp⟩) (by assumption) (fun hHeld => ?_)
            try simp only [Act.put, List.setIfInBounds_toArray, List.set_cons_zero, List.set_cons_succ]
            refine wpLate_pure (i := 17) (v := .int .i64 (nx : Int)) rfl (by kernel_rfl) (by kernel_rfl) (by kernel_rfl) (by kernel_rfl) (fun _ _ _ h => h) (Or.inl ⟨by kernel_rfl, fun w _ => by go_simp <;> first | exact wr1 | exact wr2 | (intro h; omega)⟩) ?_
            try simp only [Act.put, List.setIfInBounds_toArray, List.set_cons_zero, List.set_cons_succ]
            refine wpLate_one (i := 18) (o := ⟨some 80, .call { callee := .value (.func 70), args := #[.tmp 69, .tmp 72, .tmp 79], argTypes := #[34, 3, 3] }, _, _, _, none⟩) (by kernel_rfl) rfl (fun K' hK' => ?_)
            go_simp
            go_wp2_with (go_at_call 70; with_reducible refine (NU2.out _ S7.out.drew).mono ?_; rintro e w8 ⟨rfl, h0⟩)
            have h0' := h0.symm
            subst h0'
            clear h0
            refine hK'.out _ _ (fun _ _ => CX.out _ S7.out.drew) ?_
            clear hK' K'
            try simp only [Act.put, List.setIfInBounds_toArray, List.set_cons_zero, List.set_cons_succ]
            refine wpLate_pure (i := 19) (v := .slice (some ax) mt cx) rfl (by kernel_rfl) (by kernel_rfl) (by kernel_rfl) (by kernel_rfl) (fun _ _ _ h => h) (Or.inl ⟨by kernel_rfl, fun w _ => by go_simp <;> first | exact wr1 | exact wr2 | (intro h; omega)⟩) ?_
            try simp only [Act.put, List.setIfInBounds_toArray, List.set_cons_zero, List.set_cons_succ]
            refine wpLate_one (i := 20) (o := ⟨some 82, .call { callee := .builtin .append, args := #[.tmp 62, .tmp 81], argTypes := #[31, 31] }, _, _, _, none⟩) (by kernel_rfl) rfl (fun K' hK' => ?_)
            rw [if_pos (by kernel_rfl)]
            with_reducible refine wp_adds _ (.tmp 62) (.tmp 81) (by kernel_rfl) w6.heap.size (.slice A7 lb c7) lb B7 (by kernel_rfl) (O7.out.drew) (some ax) mt cx _ (xb.take mt) (by kernel_rfl) (RTK.out).reads (fun e => (RTK.out.nil e).2) HLB.out S7.out.drew.size ?_
            intro v9 w9 o9 g9 _
            obtain ⟨A9, c9, rfl⟩ := own_formN o9
            have S9 := Lib.hid (show Still w6 w9 from still_push S7.out.drew (O7.out.drew) (Nat.le_refl _) g9)
            have O9 := Lib.hid o9
            clear o9 g9
            refine hK'.out _ _ (fun _ _ => CX.out _ S9.out) ?_
            clear hK' K' hHeld
            try simp only [Act.put, List.setIfInBounds_toArray, List.set_cons_zero, List.set_cons_succ]
            refine wpLate_one (i := 21) (o := ⟨some 10, .assign (.tmp 82), _, _, _, none⟩) (by kernel_rfl) rfl (fun K' hK' => ?_)
            rw [if_pos (by kernel_rfl)]
            go_simp
            refine hK'.out _ _ (fun _ h => CX.out _ S9.out) ?_
            clear hK' K'
            try simp only [Act.put, List.setIfInBounds_toArray, List.set_cons_zero, List.set_cons_succ]
            refine wpLate_done (by kernel_rfl) ?_ _
            go_simp
            have S9T := Lib.hid (S9.out)
            have CPY := Lib.hid (copy_any A9 (lb + mt) c9 (B7 ++ xb.take mt) w9 _ (Reads.of_own O9.out) (by have := HTL.out; have := HLB.out; omega) (by obtain ⟨_, _, ev, _, _, e3⟩ := own_form O9.out; injection ev with q1 _ q3; subst q1 q3; exact e3))
            have CRB := Lib.hid (show crFi F zs k = ⟨(B7 ++ xb.take mt), (B7 ++ xb.take mt), []⟩ from by
              unfold crFi crB crTorn crLen
              rw [← HNH.out, ← HM.out, ← HB7.out]
              simp only [HX.out]
              rw [HXL.out, ← HMT.out]
              rfl)
            go_wp2_with fail
            refine CPY.out.mono ?_
            rintro e w10 ⟨⟨v10, rfl, o10⟩, s10⟩
            obtain ⟨A10, c10, rfl⟩ := own_formN o10
            have O10 := Lib.hid o10
            have S10 := Lib.hid s10
            have CR10 := Lib.hid (CR.out.still (Still.trans S6.out (Still.trans S9T.out s10)))
            have OF := Lib.hid (show w10.ownsRow w1.heap.size 111 3 fv' k fcs' from by have := CR10.out.fown; rw [crFiles_length] at this; exact this)
            have NMW := Lib.hid (show w1.heap.size ≤ w10.heap.size from CR10.out.st.size)
            have hk7 : k ≤ 1048576 := by omega
            clear o10 s10 CPY
            go_wp2_with ((first
              | (guard_target =~ wpList _ _ _ (Oper.mk (some 88) _ _ _ _ _ :: _) _ _; go_must (refine wpList_boxDf _ rfl _ rfl _ _ _ _ _ _ _ _ _ rfl ?_))
              | (guard_target =~ wpList _ _ _ (Oper.mk (some 89) _ _ _ _ _ :: _) _ _; go_must (refine wpList_pushDf _ rfl _ _ rfl w1.heap.size _ _ _ rfl (OF.out.alloc _) w10.heap.size [.slice A9 (lb + mt) c9, .slice A10 (lb + mt) c10, .slice none 0 0] rfl (fun q u hq => ((Blk.new w10 111 #[.slice A9 (lb + mt) c9, .slice A10 (lb + mt) c10, .slice none 0 0]).cell q).trans (by simpa using hq)) rfl (by simp [Value.oneCell']) hk7 (by have := NMW.out; simp; omega) ?_))
              | fail))
            intro v12 w12 o12 g12 hv12
            obtain ⟨A12, c12, rfl⟩ := own_formN o12
            have CR12 := Lib.hid (show CrS w1 w12 (.slice A12 (k + 1) c12) sv' (fcs' ++ [.slice A9 (lb + mt) c9, .slice A10 (lb + mt) c10, .slice none 0 0]) (crFiles D zs N (k + 1)) (crNames N k) from by
              have sal : Still w10 (w10.alloc (.cells #[.slice A9 (lb + mt) c9, .slice A10 (lb + mt) c10, .slice none 0 0] 111)) := (Still.refl w10).alloc (Nat.le_refl _) _
              have ca := CR10.out.still sal
              have h6 := S6.out.size
              have h9 := S9T.out.size
              have hs10 := S10.out.size
              rw [HSUF.out, CRB.out]
              refine ca.file (lo := w6.heap.size) (((RowP.of_own O9.out).mono (fun b hb _ => hb.1)).still (Still.trans S10.out sal)) (((RowP.of_own O10.out).mono (fun b hb _ => by have := hb.1; omega)).still sal) (by have := CR.out.st.size; omega) (fun b e => ?_) (fun b e => ?_) (by rw [crFiles_length]; exact o12) g12 (by simpa using hv12)
              · have := (CR.out.fown.lt b e).2; omega
              · have := (CR.out.sown.lt b e).2; omega)
            have nm12 := NMC.out w12 CR12.out.st
            have OS := Lib.hid (show w12.ownsRow w1.heap.size 92 2 sv' k (nmV (crNames N k)) from by have := CR12.out.sown; rw [crNames_length] at this; exact this)
            have NM12 := Lib.hid (show w1.heap.size ≤ w12.heap.size from CR12.out.st.size)
            obtain ⟨X, hX⟩ : ∃ X, X = nmS p := ⟨_, rfl⟩
            rw [← hX] at nm12
            have HX2 := Lib.hid hX
            clear o12 g12 hv12 hX
            go_wp2_with ((first
              | (guard_target =~ wpList _ _ _ (Oper.mk (some 98) _ _ _ _ _ :: _) _ _; go_must (refine wpList_boxDn _ rfl _ rfl _ _ rfl ?_))
              | (guard_target =~ wpList _ _ _ (Oper.mk (some 99) _ _ _ _ _ :: _) _ _; go_must (refine wpList_pushDn _ rfl _ _ rfl w1.heap.size _ _ _ rfl (OS.out.alloc _) w12.heap.size [.string X, .int .i64 (k : Int)] rfl (fun q u hq => ((Blk.new w12 92 #[.string X, .int .i64 (k : Int)]).cell q).trans (by simpa using hq)) rfl (by simp [Value.oneCell']) hk7 (by have := NM12.out; simp; omega) ?_))
              | fail))
            intro v14 w14 o14 g14 hv14
            have CR14 := Lib.hid (show CrS w1 w14 (.slice A12 (k + 1) c12) v14 (fcs' ++ [.slice A9 (lb + mt) c9, .slice A10 (lb + mt) c10, .slice none 0 0]) (crFiles D zs N (k + 1)) (crNames N (k + 1)) from by
              have sal : Still w12 (w12.alloc (.cells #[.string X, .int .i64 (k : Int)] 92)) := (Still.refl w12).alloc (Nat.le_refl _) _
              have ca := CR12.out.still sal
              rw [HSUN.out]
              refine ca.name (p := (p.1, k)) ?_ g14 (by simpa using hv14)
              rw [crNames_length]
              have : nmC (p.1, k) = [.string X, .int .i64 (k : Int)] := by rw [HX2.out]; rfl
              rw [this]
              exact o14)
            clear o14 g14 hv14 nm12
            go_wp2_with fail
            go_roundw
            case rel => exact ⟨k + 1, _, v14, _, rfl, rfl, by go_num, by have := HLT.out; omega, CR14⟩
            case measure => simp [intOf]; have := HLT.out; omega
        · go_wp2_with fail
          have S9T := Lib.hid (S7.out)
          have CPY := Lib.hid (copy_any A7 lb c7 B7 w7 _ (Reads.of_own O7.out) (by have := HB7L.out; have := HLBB.out; omega) (by obtain ⟨_, _, ev, _, _, e3⟩ := own_form O7.out; injection ev with q1 _ q3; subst q1 q3; exact e3))
          have CRB := Lib.hid (show crFi F zs k = ⟨B7, B7, []⟩ from by
            unfold crFi crB crTorn
            rw [← HNH.out, ← HM.out, ← HB7.out]
            simp only [HX.out, if_true, List.append_nil])
          go_wp2_with fail
          refine CPY.out.mono ?_
          rintro e w10 ⟨⟨v10, rfl, o10⟩, s10⟩
          obtain ⟨A10, c10, rfl⟩ := own_formN o10
          have O10 := Lib.hid o10
          have S10 := Lib.hid s10
          have CR10 := Lib.hid (CR.out.still (Still.trans S6.out (Still.trans S9T.out s10)))
          have OF := Lib.hid (show w10.ownsRow w1.heap.size 111 3 fv' k fcs' from by have := CR10.out.fown; rw [crFiles_length] at this; exact this)
          have NMW := Lib.hid (show w1.heap.size ≤ w10.heap.size from CR10.out.st.size)
          have hk7 : k ≤ 1048576 := by omega
          clear o10 s10 CPY
          go_wp2_with ((first
            | (guard_target =~ wpList _ _ _ (Oper.mk (some 88) _ _ _ _ _ :: _) _ _; go_must (refine wpList_boxDf _ rfl _ rfl _ _ _ _ _ _ _ _ _ rfl ?_))
            | (guard_target =~ wpList _ _ _ (Oper.mk (some 89) _ _ _ _ _ :: _) _ _; go_must (refine wpList_pushDf _ rfl _ _ rfl w1.heap.size _ _ _ rfl (OF.out.alloc _) w10.heap.size [.slice A7 lb c7, .slice A10 lb c10, .slice none 0 0] rfl (fun q u hq => ((Blk.new w10 111 #[.slice A7 lb c7, .slice A10 lb c10, .slice none 0 0]).cell q).trans (by simpa using hq)) rfl (by simp [Value.oneCell']) hk7 (by have := NMW.out; simp; omega) ?_))
            | fail))
          intro v12 w12 o12 g12 hv12
          obtain ⟨A12, c12, rfl⟩ := own_formN o12
          have CR12 := Lib.hid (show CrS w1 w12 (.slice A12 (k + 1) c12) sv' (fcs' ++ [.slice A7 lb c7, .slice A10 lb c10, .slice none 0 0]) (crFiles D zs N (k + 1)) (crNames N k) from by
            have sal : Still w10 (w10.alloc (.cells #[.slice A7 lb c7, .slice A10 lb c10, .slice none 0 0] 111)) := (Still.refl w10).alloc (Nat.le_refl _) _
            have ca := CR10.out.still sal
            have h6 := S6.out.size
            have h9 := S9T.out.size
            have hs10 := S10.out.size
            rw [HSUF.out, CRB.out]
            refine ca.file (lo := w6.heap.size) (((RowP.of_own O7.out).mono (fun b hb _ => hb.1)).still (Still.trans S10.out sal)) (((RowP.of_own O10.out).mono (fun b hb _ => by have := hb.1; omega)).still sal) (by have := CR.out.st.size; omega) (fun b e => ?_) (fun b e => ?_) (by rw [crFiles_length]; exact o12) g12 (by simpa using hv12)
            · have := (CR.out.fown.lt b e).2; omega
            · have := (CR.out.sown.lt b e).2; omega)
          have nm12 := NMC.out w12 CR12.out.st
          have OS := Lib.hid (show w12.ownsRow w1.heap.size 92 2 sv' k (nmV (crNames N k)) from by have := CR12.out.sown; rw [crNames_length] at this; exact this)
          have NM12 := Lib.hid (show w1.heap.size ≤ w12.heap.size from CR12.out.st.size)
          obtain ⟨X, hX⟩ : ∃ X, X = nmS p := ⟨_, rfl⟩
          rw [← hX] at nm12
          have HX2 := Lib.hid hX
          clear o12 g12 hv12 hX
          go_wp2_with ((first
            | (guard_target =~ wpList _ _ _ (Oper.mk (some 98) _ _ _ _ _ :: _) _ _; go_must (refine wpList_boxDn _ rfl _ rfl _ _ rfl ?_))
            | (guard_target =~ wpList _ _ _ (Oper.mk (some 99) _ _ _ _ _ :: _) _ _; go_must (refine wpList_pushDn _ rfl _ _ rfl w1.heap.size _ _ _ rfl (OS.out.alloc _) w12.heap.size [.string X, .int .i64 (k : Int)] rfl (fun q u hq => ((Blk.new w12 92 #[.string X, .int .i64 (k : Int)]).cell q).trans (by simpa using hq)) rfl (by simp [Value.oneCell']) hk7 (by have := NM12.out; simp; omega) ?_))
            | fail))
          intro v14 w14 o14 g14 hv14
          have CR14 := Lib.hid (show CrS w1 w14 (.slice A12 (k + 1) c12) v14 (fcs' ++ [.slice A7 lb c7, .slice A10 lb c10, .slice none 0 0]) (crFiles D zs N (k + 1)) (crNames N (k + 1)) from by
            have sal : Still w12 (w12.alloc (.cells #[.string X, .int .i64 (k : Int)] 92)) := (Still.refl w12).alloc (Nat.le_refl _) _
            have ca := CR12.out.still sal
            rw [HSUN.out]
            refine ca.name (p := (p.1, k)) ?_ g14 (by simpa using hv14)
            rw [crNames_length]
            have : nmC (p.1, k) = [.string X, .int .i64 (k : Int)] := by rw [HX2.out]; rfl
            rw [this]
            exact o14)
          clear o14 g14 hv14 nm12
          go_wp2_with fail
          go_roundw
          case rel => exact ⟨k + 1, _, v14, _, rfl, rfl, by go_num, by have := HLT.out; omega, CR14⟩
          case measure => simp [intOf]; have := HLT.out; omega
      · have hmn3 : m = nh := by omega
        have q6 : ¬ (m : Int) < (nh : Int) := by omega
        clear r4 r5 r6
        go_wp2_with fail
        have S9T := Lib.hid (S7.out)
        have CPY := Lib.hid (copy_any A7 lb c7 B7 w7 _ (Reads.of_own O7.out) (by have := HB7L.out; have := HLBB.out; omega) (by obtain ⟨_, _, ev, _, _, e3⟩ := own_form O7.out; injection ev with q1 _ q3; subst q1 q3; exact e3))
        have CRB := Lib.hid (show crFi F zs k = ⟨B7, B7, []⟩ from by
          unfold crFi crB crTorn
          rw [← HNH.out, ← HM.out, ← HB7.out]
          have h9 : F.waits[m]? = none := List.getElem?_eq_none (by rw [← HNH.out]; omega)
          simp only [h9, List.append_nil])
        go_wp2_with fail
        refine CPY.out.mono ?_
        rintro e w10 ⟨⟨v10, rfl, o10⟩, s10⟩
        obtain ⟨A10, c10, rfl⟩ := own_formN o10
        have O10 := Lib.hid o10
        have S10 := Lib.hid s10
        have CR10 := Lib.hid (CR.out.still (Still.trans S6.out (Still.trans S9T.out s10)))
        have OF := Lib.hid (show w10.ownsRow w1.heap.size 111 3 fv' k fcs' from by have := CR10.out.fown; rw [crFiles_length] at this; exact this)
        have NMW := Lib.hid (show w1.heap.size ≤ w10.heap.size from CR10.out.st.size)
        have hk7 : k ≤ 1048576 := by omega
        clear o10 s10 CPY
        go_wp2_with ((first
          | (guard_target =~ wpList _ _ _ (Oper.mk (some 88) _ _ _ _ _ :: _) _ _; go_must (refine wpList_boxDf _ rfl _ rfl _ _ _ _ _ _ _ _ _ rfl ?_))
          | (guard_target =~ wpList _ _ _ (Oper.mk (some 89) _ _ _ _ _ :: _) _ _; go_must (refine wpList_pushDf _ rfl _ _ rfl w1.heap.size _ _ _ rfl (OF.out.alloc _) w10.heap.size [.slice A7 lb c7, .slice A10 lb c10, .slice none 0 0] rfl (fun q u hq => ((Blk.new w10 111 #[.slice A7 lb c7, .slice A10 lb c10, .slice none 0 0]).cell q).trans (by simpa using hq)) rfl (by simp [Value.oneCell']) hk7 (by have := NMW.out; simp; omega) ?_))
          | fail))
        intro v12 w12 o12 g12 hv12
        obtain ⟨A12, c12, rfl⟩ := own_formN o12
        have CR12 := Lib.hid (show CrS w1 w12 (.slice A12 (k + 1) c12) sv' (fcs' ++ [.slice A7 lb c7, .slice A10 lb c10, .slice none 0 0]) (crFiles D zs N (k + 1)) (crNames N k) from by
          have sal : Still w10 (w10.alloc (.cells #[.slice A7 lb c7, .slice A10 lb c10, .slice none 0 0] 111)) := (Still.refl w10).alloc (Nat.le_refl _) _
          have ca := CR10.out.still sal
          have h6 := S6.out.size
          have h9 := S9T.out.size
          have hs10 := S10.out.size
          rw [HSUF.out, CRB.out]
          refine ca.file (lo := w6.heap.size) (((RowP.of_own O7.out).mono (fun b hb _ => hb.1)).still (Still.trans S10.out sal)) (((RowP.of_own O10.out).mono (fun b hb _ => by have := hb.1; omega)).still sal) (by have := CR.out.st.size; omega) (fun b e => ?_) (fun b e => ?_) (by rw [crFiles_length]; exact o12) g12 (by simpa using hv12)
          · have := (CR.out.fown.lt b e).2; omega
          · have := (CR.out.sown.lt b e).2; omega)
        have nm12 := NMC.out w12 CR12.out.st
        have OS := Lib.hid (show w12.ownsRow w1.heap.size 92 2 sv' k (nmV (crNames N k)) from by have := CR12.out.sown; rw [crNames_length] at this; exact this)
        have NM12 := Lib.hid (show w1.heap.size ≤ w12.heap.size from CR12.out.st.size)
        obtain ⟨X, hX⟩ : ∃ X, X = nmS p := ⟨_, rfl⟩
        rw [← hX] at nm12
        have HX := Lib.hid hX
        clear o12 g12 hv12 hX
        go_wp2_with ((first
          | (guard_target =~ wpList _ _ _ (Oper.mk (some 98) _ _ _ _ _ :: _) _ _; go_must (refine wpList_boxDn _ rfl _ rfl _ _ rfl ?_))
          | (guard_target =~ wpList _ _ _ (Oper.mk (some 99) _ _ _ _ _ :: _) _ _; go_must (refine wpList_pushDn _ rfl _ _ rfl w1.heap.size _ _ _ rfl (OS.out.alloc _) w12.heap.size [.string X, .int .i64 (k : Int)] rfl (fun q u hq => ((Blk.new w12 92 #[.string X, .int .i64 (k : Int)]).cell q).trans (by simpa using hq)) rfl (by simp [Value.oneCell']) hk7 (by have := NM12.out; simp; omega) ?_))
          | fail))
        intro v14 w14 o14 g14 hv14
        have CR14 := Lib.hid (show CrS w1 w14 (.slice A12 (k + 1) c12) v14 (fcs' ++ [.slice A7 lb c7, .slice A10 lb c10, .slice none 0 0]) (crFiles D zs N (k + 1)) (crNames N (k + 1)) from by
          have sal : Still w12 (w12.alloc (.cells #[.string X, .int .i64 (k : Int)] 92)) := (Still.refl w12).alloc (Nat.le_refl _) _
          have ca := CR12.out.still sal
          rw [HSUN.out]
          refine ca.name (p := (p.1, k)) ?_ g14 (by simpa using hv14)
          rw [crNames_length]
          have : nmC (p.1, k) = [.string X, .int .i64 (k : Int)] := by rw [HX.out]; rfl
          rw [this]
          exact o14)
        clear o14 g14 hv14 nm12
        go_wp2_with fail
        go_roundw
        case rel => exact ⟨k + 1, _, v14, _, rfl, rfl, by go_num, by have := HLT.out; omega, CR14⟩
        case measure => simp [intOf]; have := HLT.out; omega
    · obtain rfl : k = nN := by omega
      obtain ⟨A3, c3, hv3⟩ := own_formN hin.out.fown
      obtain ⟨A4, c4, hv4⟩ := own_formN hin.out.sown
      rw [crFiles_length] at hv3
      rw [crNames_length] at hv4
      subst hv3 hv4
      have CR := Lib.hid hin.out
      have HE := Lib.hid (H1.out.still hin.out.st)
      obtain ⟨_, y1, y2, y3, y4, y5, y6, y7⟩ := HE.out.cells
      obtain ⟨Aw', cw', hwv'⟩ := own_formN HE.out.wown
      obtain ⟨Af', cf', hfv'⟩ := own_formN HE.out.fown
      rw [hwv'] at y4
      rw [hfv'] at y1
      have z1 := HE.out.frozen 1
      have z2 := HE.out.frozen 2
      have z3 := HE.out.frozen 3
      have z4 := HE.out.frozen 4
      have z5 := HE.out.frozen 5
      have z6 := HE.out.frozen 6
      have z7 := HE.out.frozen 7
      have FIN := Lib.hid (fun W (hW : W = ((((((wr.setCell ⟨dk, 1, none⟩ (.slice A3 k c3)).setCell ⟨dk, 2, none⟩ (.slice A4 k c4)).setCell ⟨dk, 3, none⟩ (.slice A4 k c4)).setCell ⟨dk, 4, none⟩ (.slice none 0 0)).setCell ⟨dk, 7, none⟩ (.bool false)).setCell ⟨dk, 5, none⟩ (.bool false)).setCell ⟨dk, 6, none⟩ (.int .i64 0)) => (show DLeft w W base dk own (crashD D zs) from by
        refine DLeft.chain (Chg.of_still S1.out _) (fun _ _ => rfl) (dcrash_end (N := crNames N k) (n3 := k) H1.out CR.out (crNames_length N k).symm ?_ (crashD D zs) ?_ ?_ ?_ rfl ?_)
        · rw [hW]
          refine ((((((chg_set1 wr dk 1 _).trans (chg_set1 _ dk 2 _) ?_).trans (chg_set1 _ dk 3 _) ?_).trans (chg_set1 _ dk 4 _) ?_).trans (chg_set1 _ dk 7 _) ?_).trans (chg_set1 _ dk 5 _) ?_).trans (chg_set1 _ dk 6 _) ?_ <;> exact fun _ _ h => h
        · unfold crashD; simp only [← HWL.out, ← HJ0.out, ← HN.out, HLN.out]
        · unfold crashD; simp only [← HWL.out, ← HJ0.out, ← HN.out, HLN.out]
        · unfold crashD; simp only [← HWL.out, ← HJ0.out, ← HN.out, HLN.out]
        · rw [hW]
          exact ((((((HE.out.blk.setc 1 _).setc 2 _).setc 3 _).setc 4 _).setc 7 _).setc 5 _).setc 6 _))
      clear hin hwv' hfv'
      go_wp2_with fail
      first | go_end0 | refine bodyPost_ret (results_none rfl _ _ _) rfl ?_
      exact ⟨rfl, FIN.out _ rfl⟩
end Go.Proofs.YtljacdbdjacbkaaGreat
