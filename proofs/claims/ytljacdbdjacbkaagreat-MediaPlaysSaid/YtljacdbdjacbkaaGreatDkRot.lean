/- Contract: a byte spoilt on the document's disk. It proves no statement. -/
import Derived.Test.YtljacdbdjacbkaaGreatDkCrash
import Derived.Test.YtljacdbdjacbkaaGreatMpGu
namespace Go.Proofs.YtljacdbdjacbkaaGreat
open Go.RowKit Go.Maps Go.WideMaps Go.Sort
set_option linter.unusedVariables false
set_option linter.unusedSimpArgs false

/-- Which change's byte it is, by the document. -/
def RotsD (F : DFi) (p : Nat) : Option Nat → Prop
  | none => ∀ (j : Nat) (x : DCh), F.waits[j]? = some x → x.cut = true ∨ p < (bytesD F j).length
  | some i => (∃ x : DCh, F.waits[i]? = some x ∧ x.cut = false ∧ (bytesD F i).length ≤ p) ∧ ∀ (j : Nat) (x : DCh), i < j → F.waits[j]? = some x → x.cut = true ∨ p < (bytesD F j).length
def DFi.rotAt (F : DFi) (p : Nat) (f : UInt8 → UInt8) : Option Nat → DFi
  | none => ⟨F.fast.modify p f, F.now.modify p f, F.waits⟩
  | some i => ⟨F.fast, F.now.modify p f, F.waits.modify i (fun x => ⟨x.cut, x.k, x.b.modify (p - (bytesD F i).length) f⟩)⟩
theorem modify_set (l : List UInt8) (p : Nat) (f : UInt8 → UInt8) (h : p < l.length) : l.set p (f (l.getD p 0)) = l.modify p f := by
  apply List.ext_getElem?
  intro j
  rw [List.getElem?_modify, List.getElem?_set]
  by_cases e : p = j
  · subst e
    simp [h, List.getD]
  · simp [e]
/-- A row of one's own with a byte turned. -/
theorem own_turn {w : World} {base g n c p : Nat} {l : List UInt8} {f : UInt8 → UInt8} (h : w.ownsRow base 5 1 (.slice (some ⟨g, 0, none⟩) n c) n (bytesV l)) (hp : p < n) : (w.setCell ⟨g, p, none⟩ (.int .u8 ((f (l.getD p 0)).toNat : Int))).ownsRow base 5 1 (.slice (some ⟨g, 0, none⟩) n c) n (bytesV (l.modify p f)) := by
  have hl : l.length = n := (Reads.of_own h).1
  have := (h.stored p (.int .u8 ((f (l.getD p 0)).toNat : Int))).1
  rw [bytesV_set, modify_set l p f (by omega)] at this
  exact this
/-- Copies of what waits of a file, so far. -/
structure CwS (w6 wr : World) (v : Value) (X : List DCh) (ccs : List Value) : Prop where
  st : Still w6 wr
  own : wr.ownsRow w6.heap.size 72 3 v X.length ccs
  ccl : ccs.length = X.length * 3
  rows : ∃ lab : Nat → Option Nat, (∀ b, lab b ≠ none → b < wr.heap.size) ∧ ∀ (j : Nat) (x : DCh), X[j]? = some x → ∃ A n c, (∀ q u, ([.bool x.cut, .int .i64 x.k, .slice A n c] : List Value)[q]? = some u → ccs[j * 3 + q]? = some u) ∧ wr.ownsRow w6.heap.size 5 1 (.slice A n c) n (bytesV x.b) ∧ ∀ b, (Value.slice A n c).ownBlock = some b → lab b = some j
theorem CwS.nil (w6 : World) : CwS w6 w6 (.slice none 0 0) [] [] := ⟨Still.refl _, World.ownsRow_nil _ _ _ _, rfl, fun _ => none, fun b h => absurd rfl h, fun j x h => by cases h⟩
theorem CwS.still {w6 wr w' : World} {v : Value} {X : List DCh} {ccs : List Value} (h : CwS w6 wr v X ccs) (s : Still wr w') : CwS w6 w' v X ccs := by
  obtain ⟨lab, h1, h2⟩ := h.rows
  refine ⟨Still.trans h.st s, still_own h.own s, h.ccl, lab, fun b hb => Nat.lt_of_lt_of_le (h1 b hb) s.size, fun j x hx => ?_⟩
  obtain ⟨A, n, c, g1, g2, g3⟩ := h2 j x hx
  exact ⟨A, n, c, g1, still_own g2 s, g3⟩
/-- One more. -/
theorem CwS.snoc {w6 wr w' : World} {v v' : Value} {X : List DCh} {ccs : List Value} {x : DCh} {A : Option Addr} {n c lo : Nat} (h : CwS w6 wr v X ccs) (ho : wr.ownsRow lo 5 1 (.slice A n c) n (bytesV x.b)) (hlo : w6.heap.size ≤ lo)
    (hfr : ∀ b, (Value.slice A n c).ownBlock = some b → lo ≤ b) (hl : ∃ w0, CwS w6 w0 v X ccs ∧ Still w0 wr ∧ w0.heap.size ≤ lo)
    (o' : w'.ownsRow w6.heap.size 72 3 v' (X.length + 1) (ccs ++ [.bool x.cut, .int .i64 x.k, .slice A n c])) (gr : wr.grownBy w' v.ownBlock) : CwS w6 w' v' (X ++ [x]) (ccs ++ [.bool x.cut, .int .i64 x.k, .slice A n c]) := by
  obtain ⟨w0, h0, s0, z0⟩ := hl
  obtain ⟨lab, h1, h2⟩ := h0.rows
  have cg : Chg wr w' (fun b => v.ownBlock = some b) := Chg.of_grown gr (fun k e _ => e)
  have kp : ∀ {A : Option Addr} {n c lo : Nat} {l : List UInt8}, wr.ownsRow lo 5 1 (.slice A n c) n (bytesV l) → w'.ownsRow lo 5 1 (.slice A n c) n (bytesV l) := fun h3 => cg.own h3 (fun b e hs => own_ne2 h3 h.own (by decide) e hs)
  refine ⟨cg.still h.st (fun b e => (h.own.lt b e).1), by rw [List.length_append]; exact o', by rw [List.length_append, List.length_append, h.ccl]; simp; omega, fun b => if (Value.slice A n c).ownBlock = some b then some X.length else lab b, fun b hb => ?_, fun j y hy => ?_⟩
  · have hb : (if (Value.slice A n c).ownBlock = some b then some X.length else lab b) ≠ none := hb
    split at hb
    · rename_i e
      exact Nat.lt_of_lt_of_le (ho.lt b e).2 cg.size
    · exact Nat.lt_of_lt_of_le (h1 b hb) (Nat.le_trans s0.size cg.size)
  · by_cases e : j < X.length
    · rw [List.getElem?_append_left e] at hy
      obtain ⟨A', n', c', g1, g2, g3⟩ := h2 j y hy
      refine ⟨A', n', c', fun q u hq => ?_, kp (still_own g2 s0), fun b hb => ?_⟩
      · have hq3 : q < 3 := by have := (List.getElem?_eq_some_iff.1 hq).1; simpa using this
        rw [List.getElem?_append_left (by rw [h.ccl]; omega)]
        exact g1 q u hq
      · show (if (Value.slice A n c).ownBlock = some b then some X.length else lab b) = some j
        rw [if_neg (fun e2 => by have := hfr b e2; have := (g2.lt b hb).2; omega)]
        exact g3 b hb
    · have hj := (List.getElem?_eq_some_iff.1 hy).1
      rw [List.length_append, List.length_singleton] at hj
      obtain rfl : j = X.length := by omega
      rw [List.getElem?_append_right (Nat.le_refl _), Nat.sub_self] at hy
      obtain rfl := Option.some.inj hy
      refine ⟨A, n, c, fun q u hq => ?_, own_base (kp ho) hlo, fun b hb => if_pos hb⟩
      rw [List.getElem?_append_right (by rw [h.ccl]; omega), h.ccl, show X.length * 3 + q - X.length * 3 = q by omega]
      exact hq
/-- What waits, as a file's: all else frozen. -/
def allFrz (v : Value) : DOwn := fun b => if v.ownBlock = some b then some 4 else some 0
theorem CwS.hasDc {w6 wr : World} {v : Value} {X : List DCh} {ccs : List Value} (h : CwS w6 wr v X ccs) : HasDc wr (allFrz v) X ccs := by
  obtain ⟨lab, h1, h2⟩ := h.rows
  refine ⟨h.ccl, fun j x hx => ?_⟩
  obtain ⟨A, n, c, g1, g2, g3⟩ := h2 j x hx
  refine ⟨A, n, c, g1, (RowP.of_own g2).mono (fun b hb _ => ?_)⟩
  show allFrz v b = some 0
  unfold allFrz
  rw [if_neg (fun e => own_ne2 g2 h.own (by decide) hb.2 e)]
/-- The same rows, told without whence. -/
structure CwF (lo : Nat) (wr : World) (v : Value) (X : List DCh) (ccs : List Value) : Prop where
  own : wr.ownsRow lo 72 3 v X.length ccs
  ccl : ccs.length = X.length * 3
  rows : ∃ lab : Nat → Option Nat, ∀ (j : Nat) (x : DCh), X[j]? = some x → ∃ A n c, (∀ q u, ([.bool x.cut, .int .i64 x.k, .slice A n c] : List Value)[q]? = some u → ccs[j * 3 + q]? = some u) ∧ wr.ownsRow lo 5 1 (.slice A n c) n (bytesV x.b) ∧ ∀ b, (Value.slice A n c).ownBlock = some b → lab b = some j
theorem CwS.F {w6 wr : World} {v : Value} {X : List DCh} {ccs : List Value} (h : CwS w6 wr v X ccs) : CwF w6.heap.size wr v X ccs := by
  obtain ⟨lab, h1, h2⟩ := h.rows
  exact ⟨h.own, h.ccl, lab, h2⟩
theorem CwF.chg {lo : Nat} {wr w' : World} {v : Value} {X : List DCh} {ccs : List Value} {S : Nat → Prop} (h : CwF lo wr v X ccs) (g : Chg wr w' S) (hS : ∀ b, S b → b < wr.heap.size → b < lo) : CwF lo w' v X ccs := by
  obtain ⟨lab, h2⟩ := h.rows
  refine ⟨g.own h.own (fun b e hs => by have := h.own.lt b e; have := hS b hs this.2; omega), h.ccl, lab, fun j x hx => ?_⟩
  obtain ⟨A, n, c, g1, g2, g3⟩ := h2 j x hx
  exact ⟨A, n, c, g1, g.own g2 (fun b e hs => by have := g2.lt b e; have := hS b hs this.2; omega), g3⟩
theorem CwF.still {lo : Nat} {wr w' : World} {v : Value} {X : List DCh} {ccs : List Value} (h : CwF lo wr v X ccs) (s : Still wr w') : CwF lo w' v X ccs := h.chg (Chg.of_still s (fun _ => False)) (fun _ h => h.elim)
theorem CwF.dc {lo : Nat} {wr : World} {v : Value} {X : List DCh} {ccs : List Value} (h : CwF lo wr v X ccs) {own' : DOwn} (ho : ∀ b, lo ≤ b → b < wr.heap.size → v.ownBlock ≠ some b → own' b = some 0) : HasDc wr own' X ccs := by
  obtain ⟨lab, h2⟩ := h.rows
  refine ⟨h.ccl, fun j x hx => ?_⟩
  obtain ⟨A, n, c, g1, g2, g3⟩ := h2 j x hx
  exact ⟨A, n, c, g1, (RowP.of_own g2).mono (fun b hb hlt => ho b hb.1 hlt (fun e => own_ne2 g2 h.own (by decide) hb.2 e))⟩
/-- A byte of one of them turned. -/
theorem CwF.turn {lo i d gB nb cb : Nat} {wr w' : World} {v : Value} {X : List DCh} {ccs : List Value} {x : DCh} {f : UInt8 → UInt8} (h : CwF lo wr v X ccs) (hx : X[i]? = some x) (hc : ccs[i * 3 + 2]? = some (.slice (some ⟨gB, 0, none⟩) nb cb)) (hd : d < nb)
    (hw : w' = wr.setCell ⟨gB, d, none⟩ (.int .u8 ((f (x.b.getD d 0)).toNat : Int))) : CwF lo w' v (X.modify i (fun x => ⟨x.cut, x.k, x.b.modify d f⟩)) ccs := by
  obtain ⟨lab, h2⟩ := h.rows
  obtain ⟨A, n, c, g1, g2, g3⟩ := h2 i x hx
  have e1 := g1 2 _ rfl
  rw [hc] at e1
  injection e1 with e1
  injection e1 with q1 q2 q3
  subst q1 q2 q3
  have hg : Chg wr w' (fun b => b = gB) := by rw [hw]; exact chg_set1 wr gB d _
  refine ⟨?_, by rw [List.length_modify]; exact h.ccl, lab, fun j y hy => ?_⟩
  · rw [List.length_modify]
    exact hg.own h.own (fun b e hs => by have hs : b = gB := hs; subst hs; exact own_ne2 g2 h.own (by decide) rfl e)
  · rw [List.getElem?_modify] at hy
    by_cases e : i = j
    · subst e
      rw [hx] at hy
      simp only [if_true, Option.map_eq_map, Option.map_some, Option.some.injEq] at hy
      subst hy
      refine ⟨_, _, _, g1, ?_, g3⟩
      rw [hw]
      exact own_turn g2 hd
    · simp only [e, if_false, Option.map_eq_map, Option.map_id', id] at hy
      obtain ⟨A', n', c', k1, k2, k3⟩ := h2 j y hy
      exact ⟨A', n', c', k1, hg.own k2 (fun b e2 hs => by
        have hs : b = gB := hs
        subst hs
        have h5 := k3 _ e2
        rw [g3 _ rfl] at h5
        injection h5 with h5
        exact e h5), k3⟩
/-- The file is laid in its place. -/
theorem rot_end {w W W' : World} {base dk f g cap lo : Nat} {own : DOwn} {D : Dk} {fv wv v : Value} {fcs ccs : List Value} {A A2 : Option Addr} {n c n2 c2 : Nat} {Af An : Option Addr} {nf cf nn cn : Nat} {G : DFi} (h : DiskC w base own dk D fv fcs A n c A2 n2 c2 wv) (hfl : f < D.files.length) (hfv : fv = .slice (some ⟨g, 0, none⟩) D.files.length cap) (hs : Still w W) (hlo : w.heap.size ≤ lo)
    (hf : RowP W (fun b => frz own b ∨ (w.heap.size ≤ b ∧ v.ownBlock ≠ some b)) Af nf cf G.fast) (hn : RowP W (fun b => frz own b ∨ (w.heap.size ≤ b ∧ v.ownBlock ≠ some b)) An nn cn G.now) (hv : ∃ Av cv, v = .slice Av G.waits.length cv) (hc : CwF lo W v G.waits ccs)
    (hW : W' = W.setCells g (f * 3) [.slice Af nf cf, .slice An nn cn, v]) : DLeft w W' base dk own { D with files := D.files.set f G } := by
  have fo := (h.still hs).fown
  rw [hfv] at fo
  have st1 := fo.stored (f * 3) (.slice Af nf cf)
  have st2 := st1.1.stored (f * 3 + 1) (.slice An nn cn)
  have st3 := st2.1.stored (f * 3 + 2) v
  have e : W' = ((W.setCell ⟨g, f * 3, none⟩ (.slice Af nf cf)).setCell ⟨g, f * 3 + 1, none⟩ (.slice An nn cn)).setCell ⟨g, f * 3 + 2, none⟩ v := by rw [hW]; rfl
  rw [← e] at st3
  have og : own g = some 2 := h.ofv g (by rw [hfv]; rfl)
  have hgl : g < w.heap.size := (h.fown.lt g (by rw [hfv]; rfl)).2
  have gg : Chg W W' (fun b => b = g) := ((Chg.of_grown st1.2 (fun k e _ => (Option.some.inj e).symm)).trans (Chg.of_grown st2.2 (fun k e _ => (Option.some.inj e).symm)) (fun _ _ h => h)).trans (Chg.of_grown st3.2 (fun k e _ => (Option.some.inj e).symm)) (fun _ _ h => h)
  have hlen : fcs.length = D.files.length * 3 := h.files.1
  obtain ⟨Av, cv, rfl⟩ := hv
  have hvl : ∀ b, (Value.slice Av G.waits.length cv).ownBlock = some b → lo ≤ b ∧ b < W.heap.size := fun b e => hc.own.lt b e
  have cF := hc.chg gg (fun b hs _ => by have hs : b = g := hs; omega)
  have hdl := h.dlt
  have mv : ∀ {A : Option Addr} {n c : Nat} {l : List UInt8}, RowP W (fun b => frz own b ∨ (w.heap.size ≤ b ∧ (Value.slice Av G.waits.length cv).ownBlock ≠ some b)) A n c l → RowP W' (frz (relab own w.heap.size W'.heap.size (.slice Av G.waits.length cv) (4 + f))) A n c l := fun h => by
    refine (h.chg gg (fun b hb hlt hs => ?_)).mono (fun b hb hlt => relab_frz hb (fun b e => .inr (by have := hvl b e; omega)) hdl (by omega) hlt)
    have hs : b = g := hs
    rcases hb with hb | hb
    · have hb : own b = some 0 := hb
      rw [hs, og] at hb; cases hb
    · omega
  refine fset_end h hfl hfv (.slice Av G.waits.length cv) (fun b => b = g) ((Chg.of_still hs _).trans gg (fun _ _ h => h)) (fun b hs => .inl hs) (cs' := [.slice Af nf cf, .slice An nn cn, .slice Av G.waits.length cv]) rfl (fun own' e => ?_) (by rw [hfv]; exact st3.1) (fun q u hq => ?_) (fun j hj => by rw [List.getElem?_set_ne (by omega), List.getElem?_set_ne (by omega), List.getElem?_set_ne (by omega)]) (fun b e => ⟨.inr (by have := hvl b e; omega), by have := hvl b e; have := h.low; omega, by have := hvl b e; have := gg.size; omega⟩)
  · subst e
    refine ⟨Af, nf, cf, An, nn, cn, Av, G.waits.length, cv, ccs, rfl, mv hf, mv hn, rfl, own_base cF.own (by have := h.low; omega), cF.dc (fun b hb hlt hne => ?_), fun b hb => by unfold relab; rw [if_pos hb]⟩
    unfold relab
    rw [if_neg hne, if_pos ⟨by omega, hlt⟩]
  · rcases q with _ | _ | _ | q
    · rw [List.getElem?_set_ne (by omega), List.getElem?_set_ne (by omega), Nat.add_zero, List.getElem?_set_self (by omega)]; exact hq
    · rw [List.getElem?_set_ne (by omega), List.getElem?_set_self (by rw [List.length_set]; omega)]; exact hq
    · rw [List.getElem?_set_self (by rw [List.length_set, List.length_set]; omega)]; exact hq
    · simp at hq
set_option maxRecDepth 100000 in
set_option maxHeartbeats 12800000 in
theorem rot_D {w : World} {base dk k : Nat} {own : DOwn} {D : Dk} (h : DiskI w base own dk D) (hg : D.good k) (hk : k ≤ 700000) (s : ByteArray) (x : Int) (y : Nat) (hy : y < 256) (hx : x ≤ 9223372036854775807) :
    Calls Tryz.prog 38 #[.pointer (some ⟨dk, 0, none⟩), .string s, .int .i64 x, .int .u8 (y : Int)] w fun e w' => ∃ (r : Bool) (D' : Dk), e = .returned (.bool r) ∧ DLeft w w' base dk own D' ∧
      ((r = false ∧ D' = D ∧ ∀ f F, nFind D.now s.data.toList = some f → D.files[f]? = some F → (x < 0 ∨ (F.now.length : Int) ≤ x)) ∨
       (r = true ∧ ∃ (f p : Nat) (F : DFi) (o : Option Nat), nFind D.now s.data.toList = some f ∧ D.files[f]? = some F ∧ x = (p : Int) ∧ p < F.now.length ∧ RotsD F p o ∧ D' = { D with files := D.files.set f (F.rotAt p (· ^^^ UInt8.ofNat y) o) })) := by
  have L0 := Lib.hid (DLeft.still h (Still.refl w))
  have FD := Lib.hid (find_D h s)
  obtain ⟨fv, fcs, A, n, c, A2, n2, c2, wv, hc⟩ := id h
  have k1 := hc.cells.2.1
  by_cases hl : dFind D.now s.data.toList < 0
  · obtain ⟨e1, e2⟩ := dFind_none hl
    have HNO := Lib.hid (show ∀ f F, nFind D.now s.data.toList = some f → D.files[f]? = some F → (x < 0 ∨ (F.now.length : Int) ≤ x) from fun f F h => by rw [e1] at h; cases h)
    rw [e2] at FD
    clear h hc hg e1 e2 hl k1
    go_enter Tryz.func38, Tryz.ntmps38
    go_wp2_with fail
    refine FD.out.mono ?_
    rintro e w1 ⟨rfl, rfl⟩
    go_wp2_with fail
    go_ret
    exact ⟨false, D, rfl, L0.out, .inl ⟨rfl, rfl, HNO.out⟩⟩
  obtain ⟨f, e1, e2⟩ := dFind_some hl
  obtain ⟨F, hF⟩ := hg.file e1
  rw [e2] at FD
  have q0 : ¬ ((f : Int) < 0) := by omega
  obtain ⟨g, cap, hfv, g1, g2, g3, cs, hcl, hfd, hrg⟩ := hc.file hF
  obtain ⟨Af, nf, cf, Ag, ng, cg, Ah, nh, ch, ccs, rfl, r1, r2, r3, r4, r5, r6⟩ := id hfd
  have y1 := hrg 1 _ rfl
  rw [hfv] at k1
  have HNG := Lib.hid r2.len
  have hfl := (List.getElem?_eq_some_iff.1 hF).1
  have q1 : (f : Int) < (D.files.length : Int) := by omega
  obtain ⟨fl, hfl2⟩ : ∃ fl, fl = D.files.length := ⟨_, rfl⟩
  have HFLL := Lib.hid hfl2
  rw [← hfl2] at k1 g1 q1
  by_cases hbad : x < 0 ∨ (ng : Int) ≤ x
  · have HNO := Lib.hid (show ∀ f F, nFind D.now s.data.toList = some f → D.files[f]? = some F → (x < 0 ∨ (F.now.length : Int) ≤ x) from fun f' F' h1 h2 => by
      rw [e1] at h1
      obtain rfl := Option.some.inj h1
      rw [hF] at h2
      obtain rfl := Option.some.inj h2
      rw [HNG.out]
      exact hbad)
    clear h hc hg e1 e2 hl hF hfv hcl hfd hrg r1 r2 r3 r4 r5 r6 hfl hfl2
    by_cases hx0 : x < 0
    · clear hbad
      go_enter Tryz.func38, Tryz.ntmps38
      go_wp2_with fail
      refine FD.out.mono ?_
      rintro e w1 ⟨rfl, rfl⟩
      go_wp2_with fail
      go_ret
      exact ⟨false, D, rfl, L0.out, .inl ⟨rfl, rfl, HNO.out⟩⟩
    · have hx1 : (ng : Int) ≤ x := by omega
      clear hbad
      go_enter Tryz.func38, Tryz.ntmps38
      go_wp2_with fail
      refine FD.out.mono ?_
      rintro e w1 ⟨rfl, rfl⟩
      go_wp2_with fail
      go_ret
      exact ⟨false, D, rfl, L0.out, .inl ⟨rfl, rfl, HNO.out⟩⟩
  obtain ⟨p, rfl⟩ := Int.eq_ofNat_of_zero_le (show 0 ≤ x by omega)
  have hp : p < ng := by omega
  have hx0 : ¬ ((p : Int) < 0) := by omega
  have hx1 : ¬ ((ng : Int) ≤ (p : Int)) := by omega
  have HF := Lib.hid hF
  have HE1 := Lib.hid e1
  have HC := Lib.hid hc
  have HFD := Lib.hid hfd
  have HGF := Lib.hid (hg.fs f F hF)
  have HKK := Lib.hid (show F.waits.length ≤ 700000 by have := (hg.fs f F hF).cnt; omega)
  have HFV := Lib.hid hfv
  have RG := Lib.hid hrg
  have HMO := Lib.hid (hg.most hF)
  have R2 := Lib.hid r2
  have R1 := Lib.hid r1
  have R3 := Lib.hid r3
  have R4 := Lib.hid r4
  have R5 := Lib.hid r5
  have XB := Lib.hid (fun (z : UInt8) => xor_byteM z y hy)
  have hng : ng ≤ 33554432 := by have := HMO.out; have := HNG.out; omega
  clear h hc hg e1 e2 hl hF hfv hcl hfd hrg r1 r2 r3 r4 r5 r6 hfl hfl2 hbad
  go_enter Tryz.func38, Tryz.ntmps38
  go_wp2_with fail
  refine FD.out.mono ?_
  rintro e w1 ⟨rfl, h0⟩
  have h0' := h0.symm
  subst h0'
  clear h0
  go_upto_region 5 with ((first
    | (guard_target =~ wpList _ _ _ (Oper.mk (some 44) _ _ _ _ _ :: _) _ _; go_must (refine wpList_load_mid rfl 111 (.tmp 43) rfl g (f * 3) rfl [.slice Af nf cf, .slice Ag ng cg, .slice Ah nh ch] _ RG.out Tryz.underlying111 rfl (by rw [sizeFile]; rfl) ?_))
    | fail))
  obtain ⟨wa, hwa⟩ : ∃ wa, wa = w.alloc (.cells #[.slice Af nf cf, .slice Ag ng cg, .slice Ah nh ch] 111) := ⟨_, rfl⟩
  have SA := Lib.hid (show Still w wa by rw [hwa]; exact (Still.refl w).alloc (Nat.le_refl _) _)
  have BA := Lib.hid (show Blk wa w.heap.size 111 #[.slice Af nf cf, .slice Ag ng cg, .slice Ah nh ch] by rw [hwa]; exact Blk.new _ _ _)
  have ZA := Lib.hid (show wa.heap.size = w.heap.size + 1 by rw [hwa]; simp)
  rw [← hwa]
  clear hwa k1 y1
  have CPN := Lib.hid (copy_any Ag ng cg F.now wa _ (R2.out.still SA.out).reads (by omega) R2.out.nil)
  have b1 : wa.cell? ⟨w.heap.size, 1, none⟩ = some (.slice Ag ng cg) := BA.out.cell 1
  go_wp2_with fail
  refine CPN.out.mono ?_
  rintro e w2 ⟨⟨v2, rfl, o2⟩, s2⟩
  obtain ⟨A1, c1, rfl, e1, e2, e3⟩ := own_form o2
  obtain ⟨q, rfl, hqlo⟩ : ∃ q, A1 = some ⟨q, 0, none⟩ ∧ wa.heap.size ≤ q := by
    rcases o2.2 with ⟨_, h0⟩ | ⟨q, cp, cur, hv, hg, _⟩
    · omega
    · injection hv with hv1
      exact ⟨q, hv1, hg⟩
  have B2 := Lib.hid (BA.out.still s2)
  have b2 : w2.cell? ⟨w.heap.size, 1, none⟩ = some (.slice Ag ng cg) := B2.out.cell 1
  have z2 := B2.out.frozen 1
  have O2 := Lib.hid o2
  have S2 := Lib.hid s2
  have QLO := Lib.hid hqlo
  clear o2 s2 CPN e3 hqlo
  go_upto_region 6 with fail
  obtain ⟨w5, hw5⟩ : ∃ w5, w5 = w2.setCell ⟨w.heap.size, 1, none⟩ (.slice (some ⟨q, 0, none⟩) ng c1) := ⟨_, rfl⟩
  have g25 : Chg w2 w5 (fun b => b = w.heap.size) := by rw [hw5]; exact chg_set1 w2 _ 1 _
  have B5 := Lib.hid (show Blk w5 w.heap.size 111 #[.slice Af nf cf, .slice (some ⟨q, 0, none⟩) ng c1, .slice Ah nh ch] by rw [hw5]; exact B2.out.setc 1 _)
  have O5 := Lib.hid (show w5.ownsRow wa.heap.size 5 1 (.slice (some ⟨q, 0, none⟩) ng c1) ng (bytesV F.now) from g25.own O2.out (fun b e hs => by
    have hs : b = w.heap.size := hs
    have e : q = b := by simpa [Value.ownBlock] using e
    have := QLO.out
    have := ZA.out
    omega))
  have S5 := Lib.hid (show Still w w5 from g25.still (Still.trans SA.out S2.out) (fun b hs => by have hs : b = w.heap.size := hs; omega))
  rw [← hw5]
  clear hw5 b1 b2 z2 g25
  obtain ⟨z0, hz0⟩ : ∃ z0, z0 = F.now.getD p 0 := ⟨_, rfl⟩
  have HZ0 := Lib.hid hz0
  have hx := XB.out z0
  have o5p : w5.cell? ⟨q, p, none⟩ = some (.int .u8 ((z0.toNat : Nat) : Int)) := by
    rw [O5.out.cellAt p (by omega), bytesV_get F.now p (by have := (Reads.of_own O5.out).1; omega), hz0]
  have f5p := O5.out.frozenAt p
  have c51 : w5.cell? ⟨w.heap.size, 1, none⟩ = some (.slice (some ⟨q, 0, none⟩) ng c1) := B5.out.cell 1
  obtain ⟨v0, hv0⟩ : ∃ v0, v0 = z0 ^^^ UInt8.ofNat y := ⟨_, rfl⟩
  have HV0 := Lib.hid hv0
  rw [← hv0] at hx
  clear hz0 hv0
  have q2 : (p : Int) < (ng : Int) := by omega
  have q3 : (0 : Int) ≤ (p : Int) := by omega
  have q5 : q < w5.heap.size := (O5.out.lt q rfl).2
  have o5d : w5.drew.cell? ⟨q, p, none⟩ = some (.int .u8 ((z0.toNat : Nat) : Int)) := o5p
  have f5d : w5.drew.frozen? ⟨q, p, none⟩ = false := f5p
  refine wp_region_late (S := fun W => W.cell? ⟨w.heap.size, 1, none⟩ = some (.slice (some ⟨q, 0, none⟩) ng c1) ∧ W.cell? ⟨q, p, none⟩ = some (.int .u8 ((z0.toNat : Nat) : Int))) [11] (by kernel_rfl) ⟨c51, o5p⟩ (fun hHeld => ?_)
  try simp only [Act.put, List.setIfInBounds_toArray, List.set_cons_zero, List.set_cons_succ]
  refine wpLate_pure (i := 0) (v := .pointer (some ⟨w.heap.size, 1, none⟩)) rfl (by kernel_rfl) (by kernel_rfl) (by kernel_rfl) (by kernel_rfl) (fun _ _ _ h => h) (Or.inl ⟨by kernel_rfl, fun w _ => by go_simp⟩) ?_
  try simp only [Act.put, List.setIfInBounds_toArray, List.set_cons_zero, List.set_cons_succ]
  refine wpLate_take (i := 1) (v := .slice (some ⟨q, 0, none⟩) ng c1) [10, 11] rfl (by kernel_rfl) (by kernel_rfl) (by kernel_rfl) (by kernel_rfl) (by kernel_rfl) (by decide) (fun _ _ _ h => h) (Or.inl ⟨by kernel_rfl, fun w hS => by obtain ⟨hs0, hs1⟩ := hS; go_simp⟩) (by assumption) (fun hHeld => ?_)
  try simp only [Act.put, List.setIfInBounds_toArray, List.set_cons_zero, List.set_cons_succ]
  refine wpLate_pure (i := 2) (v := .int .i64 (p : Int)) rfl (by kernel_rfl) (by kernel_rfl) (by kernel_rfl) (by kernel_rfl) (fun _ _ _ h => h) (Or.inl ⟨by kernel_rfl, fun w _ => by go_simp⟩) ?_
  try simp only [Act.put, List.setIfInBounds_toArray, List.set_cons_zero, List.set_cons_succ]
  refine wpLate_pure (i := 3) (v := .pointer (some ⟨w.heap.size, 1, none⟩)) rfl (by kernel_rfl) (by kernel_rfl) (by kernel_rfl) (by kernel_rfl) (fun _ _ _ h => h) (Or.inl ⟨by kernel_rfl, fun w _ => by go_simp⟩) ?_
  try simp only [Act.put, List.setIfInBounds_toArray, List.set_cons_zero, List.set_cons_succ]
  refine wpLate_take (i := 4) (v := .slice (some ⟨q, 0, none⟩) ng c1) [6, 7, 9, 11] rfl (by kernel_rfl) (by kernel_rfl) (by kernel_rfl) (by kernel_rfl) (by kernel_rfl) (by decide) (fun _ _ _ h => h) (Or.inl ⟨by kernel_rfl, fun w hS => by obtain ⟨hs0, hs1⟩ := hS; go_simp⟩) (by assumption) (fun hHeld => ?_)
  try simp only [Act.put, List.setIfInBounds_toArray, List.set_cons_zero, List.set_cons_succ]
  refine wpLate_pure (i := 5) (v := .int .i64 (p : Int)) rfl (by kernel_rfl) (by kernel_rfl) (by kernel_rfl) (by kernel_rfl) (fun _ _ _ h => h) (Or.inl ⟨by kernel_rfl, fun w _ => by go_simp⟩) ?_
  try simp only [Act.put, List.setIfInBounds_toArray, List.set_cons_zero, List.set_cons_succ]
  refine wpLate_pure (i := 6) (v := .pointer (some ⟨q, p, none⟩)) rfl (by kernel_rfl) (by kernel_rfl) (by kernel_rfl) (by kernel_rfl) (fun _ _ _ h => h) (Or.inl ⟨by kernel_rfl, fun w _ => by go_simp⟩) ?_
  try simp only [Act.put, List.setIfInBounds_toArray, List.set_cons_zero, List.set_cons_succ]
  refine wpLate_take (i := 7) (v := .int .u8 ((z0.toNat : Nat) : Int)) [9, 11] rfl (by kernel_rfl) (by kernel_rfl) (by kernel_rfl) (by kernel_rfl) (by kernel_rfl) (by decide) (fun _ _ _ h => h) (Or.inl ⟨by kernel_rfl, fun w hS => by obtain ⟨hs0, hs1⟩ := hS; go_simp⟩) (by assumption) (fun hHeld => ?_)
  try simp only [Act.put, List.setIfInBounds_toArray, List.set_cons_zero, List.set_cons_succ]
  refine wpLate_pure (i := 8) (v := .int .u8 (y : Int)) rfl (by kernel_rfl) (by kernel_rfl) (by kernel_rfl) (by kernel_rfl) (fun _ _ _ h => h) (Or.inl ⟨by kernel_rfl, fun w _ => by go_simp⟩) ?_
  try simp only [Act.put, List.setIfInBounds_toArray, List.set_cons_zero, List.set_cons_succ]
  refine wpLate_pure (i := 9) (v := .int .u8 ((v0.toNat : Nat) : Int)) rfl (by kernel_rfl) (by kernel_rfl) (by kernel_rfl) (by kernel_rfl) (fun _ _ _ h => h) (Or.inl ⟨by kernel_rfl, fun w _ => by go_simp⟩) ?_
  try simp only [Act.put, List.setIfInBounds_toArray, List.set_cons_zero, List.set_cons_succ]
  refine wpLate_pure (i := 10) (v := .pointer (some ⟨q, p, none⟩)) rfl (by kernel_rfl) (by kernel_rfl) (by kernel_rfl) (by kernel_rfl) (fun _ _ _ h => h) (Or.inl ⟨by kernel_rfl, fun w _ => by go_simp⟩) ?_
  try simp only [Act.put, List.setIfInBounds_toArray, List.set_cons_zero, List.set_cons_succ]
  refine wpLate_one (i := 11) (o := ⟨none, .store 5 (.tmp 59) (.tmp 58), _, _, _, none⟩) (by kernel_rfl) rfl (fun K' hK' => ?_)
  rw [if_pos (by kernel_rfl)]
  with_reducible refine step_storeC w5.drew 5 (.tmp 59) (.tmp 58) (by kernel_rfl) q p (.int .u8 ((v0.toNat : Nat) : Int)) (.int .u8 ((z0.toNat : Nat) : Int)) (by kernel_rfl) (by kernel_rfl) rfl (by kernel_rfl) o5d f5d ?_
  refine hK'.out _ _ (fun _ h => absurd h (by decide)) ?_
  clear hK' K' hHeld
  try simp only [Act.put, List.setIfInBounds_toArray, List.set_cons_zero, List.set_cons_succ]
  refine wpLate_done (by kernel_rfl) ?_ _
  go_simp
  generalize hw6 : (w5.setCell ⟨q, p, none⟩ (.int .u8 ((v0.toNat : Nat) : Int))).drew = w6
  have G56 := Lib.hid (show Chg w5 w6 (fun b => b = q) by rw [← hw6]; exact (chg_set1 w5 q p _).trans (Chg.drew _ (fun _ => False)) (fun _ _ h => h.elim))
  have O6 := Lib.hid (show w6.ownsRow wa.heap.size 5 1 (.slice (some ⟨q, 0, none⟩) ng c1) ng (bytesV (F.now.modify p (· ^^^ UInt8.ofNat y))) by
    rw [← hw6]
    have := own_turn (f := (· ^^^ UInt8.ofNat y)) O5.out hp
    rw [HV0.out, HZ0.out]
    exact still_own this ((Still.refl _).drew))
  have QX := Lib.hid (show ¬ w.heap.size = q from fun e => by have := QLO.out; have := ZA.out; omega)
  have B6 := Lib.hid (G56.out.blk B5.out QX.out)
  have S6 := Lib.hid (show Still w w6 from G56.out.still S5.out (fun b hs => by have hs : b = q := hs; have := QLO.out; have := ZA.out; omega))
  have ZW6 := Lib.hid (show w.heap.size < w6.heap.size from B6.out.lt)
  have hnh : nh ≤ 700000 := by rw [R3.out]; exact HKK.out
  have hfit : nh ≤ ch ∧ ch ≤ 9223372036854775807 := by
    rcases R4.out.2 with ⟨he, h0⟩ | ⟨gw, cp, cur, hv, _, hb, hnc, hm2, _⟩
    · injection he with _ _ e3
      omega
    · injection hv with _ _ hv3
      subst hv3
      exact ⟨hnc, by unfold maxLen at hm2; omega⟩
  obtain ⟨hf1, hf2⟩ := hfit
  have HCH := Lib.hid (show ∀ j x, F.waits[j]? = some x → ∃ gw, Ah = some ⟨gw, 0, none⟩ ∧ ∃ Ax nx cx, (∀ W, Still w W → W.rangeAt gw (j * 3) [.bool x.cut, .int .i64 x.k, .slice Ax nx cx]) ∧ RowP w (frz own) Ax nx cx x.b from by
    intro j x hx
    have hj := (List.getElem?_eq_some_iff.1 hx).1
    obtain ⟨Ax, nx, cx, g1, g2⟩ := R5.out.2 j x hx
    rcases R4.out.2 with ⟨_, h0⟩ | ⟨gw, cp, cur, hv, _, hb, _⟩
    · have := R3.out; omega
    · injection hv with hv1
      subst hv1
      refine ⟨gw, rfl, Ax, nx, cx, fun W t r u hr => ?_, g2⟩
      have hr3 : r < 3 := by have := (List.getElem?_eq_some_iff.1 hr).1; simpa using this
      rw [t.cell (p := ⟨gw, j * 3 + r, none⟩) (Array.getElem?_eq_some_iff.1 hb).1, R4.out.cellAt (j * 3 + r) (by have := R3.out; omega)]
      exact g1 r u hr)
  clear hw6 o5p f5p c51 o5d f5d q5 hx
  go_wp2_with fail
  go_loopw [11, 12] (fun vw iv wr => ∃ (j : Nat) (v : Value) (ccs : List Value), v = vw ∧ iv = .int .i64 j ∧ j ≤ nh ∧ Hid (CwS w6 wr v (F.waits.take j) ccs)) (fun _ iv _ => nh - (intOf iv).toNat)
  case atStart => exact ⟨0, _, [], rfl, rfl, Nat.zero_le _, Lib.hid (CwS.nil w6)⟩
  case round =>
    obtain ⟨j, v, ccs, rfl, rfl, hj, hin⟩ := hrel
    have CW := Lib.hid hin.out
    have BX := Lib.hid (B6.out.still hin.out.st)
    have c2x : wr.cell? ⟨w.heap.size, 2, none⟩ = some (.slice Ah nh ch) := BX.out.cell 2
    clear hin
    by_cases hlt : j < nh
    · obtain ⟨x, hx⟩ : ∃ x, F.waits[j]? = some x := ⟨_, List.getElem?_eq_getElem (by have := R3.out; omega)⟩
      obtain ⟨gw, hgw, Ax, nx, cx, hrg, hrx⟩ := HCH.out j x hx
      subst hgw
      have RGX := Lib.hid (hrg wr (Still.trans S6.out CW.out.st))
      have HXX := Lib.hid hx
      have HXB := Lib.hid (show x.b.length ≤ 33554432 from HGF.out.each _ (List.mem_of_getElem? hx))
      have RXX := Lib.hid (hrx.still (Still.trans S6.out CW.out.st))
      have HLT := Lib.hid hlt
      have q6 : (0 : Int) ≤ (j : Int) := by omega
      have q7 : (j : Int) < (nh : Int) := by omega
      have SZC := Lib.hid (show (Tryz.prog.info? 72).map (·.size) = some ([Value.bool x.cut, .int .i64 x.k, .slice Ax nx cx] : List Value).length from sizeDc)
      clear hx hrg hrx hlt
      go_upto_region 12 with ((first
        | (guard_target =~ wpList _ _ _ (Oper.mk (some 71) _ _ _ _ _ :: _) _ _; go_must (refine wpList_load_mid rfl 72 (.tmp 70) rfl gw (j * 3) rfl [.bool x.cut, .int .i64 x.k, .slice Ax nx cx] _ RGX.out Tryz.underlying72 rfl SZC.out ?_))
        | fail))
      obtain ⟨wc, hwc⟩ : ∃ wc, wc = wr.alloc (.cells #[.bool x.cut, .int .i64 x.k, .slice Ax nx cx] 72) := ⟨_, rfl⟩
      have SC := Lib.hid (show Still wr wc by rw [hwc]; exact (Still.refl wr).alloc (Nat.le_refl _) _)
      have BC := Lib.hid (show Blk wc wr.heap.size 72 #[.bool x.cut, .int .i64 x.k, .slice Ax nx cx] by rw [hwc]; exact Blk.new _ _ _)
      have ZC := Lib.hid (show wc.heap.size = wr.heap.size + 1 by rw [hwc]; simp)
      rw [← hwc]
      clear hwc c2x
      have bc2 : wc.cell? ⟨wr.heap.size, 2, none⟩ = some (.slice Ax nx cx) := BC.out.cell 2
      have CPX := Lib.hid (copy_any Ax nx cx x.b wc _ (RXX.out.still SC.out).reads (by have := HXB.out; have := RXX.out.len; omega) RXX.out.nil)
      go_wp2_with fail
      refine CPX.out.mono ?_
      rintro e w8 ⟨⟨v8, rfl, o8⟩, s8⟩
      obtain ⟨A8, c8, rfl⟩ := own_formN o8
      have B8 := Lib.hid (BC.out.still s8)
      have b82 : w8.cell? ⟨wr.heap.size, 2, none⟩ = some (.slice Ax nx cx) := B8.out.cell 2
      have z82 := B8.out.frozen 2
      have O8 := Lib.hid o8
      have S8 := Lib.hid (Still.trans SC.out s8)
      clear o8 s8 bc2 CPX
      go_upto_region 13 with fail
      obtain ⟨w9, hw9⟩ : ∃ w9, w9 = w8.setCell ⟨wr.heap.size, 2, none⟩ (.slice A8 nx c8) := ⟨_, rfl⟩
      have g89 : Chg w8 w9 (fun b => b = wr.heap.size) := by rw [hw9]; exact chg_set1 w8 _ 2 _
      have B9 := Lib.hid (show Blk w9 wr.heap.size 72 #[.bool x.cut, .int .i64 x.k, .slice A8 nx c8] by rw [hw9]; exact B8.out.setc 2 _)
      have S9 := Lib.hid (show Still wr w9 from g89.still S8.out (fun b hs => by have hs : b = wr.heap.size := hs; omega))
      have O9 := Lib.hid (show w9.ownsRow wc.heap.size 5 1 (.slice A8 nx c8) nx (bytesV x.b) from g89.own O8.out (fun b e hs => by
        have hs : b = wr.heap.size := hs
        have := (O8.out.lt b e).1
        have := ZC.out
        omega))
      rw [← hw9]
      clear hw9 b82 z82 g89
      have RG9 := Lib.hid (show w9.rangeAt wr.heap.size 0 [.bool x.cut, .int .i64 x.k, .slice A8 nx c8] from fun q u hq => by
        rw [Nat.zero_add, B9.out.cell q]
        simpa using hq)
      have CW9 := Lib.hid (CW.out.still S9.out)
      have HXN := Lib.hid (show (F.waits.take j).length = j by rw [List.length_take]; have := R3.out; have := HLT.out; omega)
      have OW := Lib.hid (show w9.ownsRow w6.heap.size 72 3 v j ccs from by have := CW9.out.own; rw [HXN.out] at this; exact this)
      have hj7 : j ≤ 1048576 := by omega
      have NMW := Lib.hid (show w6.heap.size ≤ w9.heap.size from CW9.out.st.size)
      have SZC9 := Lib.hid (show (Tryz.prog.info? 72).map (·.size) = some ([Value.bool x.cut, .int .i64 x.k, .slice A8 nx c8] : List Value).length from sizeDc)
      go_wp2_with ((first
        | (guard_target =~ wpList _ _ _ (Oper.mk (some 77) _ _ _ _ _ :: _) _ _; go_must (refine wpList_load_mid rfl 72 (.tmp 13) rfl wr.heap.size 0 rfl [.bool x.cut, .int .i64 x.k, .slice A8 nx c8] _ RG9.out Tryz.underlying72 rfl SZC9.out ?_))
        | (guard_target =~ wpList _ _ _ (Oper.mk (some 78) _ _ _ _ _ :: _) _ _; go_must (refine wpList_boxDc _ rfl _ rfl _ _ _ _ _ rfl ?_))
        | (guard_target =~ wpList _ _ _ (Oper.mk (some 79) _ _ _ _ _ :: _) _ _; go_must (refine wpList_pushDc _ rfl _ _ rfl w6.heap.size _ _ _ rfl (OW.out.alloc _) w9.heap.size [.bool x.cut, .int .i64 x.k, .slice A8 nx c8] rfl (fun q u hq => ((Blk.new w9 72 #[.bool x.cut, .int .i64 x.k, .slice A8 nx c8]).cell q).trans (by simpa using hq)) rfl (by simp [Value.oneCell']) hj7 (by have := NMW.out; simp; omega) ?_))
        | fail))
      intro v10 w10 o10 g10 hv10
      have CW10 := Lib.hid (show CwS w6 w10 v10 (F.waits.take (j + 1)) (ccs ++ [.bool x.cut, .int .i64 x.k, .slice A8 nx c8]) from by
        have sal : Still w9 (w9.alloc (.cells #[.bool x.cut, .int .i64 x.k, .slice A8 nx c8] 72)) := (Still.refl w9).alloc (Nat.le_refl _) _
        have e : F.waits.take (j + 1) = F.waits.take j ++ [x] := by rw [List.take_add_one, HXX.out]; rfl
        rw [e]
        refine (CW9.out.still sal).snoc (lo := wc.heap.size) (still_own O9.out sal) (by have := CW.out.st.size; have := SC.out.size; omega) (fun b e => (O9.out.lt b e).1) ⟨wr, CW.out, Still.trans S9.out sal, SC.out.size⟩ (by rw [HXN.out]; exact o10) g10)
      clear o10 g10 hv10
      go_wp2_with fail
      go_roundw
      case rel => exact ⟨j + 1, v10, _, rfl, by go_num, by have := HLT.out; omega, CW10⟩
      case measure => simp [intOf]; have := HLT.out; omega
    · obtain rfl : j = nh := by omega
      obtain ⟨Av, cv, hvv⟩ := own_formN CW.out.own
      have HT := Lib.hid (List.take_of_length_le (show F.waits.length ≤ j by rw [R3.out]; exact Nat.le_refl _))
      rw [HT.out, ← R3.out] at hvv
      subst hvv
      have CWF := Lib.hid (show CwS w6 wr (.slice Av j cv) F.waits ccs from by have := CW.out; rw [HT.out] at this; exact this)
      have zx2 := BX.out.frozen 2
      go_upto_region 15 with fail
      generalize hw7 : wr.setCell ⟨w.heap.size, 2, none⟩ (.slice Av j cv) = w7
      have g7 : Chg wr w7 (fun b => b = w.heap.size) := by rw [← hw7]; exact chg_set1 wr _ 2 _
      have B7 := Lib.hid (show Blk w7 w.heap.size 111 #[.slice Af nf cf, .slice (some ⟨q, 0, none⟩) ng c1, .slice Av j cv] by rw [← hw7]; exact BX.out.setc 2 _)
      have S7 := Lib.hid (show Still w w7 from g7.still (Still.trans S6.out CW.out.st) (fun b hs => by have hs : b = w.heap.size := hs; omega))
      have CF7 := Lib.hid (CWF.out.F.chg g7 (fun b hs _ => by have hs : b = w.heap.size := hs; have := ZW6.out; omega))
      have O7 := Lib.hid (show w7.ownsRow wa.heap.size 5 1 (.slice (some ⟨q, 0, none⟩) ng c1) ng (bytesV (F.now.modify p (· ^^^ UInt8.ofNat y))) from g7.own (still_own O6.out CW.out.st) (fun b e hs => by
        have hs : b = w.heap.size := hs
        have e : q = b := by simpa [Value.ownBlock] using e
        exact QX.out (by omega)))
      have QL6 := Lib.hid (show q < w6.heap.size from (O6.out.lt q rfl).2)
      obtain ⟨G, hG⟩ : ∃ G : DFi, G = ⟨F.fast, F.now.modify p (· ^^^ UInt8.ofNat y), F.waits⟩ := ⟨_, rfl⟩
      have GB := Lib.hid (show (∀ i, bytesD G i = bytesD F i) ∧ G.waits = F.waits by rw [hG]; exact ⟨fun i => rfl, rfl⟩)
      have GFIT := Lib.hid (show G.fit 33554432 from ⟨by rw [hG]; exact HGF.out.cut, by rw [hG]; exact HGF.out.most, by rw [hG]; exact HGF.out.each⟩)
      have VLO := Lib.hid (show ∀ b, (Value.slice Av j cv).ownBlock = some b → w6.heap.size ≤ b from fun b e => (CF7.out.own.lt b (by rw [← R3.out] at *; exact e)).1)
      have FDX := Lib.hid (show ∀ W, Still w7 W → FileD W w6.heap.size (allFrz (.slice Av j cv)) 0 G [.slice Af nf cf, .slice (some ⟨q, 0, none⟩) ng c1, .slice Av j cv] from fun W t => by
        have fz : ∀ b, b < w6.heap.size → frz (allFrz (.slice Av j cv)) b := fun b hb => by
          unfold frz allFrz
          rw [if_neg (fun e => by have := VLO.out b e; omega)]
        have cW := CF7.out.still t
        refine ⟨Af, nf, cf, some ⟨q, 0, none⟩, ng, c1, Av, j, cv, ccs, rfl, ?_, ?_, by rw [GB.out.2]; exact R3.out, by have := cW.own; rw [← R3.out] at this; exact this, ?_, fun b hb => by unfold allFrz; rw [if_pos hb]⟩
        · have hF : G.fast = F.fast := by rw [hG]
          rw [hF]
          exact ((R1.out.mono (Q := fun b => b < w6.heap.size) (fun b hb hlt => by have := ZW6.out; omega)).still (Still.trans S7.out t)).mono (fun b hb _ => fz b hb)
        · have hN : G.now = F.now.modify p (· ^^^ UInt8.ofNat y) := by rw [hG]
          rw [hN]
          refine ((RowP.of_own (still_own O7.out t)).mono (fun b hb hlt => fz b ?_))
          have h2 := hb.2
          have h2 : q = b := by simpa [Value.ownBlock] using h2
          have := QL6.out
          omega
        · rw [GB.out.2]
          refine cW.dc (fun b hb hlt hne => ?_)
          unfold allFrz
          rw [if_neg hne])
      have BYT := Lib.hid (fun W (t : Still w7 W) (m : Nat) (hm : m ≤ G.waits.length) => bytes_D (T := 33554432) (FDX.out W t) GFIT.out (by decide) hm)
      have RG7 := Lib.hid (fun W (t : Still w7 W) => (show W.rangeAt w.heap.size 0 [.slice Af nf cf, .slice (some ⟨q, 0, none⟩) ng c1, .slice Av j cv] from fun r u hr => by
        rw [Nat.zero_add, (B7.out.still t).cell r]
        simpa using hr))
      have PL := Lib.hid (show p < (bytesD F j).length from by
        have h1 := HGF.out.now
        rw [← R3.out] at h1
        rw [← h1]
        have := HNG.out
        omega)
      have HSZ7 := Lib.hid (show w6.heap.size ≤ w7.heap.size from Nat.le_trans CW.out.st.size g7.size)
      clear hw7 g7 c2x zx2 BX CW
      have b72 : w7.cell? ⟨w.heap.size, 2, none⟩ = some (.slice Av j cv) := B7.out.cell 2
      go_wp2_with fail
      go_loopw [14] (fun iv wr => ∃ m : Nat, iv = .int .i64 ((m : Int) - 1) ∧ m ≤ j ∧ Hid (Still w7 wr ∧ (∀ (i' : Nat) (x : DCh), m ≤ i' → F.waits[i']? = some x → x.cut = true ∨ p < (bytesD F i').length) ∧ p < (bytesD F m).length)) (fun iv _ => (intOf iv + 1).toNat)
      case atStart => exact ⟨j, rfl, Nat.le_refl _, Lib.hid ⟨Still.refl _, fun i' x hi hx => by have h1 := (List.getElem?_eq_some_iff.1 hx).1; have := R3.out; omega, PL.out⟩⟩
      case round =>
        clear b72
        obtain ⟨m, rfl, hmj, hin⟩ := hrel
        have ST := Lib.hid hin.out.1
        have IN := Lib.hid hin.out.2
        clear hin
        rcases m with _ | i
        · rw [show (((0 : Nat) : Int) - 1) = -1 from rfl]
          have HFL := Lib.hid R1.out.len
          have hpf : p < nf := by
            have h1 : p < F.fast.length := IN.out.2
            have := HFL.out
            omega
          have hnf : nf ≤ 33554432 := by
            have h1 : F.fast.length ≤ 33554432 := HGF.out.most 0
            have := HFL.out
            omega
          have CPF := Lib.hid (copy_any Af nf cf F.fast wr _ (R1.out.still (Still.trans S7.out ST.out)).reads (by omega) R1.out.nil)
          have c80w : wr.cell? ⟨w.heap.size, 0, none⟩ = some (.slice Af nf cf) := (B7.out.still ST.out).cell 0
          go_wp2_with fail
          refine CPF.out.mono ?_
          rintro e wf ⟨⟨vf, rfl, of⟩, sf⟩
          obtain ⟨A2x, c2x, rfl, e1, e2, e3⟩ := own_form of
          obtain ⟨q2, rfl, hq2lo⟩ : ∃ q2, A2x = some ⟨q2, 0, none⟩ ∧ wr.heap.size ≤ q2 := by
            rcases of.2 with ⟨_, h0⟩ | ⟨q2, cp, cur, hv, hg, _⟩
            · omega
            · injection hv with hv1
              exact ⟨q2, hv1, hg⟩
          have BF := Lib.hid (B7.out.still (Still.trans ST.out sf))
          have c80f : wf.cell? ⟨w.heap.size, 0, none⟩ = some (.slice Af nf cf) := BF.out.cell 0
          have z80f := BF.out.frozen 0
          have OFF := Lib.hid of
          have SF := Lib.hid (Still.trans ST.out sf)
          have Q2LO := Lib.hid (show w6.heap.size ≤ q2 ∧ w7.heap.size ≤ q2 from by
            have h1 := ST.out.size
            have h2 := HSZ7.out
            omega)
          clear of sf e3 c80w CPF hq2lo
          go_upto_region 24 with fail
          generalize hw8 : wf.setCell ⟨w.heap.size, 0, none⟩ (.slice (some ⟨q2, 0, none⟩) nf c2x) = w8
          have g8 : Chg wf w8 (fun b => b = w.heap.size) := by rw [← hw8]; exact chg_set1 wf _ 0 _
          have B8 := Lib.hid (show Blk w8 w.heap.size 111 #[.slice (some ⟨q2, 0, none⟩) nf c2x, .slice (some ⟨q, 0, none⟩) ng c1, .slice Av j cv] by rw [← hw8]; exact BF.out.setc 0 _)
          have O8F := Lib.hid (show w8.ownsRow wr.heap.size 5 1 (.slice (some ⟨q2, 0, none⟩) nf c2x) nf (bytesV F.fast) from g8.own OFF.out (fun b e hs => by
            have hs : b = w.heap.size := hs
            have e : q2 = b := by simpa [Value.ownBlock] using e
            have := Q2LO.out.1
            have := ZW6.out
            omega))
          have S8 := Lib.hid (show Still w w8 from g8.still (Still.trans S7.out SF.out) (fun b hs => by have hs : b = w.heap.size := hs; omega))
          have CF8 := Lib.hid ((CF7.out.still SF.out).chg g8 (fun b hs _ => by have hs : b = w.heap.size := hs; have := ZW6.out; omega))
          have O8N := Lib.hid (show w8.ownsRow wa.heap.size 5 1 (.slice (some ⟨q, 0, none⟩) ng c1) ng (bytesV (F.now.modify p (· ^^^ UInt8.ofNat y))) from g8.own (still_own O7.out SF.out) (fun b e hs => by
            have hs : b = w.heap.size := hs
            have e : q = b := by simpa [Value.ownBlock] using e
            exact QX.out (by omega)))
          clear hw8 c80f z80f g8
          obtain ⟨z1, hz1⟩ : ∃ z1, z1 = F.fast.getD p 0 := ⟨_, rfl⟩
          have HZ1 := Lib.hid hz1
          have hx1 := XB.out z1
          obtain ⟨v1, hv1⟩ : ∃ v1, v1 = z1 ^^^ UInt8.ofNat y := ⟨_, rfl⟩
          have HV1 := Lib.hid hv1
          rw [← hv1] at hx1
          have dB : w8.cell? ⟨q2, p, none⟩ = some (.int .u8 ((z1.toNat : Nat) : Int)) := by
            rw [O8F.out.cellAt p (by omega), bytesV_get F.fast p (by rw [HFL.out]; exact hpf), hz1]
          have fB := O8F.out.frozenAt p
          have dBd : w8.drew.cell? ⟨q2, p, none⟩ = some (.int .u8 ((z1.toNat : Nat) : Int)) := dB
          have fBd : w8.drew.frozen? ⟨q2, p, none⟩ = false := fB
          have c80 : w8.cell? ⟨w.heap.size, 0, none⟩ = some (.slice (some ⟨q2, 0, none⟩) nf c2x) := B8.out.cell 0
          have q9 : (p : Int) < (nf : Int) := by omega
          clear hz1 hv1
          refine wp_region_late (S := fun W => W.cell? ⟨w.heap.size, 0, none⟩ = some (.slice (some ⟨q2, 0, none⟩) nf c2x) ∧ W.cell? ⟨q2, p, none⟩ = some (.int .u8 ((z1.toNat : Nat) : Int))) [11] (by kernel_rfl) ⟨c80, dB⟩ (fun hHeld => ?_)
          try simp only [Act.put, List.setIfInBounds_toArray, List.set_cons_zero, List.set_cons_succ]
          refine wpLate_pure (i := 0) (v := .pointer (some ⟨w.heap.size, 0, none⟩)) rfl (by kernel_rfl) (by kernel_rfl) (by kernel_rfl) (by kernel_rfl) (fun _ _ _ h => h) (Or.inl ⟨by kernel_rfl, fun w _ => by go_simp⟩) ?_
          try simp only [Act.put, List.setIfInBounds_toArray, List.set_cons_zero, List.set_cons_succ]
          refine wpLate_take (i := 1) (v := .slice (some ⟨q2, 0, none⟩) nf c2x) [10, 11] rfl (by kernel_rfl) (by kernel_rfl) (by kernel_rfl) (by kernel_rfl) (by kernel_rfl) (by decide) (fun _ _ _ h => h) (Or.inl ⟨by kernel_rfl, fun w hS => by obtain ⟨hs0, hs1⟩ := hS; go_simp⟩) (by assumption) (fun hHeld => ?_)
          try simp only [Act.put, List.setIfInBounds_toArray, List.set_cons_zero, List.set_cons_succ]
          refine wpLate_pure (i := 2) (v := .int .i64 (p : Int)) rfl (by kernel_rfl) (by kernel_rfl) (by kernel_rfl) (by kernel_rfl) (fun _ _ _ h => h) (Or.inl ⟨by kernel_rfl, fun w _ => by go_simp⟩) ?_
          try simp only [Act.put, List.setIfInBounds_toArray, List.set_cons_zero, List.set_cons_succ]
          refine wpLate_pure (i := 3) (v := .pointer (some ⟨w.heap.size, 0, none⟩)) rfl (by kernel_rfl) (by kernel_rfl) (by kernel_rfl) (by kernel_rfl) (fun _ _ _ h => h) (Or.inl ⟨by kernel_rfl, fun w _ => by go_simp⟩) ?_
          try simp only [Act.put, List.setIfInBounds_toArray, List.set_cons_zero, List.set_cons_succ]
          refine wpLate_take (i := 4) (v := .slice (some ⟨q2, 0, none⟩) nf c2x) [6, 7, 9, 11] rfl (by kernel_rfl) (by kernel_rfl) (by kernel_rfl) (by kernel_rfl) (by kernel_rfl) (by decide) (fun _ _ _ h => h) (Or.inl ⟨by kernel_rfl, fun w hS => by obtain ⟨hs0, hs1⟩ := hS; go_simp⟩) (by assumption) (fun hHeld => ?_)
          try simp only [Act.put, List.setIfInBounds_toArray, List.set_cons_zero, List.set_cons_succ]
          refine wpLate_pure (i := 5) (v := .int .i64 (p : Int)) rfl (by kernel_rfl) (by kernel_rfl) (by kernel_rfl) (by kernel_rfl) (fun _ _ _ h => h) (Or.inl ⟨by kernel_rfl, fun w _ => by go_simp⟩) ?_
          try simp only [Act.put, List.setIfInBounds_toArray, List.set_cons_zero, List.set_cons_succ]
          refine wpLate_pure (i := 6) (v := .pointer (some ⟨q2, p, none⟩)) rfl (by kernel_rfl) (by kernel_rfl) (by kernel_rfl) (by kernel_rfl) (fun _ _ _ h => h) (Or.inl ⟨by kernel_rfl, fun w _ => by go_simp⟩) ?_
          try simp only [Act.put, List.setIfInBounds_toArray, List.set_cons_zero, List.set_cons_succ]
          refine wpLate_take (i := 7) (v := .int .u8 ((z1.toNat : Nat) : Int)) [9, 11] rfl (by kernel_rfl) (by kernel_rfl) (by kernel_rfl) (by kernel_rfl) (by kernel_rfl) (by decide) (fun _ _ _ h => h) (Or.inl ⟨by kernel_rfl, fun w hS => by obtain ⟨hs0, hs1⟩ := hS; go_simp⟩) (by assumption) (fun hHeld => ?_)
          try simp only [Act.put, List.setIfInBounds_toArray, List.set_cons_zero, List.set_cons_succ]
          refine wpLate_pure (i := 8) (v := .int .u8 (y : Int)) rfl (by kernel_rfl) (by kernel_rfl) (by kernel_rfl) (by kernel_rfl) (fun _ _ _ h => h) (Or.inl ⟨by kernel_rfl, fun w _ => by go_simp⟩) ?_
          try simp only [Act.put, List.setIfInBounds_toArray, List.set_cons_zero, List.set_cons_succ]
          refine wpLate_pure (i := 9) (v := .int .u8 ((v1.toNat : Nat) : Int)) rfl (by kernel_rfl) (by kernel_rfl) (by kernel_rfl) (by kernel_rfl) (fun _ _ _ h => h) (Or.inl ⟨by kernel_rfl, fun w _ => by go_simp⟩) ?_
          try simp only [Act.put, List.setIfInBounds_toArray, List.set_cons_zero, List.set_cons_succ]
          refine wpLate_pure (i := 10) (v := .pointer (some ⟨q2, p, none⟩)) rfl (by kernel_rfl) (by kernel_rfl) (by kernel_rfl) (by kernel_rfl) (fun _ _ _ h => h) (Or.inl ⟨by kernel_rfl, fun w _ => by go_simp⟩) ?_
          try simp only [Act.put, List.setIfInBounds_toArray, List.set_cons_zero, List.set_cons_succ]
          refine wpLate_one (i := 11) (o := ⟨none, .store 5 (.tmp 150) (.tmp 149), _, _, _, none⟩) (by kernel_rfl) rfl (fun K' hK' => ?_)
          rw [if_pos (by kernel_rfl)]
          with_reducible refine step_storeC w8.drew 5 (.tmp 150) (.tmp 149) (by kernel_rfl) q2 p (.int .u8 ((v1.toNat : Nat) : Int)) (.int .u8 ((z1.toNat : Nat) : Int)) (by kernel_rfl) (by kernel_rfl) rfl (by kernel_rfl) dBd fBd ?_
          refine hK'.out _ _ (fun _ h => absurd h (by decide)) ?_
          clear hK' K' hHeld
          try simp only [Act.put, List.setIfInBounds_toArray, List.set_cons_zero, List.set_cons_succ]
          refine wpLate_done (by kernel_rfl) ?_ _
          go_simp
          generalize hw9 : (w8.setCell ⟨q2, p, none⟩ (.int .u8 ((v1.toNat : Nat) : Int))).drew = w9
          have g9 : Chg w8 w9 (fun b => b = q2) := by rw [← hw9]; exact (chg_set1 w8 q2 _ _).trans (Chg.drew _ (fun _ => False)) (fun _ _ h => h.elim)
          have S9 := Lib.hid (show Still w w9 from g9.still S8.out (fun b hs => by have hs : b = q2 := hs; have := Q2LO.out.1; have := ZW6.out; omega))
          have B9 := Lib.hid (show Blk w9 w.heap.size 111 #[.slice (some ⟨q2, 0, none⟩) nf c2x, .slice (some ⟨q, 0, none⟩) ng c1, .slice Av j cv] from g9.blk B8.out (fun h => by have h : w.heap.size = q2 := h; have := Q2LO.out.1; have := ZW6.out; omega))
          have CF9 := Lib.hid (show CwF w6.heap.size w9 (.slice Av j cv) F.waits ccs from by
            obtain ⟨lab, hrows⟩ := CF7.out.rows
            refine ⟨g9.own CF8.out.own (fun b e hs => by have hs : b = q2 := hs; have := (CF7.out.own.lt b e).2; have := Q2LO.out.2; omega), CF8.out.ccl, lab, fun j' x' hx' => ?_⟩
            obtain ⟨A', n', c', k1, k2, k3⟩ := hrows j' x' hx'
            obtain ⟨lab8, hrows8⟩ := CF8.out.rows
            obtain ⟨A'', n'', c'', l1, l2, _⟩ := hrows8 j' x' hx'
            have e1 := (k1 2 _ rfl).symm.trans (l1 2 _ rfl)
            injection e1 with e1
            injection e1 with t1 t2 t3
            subst t1 t2 t3
            exact ⟨A', n', c', k1, g9.own l2 (fun b e hs => by have hs : b = q2 := hs; have := (k2.lt b e).2; have := Q2LO.out.2; omega), k3⟩)
          have O9 := Lib.hid (show w9.ownsRow wa.heap.size 5 1 (.slice (some ⟨q, 0, none⟩) ng c1) ng (bytesV (F.now.modify p (· ^^^ UInt8.ofNat y))) from g9.own O8N.out (fun b e hs => by
            have hs : b = q2 := hs
            have e : q = b := by simpa [Value.ownBlock] using e
            have := QL6.out
            have := Q2LO.out.1
            omega))
          have O9F := Lib.hid (show w9.ownsRow wr.heap.size 5 1 (.slice (some ⟨q2, 0, none⟩) nf c2x) nf (bytesV (F.fast.modify p (· ^^^ UInt8.ofNat y))) by
            rw [← hw9]
            have := own_turn (f := (· ^^^ UInt8.ofNat y)) O8F.out hpf
            rw [HV1.out, HZ1.out]
            exact still_own this ((Still.refl _).drew))
          have D9 := Lib.hid (HC.out.still S9.out)
          have k91 : w9.drew.cell? ⟨dk, 1, none⟩ = some (.slice (some ⟨g, 0, none⟩) fl cap) := by
            have := D9.out.cells.2.1
            rw [HFV.out, ← HFLL.out] at this
            exact this
          have TH := Lib.hid (show w9.drew.there g (f * 3) ([Value.slice (some ⟨q2, 0, none⟩) nf c2x, Value.slice (some ⟨q, 0, none⟩) ng c1, Value.slice Av j cv].toArray).size from fun r hr => by
            have fo := D9.out.fown
            rw [HFV.out] at fo
            have hr3 : r < 3 := hr
            have hff : f < D.files.length := (List.getElem?_eq_some_iff.1 HF.out).1
            refine ⟨?_, fo.frozenAt _⟩
            have e := fo.cellAt (f * 3 + r) (by omega)
            have hl := fo.1
            show (w9.cell? ⟨g, f * 3 + r, none⟩).isSome = true
            rw [e, List.getElem?_eq_getElem (by omega)]
            rfl)
          have RG9 : w9.drew.rangeAt w.heap.size 0 [Value.slice (some ⟨q2, 0, none⟩) nf c2x, Value.slice (some ⟨q, 0, none⟩) ng c1, Value.slice Av j cv] := fun r u hr => by
            have := B9.out.cell r
            rw [Nat.zero_add]
            exact this.trans (by simpa using hr)
          
          clear hw9 dB fB dBd fBd c80 g9
          go_wp2_with fail
          refine wp_region_late (S := fun W => W.cell? ⟨dk, 1, none⟩ = some (.slice (some ⟨g, 0, none⟩) fl cap) ∧ W.rangeAt w.heap.size 0 [Value.slice (some ⟨q2, 0, none⟩) nf c2x, Value.slice (some ⟨q, 0, none⟩) ng c1, Value.slice Av j cv]) [7] (by kernel_rfl) ⟨k91, RG9⟩ (fun hHeld => ?_)
          try simp only [Act.put, List.setIfInBounds_toArray, List.set_cons_zero, List.set_cons_succ]
          refine wpLate_pure (i := 0) (v := .pointer (some ⟨dk, 0, none⟩)) rfl (by kernel_rfl) (by kernel_rfl) (by kernel_rfl) (by kernel_rfl) (fun _ _ _ h => h) (Or.inl ⟨by kernel_rfl, fun w _ => by go_simp⟩) ?_
          try simp only [Act.put, List.setIfInBounds_toArray, List.set_cons_zero, List.set_cons_succ]
          refine wpLate_pure (i := 1) (v := .pointer (some ⟨dk, 0, none⟩)) rfl (by kernel_rfl) (by kernel_rfl) (by kernel_rfl) (by kernel_rfl) (fun _ _ _ h => h) (Or.inl ⟨by kernel_rfl, fun w _ => by go_simp⟩) ?_
          try simp only [Act.put, List.setIfInBounds_toArray, List.set_cons_zero, List.set_cons_succ]
          refine wpLate_pure (i := 2) (v := .pointer (some ⟨dk, 1, none⟩)) rfl (by kernel_rfl) (by kernel_rfl) (by kernel_rfl) (by kernel_rfl) (fun _ _ _ h => h) (Or.inl ⟨by kernel_rfl, fun w _ => by go_simp⟩) ?_
          try simp only [Act.put, List.setIfInBounds_toArray, List.set_cons_zero, List.set_cons_succ]
          refine wpLate_take (i := 3) (v := .slice (some ⟨g, 0, none⟩) fl cap) [6, 7] rfl (by kernel_rfl) (by kernel_rfl) (by kernel_rfl) (by kernel_rfl) (by kernel_rfl) (by decide) (fun _ _ _ h => h) (Or.inl ⟨by kernel_rfl, fun w hS => by obtain ⟨hs0, hs1⟩ := hS; go_simp⟩) (by assumption) (fun hHeld => ?_)
          try simp only [Act.put, List.setIfInBounds_toArray, List.set_cons_zero, List.set_cons_succ]
          refine wpLate_pure (i := 4) (v := .int .i64 (f : Int)) rfl (by kernel_rfl) (by kernel_rfl) (by kernel_rfl) (by kernel_rfl) (fun _ _ _ h => h) (Or.inl ⟨by kernel_rfl, fun w _ => by go_simp⟩) ?_
          try simp only [Act.put, List.setIfInBounds_toArray, List.set_cons_zero, List.set_cons_succ]
          refine wpLate_take (i := 5) (v := .agg [Value.slice (some ⟨q2, 0, none⟩) nf c2x, Value.slice (some ⟨q, 0, none⟩) ng c1, Value.slice Av j cv].toArray) [7] rfl (by kernel_rfl) (by kernel_rfl) (by kernel_rfl) (by kernel_rfl) (by kernel_rfl) (by decide) (fun _ _ _ h => h) (yieldsIf_load_mid (by kernel_rfl) 111 (.tmp 10) rfl w.heap.size 0 (by kernel_rfl) [Value.slice (some ⟨q2, 0, none⟩) nf c2x, Value.slice (some ⟨q, 0, none⟩) ng c1, Value.slice Av j cv] _ (fun W h => h.2) Tryz.underlying111 rfl (by rw [sizeFile]; rfl)) (by assumption) (fun hHeld => ?_)
          try simp only [Act.put, List.setIfInBounds_toArray, List.set_cons_zero, List.set_cons_succ]
          refine wpLate_pure (i := 6) (v := .pointer (some ⟨g, f * 3, none⟩)) rfl (by kernel_rfl) (by kernel_rfl) (by kernel_rfl) (by kernel_rfl) (fun _ _ _ h => h) (Or.inl ⟨by kernel_rfl, fun w _ => by go_simp⟩) ?_
          try simp only [Act.put, List.setIfInBounds_toArray, List.set_cons_zero, List.set_cons_succ]
          refine wpLate_one (i := 7) (o := ⟨none, .store 111 (.tmp 157) (.tmp 156), _, _, _, none⟩) (by kernel_rfl) rfl (fun K' hK' => ?_)
          rw [if_pos (by kernel_rfl)]
          with_reducible refine wp_store_mid 111 (.tmp 157) (.tmp 156) (by kernel_rfl) g (f * 3) [Value.slice (some ⟨q2, 0, none⟩) nf c2x, Value.slice (some ⟨q, 0, none⟩) ng c1, Value.slice Av j cv].toArray (by kernel_rfl) (by kernel_rfl) TH.out (by rw [sizeFile]; simp) (by simp [Value.oneCell']) ?_
          refine hK'.out _ _ (fun _ h => absurd h (by decide)) ?_
          clear hK' K' hHeld
          try simp only [Act.put, List.setIfInBounds_toArray, List.set_cons_zero, List.set_cons_succ]
          refine wpLate_done (by kernel_rfl) ?_ _
          generalize hWE : w9.drew.setCells g (f * 3) [Value.slice (some ⟨q2, 0, none⟩) nf c2x, Value.slice (some ⟨q, 0, none⟩) ng c1, Value.slice Av j cv].toArray.toList = wE
          go_simp
          have FIN := Lib.hid (show DLeft w wE base dk own { D with files := D.files.set f (F.rotAt p (· ^^^ UInt8.ofNat y) none) } from by
            refine rot_end (lo := w6.heap.size) (v := .slice Av j cv) (Af := some ⟨q2, 0, none⟩) (nf := nf) (cf := c2x) (An := some ⟨q, 0, none⟩) (nn := ng) (cn := c1) (ccs := ccs) HC.out (List.getElem?_eq_some_iff.1 HF.out).1 HFV.out S9.out.drew (by have := ZW6.out; omega) ?_ ?_ ?_ ?_ hWE.symm
            · refine ((RowP.of_own O9F.out).still ((Still.refl _).drew)).mono (fun b hb hlt => .inr ?_)
              have h2 : q2 = b := by simpa [Value.ownBlock] using hb.2
              have := Q2LO.out.1
              have := ZW6.out
              exact ⟨by omega, fun e => own_ne2 O9F.out CF9.out.own (by decide) (b := b) (by simp [Value.ownBlock, h2]) e⟩
            · refine ((RowP.of_own O9.out).still ((Still.refl _).drew)).mono (fun b hb hlt => .inr ?_)
              have h2 : q = b := by simpa [Value.ownBlock] using hb.2
              have := QL6.out
              have := QLO.out
              have := ZA.out
              exact ⟨by omega, fun e => own_ne2 O9.out CF9.out.own (by decide) (b := b) (by simp [Value.ownBlock, h2]) e⟩
            · exact ⟨_, cv, by rw [show (F.rotAt p (· ^^^ UInt8.ofNat y) none).waits.length = j from R3.out.symm]⟩
            · exact CF9.out.still ((Still.refl w9).drew))
          clear hWE
          go_wp2_with fail
          (try simp only [Exit.inBlock, Exit.then])
          go_ret
          exact ⟨true, _, rfl, FIN.out, .inr ⟨rfl, f, p, F, none, HE1.out, HF.out, rfl, by rw [HNG.out]; exact hp, fun j' x' hx' => IN.out.1 j' x' (Nat.zero_le _) hx', rfl⟩⟩
        · rw [show (((i + 1 : Nat) : Int) - 1) = (i : Int) by omega]
          obtain ⟨x, hx⟩ : ∃ x, F.waits[i]? = some x := ⟨_, List.getElem?_eq_getElem (by have := R3.out; omega)⟩
          have q6 : ¬ ((i : Int) < 0) := by omega
          have q8 : (0 : Int) ≤ (i : Int) := by omega
          have q7 : (i : Int) < (j : Int) := by omega
          have HX := Lib.hid hx
          have RGW := Lib.hid (RG7.out wr ST.out)
          have BY := Lib.hid (BYT.out wr ST.out i (by rw [GB.out.2, ← R3.out]; omega))
          rw [GB.out.1] at BY
          obtain ⟨ni, hni⟩ : ∃ ni, ni = (bytesD F i).length := ⟨_, rfl⟩
          have HNI := Lib.hid hni
          have hni7 : ni ≤ 33554432 := by rw [hni]; exact HGF.out.most i
          rw [← hni] at BY
          clear hni
          go_wp2_with ((first
            | (guard_target =~ wpList _ _ _ (Oper.mk (some 90) _ _ _ _ _ :: _) _ _; go_must (refine wpList_load_mid rfl 111 (.tmp 10) rfl w.heap.size 0 rfl [.slice Af nf cf, .slice (some ⟨q, 0, none⟩) ng c1, .slice Av j cv] _ RGW.out Tryz.underlying111 rfl (by rw [sizeFile]; rfl) ?_))
            | fail))
          refine BY.out.mono ?_
          rintro e w8 ⟨⟨A8, c8, rfl, o8⟩, s8⟩
          have S8 := Lib.hid (Still.trans ST.out s8)
          have CF8 := Lib.hid (CF7.out.still S8.out)
          obtain ⟨lab, hrows⟩ := CF8.out.rows
          obtain ⟨Ax, nx, cx, g1', g2', _⟩ := hrows i x hx
          obtain ⟨gv, hgv⟩ : ∃ gv, Av = some ⟨gv, 0, none⟩ := by
            rcases CF8.out.own.2 with ⟨_, h0⟩ | ⟨gv, cp, cur, hv, _⟩
            · have := R3.out; omega
            · injection hv with hv1
              exact ⟨gv, hv1⟩
          subst hgv
          have OW8 := Lib.hid (show w8.ownsRow w6.heap.size 72 3 (.slice (some ⟨gv, 0, none⟩) j cv) j ccs from by have := CF8.out.own; rw [← R3.out] at this; exact this)
          have d0 : w8.cell? ⟨gv, i * 3, none⟩ = some (.bool x.cut) := by
            have := OW8.out.cellAt (i * 3 + 0) (by omega)
            rw [Nat.add_zero] at this
            exact this.trans (g1' 0 _ rfl)
          have d2 : w8.cell? ⟨gv, i * 3 + 2, none⟩ = some (.slice Ax nx cx) := (OW8.out.cellAt (i * 3 + 2) (by omega)).trans (g1' 2 _ rfl)
          have c82 : w8.cell? ⟨w.heap.size, 2, none⟩ = some (.slice (some ⟨gv, 0, none⟩) j cv) := (B7.out.still S8.out).cell 2
          have hjc : j ≤ cv ∧ cv ≤ 9223372036854775807 := by
            rcases OW8.out.2 with ⟨he, h0⟩ | ⟨_, cp, cur, hv, _, _, hnc, hm2, _⟩
            · cases he
            · injection hv with _ _ hv3
              subst hv3
              exact ⟨hnc, by unfold maxLen at hm2; omega⟩
          obtain ⟨hjc1, hjc2⟩ := hjc
          have G2 := Lib.hid g2'
          have GC2 := Lib.hid (g1' 2 _ rfl)
          clear hrows g1' g2' o8 s8
          by_cases hfound : x.cut = false ∧ ni ≤ p
          · obtain ⟨hcu, hnp⟩ := hfound
            have HFD2 := Lib.hid (And.intro hcu hnp)
            rw [hcu] at d0
            have HXL := Lib.hid (show x.b.length = nx from (Reads.of_own G2.out).1)
            have hdx : p - ni < nx := by
              have h1 := IN.out.2
              rw [bytesD_succ F i x HX.out] at h1
              unfold appD at h1
              rw [if_neg (by rw [hcu]; decide), List.length_append, ← HNI.out, HXL.out] at h1
              omega
            obtain ⟨gB, hgB, hgBl⟩ : ∃ gB, Ax = some ⟨gB, 0, none⟩ ∧ w6.heap.size ≤ gB := by
              rcases G2.out.2 with ⟨_, h0⟩ | ⟨gB, cp, cur, hv, hb, _⟩
              · omega
              · injection hv with hv1
                exact ⟨gB, hv1, hb⟩
            subst hgB
            obtain ⟨z1, hz1⟩ : ∃ z1, z1 = x.b.getD (p - ni) 0 := ⟨_, rfl⟩
            have HZ1 := Lib.hid hz1
            have hx1 := XB.out z1
            obtain ⟨v1, hv1⟩ : ∃ v1, v1 = z1 ^^^ UInt8.ofNat y := ⟨_, rfl⟩
            have HV1 := Lib.hid hv1
            rw [← hv1] at hx1
            have dB : w8.cell? ⟨gB, p - ni, none⟩ = some (.int .u8 ((z1.toNat : Nat) : Int)) := by
              rw [G2.out.cellAt (p - ni) (by omega), bytesV_get x.b (p - ni) (by rw [HXL.out]; exact hdx), hz1]
            have fB := G2.out.frozenAt (p - ni)
            have dBd : w8.drew.cell? ⟨gB, p - ni, none⟩ = some (.int .u8 ((z1.toNat : Nat) : Int)) := dB
            have fBd : w8.drew.frozen? ⟨gB, p - ni, none⟩ = false := fB
            have hcx1 : nx ≤ cx := by obtain ⟨_, _, ev, t1, t2, _⟩ := own_form G2.out; injection ev with _ _ e3; subst e3; exact t1
            have q9 : (ni : Int) ≤ (p : Int) := by omega
            have q10 : ((p - ni : Nat) : Int) < (nx : Int) := by omega
            have q11 : (0 : Int) ≤ ((p - ni : Nat) : Int) := by omega
            clear hz1 hv1
            go_upto_region 20 with fail
            refine wp_region_late (S := fun W => W.cell? ⟨w.heap.size, 2, none⟩ = some (.slice (some ⟨gv, 0, none⟩) j cv) ∧ W.cell? ⟨gv, i * 3 + 2, none⟩ = some (.slice (some ⟨gB, 0, none⟩) nx cx) ∧ W.cell? ⟨gB, p - ni, none⟩ = some (.int .u8 ((z1.toNat : Nat) : Int))) [23] (by kernel_rfl) ⟨c82, d2, dB⟩ (fun hHeld => ?_)
            try simp only [Act.put, List.setIfInBounds_toArray, List.set_cons_zero, List.set_cons_succ]
            refine wpLate_pure (i := 0) (v := .pointer (some ⟨w.heap.size, 2, none⟩)) rfl (by kernel_rfl) (by kernel_rfl) (by kernel_rfl) (by kernel_rfl) (fun _ _ _ h => h) (Or.inl ⟨by kernel_rfl, fun w _ => by go_simp⟩) ?_
            try simp only [Act.put, List.setIfInBounds_toArray, List.set_cons_zero, List.set_cons_succ]
            refine wpLate_take (i := 1) (v := .slice (some ⟨gv, 0, none⟩) j cv) [3, 4, 5, 22, 23] rfl (by kernel_rfl) (by kernel_rfl) (by kernel_rfl) (by kernel_rfl) (by kernel_rfl) (by decide) (fun _ _ _ h => h) (Or.inl ⟨by kernel_rfl, fun w hS => by obtain ⟨hs0, hs1, hs2⟩ := hS; go_simp⟩) (by assumption) (fun hHeld => ?_)
            try simp only [Act.put, List.setIfInBounds_toArray, List.set_cons_zero, List.set_cons_succ]
            refine wpLate_pure (i := 2) (v := .int .i64 (i : Int)) rfl (by kernel_rfl) (by kernel_rfl) (by kernel_rfl) (by kernel_rfl) (fun _ _ _ h => h) (Or.inl ⟨by kernel_rfl, fun w _ => by go_simp⟩) ?_
            try simp only [Act.put, List.setIfInBounds_toArray, List.set_cons_zero, List.set_cons_succ]
            refine wpLate_pure (i := 3) (v := .pointer (some ⟨gv, i * 3, none⟩)) rfl (by kernel_rfl) (by kernel_rfl) (by kernel_rfl) (by kernel_rfl) (fun _ _ _ h => h) (Or.inl ⟨by kernel_rfl, fun w _ => by go_simp⟩) ?_
            try simp only [Act.put, List.setIfInBounds_toArray, List.set_cons_zero, List.set_cons_succ]
            refine wpLate_pure (i := 4) (v := .pointer (some ⟨gv, i * 3 + 2, none⟩)) rfl (by kernel_rfl) (by kernel_rfl) (by kernel_rfl) (by kernel_rfl) (fun _ _ _ h => h) (Or.inl ⟨by kernel_rfl, fun w _ => by go_simp⟩) ?_
            try simp only [Act.put, List.setIfInBounds_toArray, List.set_cons_zero, List.set_cons_succ]
            refine wpLate_take (i := 5) (v := .slice (some ⟨gB, 0, none⟩) nx cx) [22, 23] rfl (by kernel_rfl) (by kernel_rfl) (by kernel_rfl) (by kernel_rfl) (by kernel_rfl) (by decide) (fun _ _ _ h => h) (Or.inl ⟨by kernel_rfl, fun w hS => by obtain ⟨hs0, hs1, hs2⟩ := hS; go_simp⟩) (by assumption) (fun hHeld => ?_)
            try simp only [Act.put, List.setIfInBounds_toArray, List.set_cons_zero, List.set_cons_succ]
            refine wpLate_pure (i := 6) (v := .int .i64 (p : Int)) rfl (by kernel_rfl) (by kernel_rfl) (by kernel_rfl) (by kernel_rfl) (fun _ _ _ h => h) (Or.inl ⟨by kernel_rfl, fun w _ => by go_simp⟩) ?_
            try simp only [Act.put, List.setIfInBounds_toArray, List.set_cons_zero, List.set_cons_succ]
            refine wpLate_pure (i := 7) (v := .int .i64 (ni : Int)) rfl (by kernel_rfl) (by kernel_rfl) (by kernel_rfl) (by kernel_rfl) (fun _ _ _ h => h) (Or.inl ⟨by kernel_rfl, fun w _ => by go_simp⟩) ?_
            try simp only [Act.put, List.setIfInBounds_toArray, List.set_cons_zero, List.set_cons_succ]
            refine wpLate_pure (i := 8) (v := .int .i64 ((p - ni : Nat) : Int)) rfl (by kernel_rfl) (by kernel_rfl) (by kernel_rfl) (by kernel_rfl) (fun _ _ _ h => h) (Or.inl ⟨by kernel_rfl, fun w _ => by go_simp <;> first | omega | (rw [IntKind.wrap_i64]; omega)⟩) ?_
            try simp only [Act.put, List.setIfInBounds_toArray, List.set_cons_zero, List.set_cons_succ]
            refine wpLate_pure (i := 9) (v := .pointer (some ⟨w.heap.size, 2, none⟩)) rfl (by kernel_rfl) (by kernel_rfl) (by kernel_rfl) (by kernel_rfl) (fun _ _ _ h => h) (Or.inl ⟨by kernel_rfl, fun w _ => by go_simp⟩) ?_
            try simp only [Act.put, List.setIfInBounds_toArray, List.set_cons_zero, List.set_cons_succ]
            refine wpLate_take (i := 10) (v := .slice (some ⟨gv, 0, none⟩) j cv) [12, 13, 14, 18, 19, 21, 23] rfl (by kernel_rfl) (by kernel_rfl) (by kernel_rfl) (by kernel_rfl) (by kernel_rfl) (by decide) (fun _ _ _ h => h) (Or.inl ⟨by kernel_rfl, fun w hS => by obtain ⟨hs0, hs1, hs2⟩ := hS; go_simp⟩) (by assumption) (fun hHeld => ?_)
            try simp only [Act.put, List.setIfInBounds_toArray, List.set_cons_zero, List.set_cons_succ]
            refine wpLate_pure (i := 11) (v := .int .i64 (i : Int)) rfl (by kernel_rfl) (by kernel_rfl) (by kernel_rfl) (by kernel_rfl) (fun _ _ _ h => h) (Or.inl ⟨by kernel_rfl, fun w _ => by go_simp⟩) ?_
            try simp only [Act.put, List.setIfInBounds_toArray, List.set_cons_zero, List.set_cons_succ]
            refine wpLate_pure (i := 12) (v := .pointer (some ⟨gv, i * 3, none⟩)) rfl (by kernel_rfl) (by kernel_rfl) (by kernel_rfl) (by kernel_rfl) (fun _ _ _ h => h) (Or.inl ⟨by kernel_rfl, fun w _ => by go_simp⟩) ?_
            try simp only [Act.put, List.setIfInBounds_toArray, List.set_cons_zero, List.set_cons_succ]
            refine wpLate_pure (i := 13) (v := .pointer (some ⟨gv, i * 3 + 2, none⟩)) rfl (by kernel_rfl) (by kernel_rfl) (by kernel_rfl) (by kernel_rfl) (fun _ _ _ h => h) (Or.inl ⟨by kernel_rfl, fun w _ => by go_simp⟩) ?_
            try simp only [Act.put, List.setIfInBounds_toArray, List.set_cons_zero, List.set_cons_succ]
            refine wpLate_take (i := 14) (v := .slice (some ⟨gB, 0, none⟩) nx cx) [18, 19, 21, 23] rfl (by kernel_rfl) (by kernel_rfl) (by kernel_rfl) (by kernel_rfl) (by kernel_rfl) (by decide) (fun _ _ _ h => h) (Or.inl ⟨by kernel_rfl, fun w hS => by obtain ⟨hs0, hs1, hs2⟩ := hS; go_simp⟩) (by assumption) (fun hHeld => ?_)
            try simp only [Act.put, List.setIfInBounds_toArray, List.set_cons_zero, List.set_cons_succ]
            refine wpLate_pure (i := 15) (v := .int .i64 (p : Int)) rfl (by kernel_rfl) (by kernel_rfl) (by kernel_rfl) (by kernel_rfl) (fun _ _ _ h => h) (Or.inl ⟨by kernel_rfl, fun w _ => by go_simp⟩) ?_
            try simp only [Act.put, List.setIfInBounds_toArray, List.set_cons_zero, List.set_cons_succ]
            refine wpLate_pure (i := 16) (v := .int .i64 (ni : Int)) rfl (by kernel_rfl) (by kernel_rfl) (by kernel_rfl) (by kernel_rfl) (fun _ _ _ h => h) (Or.inl ⟨by kernel_rfl, fun w _ => by go_simp⟩) ?_
            try simp only [Act.put, List.setIfInBounds_toArray, List.set_cons_zero, List.set_cons_succ]
            refine wpLate_pure (i := 17) (v := .int .i64 ((p - ni : Nat) : Int)) rfl (by kernel_rfl) (by kernel_rfl) (by kernel_rfl) (by kernel_rfl) (fun _ _ _ h => h) (Or.inl ⟨by kernel_rfl, fun w _ => by go_simp <;> first | omega | (rw [IntKind.wrap_i64]; omega)⟩) ?_
            try simp only [Act.put, List.setIfInBounds_toArray, List.set_cons_zero, List.set_cons_succ]
            refine wpLate_pure (i := 18) (v := .pointer (some ⟨gB, p - ni, none⟩)) rfl (by kernel_rfl) (by kernel_rfl) (by kernel_rfl) (by kernel_rfl) (fun _ _ _ h => h) (Or.inl ⟨by kernel_rfl, fun w _ => by go_simp <;> first | omega | (rw [IntKind.wrap_i64]; omega)⟩) ?_
            try simp only [Act.put, List.setIfInBounds_toArray, List.set_cons_zero, List.set_cons_succ]
            refine wpLate_take (i := 19) (v := .int .u8 ((z1.toNat : Nat) : Int)) [21, 23] rfl (by kernel_rfl) (by kernel_rfl) (by kernel_rfl) (by kernel_rfl) (by kernel_rfl) (by decide) (fun _ _ _ h => h) (Or.inl ⟨by kernel_rfl, fun w hS => by obtain ⟨hs0, hs1, hs2⟩ := hS; go_simp⟩) (by assumption) (fun hHeld => ?_)
            try simp only [Act.put, List.setIfInBounds_toArray, List.set_cons_zero, List.set_cons_succ]
            refine wpLate_pure (i := 20) (v := .int .u8 (y : Int)) rfl (by kernel_rfl) (by kernel_rfl) (by kernel_rfl) (by kernel_rfl) (fun _ _ _ h => h) (Or.inl ⟨by kernel_rfl, fun w _ => by go_simp⟩) ?_
            try simp only [Act.put, List.setIfInBounds_toArray, List.set_cons_zero, List.set_cons_succ]
            refine wpLate_pure (i := 21) (v := .int .u8 ((v1.toNat : Nat) : Int)) rfl (by kernel_rfl) (by kernel_rfl) (by kernel_rfl) (by kernel_rfl) (fun _ _ _ h => h) (Or.inl ⟨by kernel_rfl, fun w _ => by go_simp⟩) ?_
            try simp only [Act.put, List.setIfInBounds_toArray, List.set_cons_zero, List.set_cons_succ]
            refine wpLate_pure (i := 22) (v := .pointer (some ⟨gB, p - ni, none⟩)) rfl (by kernel_rfl) (by kernel_rfl) (by kernel_rfl) (by kernel_rfl) (fun _ _ _ h => h) (Or.inl ⟨by kernel_rfl, fun w _ => by go_simp <;> first | omega | (rw [IntKind.wrap_i64]; omega)⟩) ?_
            try simp only [Act.put, List.setIfInBounds_toArray, List.set_cons_zero, List.set_cons_succ]
            refine wpLate_one (i := 23) (o := ⟨none, .store 5 (.tmp 128) (.tmp 127), _, _, _, none⟩) (by kernel_rfl) rfl (fun K' hK' => ?_)
            rw [if_pos (by kernel_rfl)]
            with_reducible refine step_storeC w8.drew 5 (.tmp 128) (.tmp 127) (by kernel_rfl) gB (p - ni) (.int .u8 ((v1.toNat : Nat) : Int)) (.int .u8 ((z1.toNat : Nat) : Int)) (by kernel_rfl) (by kernel_rfl) rfl (by kernel_rfl) dBd fBd ?_
            refine hK'.out _ _ (fun _ h => absurd h (by decide)) ?_
            clear hK' K' hHeld
            try simp only [Act.put, List.setIfInBounds_toArray, List.set_cons_zero, List.set_cons_succ]
            refine wpLate_done (by kernel_rfl) ?_ _
            go_simp
            generalize hw9 : (w8.setCell ⟨gB, p - ni, none⟩ (.int .u8 ((v1.toNat : Nat) : Int))).drew = w9
            have g9 : Chg w8 w9 (fun b => b = gB) := by rw [← hw9]; exact (chg_set1 w8 gB _ _).trans (Chg.drew _ (fun _ => False)) (fun _ _ h => h.elim)
            have S9 := Lib.hid (show Still w w9 from g9.still (Still.trans S7.out S8.out) (fun b hs => by have hs : b = gB := hs; have := ZW6.out; omega))
            have B9 := Lib.hid (show Blk w9 w.heap.size 111 #[Value.slice Af nf cf, Value.slice (some ⟨q, 0, none⟩) ng c1, Value.slice (some ⟨gv, 0, none⟩) j cv] from g9.blk (B7.out.still S8.out) (fun h => by have h : w.heap.size = gB := h; have := ZW6.out; omega))
            have CF9 := Lib.hid (show CwF w6.heap.size w9 (.slice (some ⟨gv, 0, none⟩) j cv) (F.waits.modify i (fun x => ⟨x.cut, x.k, x.b.modify (p - ni) (· ^^^ UInt8.ofNat y)⟩)) ccs from (CF8.out.turn HX.out GC2.out hdx (w' := w8.setCell ⟨gB, p - ni, none⟩ (.int .u8 ((v1.toNat : Nat) : Int))) (by rw [HV1.out, HZ1.out])).still (by rw [← hw9]; exact (Still.refl _).drew))
            have O9 := Lib.hid (show w9.ownsRow wa.heap.size 5 1 (.slice (some ⟨q, 0, none⟩) ng c1) ng (bytesV (F.now.modify p (· ^^^ UInt8.ofNat y))) from g9.own (still_own O7.out S8.out) (fun b e hs => by
              have hs : b = gB := hs
              have e : q = b := by simpa [Value.ownBlock] using e
              have := QL6.out
              omega))
            have D9 := Lib.hid (HC.out.still S9.out)
            have k91 : w9.drew.cell? ⟨dk, 1, none⟩ = some (.slice (some ⟨g, 0, none⟩) fl cap) := by
              have := D9.out.cells.2.1
              rw [HFV.out, ← HFLL.out] at this
              exact this
            have TH := Lib.hid (show w9.drew.there g (f * 3) ([Value.slice Af nf cf, Value.slice (some ⟨q, 0, none⟩) ng c1, Value.slice (some ⟨gv, 0, none⟩) j cv].toArray).size from fun r hr => by
              have fo := D9.out.fown
              rw [HFV.out] at fo
              have hr3 : r < 3 := hr
              have hff : f < D.files.length := (List.getElem?_eq_some_iff.1 HF.out).1
              refine ⟨?_, fo.frozenAt _⟩
              have e := fo.cellAt (f * 3 + r) (by omega)
              have hl := fo.1
              show (w9.cell? ⟨g, f * 3 + r, none⟩).isSome = true
              rw [e, List.getElem?_eq_getElem (by omega)]
              rfl)
            have RG9 : w9.drew.rangeAt w.heap.size 0 [Value.slice Af nf cf, Value.slice (some ⟨q, 0, none⟩) ng c1, Value.slice (some ⟨gv, 0, none⟩) j cv] := fun r u hr => by
              have := B9.out.cell r
              rw [Nat.zero_add]
              exact this.trans (by simpa using hr)
            clear hw9 dB fB dBd fBd c82 d0 d2 g9
            go_wp2_with fail
            refine wp_region_late (S := fun W => W.cell? ⟨dk, 1, none⟩ = some (.slice (some ⟨g, 0, none⟩) fl cap) ∧ W.rangeAt w.heap.size 0 [Value.slice Af nf cf, Value.slice (some ⟨q, 0, none⟩) ng c1, Value.slice (some ⟨gv, 0, none⟩) j cv]) [7] (by kernel_rfl) ⟨k91, RG9⟩ (fun hHeld => ?_)
            try simp only [Act.put, List.setIfInBounds_toArray, List.set_cons_zero, List.set_cons_succ]
            refine wpLate_pure (i := 0) (v := .pointer (some ⟨dk, 0, none⟩)) rfl (by kernel_rfl) (by kernel_rfl) (by kernel_rfl) (by kernel_rfl) (fun _ _ _ h => h) (Or.inl ⟨by kernel_rfl, fun w _ => by go_simp⟩) ?_
            try simp only [Act.put, List.setIfInBounds_toArray, List.set_cons_zero, List.set_cons_succ]
            refine wpLate_pure (i := 1) (v := .pointer (some ⟨dk, 0, none⟩)) rfl (by kernel_rfl) (by kernel_rfl) (by kernel_rfl) (by kernel_rfl) (fun _ _ _ h => h) (Or.inl ⟨by kernel_rfl, fun w _ => by go_simp⟩) ?_
            try simp only [Act.put, List.setIfInBounds_toArray, List.set_cons_zero, List.set_cons_succ]
            refine wpLate_pure (i := 2) (v := .pointer (some ⟨dk, 1, none⟩)) rfl (by kernel_rfl) (by kernel_rfl) (by kernel_rfl) (by kernel_rfl) (fun _ _ _ h => h) (Or.inl ⟨by kernel_rfl, fun w _ => by go_simp⟩) ?_
            try simp only [Act.put, List.setIfInBounds_toArray, List.set_cons_zero, List.set_cons_succ]
            refine wpLate_take (i := 3) (v := .slice (some ⟨g, 0, none⟩) fl cap) [6, 7] rfl (by kernel_rfl) (by kernel_rfl) (by kernel_rfl) (by kernel_rfl) (by kernel_rfl) (by decide) (fun _ _ _ h => h) (Or.inl ⟨by kernel_rfl, fun w hS => by obtain ⟨hs0, hs1⟩ := hS; go_simp⟩) (by assumption) (fun hHeld => ?_)
            try simp only [Act.put, List.setIfInBounds_toArray, List.set_cons_zero, List.set_cons_succ]
            refine wpLate_pure (i := 4) (v := .int .i64 (f : Int)) rfl (by kernel_rfl) (by kernel_rfl) (by kernel_rfl) (by kernel_rfl) (fun _ _ _ h => h) (Or.inl ⟨by kernel_rfl, fun w _ => by go_simp⟩) ?_
            try simp only [Act.put, List.setIfInBounds_toArray, List.set_cons_zero, List.set_cons_succ]
            refine wpLate_take (i := 5) (v := .agg [Value.slice Af nf cf, Value.slice (some ⟨q, 0, none⟩) ng c1, Value.slice (some ⟨gv, 0, none⟩) j cv].toArray) [7] rfl (by kernel_rfl) (by kernel_rfl) (by kernel_rfl) (by kernel_rfl) (by kernel_rfl) (by decide) (fun _ _ _ h => h) (yieldsIf_load_mid (by kernel_rfl) 111 (.tmp 10) rfl w.heap.size 0 (by kernel_rfl) [Value.slice Af nf cf, Value.slice (some ⟨q, 0, none⟩) ng c1, Value.slice (some ⟨gv, 0, none⟩) j cv] _ (fun W h => h.2) Tryz.underlying111 rfl (by rw [sizeFile]; rfl)) (by assumption) (fun hHeld => ?_)
            try simp only [Act.put, List.setIfInBounds_toArray, List.set_cons_zero, List.set_cons_succ]
            refine wpLate_pure (i := 6) (v := .pointer (some ⟨g, f * 3, none⟩)) rfl (by kernel_rfl) (by kernel_rfl) (by kernel_rfl) (by kernel_rfl) (fun _ _ _ h => h) (Or.inl ⟨by kernel_rfl, fun w _ => by go_simp⟩) ?_
            try simp only [Act.put, List.setIfInBounds_toArray, List.set_cons_zero, List.set_cons_succ]
            refine wpLate_one (i := 7) (o := ⟨none, .store 111 (.tmp 135) (.tmp 134), _, _, _, none⟩) (by kernel_rfl) rfl (fun K' hK' => ?_)
            rw [if_pos (by kernel_rfl)]
            with_reducible refine wp_store_mid 111 (.tmp 135) (.tmp 134) (by kernel_rfl) g (f * 3) [Value.slice Af nf cf, Value.slice (some ⟨q, 0, none⟩) ng c1, Value.slice (some ⟨gv, 0, none⟩) j cv].toArray (by kernel_rfl) (by kernel_rfl) TH.out (by rw [sizeFile]; simp) (by simp [Value.oneCell']) ?_
            refine hK'.out _ _ (fun _ h => absurd h (by decide)) ?_
            clear hK' K' hHeld
            try simp only [Act.put, List.setIfInBounds_toArray, List.set_cons_zero, List.set_cons_succ]
            refine wpLate_done (by kernel_rfl) ?_ _
            generalize hWE : w9.drew.setCells g (f * 3) [Value.slice Af nf cf, Value.slice (some ⟨q, 0, none⟩) ng c1, Value.slice (some ⟨gv, 0, none⟩) j cv].toArray.toList = wE
            go_simp
            have FIN := Lib.hid (show DLeft w wE base dk own { D with files := D.files.set f (F.rotAt p (· ^^^ UInt8.ofNat y) (some i)) } from by
              refine rot_end (lo := w6.heap.size) (v := .slice (some ⟨gv, 0, none⟩) j cv) (Af := Af) (nf := nf) (cf := cf) (An := some ⟨q, 0, none⟩) (nn := ng) (cn := c1) (ccs := ccs) HC.out (List.getElem?_eq_some_iff.1 HF.out).1 HFV.out S9.out.drew (by have := ZW6.out; omega) ?_ ?_ ?_ ?_ hWE.symm
              · exact ((R1.out.mono (fun b hb _ => .inl hb)).still S9.out.drew)
              · refine ((RowP.of_own O9.out).still ((Still.refl _).drew)).mono (fun b hb hlt => .inr ?_)
                have h2 : q = b := by simpa [Value.ownBlock] using hb.2
                have := QL6.out
                have := QLO.out
                have := ZA.out
                exact ⟨by omega, fun e => own_ne2 O9.out CF9.out.own (by decide) (b := b) (by simp [Value.ownBlock, h2]) e⟩
              · exact ⟨_, cv, by rw [show (F.rotAt p (· ^^^ UInt8.ofNat y) (some i)).waits.length = j by unfold DFi.rotAt; rw [List.length_modify]; exact R3.out.symm]⟩
              · have := CF9.out.still ((Still.refl w9).drew)
                show CwF _ _ _ (F.waits.modify i (fun x => ⟨x.cut, x.k, x.b.modify (p - (bytesD F i).length) (· ^^^ UInt8.ofNat y)⟩)) ccs
                rw [← HNI.out]
                exact this)
            clear hWE
            go_wp2_with fail
            (try simp only [Exit.inBlock, Exit.then])
            go_ret
            exact ⟨true, _, rfl, FIN.out, .inr ⟨rfl, f, p, F, some i, HE1.out, HF.out, rfl, by rw [HNG.out]; exact hp, ⟨⟨x, HX.out, HFD2.out.1, by rw [← HNI.out]; exact HFD2.out.2⟩, fun j' x' hj' hx' => IN.out.1 j' x' (by omega) hx'⟩, rfl⟩⟩
          · have NXT := Lib.hid (show Still w7 w8 ∧ (∀ (i' : Nat) (x : DCh), i ≤ i' → F.waits[i']? = some x → x.cut = true ∨ p < (bytesD F i').length) ∧ p < (bytesD F i).length from by
              have hc : x.cut = true ∨ p < ni := by
                cases hcu : x.cut
                · right
                  rcases Nat.lt_or_ge p ni with h | h
                  · exact h
                  · exact absurd ⟨hcu, h⟩ hfound
                · exact .inl rfl
              refine ⟨S8.out, fun i' x' hi' hx' => ?_, ?_⟩
              · by_cases e : i' = i
                · subst e
                  rw [HX.out] at hx'
                  obtain rfl := Option.some.inj hx'
                  rw [← HNI.out]
                  exact hc
                · exact IN.out.1 i' x' (by omega) hx'
              · rw [← HNI.out]
                rcases hc with hc | hc
                · have h1 := IN.out.2
                  rw [bytesD_succ F i x HX.out] at h1
                  unfold appD at h1
                  rw [if_pos hc, List.length_take, ← HNI.out] at h1
                  omega
                · exact hc)
            cases hcu : x.cut
            · rw [hcu] at d0
              have q9 : ¬ (ni : Int) ≤ (p : Int) := fun h => hfound ⟨hcu, by omega⟩
              clear hfound
              go_wp2_with fail
              go_roundw
              case rel => exact ⟨i, by go_num, by omega, NXT⟩
              case measure => simp [intOf]
            · rw [hcu] at d0
              clear hfound
              go_wp2_with fail
              go_roundw
              case rel => exact ⟨i, by go_num, by omega, NXT⟩
              case measure => simp [intOf]
end Go.Proofs.YtljacdbdjacbkaaGreat
