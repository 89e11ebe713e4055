/- Contract: the document's own answer: the chunks. It proves no statement. -/
import Derived.Test.YtjihnagoebhinaaCtFirst
import Derived.Test.YtjihnagoebhinaaCtSizes
namespace Go.Proofs.Ytjihnagoebhinaa
open Go.RowKit
set_option linter.unusedVariables false
set_option linter.unusedSimpArgs false

/-- A row of one's own grows: what lies below stays. -/
theorem own_block_ge {wr : World} {lo : Nat} {e : TypeId} {n : Nat} {v : Value} {xs : List Value} (o : wr.ownsRow lo e 1 v n xs) (k : Nat) (hk : v.ownBlock = some k) : lo ≤ k := by
  rcases o.2 with ⟨e, _⟩ | ⟨g, cp, cur, e, hg, _⟩
  · rw [e] at hk; simp [Value.ownBlock] at hk
  · rw [e] at hk; simp [Value.ownBlock] at hk; omega
theorem still_push {w wr w' : World} {lo : Nat} {e : TypeId} {n : Nat} {v : Value} {xs : List Value} (s : Still w wr) (o : wr.ownsRow lo e 1 v n xs) (hlo : w.heap.size ≤ lo) (g : wr.grownBy w' v.ownBlock) : Still w w' :=
  s.grown g s.size (fun k hk => Nat.le_trans hlo (own_block_ge o k hk))
theorem low_push {wr w' : World} {lo : Nat} {e : TypeId} {n : Nat} {v : Value} {xs : List Value} (o : wr.ownsRow lo e 1 v n xs) (g : wr.grownBy w' v.ownBlock) (k : Nat) (hk : k < lo) (hk2 : k < wr.heap.size) : w'.heap[k]? = wr.heap[k]? :=
  g.block k hk2 (fun e => by have := own_block_ge o k e.symm; omega)
structure RsMid (w wr : World) (P : Nat → Prop) (s : Shp) (b : List UInt8) (A : Option Addr) (n c : Nat) (rest : List UInt8) (v : Value) (en : Bool) (done : List (List UInt8)) (xs : List Value) : Prop where
  row : RowP wr P A n c rest
  own : wr.ownsRow (w.heap.size + 1) 25 1 v done.length xs
  rows : Rows wr P xs done
  eq : done ++ chunks s rest = chunks s b
  fin0 : rest = [] → en = decide ((run s [] b).2 = [])
  fin1 : rest ≠ [] → (run s [] rest).2 = (run s [] b).2
  st : Still w wr
  blk : Blk wr w.heap.size 24 #[.int .i64 (s.lt : Nat), .int .i64 (s.mt : Nat), .int .i64 (s.k : Nat), .int .i64 (s.n : Nat), .int .u32 (s.seed : Nat)]
  len : done.length + n ≤ b.length
set_option maxRecDepth 100000 in
set_option maxHeartbeats 3200000 in
theorem rsplit_low (s : Shp) (hs : s.Ok) (A : Option Addr) (n c : Nat) (b : List UInt8) (w : World) (P : Nat → Prop) (h : RowP w P A n c b) (hP : ∀ k, P k → k < w.heap.size) (hn : n ≤ 65536) :
    Calls Try.prog 17 #[.agg #[.int .i64 (s.lt : Nat), .int .i64 (s.mt : Nat), .int .i64 (s.k : Nat), .int .i64 (s.n : Nat), .int .u32 (s.seed : Nat)], .slice A n c] w fun e w' =>
      ∃ v xs, e = .returned (.tuple #[v, .bool (decide ((run s [] b).2 = []))]) ∧ w'.ownsRow (w.heap.size + 1) 25 1 v (chunks s b).length xs ∧ Rows w' P xs (chunks s b) ∧ Still w w' := by
  have st := (Still.refl w).alloc (Nat.le_refl _) (.cells #[.int .i64 (s.lt : Nat), .int .i64 (s.mt : Nat), .int .i64 (s.k : Nat), .int .i64 (s.n : Nat), .int .u32 (s.seed : Nat)] 24)
  have hb := Blk.new w 24 #[.int .i64 (s.lt : Nat), .int .i64 (s.mt : Nat), .int .i64 (s.k : Nat), .int .i64 (s.n : Nat), .int .u32 (s.seed : Nat)]
  have OK := Lib.hid hs
  have HP := Lib.hid hP
  obtain ⟨R, hR⟩ : ∃ R, R = decide ((run s [] b).2 = []) := ⟨_, rfl⟩
  rw [← hR]
  have HR := Lib.hid hR
  have I0 : Hid (RsMid w (w.alloc (.cells #[.int .i64 (s.lt : Nat), .int .i64 (s.mt : Nat), .int .i64 (s.k : Nat), .int .i64 (s.n : Nat), .int .u32 (s.seed : Nat)] 24)) P s b A n c b (.slice none 0 0) true [] []) :=
    ⟨h.still st, World.ownsRow_nil _ _ _ _, Rows.nil, by simp, fun e => by rw [e]; simp [run], fun _ => rfl, st, hb, by have := h.len; simp; omega⟩
  have HBL := Lib.hid h.len
  clear st hb h hs hP hR
  go_enter Try.func17, Try.ntmps17
  go_wp2_with fail
  go_loopw [1, 6, 7] (fun bv lv ev wr => ∃ A' n' c' rest v en done xs, bv = .slice A' n' c' ∧ lv = v ∧ ev = .bool en ∧ Hid (RsMid w wr P s b A' n' c' rest v en done xs)) (fun bv _ _ _ => match bv with | .slice _ k _ => k | _ => 0)
  case atStart => exact ⟨A, n, c, b, _, true, [], [], rfl, rfl, rfl, I0⟩
  case round =>
    clear I0
    obtain ⟨A', n', c', rest, v, en, done, xs, rfl, rfl, rfl, hin⟩ := hrel
    by_cases hz : n' = 0
    · subst hz
      have e0 : rest = [] := List.eq_nil_of_length_eq_zero hin.out.row.len
      have e1 := hin.out.eq
      rw [e0, chunks_nil, List.append_nil] at e1
      have ho := hin.out.own
      have hrw := hin.out.rows
      rw [e1] at ho hrw
      have e2 := hin.out.fin0 e0
      rw [← HR.out] at e2
      subst e2
      have H4 := Lib.hid (And.intro ho (And.intro hrw hin.out.st))
      clear e0 e1 ho hrw hin HR
      go_wp2_with fail
      go_ret2
      exact ⟨_, xs, rfl, H4.out.1, H4.out.2.1, H4.out.2.2⟩
    · have hlen := hin.out.row.len
      have hne : rest ≠ [] := by
        intro e
        rw [e] at hlen
        simp at hlen
        omega
      have hp1 := nx_pos s rest [] hne
      have hp2 := nx_le s rest []
      have hcc := chunks_cons s rest hne
      have hro := fun hd => run_over s rest hne hd
      have hrn := run_next s rest
      have hrr := run_rest s rest hne
      have hbk := hin.out.blk
      have b0 := hbk.cell 0
      have b1 := hbk.cell 1
      have b2 := hbk.cell 2
      have b3 := hbk.cell 3
      have b4 := hbk.cell 4
      simp only [List.getElem?_toArray, List.getElem?_cons_succ, List.getElem?_cons_zero] at b0 b1 b2 b3 b4
      have HX := Lib.hid (rfirst_any s OK.out A' n' c' rest wr wr.heap.size hin.out.row.reads (Nat.le_refl _) hin.out.row.fit (by have := hin.out.len; have := HBL.out; omega))
      obtain ⟨N, hN⟩ : ∃ N, N = nx s [] rest := ⟨_, rfl⟩
      rw [← hN] at HX hp1 hp2 hcc hro hrn hrr
      obtain ⟨p, q⟩ := N
      simp only at HX hp1 hp2 hcc hro hrn hrr
      have hpn : p ≤ n' := by omega
      have HPN := Lib.hid (And.intro hp1 hpn)
      have HCC := Lib.hid hcc
      have HRO := Lib.hid hro
      have HRN := Lib.hid hrn
      have HRR := Lib.hid hrr
      have HLEN := Lib.hid hlen
      have HNE := Lib.hid hne
      have z1 : (0 : Int) < (n' : Int) := by omega
      have HZ := Lib.hid hz
      have z3 : (p : Int) ≤ (n' : Int) := by omega
      have z4 : (0 : Int) ≤ (p : Int) := by omega
      have hpc : p ≤ c' := Nat.le_trans hpn hin.out.row.fit
      have z5 : (p : Int) ≤ (c' : Int) := by omega
      have HPC := Lib.hid hpc
      have HEN := Lib.hid (fun W (g : RowP W P A' n' c' rest) => rends_any s OK.out A' p c' (rest.take p) W W.heap.size (g.takek hpn).reads (Nat.le_refl _) hpc (by have := hin.out.len; have := HBL.out; omega))
      clear hN hp1 hp2 hcc hro hrn hrr hne hlen hpn hz hbk hpc
      go_wp2_with fail
      refine HX.out.mono ?_
      rintro e w2 ⟨rfl, t2⟩
      have hbk := hin.out.blk.still t2
      have b0 := hbk.cell 0
      have b1 := hbk.cell 1
      have b2 := hbk.cell 2
      have b3 := hbk.cell 3
      have b4 := hbk.cell 4
      simp only [List.getElem?_toArray, List.getElem?_cons_succ, List.getElem?_cons_zero] at b0 b1 b2 b3 b4
      have T2 := Lib.hid t2
      obtain ⟨bb, o, rfl, _⟩ := hin.out.row.at_ (by omega)
      clear t2 hbk HX
      go_wp2_with fail
      go_still_tail 4, (by kernel_rfl)
      · repeat still_step
        (try refine wpStill_nil ?_)
        change wpList _ _ _ _ _ w2.drew
        clear b0 b1 b2 b3 b4
        go_wp2_with fail
        refine (HEN.out w2.drew ((hin.out.row.still T2.out).still ((Still.refl w2).drew))).mono ?_
        rintro e w3 ⟨rfl, t3⟩
        have t4 : Still wr w3 := Still.trans (Still.trans T2.out ((Still.refl w2).drew)) t3
        have T4 := Lib.hid t4
        have T5 := Lib.hid (Still.trans hin.out.st t4)
        have O3 : w3.ownsRow (w.heap.size + 1) 25 1 u6 done.length xs := own_grown (r := none) ⟨t4.os, t4.tape, t4.output, t4.size, fun k hk _ => t4.block k hk⟩ hin.out.own (fun k _ e => by cases e)
        have H3 := Lib.hid O3
        have HD : done.length < 1048576 := by have := hin.out.len; have := HBL.out; have := HPN.out; omega
        have HB3 := Lib.hid (hin.out.blk.still t4)
        clear t4 t3 O3 T2
        go_wp2_with ((first | (guard_target =~ wpList _ _ _ (Oper.mk (some 24) _ _ _ _ _ :: _) _ _; go_must (refine wpList_boxB _ rfl _ rfl _ _ _ rfl ?_)) | (guard_target =~ wpList _ _ _ (Oper.mk (some 25) _ _ _ _ _ :: _) _ _; go_must (refine wpList_oneB _ rfl _ _ rfl (w.heap.size + 1) _ _ _ rfl H3.out _ rfl rfl HD HB3.out.lt ?_)) | fail))
        intro v' w4 o4 g4 hv4
        have lowk : ∀ k, P k → k < w3.heap.size → w4.heap[k]? = w3.heap[k]? := fun k hk hk2 => low_push H3.out g4 k (by have := HP.out k hk; omega) hk2
        have s4 := still_push T5.out H3.out (Nat.le_succ _) g4
        have r4 : RowP w4 P (some ⟨bb, o, none⟩) n' c' rest := (hin.out.row.still T4.out).keep lowk g4.size
        have R4 : Rows w4 P (xs ++ [.slice (some ⟨bb, o, none⟩) p c']) (done ++ [rest.take p]) := ((hin.out.rows.still T4.out).keep lowk g4.size).snoc (r4.takek HPN.out.2)
        have O4 : w4.ownsRow (w.heap.size + 1) 25 1 v' (done ++ [rest.take p]).length (xs ++ [.slice (some ⟨bb, o, none⟩) p c']) := by
          rw [List.length_append, List.length_singleton]
          exact o4
        have eq4 : (done ++ [rest.take p]) ++ chunks s (rest.drop p) = chunks s b := by
          rw [List.append_assoc, List.singleton_append, ← HCC.out]
          exact hin.out.eq
        have fin0 : rest.drop p = [] → endS s (rest.take p) = decide ((run s [] b).2 = []) := by
          intro hd
          rw [← hin.out.fin1 HNE.out]
          exact (Bool.eq_iff_iff.2 (by rw [decide_eq_true_eq]; exact (HRR.out hd).symm))
        have fin1 : rest.drop p ≠ [] → (run s [] (rest.drop p)).2 = (run s [] b).2 := by
          intro hd
          rw [← hin.out.fin1 HNE.out]
          exact (HRN.out (HRO.out hd)).symm
        have B4 : Blk w4 w.heap.size _ _ := (low_push H3.out g4 w.heap.size (by omega) HB3.out.lt).trans HB3.out
        have len4 : (done ++ [rest.take p]).length + (n' - p) ≤ b.length := by
          have := hin.out.len
          have := HPN.out
          simp only [List.length_append, List.length_singleton]
          omega
        by_cases hck : c' = p
        · have hnp : n' = p := by have := r4.fit; have := HPN.out; omega
          have H5 : Hid (RsMid w w4 P s b (some ⟨bb, o, none⟩) 0 0 (rest.drop p) v' (endS s (rest.take p)) (done ++ [rest.take p]) (xs ++ [.slice (some ⟨bb, o, none⟩) p c'])) := ⟨r4.endk (by omega), O4, R4, eq4, fin0, fin1, s4, B4, by omega⟩
          clear o4 g4 hv4 lowk s4 r4 R4 O4 eq4 fin0 fin1 B4 len4 HD hin
          subst hnp
          subst hck
          go_wp2_with fail
          go_roundw
          case rel => exact ⟨_, 0, 0, _, v', _, _, _, rfl, rfl, rfl, H5⟩
          case measure => simp; have := HPN.out; omega
        · have H5 : Hid (RsMid w w4 P s b (some ⟨bb, o + p, none⟩) (n' - p) (c' - p) (rest.drop p) v' (endS s (rest.take p)) (done ++ [rest.take p]) (xs ++ [.slice (some ⟨bb, o, none⟩) p c'])) := ⟨by have := r4.dropk HPN.out.2; simpa [Addr.add_lit] using this, O4, R4, eq4, fin0, fin1, s4, B4, len4⟩
          clear o4 g4 hv4 lowk s4 r4 R4 O4 eq4 fin0 fin1 B4 len4 HD hin
          go_wp2_with fail
          go_roundw
          case rel => exact ⟨_, n' - p, c' - p, _, v', _, _, _, rfl, rfl, rfl, H5⟩
          case measure => simp; have := HPN.out; omega
end Go.Proofs.Ytjihnagoebhinaa
