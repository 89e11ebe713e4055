/- Contracts and facts, several texts in one. It proves no statement. -/
import Derived.Test.YtfneloobfidckaaGreatDoorSf39
import Derived.Test.YtfneloobfidckaaGreatDoorSf00
import Derived.Laws.IdiomStrings
import Derived.Laws.BytesArg
import Derived.Test.YtfneloobfidckaaGreatDoorSf06
import Derived.BigQuiet
import Derived.BigFrame
import Derived.Lib.SlBytesConst
import Derived.Test.YtfneloobfidckaaGreatDoorSf35
import Derived.Test.YtfneloobfidckaaGreatDoorSf22

/- frame.Read of whatever bytes. It proves no statement. -/

namespace Go.Proofs.YtfneloobfidckaaGreatDoor
open Go.RowKit
set_option linter.unusedVariables false
set_option linter.unusedSimpArgs false

/-- The error of reading. -/
def rdE (l : List UInt8) : Int := if (toE l).2 ≠ 0 then (toE l).2 else if crcSum ((l.take (sizE l)).drop 4) = leNum (l.take 4) then 0 else 13
/-- The entry that is read, and its size. -/
def rdT (l : List UInt8) : Int := if rdE l = 0 then (tagE l : Nat) else 0
def rdK (l : List UInt8) : List UInt8 := if rdE l = 0 then keyR (tagE l) (l.take (sizE l)) else List.replicate 32 0
def rdD (l : List UInt8) : List UInt8 := if rdE l = 0 then datR (tagE l) (l.take (sizE l)) else []
def rdN (l : List UInt8) : Nat := if rdE l = 0 then sizE l else 0
theorem toE_ok {l : List UInt8} (h : (toE l).2 = 0) : (toE l).1 = sizE l ∧ 9 ≤ l.length ∧ fitE (tagE l) (sizE l) = true ∧ sizE l ≤ l.length ∧ 9 ≤ sizE l ∧ sizE l ≤ 16425 ∧ (tagE l ≠ 2 → 41 ≤ sizE l) ∧ tagE l ≤ 2 := by
  unfold toE at h ⊢
  by_cases h9 : l.length < 9
  · rw [if_pos h9] at h; exact absurd h (by decide)
  rw [if_neg h9] at h ⊢
  by_cases hf : fitE (tagE l) (sizE l) = false
  · rw [if_pos hf] at h; exact absurd h (by decide)
  rw [if_neg hf] at h ⊢
  by_cases hs : l.length < sizE l
  · rw [if_pos hs] at h; exact absurd h (by decide)
  rw [if_neg hs]
  have hf' : fitE (tagE l) (sizE l) = true := by simpa using hf
  refine ⟨rfl, by omega, hf', by omega, ?_⟩
  unfold fitE at hf'
  by_cases h0 : tagE l = 0
  · rw [if_pos h0] at hf'; simp at hf'; omega
  rw [if_neg h0] at hf'
  by_cases h1 : tagE l = 1
  · rw [if_pos h1] at hf'; simp at hf'; omega
  rw [if_neg h1] at hf'
  by_cases h2 : tagE l = 2
  · rw [if_pos h2] at hf'; simp at hf'; omega
  rw [if_neg h2] at hf'
  exact absurd hf' (by decide)
theorem tagE_take {l : List UInt8} {m : Nat} (h : 9 ≤ m) : tagE (l.take m) = tagE l := by
  unfold tagE
  simp [List.getD, List.getElem?_take, show 8 < m by omega]
theorem results_cell2 {fn : Func} {p u v : Tmp} {P : Program} {ty : TypeId} (h : fn.results = #[.cell p ty, .tmp u, .tmp v]) (tmps : Array Value) (w : World) (g : Nat) (cs : Array Value) (fr : Nat × Nat) (d : TypeDesc) (hp : tmps.getD p undef = .pointer (some ⟨g, 0, none⟩)) (hg : w.heap[g]? = some (.cells cs ty fr)) (hu : P.underlying ty = some d)
    (hd : (match d with | .struct _ | .array _ _ => true | _ => false) = true) (hi : (P.info? ty).map (·.size) = some cs.size) :
    (results fn tmps).run P w = .ok (.tuple #[.agg cs, tmps.getD u undef, tmps.getD v undef]) w := by
  have hp' : tmps[p]?.getD undef = .pointer (some ⟨g, 0, none⟩) := by simpa using hp
  simp [results, h, hp', asAddr, run_loadVar_row w g _ ty _ _ _ hg hu hd hi, Result.andThen]

set_option maxRecDepth 100000 in
set_option maxHeartbeats 3200000 in
theorem read_any (A : Option Addr) (n c : Nat) (l : List UInt8) (w : World) (B : Nat) (hr : Reads w B A n l) (hB : B ≤ w.heap.size) (hn : n ≤ 1048576) (hc : n ≤ c) (hcm : c ≤ 9223372036854775807) (T : Tabs w) :
    Calls Tryz.prog 110 #[.slice A n c] w fun e w' => (∃ v, e = .returned (.tuple #[.agg (entV (rdT l) (rdK l) v), .int .i64 (rdN l : Nat), .int .i64 (rdE l)]) ∧ w'.ownsRow w.heap.size 5 1 v (rdD l).length (bytesV (rdD l))) ∧ Still w w' := by
  have hlen := hr.1
  obtain ⟨g, hg⟩ : ∃ g, g = w.heap.size := ⟨_, rfl⟩
  obtain ⟨wA, hwA⟩ : ∃ wA, wA = w.alloc (.cells (entV 0 (List.replicate 32 0) (.slice none 0 0)) 44) := ⟨_, rfl⟩
  have sA : Still w wA := by rw [hwA]; exact (Still.refl w).alloc (Nat.le_refl _) _
  have BA := Lib.hid (show Blk wA g 44 (entV 0 (List.replicate 32 0) (.slice none 0 0)) by rw [hwA, hg]; exact Blk.new _ _ _)
  have HWA := Lib.hid (show wA = w.alloc (.cells #[.int .i64 0, .int .u8 0, .int .u8 0, .int .u8 0, .int .u8 0, .int .u8 0, .int .u8 0, .int .u8 0, .int .u8 0, .int .u8 0, .int .u8 0, .int .u8 0, .int .u8 0, .int .u8 0, .int .u8 0, .int .u8 0, .int .u8 0, .int .u8 0, .int .u8 0, .int .u8 0, .int .u8 0, .int .u8 0, .int .u8 0, .int .u8 0, .int .u8 0, .int .u8 0, .int .u8 0, .int .u8 0, .int .u8 0, .int .u8 0, .int .u8 0, .int .u8 0, .int .u8 0, .slice none 0 0] 44) by rw [hwA]; rfl)
  have HG := Lib.hid hg
  have SA := Lib.hid sA
  have TT := Lib.hid (fun W (s : Still w W) => T.still s)
  have RR := Lib.hid (fun W (s : Still w W) => hr.still hB s)
  have HB := Lib.hid hB
  have TD := Lib.hid (told_any A n c l wA B (hr.still hB sA) hn hc hcm)
  obtain ⟨q, hq⟩ : ∃ q, q = (toE l).2 := ⟨_, rfl⟩
  obtain ⟨m, hm⟩ : ∃ m, m = (toE l).1 := ⟨_, rfl⟩
  have HR := Lib.hid (show rdE l = if q ≠ 0 then q else if crcSum ((l.take (sizE l)).drop 4) = leNum (l.take 4) then 0 else 13 by rw [hq]; rfl)
  have HT := Lib.hid (show q = 0 → m = sizE l ∧ 9 ≤ l.length ∧ fitE (tagE l) (sizE l) = true ∧ sizE l ≤ l.length ∧ 9 ≤ sizE l ∧ sizE l ≤ 16425 ∧ (tagE l ≠ 2 → 41 ≤ sizE l) ∧ tagE l ≤ 2 from fun h => by rw [hm]; exact toE_ok (by rw [← hq]; exact h))
  rw [← hq, ← hm] at TD
  have d1 : (n : Int) ≤ 1048576 := by omega
  have d5 : (n : Int) ≤ (c : Int) := by omega
  have DC := Lib.hid hcm
  have HLN := Lib.hid hlen
  have HC := Lib.hid hc
  obtain ⟨fs, hu⟩ := underEnt
  have HU := Lib.hid hu
  have ZR := Lib.hid (show rdE l ≠ 0 → rdT l = 0 ∧ rdK l = List.replicate 32 0 ∧ rdD l = [] ∧ rdN l = 0 from fun h => by
    unfold rdT rdK rdD rdN
    rw [if_neg h, if_neg h, if_neg h, if_neg h]
    exact ⟨rfl, rfl, rfl, rfl⟩)
  clear hwA hg sA hr hB hn hc hcm T hq hm hlen hu
  go_enter Tryz.func110, Tryz.ntmps110
  go_upto_region 1 with fail
  rw [← HWA.out, ← HG.out]
  clear HWA
  go_wp2_with fail
  refine TD.out.mono ?_
  rintro e w1 ⟨rfl, rfl⟩
  by_cases h0 : q = 0
  · obtain ⟨t1, t2, t3, t4, t5, t6, t7, t8⟩ := HT.out h0
    subst h0
    obtain ⟨z, hz⟩ : ∃ z, z = sizE l := ⟨_, rfl⟩
    rw [← hz] at t1 t3 t4 t5 t6 t7 HR
    subst t1
    have hlen := HLN.out
    have e1 : (m : Int) ≤ (n : Int) := by omega
    have e2 : (9 : Int) ≤ (m : Int) := by omega
    have e3 : (4 : Int) ≤ (m : Int) := by omega
    have dcm := DC.out
    have e4 : (c : Int) ≤ 9223372036854775807 := by omega
    have e5 : (m : Int) ≤ (c : Int) := by omega
    have hra := RR.out wA SA.out
    have hn4 : 4 ≤ n := by omega
    obtain ⟨b, o, hAA, hb, _⟩ := hra.at_ (by omega)
    subst hAA
    have hdr : Reads wA B (some ⟨b, o + 4, none⟩) (m - 4) ((l.take m).drop 4) := (hra.takek (k := m) (by omega)).dropk (k := 4) (by omega)
    have CS := Lib.hid (crcsum_any (some ⟨b, o + 4, none⟩) (m - 4) (c - 4) _ wA B (TT.out wA SA.out) hdr (Nat.le_trans HB.out SA.out.size) (by omega))
    have SI := Lib.hid (fun W (s : Still w W) => sumin_any (some ⟨b, o, none⟩) n c l W B (RR.out W s) (by omega) hn4 HC.out (by omega))
    have EN := Lib.hid (fun W (s : Still w W) => entry_any (some ⟨b, o, none⟩) m c (l.take m) W B ((RR.out W s).takek (k := m) (by omega)) (Nat.le_trans HB.out s.size) (by omega) (by omega) (by rw [tagE_take (by omega)]; exact t7) (by omega) (by omega))
    rw [tagE_take (by omega)] at EN
    have m4 : ((m - 4 : Nat) : Int) = (m : Int) - 4 := by omega
    obtain ⟨s1, hs1⟩ : ∃ s1, s1 = crcSum ((l.take m).drop 4) := ⟨_, rfl⟩
    obtain ⟨s2, hs2⟩ : ∃ s2, s2 = leNum (l.take 4) := ⟨_, rfl⟩
    rw [← hs1] at CS HR
    rw [← hs2] at SI HR
    have HZ := Lib.hid hz
    clear t2 t3 t4 t5 t6 t7 t8 hlen hra hb hdr hs1 hs2 hz TD HT dcm hn4
    go_wp2_with fail
    refine CS.out.mono ?_
    rintro e w1 ⟨rfl, k1⟩
    have S1 := Lib.hid (SA.out.trans k1)
    have BA1 := Lib.hid (BA.out.still k1)
    clear k1 CS
    go_wp2_with fail
    refine (SI.out w1 S1.out).mono ?_
    rintro e w2 ⟨rfl, rfl⟩
    by_cases hs : s1 = s2
    · have HE := Lib.hid (show rdE l = 0 by rw [HR.out, if_neg (by decide), if_pos hs])
      have b1 : ((s1 : Int) != (s2 : Int)) = false := by simp; omega
      have b2 : ((s1 : Int) == (s2 : Int)) = true := by simp; omega
      clear hs HR SI e4
      go_wp2_with fail
      refine (EN.out w1 S1.out).mono ?_
      rintro e w3 ⟨⟨v, rfl, own3⟩, k3⟩
      have S3 := Lib.hid (S1.out.trans k3)
      have BA3 := Lib.hid (BA1.out.still k3)
      have O3 := Lib.hid own3
      have V3 := Lib.hid (show v.oneCell' = true by rcases own3.2 with ⟨h, _⟩ | ⟨_, _, _, h, _⟩ <;> (rw [h]; rfl))
      have KL := Lib.hid (show (keyR (tagE l) (l.take m)).length = 32 from keyR_len _ _ (fun h => by
        have h1 := (toE_ok (l := l) (by
          have h2 := HE.out
          unfold rdE at h2
          by_cases h3 : (toE l).2 = 0
          · exact h3
          · rw [if_pos h3] at h2; exact h2))
        rw [List.length_take, HZ.out]
        have := h1.2.2.2.2.2.2.1 h
        have := h1.2.2.2.1
        omega))
      obtain ⟨w4, hw4⟩ : ∃ w4, w4 = w3.setRow g (entV ((tagE l : Nat) : Int) (keyR (tagE l) (l.take m)) v) := ⟨_, rfl⟩
      have S4 := Lib.hid (show Still w w4 by rw [hw4]; exact below_setRow S3.out (by rw [HG.out]; exact Nat.le_refl _) _)
      have O4 := Lib.hid (show w4.ownsRow w.heap.size 5 1 v (datR (tagE l) (l.take m)).length (bytesV (datR (tagE l) (l.take m))) from by
        refine ⟨O3.out.1, ?_⟩
        rcases O3.out.2 with q | ⟨gx, cap, cur, hv, hlo, hb, r⟩
        · exact .inl q
        · have h1 := Blk.lt BA1.out
          exact .inr ⟨gx, cap, cur, hv, by have := S1.out.size; omega, by rw [hw4]; exact (heap_setRow_ne w3 (by omega)).trans hb, r⟩)
      have BB4 := Lib.hid (show Blk w4 g 44 (entV ((tagE l : Nat) : Int) (keyR (tagE l) (l.take m)) v) by rw [hw4]; exact setRow_heap _ _ _ _ _ _ BA3.out)
      have HW4 := Lib.hid hw4
      clear own3 k3 EN hw4
      go_wp2_with (first
        | (guard_target =~ wpList _ _ _ (Oper.mk none (Op.store _ _ _) _ _ _ _ :: _) _ _; go_must (refine wpList_store_rowTo rfl 44 (.tmp 2) (.tmp 30) rfl rfl g (entV ((tagE l : Nat) : Int) (keyR (tagE l) (l.take m)) v) rfl rfl 44 _ BA3.out (by rw [sizeEnt]; rw [entV_size _ _ _ KL.out]) (by rw [entV_size _ _ _ KL.out, entV_size _ _ _ (by simp)]) (by exact entV_one _ _ _ V3.out) ?_)))
      rw [← HW4.out]
      (try simp only [Exit.inBlock, Exit.then])
      refine bodyPost_ret (results_cell2 rfl _ _ g _ _ _ rfl BB4.out HU.out rfl (by rw [sizeEnt, entV_size _ _ _ KL.out])) rfl ?_
      refine ⟨⟨v, ?_, ?_⟩, S4.out⟩
      · unfold rdT rdK rdN
        rw [HE.out, if_pos rfl, if_pos rfl, if_pos rfl, ← HZ.out]
        rfl
      · unfold rdD
        rw [if_pos HE.out, ← HZ.out]
        exact O4.out
    · have HE := Lib.hid (show rdE l = 13 by rw [HR.out, if_neg (by decide), if_neg hs])
      have b1 : ((s1 : Int) != (s2 : Int)) = true := by simp; omega
      have b2 : ((s1 : Int) == (s2 : Int)) = false := by simp; omega
      clear hs HR SI EN e4
      go_wp2_with (guard_target =~ wpList _ _ _ (Oper.mk none (Op.store _ _ _) _ _ _ _ :: _) _ _; go_must (refine wpList_store_rowTo rfl 44 (.tmp 2) (.tmp 25) rfl rfl g #[.int .i64 0, .int .u8 0, .int .u8 0, .int .u8 0, .int .u8 0, .int .u8 0, .int .u8 0, .int .u8 0, .int .u8 0, .int .u8 0, .int .u8 0, .int .u8 0, .int .u8 0, .int .u8 0, .int .u8 0, .int .u8 0, .int .u8 0, .int .u8 0, .int .u8 0, .int .u8 0, .int .u8 0, .int .u8 0, .int .u8 0, .int .u8 0, .int .u8 0, .int .u8 0, .int .u8 0, .int .u8 0, .int .u8 0, .int .u8 0, .int .u8 0, .int .u8 0, .int .u8 0, .slice none 0 0] rfl rfl 44 _ BA1.out (by rw [sizeEnt]; rfl) (by rfl) (by kernel_rfl) ?_))
      (try simp only [Exit.inBlock, Exit.then])
      refine bodyPost_ret (results_cell2 rfl _ _ g _ _ _ rfl (setRow_heap w1 _ _ _ _ _ BA1.out) HU.out rfl (by rw [sizeEnt]; rfl)) rfl ?_
      obtain ⟨r1, r2, r3, r4⟩ := ZR.out (by rw [HE.out]; decide)
      rw [r1, r2, r3, r4, HE.out]
      exact ⟨⟨_, rfl, World.ownsRow_nil _ _ _ _⟩, below_setRow S1.out (by rw [HG.out]; exact Nat.le_refl _) _⟩
  · have HE := Lib.hid (show rdE l = q by rw [HR.out, if_pos h0])
    have HQ := Lib.hid h0
    have b0 : (q == 0) = false := by simpa using h0
    have b1 : (q != 0) = true := by simpa using h0
    clear h0 HR HT
    go_wp2_with (guard_target =~ wpList _ _ _ (Oper.mk none (Op.store _ _ _) _ _ _ _ :: _) _ _; go_must (refine wpList_store_rowTo rfl 44 (.tmp 2) (.tmp 25) rfl rfl g #[.int .i64 0, .int .u8 0, .int .u8 0, .int .u8 0, .int .u8 0, .int .u8 0, .int .u8 0, .int .u8 0, .int .u8 0, .int .u8 0, .int .u8 0, .int .u8 0, .int .u8 0, .int .u8 0, .int .u8 0, .int .u8 0, .int .u8 0, .int .u8 0, .int .u8 0, .int .u8 0, .int .u8 0, .int .u8 0, .int .u8 0, .int .u8 0, .int .u8 0, .int .u8 0, .int .u8 0, .int .u8 0, .int .u8 0, .int .u8 0, .int .u8 0, .int .u8 0, .int .u8 0, .slice none 0 0] rfl rfl 44 _ BA.out (by rw [sizeEnt]; rfl) (by rfl) (by kernel_rfl) ?_))
    (try simp only [Exit.inBlock, Exit.then])
    refine bodyPost_ret (results_cell2 rfl _ _ g _ _ _ rfl (setRow_heap wA _ _ _ _ _ BA.out) HU.out rfl (by rw [sizeEnt]; rfl)) rfl ?_
    obtain ⟨r1, r2, r3, r4⟩ := ZR.out (by rw [HE.out]; exact HQ.out)
    rw [r1, r2, r3, r4, HE.out]
    exact ⟨⟨_, rfl, World.ownsRow_nil _ _ _ _⟩, below_setRow SA.out (by rw [HG.out]; exact Nat.le_refl _) _⟩
end Go.Proofs.YtfneloobfidckaaGreatDoor

/- 'string(b)' of bytes that read. It proves no statement. -/



namespace Go.Proofs.YtfneloobfidckaaGreatDoor
open Go.RowKit
set_option linter.unusedVariables false
set_option linter.unusedSimpArgs false

/-- 'string(b)'. -/
theorem conv_reads {w : World} {B n : Nat} {A : Option Addr} {l : List UInt8} (h : Reads w B A n l) (c : Nat) :
    (convert 42 9 (.slice A n c)).run Tryz.prog w = .ok (.string ⟨l.toArray⟩) w := by
  obtain rfl := h.1
  rcases A with _ | ad
  · have hl : l = [] := by
      rcases l with _ | ⟨x, r⟩
      · rfl
      · obtain ⟨_, _, e, _⟩ := h.2 (by simp)
        cases e
    subst hl
    exact run_convert_bytes_nil w 42 5 Tryz.underlying42 Tryz.underlying5 0 c 9 Tryz.underlying9
  · refine run_convert_bytes_back w 42 9 5 ad c l Tryz.underlying42 Tryz.underlying5 Tryz.underlying9 fun j hj => ?_
    refine h.news ad rfl (by omega) j _ ?_
    rw [bytesV_get l j hj]
    simp [List.getD, hj]
end Go.Proofs.YtfneloobfidckaaGreatDoor

/- Bytes alike. It proves no statement. -/





namespace Go.Proofs.YtfneloobfidckaaGreatDoor
open Go.RowKit
set_option linter.unusedVariables false
set_option linter.unusedSimpArgs false

theorem text_iff (a b : ByteArray) : (a.toList = b.toList) ↔ a = b := by
  constructor
  · intro h
    rw [ByteArray.toList_eq, ByteArray.toList_eq] at h
    exact Go.WideShapes.bytes_inj h
  · intro h; rw [h]
set_option maxRecDepth 100000 in
set_option maxHeartbeats 800000 in
theorem bytesEq_any (A A' : Option Addr) (n n' c c' : Nat) (l l' : List UInt8) (w : World) (B B' : Nat) (h : Reads w B A n l) (h' : Reads w B' A' n' l') :
    Calls Tryz.prog 172 #[.slice A n c, .slice A' n' c'] w fun e w' => e = .returned (.bool (decide (l = l'))) ∧ w = w' := by
  have k1 := conv_reads h c
  have k2 := conv_reads h' c'
  obtain ⟨s, hs⟩ : ∃ s : ByteArray, s = ⟨l.toArray⟩ := ⟨_, rfl⟩
  obtain ⟨s', hs'⟩ : ∃ s : ByteArray, s = ⟨l'.toArray⟩ := ⟨_, rfl⟩
  rw [← hs] at k1
  rw [← hs'] at k2
  have hiff : (s = s') ↔ l = l' := by
    rw [hs, hs']
    constructor
    · intro e
      have := congrArg (fun b : ByteArray => b.data.toList) e
      simpa using this
    · intro e; rw [e]
  have HI := Lib.hid hiff
  by_cases he : s = s'
  · have hl := hiff.1 he
    rw [show decide (l = l') = true by simpa using hl]
    subst he
    clear h h' hs hs' hiff hl
    go_enter Tryz.func172, Tryz.ntmps172
    go_wp2_with fail
    go_ret
    exact ⟨by simp, rfl⟩
  · have hl : ¬ l = l' := fun e => he (hiff.2 e)
    rw [show decide (l = l') = false by simpa using hl]
    have hne : ¬ s.toList = s'.toList := fun e => he ((text_iff s s').1 e)
    clear h h' hs hs' hiff hl
    go_enter Tryz.func172, Tryz.ntmps172
    go_wp2_with fail
    go_ret
    exact ⟨by simp [hne], rfl⟩
end Go.Proofs.YtfneloobfidckaaGreatDoor

/- Bytes alike; what bytes begin with. It proves no statement. -/






namespace Go.Proofs.YtfneloobfidckaaGreatDoor
open Go.RowKit
set_option linter.unusedVariables false
set_option linter.unusedSimpArgs false

set_option maxRecDepth 100000 in
set_option maxHeartbeats 800000 in
theorem prefix_any (A A' : Option Addr) (n c c' : Nat) (l l' : List UInt8) (w : World) (B B' : Nat) (h : Reads w B A n l) (h' : Reads w B' A' 8 l') (hc : n ≤ c) (hm : c ≤ 9223372036854775807) :
    Calls Tryz.prog 116 #[.slice A n c, .slice A' 8 c'] w fun e w' => e = .returned (.bool (decide (8 ≤ n ∧ l.take 8 = l'))) ∧ w = w' := by
  by_cases h8 : 8 ≤ n
  · have r8 := h.take 8
    rw [Nat.min_eq_right h8] at r8
    have EQ := Lib.hid (bytesEq_any A A' 8 8 c c' (l.take 8) l' w B B' r8 h')
    rw [show decide (8 ≤ n ∧ l.take 8 = l') = decide (l.take 8 = l') by simp [h8]]
    generalize decide (l.take 8 = l') = q at EQ
    have EQ' := EQ
    have d1 : (8 : Int) ≤ (n : Int) := by omega
    have d2 : (8 : Int) ≤ (c : Int) := by omega
    have d3 : 8 ≤ c := by omega
    clear h h' r8 EQ
    go_enter Tryz.func116, Tryz.ntmps116
    go_wp2_with fail
    refine EQ'.out.mono ?_
    rintro e w1 ⟨rfl, rfl⟩
    go_wp2_with fail
    go_ret
    exact ⟨rfl, rfl⟩
  · rw [show decide (8 ≤ n ∧ l.take 8 = l') = false by simp [h8]]
    have d1 : (n : Int) < 8 := by omega
    have d2 : ¬ (8 : Int) ≤ (n : Int) := by omega
    clear h h'
    go_enter Tryz.func116, Tryz.ntmps116
    go_wp2_with fail
    go_ret
    exact ⟨rfl, rfl⟩
end Go.Proofs.YtfneloobfidckaaGreatDoor

/- What is found: an entry, where it stands, its size: 36 cells; built, put alone, appended. It proves no statement. -/

namespace Go.Proofs.YtfneloobfidckaaGreatDoor
open Go.RowKit
set_option linter.unusedVariables false
set_option linter.unusedSimpArgs false

/-- The cells of an entry found. -/
def foL (t : Int) (K : List UInt8) (v : Value) (at_ n : Int) : List Value := entL t K v ++ [.int .i64 at_, .int .i64 n]
def foV (t : Int) (K : List UInt8) (v : Value) (at_ n : Int) : Array Value := (foL t K v at_ n).toArray
theorem foL_len (t : Int) (K : List UInt8) (v : Value) (at_ n : Int) (h : K.length = 32) : (foL t K v at_ n).length = 36 := by unfold foL; rw [List.length_append, entL_len _ _ _ h]; rfl
theorem foL_one (t : Int) (K : List UInt8) (v : Value) (at_ n : Int) (h : v.oneCell' = true) : ∀ u ∈ foL t K v at_ n, u.oneCell' = true := by
  intro u hu
  unfold foL at hu
  rcases List.mem_append.1 hu with hu | hu
  · exact entL_one t K v h u hu
  · simp only [List.mem_cons, List.not_mem_nil, or_false] at hu
    rcases hu with rfl | rfl <;> rfl
theorem Tryz.infoFo : (Tryz.prog.info? 83).map (fun i => (i.zero, i.size, i.bytes)) = some (some (.agg (foV 0 (List.replicate 32 0) (.slice none 0 0) 0 0)), 36, 80) := by kernel_rfl
set_option maxRecDepth 100000 in
theorem built_fo (t : Int) (K : List UInt8) (hK : K.length = 32) (v : Value) (hv : ∃ A n c, v = .slice A n c) (at_ n : Int) : Tryz.prog.built 83 [(0, .agg (entV t K v)), (1, .int .i64 at_), (2, .int .i64 n)] = some (foV t K v at_ n) := by
  obtain ⟨k0, k1, k2, k3, k4, k5, k6, k7, k8, k9, k10, k11, k12, k13, k14, k15, k16, k17, k18, k19, k20, k21, k22, k23, k24, k25, k26, k27, k28, k29, k30, k31, rfl⟩ := list32 K hK
  obtain ⟨A, n, c, rfl⟩ := hv
  kernel_rfl
set_option maxRecDepth 100000 in
theorem fill_fo (t : Int) (K : List UInt8) (hK : K.length = 32) (v : Value) (hv : ∃ A n c, v = .slice A n c) (at_ n : Int) :
    Instr.fill (fun i => some (i * 36, 36)) ((Array.range (1 * 36)).map ((Value.agg (foV 0 (List.replicate 32 0) (.slice none 0 0) 0 0)).cells[· % (Value.agg (foV 0 (List.replicate 32 0) (.slice none 0 0) 0 0)).cells.size]!)) [(0, .agg (foV t K v at_ n))] = some (foV t K v at_ n) := by
  obtain ⟨k0, k1, k2, k3, k4, k5, k6, k7, k8, k9, k10, k11, k12, k13, k14, k15, k16, k17, k18, k19, k20, k21, k22, k23, k24, k25, k26, k27, k28, k29, k30, k31, rfl⟩ := list32 K hK
  obtain ⟨A, n, c, rfl⟩ := hv
  kernel_rfl
theorem run_buildF (ρ : Operand → Value) (o : Oper) (x y z : Operand) (ho : o.op = .build 83 #[(0, x), (1, y), (2, z)]) (t : Int) (K : List UInt8) (hK : K.length = 32) (v : Value) (hv : ∃ A n c, v = .slice A n c) (at_ n : Int)
    (hx : ρ x = .agg (entV t K v)) (hy : ρ y = .int .i64 at_) (hz : ρ z = .int .i64 n) (W : World) : (execOp ρ o).run Tryz.prog W = .ok (.value (.agg (foV t K v at_ n))) W := by
  have hb := run_build (P := Tryz.prog) W 83 _ _ (built_fo t K hK v hv at_ n)
  unfold execOp
  simp only [ho, Sem.run_bind, List.map_toArray, List.map_cons, List.map_nil, hx, hy, hz, hb, Result.andThen_ok]
  rfl
theorem wpList_buildF {ops : Array Oper} {rest : List Oper} {o : Oper} {a : Act} {Q : Exit → Act → World → Prop} (w : World) (hgd : o.guard = none) (x y z : Operand) (ho : o.op = .build 83 #[(0, x), (1, y), (2, z)])
    (t : Int) (K : List UInt8) (hK : K.length = 32) (v : Value) (hv : ∃ A n c, v = .slice A n c) (at_ n : Int) (hx : a.eval x = .agg (entV t K v)) (hy : a.eval y = .int .i64 at_) (hz : a.eval z = .int .i64 n)
    (h : wpList Tryz.prog ops Q rest (a.put o.dst (.agg (foV t K v at_ n))) w) : wpList Tryz.prog ops Q (o :: rest) a w :=
  Go.Great.wpList_runTo hgd _ rfl _ _ (run_buildF a.eval o x y z ho t K hK v hv at_ n hx hy hz w) h
/-- '[]Found{x}', one operation. -/
theorem step_boxF (w : World) {o : Oper} {a : Act} {K' : Act → World → Prop} {Q : Exit → Act → World → Prop} (x : Operand)
    (ho : o.op = .buildSlice 79 1 #[(0, x)]) (t : Int) (K : List UInt8) (hK : K.length = 32) (v : Value) (hv : ∃ A n c, v = .slice A n c) (at_ n : Int) (hx : a.eval x = .agg (foV t K v at_ n))
    (h : K' (a.put o.dst (.slice (some ⟨w.heap.size, 0, none⟩) 1 1)) (w.alloc (.cells (foV t K v at_ n) 83))) : o.wp Tryz.prog a w K' Q := by
  obtain ⟨i0, hi, hz0, hz1, hz2⟩ := info_parts Tryz.infoFo
  refine wp_buildSlice 79 83 1 #[(0, x)] ho (foV t K v at_ n) i0 _ Tryz.underlying79 hi hz0 (by rw [hz1]; decide) (by rw [hz1]; decide) ?_ h
  rw [hz1]
  simp only [List.map_toArray, List.map_cons, List.map_nil, hx]
  exact fill_fo t K hK v hv at_ n
theorem wpList_boxF (w : World) {ops : Array Oper} {rest : List Oper} {o : Oper} {a : Act} {Q : Exit → Act → World → Prop} (hgd : o.guard = none) (x : Operand)
    (ho : o.op = .buildSlice 79 1 #[(0, x)]) (t : Int) (K : List UInt8) (hK : K.length = 32) (v : Value) (hv : ∃ A n c, v = .slice A n c) (at_ n : Int) (hx : a.eval x = .agg (foV t K v at_ n))
    (h : wpList Tryz.prog ops Q rest (a.put o.dst (.slice (some ⟨w.heap.size, 0, none⟩) 1 1)) (w.alloc (.cells (foV t K v at_ n) 83))) : wpList Tryz.prog ops Q (o :: rest) a w :=
  wpList_plain hgd fun _ hQ => step_boxF w x ho t K hK v hv at_ n hx (hQ _ _ h)
/-- 'append(l, x)', one operation. -/
theorem step_pushF (w : World) {o : Oper} {a : Act} {K : Act → World → Prop} {Q : Exit → Act → World → Prop} (s x : Operand)
    (ho : o.op = .call { callee := .builtin .append, args := #[s, x], argTypes := #[79, 79] })
    (base : Nat) (v : Value) (n : Nat) (xs : List Value) (hs : a.eval s = v) (hown : w.ownsRow base 83 36 v n xs) (gb : Nat) (cs : List Value)
    (hx : a.eval x = .slice (some ⟨gb, 0, none⟩) 1 1) (hc : ∀ q u, cs[q]? = some u → w.cell? ⟨gb, q, none⟩ = some u) (hc6 : cs.length = 36) (h1 : ∀ u ∈ cs, u.oneCell' = true) (hn : n ≤ 1048576) (hbase : base ≤ w.heap.size)
    (h : ∀ v' w', w'.ownsRow base 83 36 v' (n + 1) (xs ++ cs) → w.grownBy w' v.ownBlock → (v'.ownBlock = v.ownBlock ∨ v'.ownBlock = some w.heap.size) → K (a.put o.dst v') w') :
    o.wp Tryz.prog a w K Q := by
  obtain ⟨i0, hi, hz0, hz1, hz2⟩ := info_parts Tryz.infoFo
  obtain ⟨v', w', hrun, h2, h3, _, h5⟩ := run_append_own_at (P := Tryz.prog) w base 79 o.type 83 i0 _ 36 80 Tryz.underlying79 hi hz0 hz1 hz2 rfl (by decide) v n xs hown ⟨gb, 0, none⟩ 1 1 cs (by rw [hc6]) (fun j u hu => by
    rw [Addr.add_mid, Nat.zero_add]; exact hc j u hu) h1 (by unfold maxLen; omega) (by omega) hbase
  unfold Oper.wp execOp
  simp only [ho, resolve, invoke, builtin, Sem.run_bind, Sem.run_pure, Result.andThen_ok, List.map_toArray, List.map_cons, List.map_nil, hs, hx, hrun]
  exact h v' w' h2 h3 h5
theorem wpList_pushF (w : World) {ops : Array Oper} {rest : List Oper} {o : Oper} {a : Act} {Q : Exit → Act → World → Prop} (hgd : o.guard = none) (s x : Operand)
    (ho : o.op = .call { callee := .builtin .append, args := #[s, x], argTypes := #[79, 79] })
    (base : Nat) (v : Value) (n : Nat) (xs : List Value) (hs : a.eval s = v) (hown : w.ownsRow base 83 36 v n xs) (gb : Nat) (cs : List Value)
    (hx : a.eval x = .slice (some ⟨gb, 0, none⟩) 1 1) (hc : ∀ q u, cs[q]? = some u → w.cell? ⟨gb, q, none⟩ = some u) (hc6 : cs.length = 36) (h1 : ∀ u ∈ cs, u.oneCell' = true) (hn : n ≤ 1048576) (hbase : base ≤ w.heap.size)
    (h : ∀ v' w', w'.ownsRow base 83 36 v' (n + 1) (xs ++ cs) → w.grownBy w' v.ownBlock → (v'.ownBlock = v.ownBlock ∨ v'.ownBlock = some w.heap.size) → wpList Tryz.prog ops Q rest (a.put o.dst v') w') :
    wpList Tryz.prog ops Q (o :: rest) a w :=
  wpList_plain hgd fun _ hQ => step_pushF w s x ho base v n xs hs hown gb cs hx hc hc6 h1 hn hbase fun v' w' a b c => hQ _ _ (h v' w' a b c)
end Go.Proofs.YtfneloobfidckaaGreatDoor

/- How long what is read is. It proves no statement. -/


namespace Go.Proofs.YtfneloobfidckaaGreatDoor
open Go.RowKit
set_option linter.unusedVariables false
set_option linter.unusedSimpArgs false

theorem rdE_told {l : List UInt8} (h : rdE l = 0) : (toE l).2 = 0 := by
  unfold rdE at h
  by_cases h3 : (toE l).2 = 0
  · exact h3
  · rw [if_pos h3] at h; exact h
theorem rdK_len (l : List UInt8) : (rdK l).length = 32 := by
  unfold rdK
  by_cases h : rdE l = 0
  · rw [if_pos h]
    obtain ⟨_, _, _, h4, _, _, h7, _⟩ := toE_ok (rdE_told h)
    exact keyR_len _ _ (fun q => by rw [List.length_take]; have := h7 q; omega)
  · rw [if_neg h]; simp
theorem rdD_len (l : List UInt8) : (rdD l).length ≤ l.length := by
  unfold rdD datR
  split
  · split
    · simp
    · rw [List.length_drop, List.length_take]; omega
  · simp
end Go.Proofs.YtfneloobfidckaaGreatDoor
