/- Contracts and facts, several texts in one. It proves no statement. -/
import Derived.Test.YtblgphfdicffcaaGreatDoorHfa
import Derived.Deep.LoopGhost
import Derived.Lib.LaidTab
import Derived.BigQuiet
import Derived.Laws.Bits128
import Derived.BigFrame
import Derived.LaidMore
import Derived.Stop.Joined
import Derived.Stop.LaidErr
import Derived.Lib.ItoaNum
import Derived.Shelf.Strconv.Itoa1
import Derived.Test.YtblgphfdicffcaaGreatDoorSgLib
import Derived.Laws.IdiomStrings
import Derived.Laws.BytesArg
import Derived.Maps.OwnSet
import Derived.Maps.OwnOps
import Derived.Maps.RangeWalk
import Derived.Maps.Ext
import Derived.Deep.MidRow
import Derived.Deep.RegionHeld
import Derived.Maps.AppendAt
import Derived.Great.BuildSlice

/- Contracts: sums of texts, by the program's tables and by the document. It proves no statement. -/






namespace Go.Proofs.YtblgphfdicffcaaGreatDoor
open Go.RowKit
set_option linter.unusedVariables false
set_option linter.unusedSimpArgs false

/-! ### Plain facts -/
def lowT : List Int := [0, 1996959894, 3993919788, 2567524794, 124634137, 1886057615, 3915621685, 2657392035, 249268274, 2044508324, 3772115230, 2547177864, 162941995, 2125561021, 3887607047, 2428444049]
def highT : List Int := [0, 498536548, 997073096, 651767980, 1994146192, 1802195444, 1303535960, 1342533948, 3988292384, 4027552580, 3604390888, 3412177804, 2607071920, 2262029012, 2685067896, 3183342108]
def lowN (i : Nat) : Nat := (lowT.getD i 0).toNat
def highN (i : Nat) : Nat := (highT.getD i 0).toNat
theorem lowN_lt (i : Nat) (h : i < 16) : lowN i < 4294967296 := (show ∀ i, i < 16 → lowN i < 4294967296 by decide +kernel) i h
theorem highN_lt (i : Nat) (h : i < 16) : highN i < 4294967296 := (show ∀ i, i < 16 → highN i < 4294967296 by decide +kernel) i h
theorem lowT_cast (i : Nat) (h : i < 16) : lowT.getD i 0 = (lowN i : Int) := (show ∀ i, i < 16 → lowT.getD i 0 = (lowN i : Int) by decide +kernel) i h
theorem highT_cast (i : Nat) (h : i < 16) : highT.getD i 0 = (highN i : Int) := (show ∀ i, i < 16 → highT.getD i 0 = (highN i : Int) by decide +kernel) i h
theorem tab_byte (y : Nat) (h : y < 256) : nxs 8 y = lowN (y % 16) ^^^ highN (y / 16) := (show ∀ y, y < 256 → nxs 8 y = lowN (y % 16) ^^^ highN (y / 16) by decide +kernel) y h
theorem nx_double (x : Nat) : nx (2 * x) = x := by
  unfold nx
  rw [show 2 * x % 2 = 0 by omega, show 2 * x / 2 = x by omega]
  simp
theorem nxs_up (k x : Nat) : nxs k (2 ^ k * x) = x := by
  induction k generalizing x with
  | zero => simp [nxs]
  | succ k ih => rw [nxs, Nat.pow_succ, Nat.mul_comm (2 ^ k) 2, Nat.mul_assoc, nx_double, ih]
/-- A register's lowest byte parted from the rest. -/
theorem xor_parts (k x : Nat) : x = 2 ^ k * (x / 2 ^ k) ^^^ x % 2 ^ k := by
  apply Nat.eq_of_testBit_eq
  intro i
  rw [Nat.testBit_xor, Nat.mul_comm, Nat.testBit_mul_two_pow, Nat.testBit_mod_two_pow, Nat.testBit_div_two_pow]
  by_cases hi : i < k
  · simp [hi, show ¬ k ≤ i by omega]
  · simp [hi, show k ≤ i by omega, show i - k + k = i by omega]
theorem xor_div_pow (k x y : Nat) : (x ^^^ y) / 2 ^ k = x / 2 ^ k ^^^ y / 2 ^ k := by
  apply Nat.eq_of_testBit_eq
  intro i
  simp [Nat.testBit_div_two_pow]
theorem xor_mod_pow (k x y : Nat) : (x ^^^ y) % 2 ^ k = x % 2 ^ k ^^^ y % 2 ^ k := by
  apply Nat.eq_of_testBit_eq
  intro i
  rw [Nat.testBit_xor, Nat.testBit_mod_two_pow, Nat.testBit_mod_two_pow, Nat.testBit_mod_two_pow, Nat.testBit_xor]
  cases decide (i < k) <;> simp
/-- One byte by the two tables. -/
theorem crcByte_tab (r : Nat) (b : UInt8) (y : Nat) (hy : y = b.toNat ^^^ r % 256) : crcByte r b = r / 256 ^^^ lowN (y % 16) ^^^ highN (y / 16) := by
  have hb : b.toNat < 256 := b.toNat_lt
  have hy' : y < 256 := by rw [hy]; exact Nat.xor_lt_two_pow (n := 8) hb (Nat.mod_lt _ (by decide))
  unfold crcByte
  have e := xor_parts 8 (r ^^^ b.toNat)
  have e1 : (r ^^^ b.toNat) / 2 ^ 8 = r / 256 := by
    rw [xor_div_pow, Nat.div_eq_of_lt (show b.toNat < 2 ^ 8 from hb), Nat.xor_zero]
  have e2 : (r ^^^ b.toNat) % 2 ^ 8 = y := by
    rw [xor_mod_pow, Nat.mod_eq_of_lt (show b.toNat < 2 ^ 8 from hb), hy, Nat.xor_comm]
  rw [e1, e2] at e
  rw [e, nxs_xor, nxs_up, tab_byte y hy', Nat.xor_assoc]

/-! ### The tables in memory -/
structure Tabs (w : World) : Prop where
  low : ∀ i, i < 16 → w.cell? ⟨0, i, none⟩ = some (.int .u32 (lowN i : Int))
  high : ∀ i, i < 16 → w.cell? ⟨1, i, none⟩ = some (.int .u32 (highN i : Int))
theorem lt_of_cell {w : World} {b i : Nat} {v : Value} (h : w.cell? ⟨b, i, none⟩ = some v) : b < w.heap.size := block_lt_of_cell h
theorem Tabs.still {w w' : World} (h : Tabs w) (s : Still w w') : Tabs w' :=
  ⟨fun i hi => (s.cell (lt_of_cell (h.low i hi))).trans (h.low i hi), fun i hi => (s.cell (lt_of_cell (h.high i hi))).trans (h.high i hi)⟩
theorem Tabs.drew {w : World} (h : Tabs w) : Tabs w.drew := h.still ((Still.refl w).drew)

theorem Still.drewN {w w' : World} (h : Still w w') (n : Nat) : Still w (w'.drewN n) := by
  induction n with
  | zero => exact h
  | succ n ih => exact ih.drew
theorem u32_flip (x : Nat) (hx : x < 4294967296) : bits BinOp.xor IntKind.u32 IntKind.u32.max (x : Int) = ((x ^^^ ones32 : Nat) : Int) := by
  have h := u32_xor_nat ones32 x (by decide) hx
  rw [Nat.xor_comm] at h
  exact h
theorem u8_cast (x : Nat) : IntKind.u8.wrap (x : Int) = ((x % 256 : Nat) : Int) := by rw [IntKind.wrap_u8']; omega

set_option maxHeartbeats 1600000 in
theorem crcadd_any (s : Nat) (A : Option Addr) (n c : Nat) (l : List UInt8) (w : World) (B : Nat) (T : Tabs w) (hs : s < 4294967296) (h : Reads w B A n l) (hB : B ≤ w.heap.size) (hn : n ≤ 9223372036854775807) :
    Calls Tryz.prog 179 #[.int .u32 s, .slice A n c] w fun e w' => e = .returned (.int .u32 (crcAdd s l : Nat)) ∧ Still w w' := by
  have hl := h.1
  have sg : IntKind.u32.signed = false := rfl
  have hx0 := u32_flip s hs
  have hs0 : s ^^^ ones32 < 4294967296 := Nat.xor_lt_two_pow (n := 32) hs (by decide)
  have hrun : ∀ k, crcRun (s ^^^ ones32) (l.take k) < 4294967296 := fun k => crcRun_lt _ _ hs0
  have hfin := u32_flip (crcRun (s ^^^ ones32) l) (crcRun_lt _ _ hs0)
  have hadd : crcRun (s ^^^ ones32) l ^^^ ones32 = crcAdd s l := rfl
  rw [hadd] at hfin
  generalize crcAdd s l = R at hfin ⊢
  generalize s ^^^ ones32 = s0 at hx0 hs0 hrun hfin hadd
  have HR := Lib.hid hrun
  have HF := Lib.hid hfin
  have TT := Lib.hid T
  clear hrun hfin hadd T
  go_enter Tryz.func179, Tryz.ntmps179
  go_wp2_with fail
  go_loopw [5, 12] (fun x i wr => ∃ k : Nat, k ≤ n ∧ i = .int .i64 k ∧ Still w wr ∧ ∃ y : Nat, x = .int .u32 y ∧ Hid (y = crcRun s0 (l.take k))) (fun _ i _ => n - (intOf i).toNat)
  case atStart => exact ⟨0, Nat.zero_le _, rfl, Still.refl w, s0, rfl, rfl⟩
  case round =>
    obtain ⟨k, hk, rfl, st, y, rfl, hy⟩ := hrel
    by_cases hlt : k < n
    · obtain ⟨b, o, rfl, hb, hc0⟩ := h.at_ (by omega)
      have hc := ((st.cell (p := ⟨b, o + k, none⟩) (by simp; omega)).trans (hc0 k hlt))
      have T := TT.out.still st
      obtain ⟨d, hd⟩ : ∃ d, d = (l.getD k 0).toNat := ⟨_, rfl⟩
      rw [← hd] at hc
      have hd' : d < 256 := by rw [hd]; exact (l.getD k 0).toNat_lt
      have hyb : y < 4294967296 := by rw [hy.out]; exact HR.out k
      have e1 := u8_cast y
      have e2 := u8_xor_nat d (y % 256) hd' (Nat.mod_lt _ (by decide))
      have hz : d ^^^ y % 256 < 256 := Nat.xor_lt_two_pow (n := 8) hd' (Nat.mod_lt _ (by decide))
      have hbyte := crcByte_tab y (l.getD k 0) _ rfl
      rw [← hd] at hbyte
      generalize y % 256 = y8 at e1 e2 hz hbyte
      generalize d ^^^ y8 = z at e2 hz hbyte
      have e3 : ((y : Int) / 256) = ((y / 256 : Nat) : Int) := by simp
      have e4 : bits BinOp.and IntKind.u8 (z : Int) 15 = ((z % 16 : Nat) : Int) := by
        have := u8_and_nat z 15 hz (by omega)
        rw [nat_mask4] at this
        exact this
      have e5 : ((z : Int) / 16) = ((z / 16 : Nat) : Int) := by simp
      have i1 : z % 16 < 16 := by omega
      have i2 : z / 16 < 16 := by omega
      have hyq : y / 256 < 4294967296 := by omega
      generalize z % 16 = p at e4 i1 hbyte
      generalize z / 16 = q at e5 i2 hbyte
      generalize y / 256 = yq at e3 hyq hbyte
      have c1 := T.low p i1
      have c2 := T.high q i2
      have l1 := lowN_lt p i1
      have l2 := highN_lt q i2
      generalize lowN p = lp at c1 l1 hbyte
      generalize highN q = hq at c2 l2 hbyte
      have e6 := u32_xor_nat yq lp hyq l1
      have hx1 : yq ^^^ lp < 4294967296 := Nat.xor_lt_two_pow (n := 32) hyq l1
      generalize yq ^^^ lp = x1 at e6 hx1 hbyte
      have e7 := u32_xor_nat x1 hq hx1 l2
      generalize x1 ^^^ hq = x2 at e7 hbyte
      have j1 : (p : Int) < 16 := by omega
      have j2 : (q : Int) < 16 := by omega
      have HB := Lib.hid hbyte
      have ST := Lib.hid st
      clear hbyte T hd hc0 st
      go_wp2_with fail
      go_quiet (fail)
      go_wp2_with fail
      go_roundw
      case rel =>
        refine ⟨k + 1, by omega, by go_num, ?_, x2, rfl, ?_⟩
        · exact Still.drewN ST.out nq
        · show _ = _
          have e : l.take (k + 1) = l.take k ++ [l.getD k 0] := by
            rw [List.take_add_one]; simp [List.getD, show k < l.length by omega]
          rw [e, crcRun_append, ← hy.out]
          exact HB.out.symm
      case measure => simp [intOf]; omega
    · obtain rfl : k = n := by omega
      have e := hy.out
      rw [List.take_of_length_le (by omega)] at e
      have f := HF.out
      rw [← e] at f
      clear e hy
      go_wp2_with fail
      go_ret
      exact ⟨rfl, st⟩

theorem crcsum_any (A : Option Addr) (n c : Nat) (l : List UInt8) (w : World) (B : Nat) (T : Tabs w) (h : Reads w B A n l) (hB : B ≤ w.heap.size) (hn : n ≤ 9223372036854775807) :
    Calls Tryz.prog 122 #[.slice A n c] w fun e w' => e = .returned (.int .u32 (crcSum l : Nat)) ∧ Still w w' := by
  have k := crcadd_any 0 A n c l w B T (by omega) h hB hn
  have e : crcAdd 0 l = crcSum l := rfl
  rw [e] at k
  generalize crcSum l = R at k ⊢
  have K := Lib.hid k
  clear k e
  go_enter Tryz.func122, Tryz.ntmps122
  go_wp2_with fail
  refine K.out.mono ?_
  rintro e w1 ⟨rfl, s1⟩
  go_wp2_with fail
  go_ret
  exact ⟨rfl, s1⟩
end Go.Proofs.YtblgphfdicffcaaGreatDoor

/- What the rows' condition on the two tables gives the walks. It proves no statement. -/




namespace Go.Proofs.YtblgphfdicffcaaGreatDoor
open Go.RowKit
set_option linter.unusedVariables false
set_option linter.unusedSimpArgs false

def crcLaid : List (String × DataW Unit) := [("hoard/crc.lowHalf", Rows.laid_hoard_crc_lowHalf), ("hoard/crc.highHalf", Rows.laid_hoard_crc_highHalf)]
theorem gLow : Tryz.prog.globalNamed "hoard/crc.lowHalf" = some 0 := by kernel_rfl
theorem gHigh : Tryz.prog.globalNamed "hoard/crc.highHalf" = some 1 := by kernel_rfl
theorem tLow : (Tryz.prog.globals[0]?).map (·.type) = some 307 := by kernel_rfl
theorem tHigh : (Tryz.prog.globals[1]?).map (·.type) = some 307 := by kernel_rfl
theorem tabs_of_laid {W : World} (h : laidMetH Tryz.prog crcLaid W) : Tabs W := by
  rw [MakeChecks.laidMetH_plain _ _ _ (by kernel_rfl)] at h
  have h1 : Lib.TabIs Tryz.prog W "hoard/crc.lowHalf" .u32 lowT := Lib.tabIs_of_head gLow tLow Tryz.underlying307 Tryz.underlying203 (by kernel_rfl) (by kernel_rfl) h
  have h2 : Lib.TabIs Tryz.prog W "hoard/crc.highHalf" .u32 highT := Lib.tabIs_of_head gHigh tHigh Tryz.underlying307 Tryz.underlying203 (by kernel_rfl) (by kernel_rfl) (laidMet.tail h)
  refine ⟨fun i hi => ?_, fun i hi => ?_⟩
  · have := h1.cell gLow i (by simpa [lowT] using hi)
    rwa [lowT_cast i hi] at this
  · have := h2.cell gHigh i (by simpa [highT] using hi)
    rwa [highT_cast i hi] at this
end Go.Proofs.YtblgphfdicffcaaGreatDoor

/- What the rows' condition on the library's and the sum's variables gives the walks. It proves no statement. -/



namespace Go.Proofs.YtblgphfdicffcaaGreatDoor
open Go.RowKit
set_option linter.unusedVariables false
set_option linter.unusedSimpArgs false

/-- What is read of the library's package-level variables. -/
structure SgT0 (w : World) : Prop where
  pow : Lib.TabIs Tryz.prog w "internal/strconv.uint64pow10" .u64 Lib.pow10Tab
  syn : ∃ tp p, w.var? Tryz.prog "strconv.ErrSyntax" = some #[.iface tp p]
  rng : ∃ tp p, w.var? Tryz.prog "strconv.ErrRange" = some #[.iface tp p]
/-- What is read of package-level variables. -/
structure SgT (w : World) : Prop extends SgT0 w where
  tabs : Tabs w
instance (w : World) : CoeOut (SgT w) (SgT0 w) := ⟨SgT.toSgT0⟩
theorem var_still {w w' : World} {nm : String} {cs : Array Value} (h : w.var? Tryz.prog nm = some cs) (s : Still w w') : w'.var? Tryz.prog nm = some cs := by
  unfold World.var? at h ⊢
  cases hg : Tryz.prog.globalNamed nm with
  | none => rw [hg] at h; cases h
  | some g =>
    rw [hg] at h
    simp only [Option.bind_some] at h ⊢
    have hlt : g < w.heap.size := by
      cases hq : w.heap[g]? with
      | none => rw [hq] at h; cases h
      | some o => exact (Array.getElem?_eq_some_iff.1 hq).1
    rw [s.block g hlt]
    exact h
theorem SgT0.still {w w' : World} (h : SgT0 w) (s : Still w w') : SgT0 w' :=
  ⟨var_still h.pow s, by obtain ⟨tp, p, e⟩ := h.syn; exact ⟨tp, p, var_still e s⟩, by obtain ⟨tp, p, e⟩ := h.rng; exact ⟨tp, p, var_still e s⟩⟩
theorem SgT.still {w w' : World} (h : SgT w) (s : Still w w') : SgT w' := ⟨h.toSgT0.still s, h.tabs.still s⟩
def segLaid : List (String × DataW Unit) := [("hoard/crc.lowHalf", Rows.laid_hoard_crc_lowHalf), ("hoard/crc.highHalf", Rows.laid_hoard_crc_highHalf), ("math/bits.deBruijn32tab", Rows.laid_math_bits_deBruijn32tab), ("math/bits.deBruijn64tab", Rows.laid_math_bits_deBruijn64tab), ("internal/strconv.uint64pow10", Rows.laid_internal_strconv_uint64pow10), ("strconv.ErrRange", Rows.laid_strconv_ErrRange), ("strconv.ErrSyntax", Rows.laid_strconv_ErrSyntax)]
def segLaid0 : List (String × DataW Unit) := [("math/bits.deBruijn32tab", Rows.laid_math_bits_deBruijn32tab), ("math/bits.deBruijn64tab", Rows.laid_math_bits_deBruijn64tab), ("internal/strconv.uint64pow10", Rows.laid_internal_strconv_uint64pow10), ("strconv.ErrRange", Rows.laid_strconv_ErrRange), ("strconv.ErrSyntax", Rows.laid_strconv_ErrSyntax)]
theorem gPow : Tryz.prog.globalNamed "internal/strconv.uint64pow10" = some 5 := by kernel_rfl
theorem tPow : (Tryz.prog.globals[5]?).map (·.type) = some 369 := by kernel_rfl
theorem gSyn : Tryz.prog.globalNamed "strconv.ErrSyntax" = some 2 := by kernel_rfl
theorem tSyn : (Tryz.prog.globals[2]?).map (·.type) = some 208 := by kernel_rfl
theorem gRng : Tryz.prog.globalNamed "strconv.ErrRange" = some 3 := by kernel_rfl
theorem tRng : (Tryz.prog.globals[3]?).map (·.type) = some 208 := by kernel_rfl
theorem starErr : "*" ++ "errors.errorString" = "*errors.errorString" := by decide
theorem rowErr (u : TypeId) (h : Tryz.prog.typeName? 3 u = some "*errors.errorString") : u = 374 :=
  typeName_ptr_named (nm := "errors.errorString") (by rw [starErr]; kernel_rfl) (by kernel_rfl) (by decide) u (by rw [starErr]; exact h)
theorem sgt0_of_met {W : World} (h : laidMet Tryz.prog segLaid0 W) : SgT0 W := by
  have h5 := laidMet.tail (laidMet.tail h)
  have h3 : Lib.TabIs Tryz.prog W "internal/strconv.uint64pow10" .u64 Lib.pow10Tab := Lib.tabIs_of_head gPow tPow Tryz.underlying369 Tryz.underlying250 (by kernel_rfl) (by kernel_rfl) h5
  have h6 := laidMet.tail h5
  have h7 := laidMet.tail h6
  obtain ⟨a0, s0, hv0, _, _, _⟩ := laid_sentinel h6 gRng tRng Tryz.underlying208 rowErr Tryz.underlying374 Tryz.underlying376 rfl rfl Tryz.underlying9 (by kernel_rfl) (by kernel_rfl)
  obtain ⟨a1, s1, hv1, _, _, _⟩ := laid_sentinel h7 gSyn tSyn Tryz.underlying208 rowErr Tryz.underlying374 Tryz.underlying376 rfl rfl Tryz.underlying9 (by kernel_rfl) (by kernel_rfl)
  exact ⟨h3, ⟨_, _, hv1⟩, ⟨_, _, hv0⟩⟩
theorem sgt0_of_laid {W : World} (h : laidMetH Tryz.prog segLaid0 W) : SgT0 W := by
  rw [MakeChecks.laidMetH_plain _ _ _ (by kernel_rfl)] at h
  exact sgt0_of_met h
theorem sgt_of_laid {W : World} (h : laidMetH Tryz.prog segLaid W) : SgT W := by
  rw [MakeChecks.laidMetH_plain _ _ _ (by kernel_rfl)] at h
  have h1 : Lib.TabIs Tryz.prog W "hoard/crc.lowHalf" .u32 lowT := Lib.tabIs_of_head gLow tLow Tryz.underlying307 Tryz.underlying203 (by kernel_rfl) (by kernel_rfl) h
  have h2 : Lib.TabIs Tryz.prog W "hoard/crc.highHalf" .u32 highT := Lib.tabIs_of_head gHigh tHigh Tryz.underlying307 Tryz.underlying203 (by kernel_rfl) (by kernel_rfl) (laidMet.tail h)
  refine ⟨sgt0_of_met (laidMet.tail (laidMet.tail h)), ⟨fun i hi => ?_, fun i hi => ?_⟩⟩
  · have := h1.cell gLow i (by simpa [lowT] using hi)
    rwa [lowT_cast i hi] at this
  · have := h2.cell gHigh i (by simpa [highT] using hi)
    rwa [highT_cast i hi] at this
end Go.Proofs.YtblgphfdicffcaaGreatDoor

/- Contracts: segments' names, by the program. It proves no statement. -/



namespace Go.Proofs.YtblgphfdicffcaaGreatDoor
open Go.RowKit
set_option linter.unusedVariables false
set_option linter.unusedSimpArgs false

theorem still_growN {w : World} (k : Nat) (os : Array Obj) : Still w (Sort.grow (w.drewN k) os) := by
  refine ⟨rfl, rfl, rfl, ?_, fun b hb => ?_⟩
  · show w.heap.size ≤ (w.heap ++ os).size
    rw [Array.size_append]
    omega
  · show (w.heap ++ os)[b]? = w.heap[b]?
    rw [Array.getElem?_append_left hb]
theorem catB (a b : List UInt8) : (⟨a.toArray⟩ : ByteArray) ++ ⟨b.toArray⟩ = ⟨(a ++ b).toArray⟩ := by
  apply ByteArray.ext
  simp [ByteArray.data_append]
theorem sizeB (a : List UInt8) : (⟨a.toArray⟩ : ByteArray).size = a.length := by simp [ByteArray.size]
theorem itoa_nat (n : Nat) : Lib.itoa (n : Int) = Lib.decDigits n := by
  unfold Lib.itoa
  rw [if_neg (by omega)]
  rfl
set_option maxRecDepth 100000 in
theorem name_any (n : Int) (w : World) (T : SgT0 w) : Calls Tryz.prog 61 #[.int .i64 n] w fun e w' => e = .returned (.string (nameS n)) ∧ Still w w' := by
  by_cases h0 : n < 0
  · have e : nameS n = ⟨#[]⟩ := by unfold nameS; rw [if_neg (by omega)]
    rw [e]
    clear e T
    go_enter Tryz.func61, Tryz.ntmps61
    go_wp2_with fail
    go_ret
    exact ⟨rfl, Still.refl _⟩
  by_cases h1 : 1048576 ≤ n
  · have e : nameS n = ⟨#[]⟩ := by unfold nameS; rw [if_neg (by omega)]
    rw [e]
    clear e T
    go_enter Tryz.func61, Tryz.ntmps61
    go_wp2_with fail
    go_ret
    exact ⟨rfl, Still.refl _⟩
  obtain ⟨m, rfl⟩ := Int.eq_ofNat_of_zero_le (show 0 ≤ n by omega)
  have hm : m < 1048576 := by omega
  have IT := Lib.hid (itoa_lib (m : Int) (by omega) (by omega) w T.pow)
  rw [itoa_nat] at IT
  have hl := Lib.decDigits_length m
  have hd := nDigits_le 6 m (by omega)
  have hd1 := Lib.nDigits_pos m
  obtain ⟨q, hq⟩ : ∃ q, q = 8 - (Lib.decDigits m).length := ⟨_, rfl⟩
  have RP := Lib.hid (fun W => repeat_lib ⟨#[48]⟩ q W (by omega) (by show 1 * q ≤ _; omega))
  have hpad := dig_pad 8 m (by omega)
  rw [← hq] at hpad
  have e1 : (Lib.repeatL (⟨#[48]⟩ : ByteArray).data.toList q) = List.replicate q 48 := by
    have := Lib.repeatL_replicate 48 1 q
    rw [Nat.mul_one] at this
    exact this
  rw [e1] at RP
  obtain ⟨X, hX⟩ : ∃ X : ByteArray, X = ⟨(Lib.decDigits m).toArray⟩ := ⟨_, rfl⟩
  obtain ⟨Y, hY⟩ : ∃ Y : ByteArray, Y = ⟨(List.replicate q (48 : UInt8)).toArray⟩ := ⟨_, rfl⟩
  rw [← hX] at IT
  rw [← hY] at RP
  have hXs : X.size = (Lib.decDigits m).length := by rw [hX]; simp [ByteArray.size]
  have hq2 : (8 : Int) - (X.size : Int) = (q : Int) := by omega
  have hYs : Y.size = q := by rw [hY, sizeB, List.length_replicate]
  obtain ⟨Z, hZ⟩ : ∃ Z : ByteArray, Z = (⟨#[115, 101, 103, 46]⟩ : ByteArray) ++ Y := ⟨_, rfl⟩
  have a1 : (⟨#[115, 101, 103, 46]⟩ : ByteArray) ++ Y = Z := hZ.symm
  have a2 : Z ++ X = nameS m := by
    rw [hZ, hY, hX, nameS_nat hm]
    have e2 := catB [115, 101, 103, 46] (List.replicate q 48)
    rw [show (⟨#[115, 101, 103, 46]⟩ : ByteArray) = ⟨[115, 101, 103, 46].toArray⟩ from rfl, e2, catB]
    unfold sgnB
    rw [← hpad, List.append_assoc]
  have z1 : (⟨#[115, 101, 103, 46]⟩ : ByteArray).size + Y.size ≤ 9223372036854775807 := by
    show 4 + Y.size ≤ _
    omega
  have z2 : Z.size + X.size ≤ 9223372036854775807 := by
    rw [hZ, ByteArray.size_append]
    show 4 + Y.size + X.size ≤ _
    omega
  obtain ⟨V, hV⟩ : ∃ V, V = nameS m := ⟨_, rfl⟩
  rw [← hV] at a2 ⊢
  clear hl hd hd1 hq hpad e1 hX hY hXs hYs hZ hV T h0
  go_enter Tryz.func61, Tryz.ntmps61
  go_wp2_with fail
  refine IT.out.mono ?_
  rintro e w1 ⟨rfl, k, os, rfl⟩
  obtain ⟨w1, hw1⟩ : ∃ w1, w1 = Sort.grow (w.drewN k) os := ⟨_, rfl⟩
  rw [← hw1]
  have S1 := Lib.hid (show Still w w1 by rw [hw1]; exact still_growN k os)
  clear hw1
  go_wp2_with fail
  refine (RP.out _).mono ?_
  rintro e w2 ⟨rfl, b2⟩
  have S2 := Lib.hid (show Still w w2 from Still.trans S1.out b2)
  clear b2
  go_wp2_with fail
  go_ret
  exact ⟨rfl, S2.out⟩
end Go.Proofs.YtblgphfdicffcaaGreatDoor

/- Contracts: the names of files of hints, by the program. It proves no statement. -/


namespace Go.Proofs.YtblgphfdicffcaaGreatDoor
open Go.RowKit
set_option linter.unusedVariables false
set_option linter.unusedSimpArgs false

set_option maxRecDepth 100000 in
theorem hname_any (f : List UInt8) (hf : f.length = 4) (n : Int) (w : World) (T : SgT0 w) : Calls Tryz.prog 102 #[.string ⟨f.toArray⟩, .int .i64 n] w fun e w' => e = .returned (.string (nameF f n)) ∧ Still w w' := by
  obtain ⟨F, hF⟩ : ∃ F : ByteArray, F = ⟨f.toArray⟩ := ⟨_, rfl⟩
  have hFs : F.size = 4 := by rw [hF, sizeB, hf]
  rw [← hF]
  by_cases h0 : n < 0
  · have e : nameF f n = ⟨#[]⟩ := nameF_out f (by omega)
    rw [e]
    clear e T hF hFs
    go_enter Tryz.func102, Tryz.ntmps102
    go_wp2_with fail
    go_ret
    exact ⟨rfl, Still.refl _⟩
  by_cases h1 : 1048576 ≤ n
  · have e : nameF f n = ⟨#[]⟩ := nameF_out f (by omega)
    rw [e]
    clear e T hF hFs
    go_enter Tryz.func102, Tryz.ntmps102
    go_wp2_with fail
    go_ret
    exact ⟨rfl, Still.refl _⟩
  obtain ⟨m, rfl⟩ := Int.eq_ofNat_of_zero_le (show 0 ≤ n by omega)
  have hm : m < 1048576 := by omega
  have IT := Lib.hid (itoa_lib (m : Int) (by omega) (by omega) w T.pow)
  rw [itoa_nat] at IT
  have hl := Lib.decDigits_length m
  have hd := nDigits_le 6 m (by omega)
  have hd1 := Lib.nDigits_pos m
  obtain ⟨q, hq⟩ : ∃ q, q = 8 - (Lib.decDigits m).length := ⟨_, rfl⟩
  have RP := Lib.hid (fun W => repeat_lib ⟨#[48]⟩ q W (by omega) (by show 1 * q ≤ _; omega))
  have hpad := dig_pad 8 m (by omega)
  rw [← hq] at hpad
  have e1 : (Lib.repeatL (⟨#[48]⟩ : ByteArray).data.toList q) = List.replicate q 48 := by
    have := Lib.repeatL_replicate 48 1 q
    rw [Nat.mul_one] at this
    exact this
  rw [e1] at RP
  obtain ⟨X, hX⟩ : ∃ X : ByteArray, X = ⟨(Lib.decDigits m).toArray⟩ := ⟨_, rfl⟩
  obtain ⟨Y, hY⟩ : ∃ Y : ByteArray, Y = ⟨(List.replicate q (48 : UInt8)).toArray⟩ := ⟨_, rfl⟩
  rw [← hX] at IT
  rw [← hY] at RP
  have hXs : X.size = (Lib.decDigits m).length := by rw [hX]; simp [ByteArray.size]
  have hq2 : (8 : Int) - (X.size : Int) = (q : Int) := by omega
  have hYs : Y.size = q := by rw [hY, sizeB, List.length_replicate]
  obtain ⟨Z, hZ⟩ : ∃ Z : ByteArray, Z = F ++ Y := ⟨_, rfl⟩
  have a1 : F ++ Y = Z := hZ.symm
  have a2 : Z ++ X = nameF f m := by
    rw [hZ, hY, hX, hF, nameF_nat f hm, catB, catB, ← hpad, List.append_assoc]
  have z1 : F.size + Y.size ≤ 9223372036854775807 := by
    omega
  have z2 : Z.size + X.size ≤ 9223372036854775807 := by
    rw [hZ, ByteArray.size_append]
    omega
  obtain ⟨V, hV⟩ : ∃ V, V = nameF f m := ⟨_, rfl⟩
  rw [← hV] at a2 ⊢
  clear hl hd hd1 hq hpad e1 hX hY hXs hYs hZ hV T h0 hF hf hFs
  go_enter Tryz.func102, Tryz.ntmps102
  go_wp2_with fail
  refine IT.out.mono ?_
  rintro e w1 ⟨rfl, k, os, rfl⟩
  obtain ⟨w1, hw1⟩ : ∃ w1, w1 = Sort.grow (w.drewN k) os := ⟨_, rfl⟩
  rw [← hw1]
  have S1 := Lib.hid (show Still w w1 by rw [hw1]; exact still_growN k os)
  clear hw1
  go_wp2_with fail
  refine (RP.out _).mono ?_
  rintro e w2 ⟨rfl, b2⟩
  have S2 := Lib.hid (show Still w w2 from Still.trans S1.out b2)
  clear b2
  go_wp2_with fail
  go_ret
  exact ⟨rfl, S2.out⟩
theorem idx_any (n : Int) (w : World) (T : SgT0 w) : Calls Tryz.prog 45 #[.int .i64 n] w fun e w' => e = .returned (.string (nameF idxF n)) ∧ Still w w' := by
  have NA := Lib.hid (hname_any idxF rfl n w T)
  obtain ⟨V, hV⟩ : ∃ V, V = nameF idxF n := ⟨_, rfl⟩
  rw [← hV] at NA ⊢
  clear T hV
  go_enter Tryz.func45, Tryz.ntmps45
  go_wp2_with fail
  refine NA.out.mono ?_
  rintro e w1 ⟨rfl, s1⟩
  have S1 := Lib.hid s1
  clear s1
  go_wp2_with fail
  go_ret
  exact ⟨rfl, S1.out⟩
theorem use_any (n : Int) (w : World) (T : SgT0 w) : Calls Tryz.prog 47 #[.int .i64 n] w fun e w' => e = .returned (.string (nameF useF n)) ∧ Still w w' := by
  have NA := Lib.hid (hname_any useF rfl n w T)
  obtain ⟨V, hV⟩ : ∃ V, V = nameF useF n := ⟨_, rfl⟩
  rw [← hV] at NA ⊢
  clear T hV
  go_enter Tryz.func47, Tryz.ntmps47
  go_wp2_with fail
  refine NA.out.mono ?_
  rintro e w1 ⟨rfl, s1⟩
  have S1 := Lib.hid s1
  clear s1
  go_wp2_with fail
  go_ret
  exact ⟨rfl, S1.out⟩
end Go.Proofs.YtblgphfdicffcaaGreatDoor

/- A block that is known whole. It proves no statement. -/



namespace Go.Proofs.YtblgphfdicffcaaGreatDoor
open Go.RowKit
set_option linter.unusedVariables false
set_option linter.unusedSimpArgs false

/-- A block that is known whole, not frozen. -/
def Blk (w : World) (g : Nat) (t : TypeId) (cs : Array Value) : Prop := w.heap[g]? = some (.cells cs t (0, 0))
section
variable {w w' : World} {g : Nat} {t : TypeId} {cs : Array Value}
theorem Blk.lt (h : Blk w g t cs) : g < w.heap.size := (Array.getElem?_eq_some_iff.1 h).1
theorem Blk.cell (h : Blk w g t cs) (i : Nat) : w.cell? ⟨g, i, none⟩ = cs[i]? := cell_of_row w g i cs t (0, 0) h
theorem Blk.frozen (h : Blk w g t cs) (i : Nat) : w.frozen? ⟨g, i, none⟩ = false := frozen_of_row w g i cs t h
theorem Blk.still (h : Blk w g t cs) (hs : Still w w') : Blk w' g t cs := (hs.block g h.lt).trans h
theorem Blk.setc (h : Blk w g t cs) (i : Nat) (u : Value) : Blk (w.setCell ⟨g, i, none⟩ u) g t (cs.setIfInBounds i u) := heap_setCell_same w g i cs t u h
theorem Blk.far (h : Blk w g t cs) {p : Addr} (hp : g ≠ p.block) (u : Value) : Blk (w.setCell p u) g t cs := (Below.heap_setCell w p u g hp).trans h
theorem Blk.new (w : World) (t : TypeId) (cs : Array Value) : Blk (w.alloc (.cells cs t)) w.heap.size t cs := heap_alloc_new w _
theorem Blk.alloc (h : Blk w g t cs) (o : Obj) : Blk (w.alloc o) g t cs := (Below.heap_alloc w o g h.lt).trans h
end

end Go.Proofs.YtblgphfdicffcaaGreatDoor

/- Maps of names to files (pointers), as the media's functions use them. It proves no statement. -/





namespace Go.Proofs.YtblgphfdicffcaaGreatDoor
open Go.RowKit Go.Maps Go.WideMaps
set_option linter.unusedVariables false
set_option linter.unusedSimpArgs false

/-- A file's number as a datum. -/
def fd (f : Int) : DataW Unit := .lit (.int .i64 f)
/-- How a pointer to a file reads. -/
def ptrElem (v : Value) : Option (DataW Unit × List MemPlace) :=
  match v with
  | .pointer none => some (fd (-1), [])
  | .pointer (some ⟨b, 0, none⟩) => some (fd (b : Int), [])
  | _ => none
/-- The pointer of a number. -/
def pa (f : Int) : Option Addr := if f < 0 then none else some ⟨f.toNat, 0, none⟩
def pv (f : Int) : Value := .pointer (pa f)
theorem pv_nil : pv (-1) = .pointer none := rfl
theorem pv_at (b : Nat) : pv (b : Int) = .pointer (some ⟨b, 0, none⟩) := by
  unfold pv pa
  rw [if_neg (by omega)]
  simp
theorem ptrElem_nil : ptrElem (.pointer none) = some (fd (-1), []) := rfl
theorem ptrElem_at (b : Nat) : ptrElem (.pointer (some ⟨b, 0, none⟩)) = some (fd (b : Int), []) := rfl
theorem ptrElem_inv {v : Value} {z : DataW Unit × List MemPlace} (h : ptrElem v = some z) : ∃ f : Int, (f = -1 ∨ 0 ≤ f) ∧ v = pv f ∧ z = (fd f, []) := by
  unfold ptrElem at h
  split at h
  · injection h with h
    exact ⟨-1, .inl rfl, rfl, h.symm⟩
  · rename_i b
    injection h with h
    exact ⟨(b : Int), .inr (by omega), (pv_at b).symm, h.symm⟩
  · cases h
theorem mapLaw : Keyed Tryz.prog 9 := string_keyed Tryz.underlying9
theorem zeroPtr (w : World) : (zeroValue 153).run Tryz.prog w = .ok (.pointer none) w := by kernel_rfl
theorem underNames : Tryz.prog.underlying 133 = some (.map 9 153) := Tryz.underlying133
/-- Block b is a map of names that reads as D. -/
abbrev NM (w : World) (b n : Nat) (D : DataW Unit) : Prop := w.ownsMap Tryz.prog 9 ptrElem b n D
/-- A name as a key. -/
def kl (s : ByteArray) : Lit := .string s.data.toList
theorem key_of (s : ByteArray) (hs : s.size ≤ maxLen) : keyOf Tryz.prog 9 (.string s) = some (kl s) := keyOf_string_mk Tryz.underlying9 hs
/-- The file under a name, or -1. -/
def look (D : DataW Unit) (s : ByteArray) : Int := match D.atKey (kl s) (fd (-1)) with | .lit (.int .i64 f) => f | _ => -1

section
variable {w : World} {ops : Array Oper} {rest : List Oper} {o : Oper} {a : Act} {Q : Exit → Act → World → Prop}
theorem wpList_look (hg : o.guard = none) (m x : Operand) (hop : o.op = Op.lookup 133 m x false)
    (b n : Nat) (D : DataW Unit) (hm : a.eval m = .map (some b)) (hown : NM w b n D) (s : ByteArray) (hx : a.eval x = .string s) (hs : s.size ≤ maxLen)
    (hK : ∀ f : Int, (f = -1 ∨ 0 ≤ f) → look D s = f → wpList Tryz.prog ops Q rest (a.put o.dst (pv f)) w) :
    wpList Tryz.prog ops Q (o :: rest) a w := by
  refine wpList_plain hg fun K' hK' => ?_
  obtain ⟨v, ps, hrun, hv⟩ := hown.lookup mapLaw underNames (zeroPtr w) ptrElem_nil (key_of s hs)
  obtain ⟨f, hf, rfl, hz⟩ := ptrElem_inv hv
  have hl : look D s = f := by
    unfold look
    have := congrArg Prod.fst hz
    simp only at this
    rw [this]
    rfl
  unfold Oper.wp
  simp [execOp, hop, hm, hx, hrun, Result.andThen]
  exact hK' _ _ (hK f hf hl)
end
end Go.Proofs.YtblgphfdicffcaaGreatDoor

/- Rows of namings, of changes, of calls: '[]T{x}', 'append(row, x)'. It proves no statement. -/





namespace Go.Proofs.YtblgphfdicffcaaGreatDoor
open Go.RowKit Go.Maps Go.WideMaps
set_option linter.unusedVariables false
set_option linter.unusedSimpArgs false

theorem Tryz.infoNm : (Tryz.prog.info? 214).map (fun i => (i.zero, i.size, i.bytes)) = some (some (.agg #[.string ⟨#[]⟩, .string ⟨#[]⟩, .pointer none]), 3, 40) := by kernel_rfl
set_option maxRecDepth 100000 in
theorem fill_Nm (s : ByteArray) (t : ByteArray) (p : Option Addr) : Instr.fill (fun i => some (i * 3, 3)) ((Array.range (1 * 3)).map ((Value.agg #[.string ⟨#[]⟩, .string ⟨#[]⟩, .pointer none]).cells[· % (Value.agg #[.string ⟨#[]⟩, .string ⟨#[]⟩, .pointer none]).cells.size]!)) [(0, .agg #[.string s, .string t, .pointer p])] = some #[.string s, .string t, .pointer p] := by kernel_rfl
theorem step_boxNm (w : World) {o : Oper} {a : Act} {K' : Act → World → Prop} {Q : Exit → Act → World → Prop} (x : Operand)
    (ho : o.op = .buildSlice 134 1 #[(0, x)]) (s : ByteArray) (t : ByteArray) (p : Option Addr) (hx : a.eval x = .agg #[.string s, .string t, .pointer p])
    (h : K' (a.put o.dst (.slice (some ⟨w.heap.size, 0, none⟩) 1 1)) (w.alloc (.cells #[.string s, .string t, .pointer p] 214))) : o.wp Tryz.prog a w K' Q := by
  obtain ⟨i0, hi, hz0, hz1, hz2⟩ := info_parts Tryz.infoNm
  refine wp_buildSlice 134 214 1 #[(0, x)] ho #[.string s, .string t, .pointer p] i0 _ Tryz.underlying134 hi hz0 (by rw [hz1]; decide) (by rw [hz1]; decide) ?_ h
  rw [hz1]
  simp only [List.map_toArray, List.map_cons, List.map_nil, hx]
  exact fill_Nm s t p
theorem wpList_boxNm (w : World) {ops : Array Oper} {rest : List Oper} {o : Oper} {a : Act} {Q : Exit → Act → World → Prop} (hgd : o.guard = none) (x : Operand)
    (ho : o.op = .buildSlice 134 1 #[(0, x)]) (s : ByteArray) (t : ByteArray) (p : Option Addr) (hx : a.eval x = .agg #[.string s, .string t, .pointer p])
    (h : wpList Tryz.prog ops Q rest (a.put o.dst (.slice (some ⟨w.heap.size, 0, none⟩) 1 1)) (w.alloc (.cells #[.string s, .string t, .pointer p] 214))) : wpList Tryz.prog ops Q (o :: rest) a w :=
  wpList_plain hgd fun _ hQ => step_boxNm w x ho s t p hx (hQ _ _ h)
theorem step_pushNm (w : World) {o : Oper} {a : Act} {K : Act → World → Prop} {Q : Exit → Act → World → Prop} (s x : Operand)
    (ho : o.op = .call { callee := .builtin .append, args := #[s, x], argTypes := #[134, 134] })
    (base : Nat) (v : Value) (n : Nat) (xs : List Value) (hs : a.eval s = v) (hown : w.ownsRow base 214 3 v n xs) (gb : Nat) (cs : List Value)
    (hx : a.eval x = .slice (some ⟨gb, 0, none⟩) 1 1) (hc : ∀ q u, cs[q]? = some u → w.cell? ⟨gb, q, none⟩ = some u) (hc6 : cs.length = 3) (h1 : ∀ u ∈ cs, u.oneCell' = true) (hn : n ≤ 1048576) (hbase : base ≤ w.heap.size)
    (h : ∀ v' w', w'.ownsRow base 214 3 v' (n + 1) (xs ++ cs) → w.grownBy w' v.ownBlock → (v'.ownBlock = v.ownBlock ∨ v'.ownBlock = some w.heap.size) → K (a.put o.dst v') w') :
    o.wp Tryz.prog a w K Q := by
  obtain ⟨i0, hi, hz0, hz1, hz2⟩ := info_parts Tryz.infoNm
  obtain ⟨v', w', hrun, h2, h3, _, h5⟩ := run_append_own_at (P := Tryz.prog) w base 134 o.type 214 i0 _ 3 40 Tryz.underlying134 hi hz0 hz1 hz2 rfl (by decide) v n xs hown ⟨gb, 0, none⟩ 1 1 cs (by rw [hc6]) (fun j u hu => by
    rw [Addr.add_mid, Nat.zero_add]; exact hc j u hu) h1 (by unfold maxLen; omega) (by omega) hbase
  unfold Oper.wp execOp
  simp only [ho, resolve, invoke, builtin, Sem.run_bind, Sem.run_pure, Result.andThen_ok, List.map_toArray, List.map_cons, List.map_nil, hs, hx, hrun]
  exact h v' w' h2 h3 h5
theorem wpList_pushNm (w : World) {ops : Array Oper} {rest : List Oper} {o : Oper} {a : Act} {Q : Exit → Act → World → Prop} (hgd : o.guard = none) (s x : Operand)
    (ho : o.op = .call { callee := .builtin .append, args := #[s, x], argTypes := #[134, 134] })
    (base : Nat) (v : Value) (n : Nat) (xs : List Value) (hs : a.eval s = v) (hown : w.ownsRow base 214 3 v n xs) (gb : Nat) (cs : List Value)
    (hx : a.eval x = .slice (some ⟨gb, 0, none⟩) 1 1) (hc : ∀ q u, cs[q]? = some u → w.cell? ⟨gb, q, none⟩ = some u) (hc6 : cs.length = 3) (h1 : ∀ u ∈ cs, u.oneCell' = true) (hn : n ≤ 1048576) (hbase : base ≤ w.heap.size)
    (h : ∀ v' w', w'.ownsRow base 214 3 v' (n + 1) (xs ++ cs) → w.grownBy w' v.ownBlock → (v'.ownBlock = v.ownBlock ∨ v'.ownBlock = some w.heap.size) → wpList Tryz.prog ops Q rest (a.put o.dst v') w') :
    wpList Tryz.prog ops Q (o :: rest) a w :=
  wpList_plain hgd fun _ hQ => step_pushNm w s x ho base v n xs hs hown gb cs hx hc hc6 h1 hn hbase fun v' w' h2 h3 h5 => hQ _ _ (h v' w' h2 h3 h5)

theorem Tryz.infoCh : (Tryz.prog.info? 218).map (fun i => (i.zero, i.size, i.bytes)) = some (some (.agg #[.int .i64 0, .slice none 0 0]), 2, 32) := by kernel_rfl
set_option maxRecDepth 100000 in
theorem fill_Ch (e : Int) (A : Option Addr) (n : Nat) (c : Nat) : Instr.fill (fun i => some (i * 2, 2)) ((Array.range (1 * 2)).map ((Value.agg #[.int .i64 0, .slice none 0 0]).cells[· % (Value.agg #[.int .i64 0, .slice none 0 0]).cells.size]!)) [(0, .agg #[.int .i64 e, .slice A n c])] = some #[.int .i64 e, .slice A n c] := by kernel_rfl
theorem step_boxCh (w : World) {o : Oper} {a : Act} {K' : Act → World → Prop} {Q : Exit → Act → World → Prop} (x : Operand)
    (ho : o.op = .buildSlice 199 1 #[(0, x)]) (e : Int) (A : Option Addr) (n : Nat) (c : Nat) (hx : a.eval x = .agg #[.int .i64 e, .slice A n c])
    (h : K' (a.put o.dst (.slice (some ⟨w.heap.size, 0, none⟩) 1 1)) (w.alloc (.cells #[.int .i64 e, .slice A n c] 218))) : o.wp Tryz.prog a w K' Q := by
  obtain ⟨i0, hi, hz0, hz1, hz2⟩ := info_parts Tryz.infoCh
  refine wp_buildSlice 199 218 1 #[(0, x)] ho #[.int .i64 e, .slice A n c] i0 _ Tryz.underlying199 hi hz0 (by rw [hz1]; decide) (by rw [hz1]; decide) ?_ h
  rw [hz1]
  simp only [List.map_toArray, List.map_cons, List.map_nil, hx]
  exact fill_Ch e A n c
theorem wpList_boxCh (w : World) {ops : Array Oper} {rest : List Oper} {o : Oper} {a : Act} {Q : Exit → Act → World → Prop} (hgd : o.guard = none) (x : Operand)
    (ho : o.op = .buildSlice 199 1 #[(0, x)]) (e : Int) (A : Option Addr) (n : Nat) (c : Nat) (hx : a.eval x = .agg #[.int .i64 e, .slice A n c])
    (h : wpList Tryz.prog ops Q rest (a.put o.dst (.slice (some ⟨w.heap.size, 0, none⟩) 1 1)) (w.alloc (.cells #[.int .i64 e, .slice A n c] 218))) : wpList Tryz.prog ops Q (o :: rest) a w :=
  wpList_plain hgd fun _ hQ => step_boxCh w x ho e A n c hx (hQ _ _ h)
theorem step_pushCh (w : World) {o : Oper} {a : Act} {K : Act → World → Prop} {Q : Exit → Act → World → Prop} (s x : Operand)
    (ho : o.op = .call { callee := .builtin .append, args := #[s, x], argTypes := #[199, 199] })
    (base : Nat) (v : Value) (n : Nat) (xs : List Value) (hs : a.eval s = v) (hown : w.ownsRow base 218 2 v n xs) (gb : Nat) (cs : List Value)
    (hx : a.eval x = .slice (some ⟨gb, 0, none⟩) 1 1) (hc : ∀ q u, cs[q]? = some u → w.cell? ⟨gb, q, none⟩ = some u) (hc6 : cs.length = 2) (h1 : ∀ u ∈ cs, u.oneCell' = true) (hn : n ≤ 1048576) (hbase : base ≤ w.heap.size)
    (h : ∀ v' w', w'.ownsRow base 218 2 v' (n + 1) (xs ++ cs) → w.grownBy w' v.ownBlock → (v'.ownBlock = v.ownBlock ∨ v'.ownBlock = some w.heap.size) → K (a.put o.dst v') w') :
    o.wp Tryz.prog a w K Q := by
  obtain ⟨i0, hi, hz0, hz1, hz2⟩ := info_parts Tryz.infoCh
  obtain ⟨v', w', hrun, h2, h3, _, h5⟩ := run_append_own_at (P := Tryz.prog) w base 199 o.type 218 i0 _ 2 32 Tryz.underlying199 hi hz0 hz1 hz2 rfl (by decide) v n xs hown ⟨gb, 0, none⟩ 1 1 cs (by rw [hc6]) (fun j u hu => by
    rw [Addr.add_mid, Nat.zero_add]; exact hc j u hu) h1 (by unfold maxLen; omega) (by omega) hbase
  unfold Oper.wp execOp
  simp only [ho, resolve, invoke, builtin, Sem.run_bind, Sem.run_pure, Result.andThen_ok, List.map_toArray, List.map_cons, List.map_nil, hs, hx, hrun]
  exact h v' w' h2 h3 h5
theorem wpList_pushCh (w : World) {ops : Array Oper} {rest : List Oper} {o : Oper} {a : Act} {Q : Exit → Act → World → Prop} (hgd : o.guard = none) (s x : Operand)
    (ho : o.op = .call { callee := .builtin .append, args := #[s, x], argTypes := #[199, 199] })
    (base : Nat) (v : Value) (n : Nat) (xs : List Value) (hs : a.eval s = v) (hown : w.ownsRow base 218 2 v n xs) (gb : Nat) (cs : List Value)
    (hx : a.eval x = .slice (some ⟨gb, 0, none⟩) 1 1) (hc : ∀ q u, cs[q]? = some u → w.cell? ⟨gb, q, none⟩ = some u) (hc6 : cs.length = 2) (h1 : ∀ u ∈ cs, u.oneCell' = true) (hn : n ≤ 1048576) (hbase : base ≤ w.heap.size)
    (h : ∀ v' w', w'.ownsRow base 218 2 v' (n + 1) (xs ++ cs) → w.grownBy w' v.ownBlock → (v'.ownBlock = v.ownBlock ∨ v'.ownBlock = some w.heap.size) → wpList Tryz.prog ops Q rest (a.put o.dst v') w') :
    wpList Tryz.prog ops Q (o :: rest) a w :=
  wpList_plain hgd fun _ hQ => step_pushCh w s x ho base v n xs hs hown gb cs hx hc hc6 h1 hn hbase fun v' w' h2 h3 h5 => hQ _ _ (h v' w' h2 h3 h5)
end Go.Proofs.YtblgphfdicffcaaGreatDoor

/- Rows outside a block that is written. It proves no statement. -/

namespace Go.Proofs.YtblgphfdicffcaaGreatDoor
open Go.RowKit
set_option linter.unusedVariables false

theorem grownBy_drew {w w' : World} {r : Option Nat} (h : w.grownBy w' r) : w.grownBy w'.drew r := ⟨h.os, h.tape, h.output, h.size, h.block⟩
theorem grownBy_drewN {w w' : World} {r : Option Nat} (h : w.grownBy w' r) (n : Nat) : w.grownBy (w'.drewN n) r := ⟨h.os, h.tape, h.output, h.size, h.block⟩
theorem grownBy_set (w : World) (g o : Nat) (u : Value) : w.grownBy (w.setCell ⟨g, o, none⟩ u) (some g) := ⟨rfl, rfl, rfl, by simp [World.setCell], fun k _ hk => Below.heap_setCell _ _ _ _ (fun e => hk (by rw [e]))⟩
/-- A row that reads and lies outside block g. -/
def Far (g : Nat) (A : Option Addr) (n : Nat) : Prop := ∀ ad, A = some ad → 0 < n → ad.block ≠ g
theorem Reads.grown {w w' : World} {B g n : Nat} {A : Option Addr} {l : List UInt8} (h : Reads w B A n l) (hf : Far g A n) (hg : w.grownBy w' (some g)) : Reads w' B A n l := by
  refine ⟨h.1, fun hn => ?_⟩
  obtain ⟨b, o, e, hb, hc⟩ := h.2 hn
  refine ⟨b, o, e, hb, fun i hi => ?_⟩
  have hne := hf _ e hn
  rw [hg.cell_far ⟨b, o + i, none⟩ (World.block_lt_of_cell? w _ (hc i hi)) (fun e2 => hne (Option.some.inj e2))]
  exact hc i hi
theorem still_grown {w w1 w2 : World} {g : Nat} (s : Still w w1) (gr : w1.grownBy w2 (some g)) (hg : w.heap.size ≤ g) : Still w w2 := s.grown gr s.size (fun k hk => by cases hk; exact hg)
theorem far_low {w : World} {B g n : Nat} {A : Option Addr} {l : List UInt8} (h : Reads w B A n l) (hB : B ≤ g) : Far g A n := by
  intro ad e hn
  obtain ⟨b, o, e2, hb, _⟩ := h.2 hn
  rw [e2] at e
  cases e
  show b ≠ g
  omega
theorem far_own {w : World} {base g n c : Nat} {A : Option Addr} {xs : List Value} (h : w.ownsRow base 5 1 (.slice A n c) n xs) (hg : g < base) : Far g A n := by
  intro ad e hn
  subst e
  rcases h.2 with ⟨_, h0⟩ | ⟨b, cap, cur, hv, hb, _⟩
  · omega
  · injection hv with hv1
    cases hv1
    show b ≠ g
    omega
end Go.Proofs.YtblgphfdicffcaaGreatDoor

/- Contract: a change of names, done. It proves no statement. -/


namespace Go.Proofs.YtblgphfdicffcaaGreatDoor
open Go.RowKit Go.Maps Go.WideMaps
set_option linter.unusedVariables false
set_option linter.unusedSimpArgs false

/-- What a change of names makes of a map. -/
def nmDo (D : DataW Unit) (s t : ByteArray) (f : Int) : DataW Unit := if f < 0 then D.del (kl s) else (D.del (kl s)).put (kl t) (fd f)
theorem box_kept {w w1 : World} {cs : Array Value} {ty : TypeId} {b : Nat} (ht : (w.alloc (.cells cs ty)).grownBy w1 (some b)) (hb : b < w.heap.size) (i : Nat) : w1.cell? ⟨w.heap.size, i, none⟩ = cs[i]? := by
  have h1 := ht.block w.heap.size (by simp) (fun e => by injection e with e; omega)
  exact cell_of_row w1 w.heap.size i cs ty (0, 0) (h1.trans (heap_alloc_new w _))
set_option maxRecDepth 100000 in
set_option maxHeartbeats 800000 in
theorem naming_do (s t : ByteArray) (f : Int) (hf : f = -1 ∨ 0 ≤ f) (b n : Nat) (D : DataW Unit) (w : World) (hown : NM w b n D) (hn : n ≤ 1048576) (hs : s.size ≤ maxLen) (ht : t.size ≤ maxLen) :
    Calls Tryz.prog 130 #[.agg #[.string s, .string t, pv f], .map (some b)] w fun e w' => e = .returned (.tuple #[]) ∧ NM w' b (n + 1) (nmDo D s t f) ∧ w.grownBy w' (some b) := by
  have hk1 := key_of s hs
  have hk2 := key_of t ht
  have HM := Lib.hid (show n < maxLen by unfold maxLen; omega)
  have HO := Lib.hid (fun ob => hown.alloc ob)
  have HB := Lib.hid (show b < w.heap.size from hown.lt)
  clear hown hn
  rcases hf with rfl | hf
  · have E : nmDo D s t (-1) = D.del (kl s) := by unfold nmDo; rw [if_pos (by decide)]
    rw [E, pv_nil]
    clear E
    go_enter Tryz.func130, Tryz.ntmps130
    go_wp2_with (at_delete; go_must (refine wpList_delete_own _ rfl _ _ 133 9 rfl 153 mapLaw underNames ptrElem b n D rfl (HO.out _) _ _ rfl hk1 ?_; intro w1 hown1 hturn1; have q2 : w1.cell? ⟨w.heap.size, 2, none⟩ = some (.pointer none) := box_kept hturn1.grown HB.out 2))
    go_end0
    exact ⟨rfl, hown1.mono (by omega), (World.grownBy_alloc w _ _).trans hturn1.grown⟩
  · obtain ⟨m, rfl⟩ := Int.eq_ofNat_of_zero_le hf
    have E : nmDo D s t (m : Int) = (D.del (kl s)).put (kl t) (fd (m : Int)) := by unfold nmDo; rw [if_neg (by omega)]
    rw [E, pv_at]
    clear E hf
    go_enter Tryz.func130, Tryz.ntmps130
    go_wp2_with (first
      | (at_delete; go_must (refine wpList_delete_own _ rfl _ _ 133 9 rfl 153 mapLaw underNames ptrElem b n D rfl (HO.out _) _ _ rfl hk1 ?_; intro w1 hown1 hturn1; have q2 : w1.cell? ⟨w.heap.size, 2, none⟩ = some (.pointer (some ⟨m, 0, none⟩)) := box_kept hturn1.grown HB.out 2; have q1 : w1.cell? ⟨w.heap.size, 1, none⟩ = some (.string t) := box_kept hturn1.grown HB.out 1))
      | (at_mapUpdate; go_must (refine wpList_mapUpdate_own _ rfl _ _ _ 133 rfl 9 153 mapLaw underNames ptrElem b n _ rfl hown1 HM.out _ _ (kl t) rfl rfl hk2 (fd (m : Int)) [] (ptrElem_at m) ?_; intro w2 hown2 hgrow2)))
    go_end0
    exact ⟨rfl, hown2, ((World.grownBy_alloc w _ _).trans hturn1.grown).trans hgrow2⟩
end Go.Proofs.YtblgphfdicffcaaGreatDoor

/- Contracts: a medium that New made: New, works, step. It proves no statement. -/


namespace Go.Proofs.YtblgphfdicffcaaGreatDoor
open Go.RowKit Go.Maps Go.WideMaps
set_option linter.unusedVariables false
set_option linter.unusedSimpArgs false

/-- A medium's block. -/
def MedB (w : World) (g : Nat) (room : Int) (bn bf : Nat) (wv : Value) (left : Int) (off : Bool) : Prop := Blk w g 136 #[.int .i64 room, .map (some bn), .map (some bf), wv, .int .i64 left, .bool off, .bool true]
theorem MedB.still {w w' : World} {g : Nat} {room : Int} {bn bf : Nat} {wv : Value} {left : Int} {off : Bool} (h : MedB w g room bn bf wv left off) (s : Still w w') : MedB w' g room bn bf wv left off := Blk.still h s
theorem isRoom_any (x : Int) (w : World) : Calls Tryz.prog 66 #[.int .i64 x] w fun e w' => e = .returned (.bool (decide (0 ≤ x ∧ x ≤ 16777216))) ∧ w = w' := by
  by_cases h1 : 0 ≤ x
  · by_cases h2 : x ≤ 16777216
    · rw [decide_eq_true ⟨h1, h2⟩]
      go_enter Tryz.func66, Tryz.ntmps66
      go_wp2_with fail
      go_ret
      exact ⟨rfl, rfl⟩
    · rw [decide_eq_false (fun h => h2 h.2)]
      go_enter Tryz.func66, Tryz.ntmps66
      go_wp2_with fail
      go_ret
      exact ⟨by first | rfl | (simp; omega), rfl⟩
  · rw [decide_eq_false (fun h => h1 h.1)]
    go_enter Tryz.func66, Tryz.ntmps66
    go_wp2_with fail
    go_ret
    exact ⟨by first | rfl | (simp; omega), rfl⟩
theorem new_no (x : Int) (w : World) (h : ¬ (0 ≤ x ∧ x ≤ 16777216)) : Calls Tryz.prog 26 #[.int .i64 x] w fun e w' => e = .returned (.tuple #[.pointer none, .int .i64 2]) ∧ w = w' := by
  have HR := Lib.hid (isRoom_any x w)
  rw [decide_eq_false h] at HR
  clear h
  go_enter Tryz.func26, Tryz.ntmps26
  go_wp2_with fail
  refine HR.out.mono ?_
  rintro e w1 ⟨rfl, rfl⟩
  go_wp2_with fail
  go_ret2
  exact ⟨rfl, rfl⟩
set_option maxRecDepth 100000 in
set_option maxHeartbeats 800000 in
theorem new_yes (x : Int) (w : World) (h : 0 ≤ x ∧ x ≤ 16777216) : Calls Tryz.prog 26 #[.int .i64 x] w fun e w' => ∃ g bn bf, e = .returned (.tuple #[.pointer (some ⟨g, 0, none⟩), .int .i64 0]) ∧ MedB w' g x bn bf (.slice none 0 0) (-1) false ∧ NM w' bn 0 (.map []) ∧ NM w' bf 0 (.map []) ∧ w.heap.size ≤ bn ∧ w.heap.size ≤ bf ∧ w.heap.size ≤ g ∧ bn ≠ bf ∧ Still w w' := by
  have HR := Lib.hid (isRoom_any x w)
  rw [decide_eq_true h] at HR
  have hmm := @run_makeMap Tryz.prog
  clear h
  go_enter Tryz.func26, Tryz.ntmps26
  go_wp2_with fail
  refine HR.out.mono ?_
  rintro e w1 ⟨rfl, rfl⟩
  go_wp2_with fail
  go_ret2
  have S1 : Still w (w.alloc (.map #[] 0)) := (Still.refl w).alloc (Nat.le_refl _) _
  have S2 : Still (w.alloc (.map #[] 0)) ((w.alloc (.map #[] 0)).alloc (.map #[] 0)) := (Still.refl _).alloc (Nat.le_refl _) _
  have e1 : (w.alloc (.map #[] 0)).heap.size = w.heap.size + 1 := by simp
  have e2 : ((w.alloc (.map #[] 0)).alloc (.map #[] 0)).heap.size = w.heap.size + 1 + 1 := by simp
  refine ⟨w.heap.size + 1 + 1, w.heap.size, w.heap.size + 1, rfl, ?_, (((World.ownsMap_made w _ _ _).alloc _).alloc _), ?_, Nat.le_refl _, by omega, by omega, by omega, (S1.trans S2).trans ((Still.refl _).alloc (Nat.le_refl _) _)⟩
  · have h := Blk.new ((w.alloc (.map #[] 0)).alloc (.map #[] 0)) 136 #[.int .i64 x, .map (some w.heap.size), .map (some (w.heap.size + 1)), .slice none 0 0, .int .i64 (-1), .bool false, .bool true]
    rw [e2] at h
    exact h
  · have h := (World.ownsMap_made (w.alloc (.map #[] 0)) Tryz.prog 9 ptrElem).alloc (.cells #[.int .i64 x, .map (some w.heap.size), .map (some (w.heap.size + 1)), .slice none 0 0, .int .i64 (-1), .bool false, .bool true] 136)
    rw [e1] at h
    exact h
theorem works_yes {w : World} {g : Nat} {room : Int} {bn bf : Nat} {wv : Value} {left : Int} {off : Bool} (h : MedB w g room bn bf wv left off) :
    Calls Tryz.prog 99 #[.pointer (some ⟨g, 0, none⟩)] w fun e w' => e = .returned (.int .i64 (if off = true then 12 else 0)) ∧ w = w' := by
  have c5 : w.cell? ⟨g, 5, none⟩ = some (.bool off) := Blk.cell h 5
  have c6 : w.cell? ⟨g, 6, none⟩ = some (.bool true) := Blk.cell h 6
  have HB := Lib.hid h
  clear h
  cases off
  · go_enter Tryz.func99, Tryz.ntmps99
    go_wp2
    go_ret
    exact ⟨rfl, rfl⟩
  · go_enter Tryz.func99, Tryz.ntmps99
    go_wp2
    go_ret
    exact ⟨rfl, rfl⟩
theorem MedB.setc {w : World} {g : Nat} {room : Int} {bn bf : Nat} {wv : Value} {left : Int} {off : Bool} (h : MedB w g room bn bf wv left off) (left' : Int) : MedB (w.setCell ⟨g, 4, none⟩ (.int .i64 left')) g room bn bf wv left' off := Blk.setc h 4 _
theorem MedB.setoff {w : World} {g : Nat} {room : Int} {bn bf : Nat} {wv : Value} {left : Int} {off : Bool} (h : MedB w g room bn bf wv left off) (off' : Bool) : MedB (w.setCell ⟨g, 5, none⟩ (.bool off')) g room bn bf wv left off' := Blk.setc h 5 _
theorem MedB.setwait {w : World} {g : Nat} {room : Int} {bn bf : Nat} {wv : Value} {left : Int} {off : Bool} (h : MedB w g room bn bf wv left off) (wv' : Value) : MedB (w.setCell ⟨g, 3, none⟩ wv') g room bn bf wv' left off := Blk.setc h 3 _
/-- What a step leaves: the counter, the power, the error. -/
def stepR (left : Int) (off : Bool) : Int × Bool × Int := if left = 0 then (left, true, 12) else if 0 < left then (left - 1, off, 0) else (left, off, 0)
theorem step_yes {w : World} {g : Nat} {room : Int} {bn bf : Nat} {wv : Value} {left : Int} {off : Bool} (h : MedB w g room bn bf wv left off) (hl : left ≤ 9223372036854775807) :
    Calls Tryz.prog 145 #[.pointer (some ⟨g, 0, none⟩)] w fun e w' => e = .returned (.int .i64 (stepR left off).2.2) ∧ MedB w' g room bn bf wv (stepR left off).1 (stepR left off).2.1 ∧ w.grownBy w' (some g) := by
  have c4 : w.cell? ⟨g, 4, none⟩ = some (.int .i64 left) := Blk.cell h 4
  have c5 : w.cell? ⟨g, 5, none⟩ = some (.bool off) := Blk.cell h 5
  have f4 := Blk.frozen h 4
  have f5 := Blk.frozen h 5
  by_cases h0 : left = 0
  · have E : stepR left off = (left, true, 12) := by unfold stepR; rw [if_pos h0]
    rw [E]
    have M := Lib.hid (h.setoff true)
    subst h0
    clear h E
    go_enter Tryz.func145, Tryz.ntmps145
    go_wp2
    go_ret
    exact ⟨rfl, M.out, grownBy_set _ _ _ _⟩
  · have b0 : (left == 0) = false := by simpa using h0
    by_cases h1 : 0 < left
    · have E : stepR left off = (left - 1, off, 0) := by unfold stepR; rw [if_neg h0, if_pos h1]
      rw [E]
      have M := Lib.hid (h.setc (left - 1))
      clear h E
      go_enter Tryz.func145, Tryz.ntmps145
      go_wp2
      go_ret
      exact ⟨rfl, M.out, grownBy_set _ _ _ _⟩
    · have E : stepR left off = (left, off, 0) := by unfold stepR; rw [if_neg h0, if_neg h1]
      rw [E]
      have M := Lib.hid h
      clear h E
      go_enter Tryz.func145, Tryz.ntmps145
      go_wp2
      go_ret
      exact ⟨rfl, M.out, World.grownBy.refl _ _⟩
end Go.Proofs.YtblgphfdicffcaaGreatDoor

/- Worlds in which only some blocks have turned. It proves no statement. -/


namespace Go.Proofs.YtblgphfdicffcaaGreatDoor
open Go.RowKit
set_option linter.unusedVariables false
set_option linter.unusedSimpArgs false

/-- From w to w' only blocks of S, and new ones, have turned. -/
structure Chg (w w' : World) (S : Nat → Prop) : Prop where
  os : w'.os = w.os
  tape : w'.tape = w.tape
  output : w'.output = w.output
  size : w.heap.size ≤ w'.heap.size
  block : ∀ k, k < w.heap.size → ¬ S k → w'.heap[k]? = w.heap[k]?
theorem Chg.refl (w : World) (S : Nat → Prop) : Chg w w S := ⟨rfl, rfl, rfl, Nat.le_refl _, fun _ _ _ => rfl⟩
theorem Chg.trans {a b c : World} {S T : Nat → Prop} (h : Chg a b S) (k : Chg b c T) (hT : ∀ x, x < a.heap.size → T x → S x) : Chg a c S :=
  ⟨k.os.trans h.os, k.tape.trans h.tape, k.output.trans h.output, Nat.le_trans h.size k.size, fun x hx hS => (k.block x (Nat.lt_of_lt_of_le hx h.size) (fun ht => hS (hT x hx ht))).trans (h.block x hx hS)⟩
theorem Chg.mono {a b : World} {S T : Nat → Prop} (h : Chg a b S) (hT : ∀ x, x < a.heap.size → S x → T x) : Chg a b T := ⟨h.os, h.tape, h.output, h.size, fun x hx hS => h.block x hx (fun hs => hS (hT x hx hs))⟩
theorem Chg.of_grown {a b : World} {r : Option Nat} (h : a.grownBy b r) {S : Nat → Prop} (hr : ∀ k, r = some k → k < a.heap.size → S k) : Chg a b S := ⟨h.os, h.tape, h.output, h.size, fun k hk hS => h.block k hk (fun e => hS (hr k e.symm hk))⟩
theorem Chg.of_still {a b : World} (h : Still a b) (S : Nat → Prop) : Chg a b S := ⟨h.os, h.tape, h.output, h.size, fun k hk _ => h.block k hk⟩
theorem Chg.of_below {a b : World} {lo : Nat} (h : Below lo a b) {S : Nat → Prop} (hS : ∀ k, lo ≤ k → k < a.heap.size → S k) : Chg a b S := ⟨h.os, h.tape, h.output, h.size, fun k hk hn => h.block k (by
  rcases Nat.lt_or_ge k lo with h1 | h1
  · exact h1
  · exact absurd (hS k h1 hk) hn)⟩
theorem Chg.below {a b : World} {S : Nat → Prop} (h : Chg a b S) {lo : Nat} (hlo : lo ≤ a.heap.size) (hS : ∀ k, S k → lo ≤ k) : Below lo a b := ⟨h.os, h.tape, h.output, h.size, fun k hk => h.block k (by omega) (fun hs => by have := hS k hs; omega)⟩
theorem Chg.still {a b w0 : World} {S : Nat → Prop} (h : Chg a b S) (s : Still w0 a) (hS : ∀ k, S k → w0.heap.size ≤ k) : Still w0 b := Below.trans s (h.below s.size hS)
theorem Chg.drew (w : World) (S : Nat → Prop) : Chg w w.drew S := ⟨rfl, rfl, rfl, Nat.le_refl _, fun _ _ _ => rfl⟩
/-- What stays. -/
theorem Chg.blk {a b : World} {S : Nat → Prop} (h : Chg a b S) {g : Nat} {t : TypeId} {cs : Array Value} (hb : Blk a g t cs) (hS : ¬ S g) : Blk b g t cs := (h.block g hb.lt hS).trans hb
theorem Chg.own {a b : World} {S : Nat → Prop} (h : Chg a b S) {base z n : Nat} {e : TypeId} {v : Value} {xs : List Value} (ho : a.ownsRow base e z v n xs) (hS : ∀ k, v.ownBlock = some k → ¬ S k) : b.ownsRow base e z v n xs := by
  refine ⟨ho.1, ?_⟩
  rcases ho.2 with h0 | ⟨g, c, cur, h1, h2, h3, h4⟩
  · exact .inl h0
  · subst h1
    exact .inr ⟨g, c, cur, rfl, h2, (h.block g (Array.getElem?_eq_some_iff.1 h3).1 (hS g rfl)).trans h3, h4⟩
theorem Chg.reads {a b : World} {S : Nat → Prop} (h : Chg a b S) {B n : Nat} {A : Option Addr} {l : List UInt8} (hr : Reads a B A n l) (hB : B ≤ a.heap.size) (hS : ∀ ad, A = some ad → ¬ S ad.block) : Reads b B A n l := by
  refine ⟨hr.1, fun hn => ?_⟩
  obtain ⟨bb, o, e, hlt, hc⟩ := hr.2 hn
  refine ⟨bb, o, e, hlt, fun i hi => ?_⟩
  exact (World.cell?_of_block (w := a) (h.block bb (by omega) (hS _ e))).trans (hc i hi)
end Go.Proofs.YtblgphfdicffcaaGreatDoor
