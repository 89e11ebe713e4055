/- Contracts and facts, several texts in one. It proves no statement. -/
import Derived.Test.YtljacdbdjacbkaaGreatDoorSnz
import Derived.Deep.LoopGhost
import Derived.Lib.LaidTab
import Derived.BigQuiet
import Derived.Laws.Bits128
import Derived.BigFrame
import Derived.LaidMore
import Derived.Stop.Joined
import Derived.Stop.LaidErr
import Derived.Lib.ItoaNum
import Derived.Shelf.Strconv.Itoa1

/- Contracts: sums of texts, by the program's tables and by the document. It proves no statement. -/






namespace Go.Proofs.YtljacdbdjacbkaaGreatDoor
open Go.RowKit
set_option linter.unusedVariables false
set_option linter.unusedSimpArgs false

/-! ### Plain facts -/
def lowT : List Int := [0, 1996959894, 3993919788, 2567524794, 124634137, 1886057615, 3915621685, 2657392035, 249268274, 2044508324, 3772115230, 2547177864, 162941995, 2125561021, 3887607047, 2428444049]
def highT : List Int := [0, 498536548, 997073096, 651767980, 1994146192, 1802195444, 1303535960, 1342533948, 3988292384, 4027552580, 3604390888, 3412177804, 2607071920, 2262029012, 2685067896, 3183342108]
def lowN (i : Nat) : Nat := (lowT.getD i 0).toNat
def highN (i : Nat) : Nat := (highT.getD i 0).toNat
theorem lowN_lt (i : Nat) (h : i < 16) : lowN i < 4294967296 := (show ∀ i, i < 16 → lowN i < 4294967296 by decide +kernel) i h
theorem highN_lt (i : Nat) (h : i < 16) : highN i < 4294967296 := (show ∀ i, i < 16 → highN i < 4294967296 by decide +kernel) i h
theorem lowT_cast (i : Nat) (h : i < 16) : lowT.getD i 0 = (lowN i : Int) := (show ∀ i, i < 16 → lowT.getD i 0 = (lowN i : Int) by decide +kernel) i h
theorem highT_cast (i : Nat) (h : i < 16) : highT.getD i 0 = (highN i : Int) := (show ∀ i, i < 16 → highT.getD i 0 = (highN i : Int) by decide +kernel) i h
theorem tab_byte (y : Nat) (h : y < 256) : nxs 8 y = lowN (y % 16) ^^^ highN (y / 16) := (show ∀ y, y < 256 → nxs 8 y = lowN (y % 16) ^^^ highN (y / 16) by decide +kernel) y h
theorem nx_double (x : Nat) : nx (2 * x) = x := by
  unfold nx
  rw [show 2 * x % 2 = 0 by omega, show 2 * x / 2 = x by omega]
  simp
theorem nxs_up (k x : Nat) : nxs k (2 ^ k * x) = x := by
  induction k generalizing x with
  | zero => simp [nxs]
  | succ k ih => rw [nxs, Nat.pow_succ, Nat.mul_comm (2 ^ k) 2, Nat.mul_assoc, nx_double, ih]
/-- A register's lowest byte parted from the rest. -/
theorem xor_parts (k x : Nat) : x = 2 ^ k * (x / 2 ^ k) ^^^ x % 2 ^ k := by
  apply Nat.eq_of_testBit_eq
  intro i
  rw [Nat.testBit_xor, Nat.mul_comm, Nat.testBit_mul_two_pow, Nat.testBit_mod_two_pow, Nat.testBit_div_two_pow]
  by_cases hi : i < k
  · simp [hi, show ¬ k ≤ i by omega]
  · simp [hi, show k ≤ i by omega, show i - k + k = i by omega]
theorem xor_div_pow (k x y : Nat) : (x ^^^ y) / 2 ^ k = x / 2 ^ k ^^^ y / 2 ^ k := by
  apply Nat.eq_of_testBit_eq
  intro i
  simp [Nat.testBit_div_two_pow]
theorem xor_mod_pow (k x y : Nat) : (x ^^^ y) % 2 ^ k = x % 2 ^ k ^^^ y % 2 ^ k := by
  apply Nat.eq_of_testBit_eq
  intro i
  rw [Nat.testBit_xor, Nat.testBit_mod_two_pow, Nat.testBit_mod_two_pow, Nat.testBit_mod_two_pow, Nat.testBit_xor]
  cases decide (i < k) <;> simp
/-- One byte by the two tables. -/
theorem crcByte_tab (r : Nat) (b : UInt8) (y : Nat) (hy : y = b.toNat ^^^ r % 256) : crcByte r b = r / 256 ^^^ lowN (y % 16) ^^^ highN (y / 16) := by
  have hb : b.toNat < 256 := b.toNat_lt
  have hy' : y < 256 := by rw [hy]; exact Nat.xor_lt_two_pow (n := 8) hb (Nat.mod_lt _ (by decide))
  unfold crcByte
  have e := xor_parts 8 (r ^^^ b.toNat)
  have e1 : (r ^^^ b.toNat) / 2 ^ 8 = r / 256 := by
    rw [xor_div_pow, Nat.div_eq_of_lt (show b.toNat < 2 ^ 8 from hb), Nat.xor_zero]
  have e2 : (r ^^^ b.toNat) % 2 ^ 8 = y := by
    rw [xor_mod_pow, Nat.mod_eq_of_lt (show b.toNat < 2 ^ 8 from hb), hy, Nat.xor_comm]
  rw [e1, e2] at e
  rw [e, nxs_xor, nxs_up, tab_byte y hy', Nat.xor_assoc]

/-! ### The tables in memory -/
structure Tabs (w : World) : Prop where
  low : ∀ i, i < 16 → w.cell? ⟨0, i, none⟩ = some (.int .u32 (lowN i : Int))
  high : ∀ i, i < 16 → w.cell? ⟨1, i, none⟩ = some (.int .u32 (highN i : Int))
theorem lt_of_cell {w : World} {b i : Nat} {v : Value} (h : w.cell? ⟨b, i, none⟩ = some v) : b < w.heap.size := block_lt_of_cell h
theorem Tabs.still {w w' : World} (h : Tabs w) (s : Still w w') : Tabs w' :=
  ⟨fun i hi => (s.cell (lt_of_cell (h.low i hi))).trans (h.low i hi), fun i hi => (s.cell (lt_of_cell (h.high i hi))).trans (h.high i hi)⟩
theorem Tabs.drew {w : World} (h : Tabs w) : Tabs w.drew := h.still ((Still.refl w).drew)

theorem Still.drewN {w w' : World} (h : Still w w') (n : Nat) : Still w (w'.drewN n) := by
  induction n with
  | zero => exact h
  | succ n ih => exact ih.drew
theorem u32_flip (x : Nat) (hx : x < 4294967296) : bits BinOp.xor IntKind.u32 IntKind.u32.max (x : Int) = ((x ^^^ ones32 : Nat) : Int) := by
  have h := u32_xor_nat ones32 x (by decide) hx
  rw [Nat.xor_comm] at h
  exact h
theorem u8_cast (x : Nat) : IntKind.u8.wrap (x : Int) = ((x % 256 : Nat) : Int) := by rw [IntKind.wrap_u8']; omega

set_option maxHeartbeats 1600000 in
theorem crcadd_any (s : Nat) (A : Option Addr) (n c : Nat) (l : List UInt8) (w : World) (B : Nat) (T : Tabs w) (hs : s < 4294967296) (h : Reads w B A n l) (hB : B ≤ w.heap.size) (hn : n ≤ 9223372036854775807) :
    Calls Tryz.prog 149 #[.int .u32 s, .slice A n c] w fun e w' => e = .returned (.int .u32 (crcAdd s l : Nat)) ∧ Still w w' := by
  have hl := h.1
  have sg : IntKind.u32.signed = false := rfl
  have hx0 := u32_flip s hs
  have hs0 : s ^^^ ones32 < 4294967296 := Nat.xor_lt_two_pow (n := 32) hs (by decide)
  have hrun : ∀ k, crcRun (s ^^^ ones32) (l.take k) < 4294967296 := fun k => crcRun_lt _ _ hs0
  have hfin := u32_flip (crcRun (s ^^^ ones32) l) (crcRun_lt _ _ hs0)
  have hadd : crcRun (s ^^^ ones32) l ^^^ ones32 = crcAdd s l := rfl
  rw [hadd] at hfin
  generalize crcAdd s l = R at hfin ⊢
  generalize s ^^^ ones32 = s0 at hx0 hs0 hrun hfin hadd
  have HR := Lib.hid hrun
  have HF := Lib.hid hfin
  have TT := Lib.hid T
  clear hrun hfin hadd T
  go_enter Tryz.func149, Tryz.ntmps149
  go_wp2_with fail
  go_loopw [5, 12] (fun x i wr => ∃ k : Nat, k ≤ n ∧ i = .int .i64 k ∧ Still w wr ∧ ∃ y : Nat, x = .int .u32 y ∧ Hid (y = crcRun s0 (l.take k))) (fun _ i _ => n - (intOf i).toNat)
  case atStart => exact ⟨0, Nat.zero_le _, rfl, Still.refl w, s0, rfl, rfl⟩
  case round =>
    obtain ⟨k, hk, rfl, st, y, rfl, hy⟩ := hrel
    by_cases hlt : k < n
    · obtain ⟨b, o, rfl, hb, hc0⟩ := h.at_ (by omega)
      have hc := ((st.cell (p := ⟨b, o + k, none⟩) (by simp; omega)).trans (hc0 k hlt))
      have T := TT.out.still st
      obtain ⟨d, hd⟩ : ∃ d, d = (l.getD k 0).toNat := ⟨_, rfl⟩
      rw [← hd] at hc
      have hd' : d < 256 := by rw [hd]; exact (l.getD k 0).toNat_lt
      have hyb : y < 4294967296 := by rw [hy.out]; exact HR.out k
      have e1 := u8_cast y
      have e2 := u8_xor_nat d (y % 256) hd' (Nat.mod_lt _ (by decide))
      have hz : d ^^^ y % 256 < 256 := Nat.xor_lt_two_pow (n := 8) hd' (Nat.mod_lt _ (by decide))
      have hbyte := crcByte_tab y (l.getD k 0) _ rfl
      rw [← hd] at hbyte
      generalize y % 256 = y8 at e1 e2 hz hbyte
      generalize d ^^^ y8 = z at e2 hz hbyte
      have e3 : ((y : Int) / 256) = ((y / 256 : Nat) : Int) := by simp
      have e4 : bits BinOp.and IntKind.u8 (z : Int) 15 = ((z % 16 : Nat) : Int) := by
        have := u8_and_nat z 15 hz (by omega)
        rw [nat_mask4] at this
        exact this
      have e5 : ((z : Int) / 16) = ((z / 16 : Nat) : Int) := by simp
      have i1 : z % 16 < 16 := by omega
      have i2 : z / 16 < 16 := by omega
      have hyq : y / 256 < 4294967296 := by omega
      generalize z % 16 = p at e4 i1 hbyte
      generalize z / 16 = q at e5 i2 hbyte
      generalize y / 256 = yq at e3 hyq hbyte
      have c1 := T.low p i1
      have c2 := T.high q i2
      have l1 := lowN_lt p i1
      have l2 := highN_lt q i2
      generalize lowN p = lp at c1 l1 hbyte
      generalize highN q = hq at c2 l2 hbyte
      have e6 := u32_xor_nat yq lp hyq l1
      have hx1 : yq ^^^ lp < 4294967296 := Nat.xor_lt_two_pow (n := 32) hyq l1
      generalize yq ^^^ lp = x1 at e6 hx1 hbyte
      have e7 := u32_xor_nat x1 hq hx1 l2
      generalize x1 ^^^ hq = x2 at e7 hbyte
      have j1 : (p : Int) < 16 := by omega
      have j2 : (q : Int) < 16 := by omega
      have HB := Lib.hid hbyte
      have ST := Lib.hid st
      clear hbyte T hd hc0 st
      go_wp2_with fail
      go_quiet (fail)
      go_wp2_with fail
      go_roundw
      case rel =>
        refine ⟨k + 1, by omega, by go_num, ?_, x2, rfl, ?_⟩
        · exact Still.drewN ST.out nq
        · show _ = _
          have e : l.take (k + 1) = l.take k ++ [l.getD k 0] := by
            rw [List.take_add_one]; simp [List.getD, show k < l.length by omega]
          rw [e, crcRun_append, ← hy.out]
          exact HB.out.symm
      case measure => simp [intOf]; omega
    · obtain rfl : k = n := by omega
      have e := hy.out
      rw [List.take_of_length_le (by omega)] at e
      have f := HF.out
      rw [← e] at f
      clear e hy
      go_wp2_with fail
      go_ret
      exact ⟨rfl, st⟩

theorem crcsum_any (A : Option Addr) (n c : Nat) (l : List UInt8) (w : World) (B : Nat) (T : Tabs w) (h : Reads w B A n l) (hB : B ≤ w.heap.size) (hn : n ≤ 9223372036854775807) :
    Calls Tryz.prog 107 #[.slice A n c] w fun e w' => e = .returned (.int .u32 (crcSum l : Nat)) ∧ Still w w' := by
  have k := crcadd_any 0 A n c l w B T (by omega) h hB hn
  have e : crcAdd 0 l = crcSum l := rfl
  rw [e] at k
  generalize crcSum l = R at k ⊢
  have K := Lib.hid k
  clear k e
  go_enter Tryz.func107, Tryz.ntmps107
  go_wp2_with fail
  refine K.out.mono ?_
  rintro e w1 ⟨rfl, s1⟩
  go_wp2_with fail
  go_ret
  exact ⟨rfl, s1⟩
theorem rsum_any (A : Option Addr) (n c : Nat) (l : List UInt8) (w : World) (B : Nat) (h : Reads w B A n l) (hn : n ≤ 9223372036854775807) :
    Calls Tryz.prog 111 #[.slice A n c] w fun e w' => e = .returned (.int .u32 (crcSum l : Nat)) ∧ w = w' := by
  have k := radd_any 0 A n c l w B (by omega) h hn
  have e : crcAdd 0 l = crcSum l := rfl
  rw [e] at k
  generalize crcSum l = R at k ⊢
  have K := Lib.hid k
  clear k e
  go_enter Tryz.func111, Tryz.ntmps111
  go_wp2_with fail
  refine K.out.mono ?_
  rintro e w1 ⟨rfl, rfl⟩
  go_wp2_with fail
  go_ret
  exact ⟨rfl, rfl⟩
end Go.Proofs.YtljacdbdjacbkaaGreatDoor

/- What the rows' condition on the two tables gives the walks. It proves no statement. -/




namespace Go.Proofs.YtljacdbdjacbkaaGreatDoor
open Go.RowKit
set_option linter.unusedVariables false
set_option linter.unusedSimpArgs false

def crcLaid : List (String × DataW Unit) := [("hoard/crc.lowHalf", Rows.laid_hoard_crc_lowHalf), ("hoard/crc.highHalf", Rows.laid_hoard_crc_highHalf)]
theorem gLow : Tryz.prog.globalNamed "hoard/crc.lowHalf" = some 0 := by kernel_rfl
theorem gHigh : Tryz.prog.globalNamed "hoard/crc.highHalf" = some 1 := by kernel_rfl
theorem tLow : (Tryz.prog.globals[0]?).map (·.type) = some 230 := by kernel_rfl
theorem tHigh : (Tryz.prog.globals[1]?).map (·.type) = some 230 := by kernel_rfl
theorem tabs_of_laid {W : World} (h : laidMetH Tryz.prog crcLaid W) : Tabs W := by
  rw [MakeChecks.laidMetH_plain _ _ _ (by kernel_rfl)] at h
  have h1 : Lib.TabIs Tryz.prog W "hoard/crc.lowHalf" .u32 lowT := Lib.tabIs_of_head gLow tLow Tryz.underlying230 Tryz.underlying176 (by kernel_rfl) (by kernel_rfl) h
  have h2 : Lib.TabIs Tryz.prog W "hoard/crc.highHalf" .u32 highT := Lib.tabIs_of_head gHigh tHigh Tryz.underlying230 Tryz.underlying176 (by kernel_rfl) (by kernel_rfl) (laidMet.tail h)
  refine ⟨fun i hi => ?_, fun i hi => ?_⟩
  · have := h1.cell gLow i (by simpa [lowT] using hi)
    rwa [lowT_cast i hi] at this
  · have := h2.cell gHigh i (by simpa [highT] using hi)
    rwa [highT_cast i hi] at this
end Go.Proofs.YtljacdbdjacbkaaGreatDoor

/- What the rows' condition on the library's and the sum's variables gives the walks. It proves no statement. -/



namespace Go.Proofs.YtljacdbdjacbkaaGreatDoor
open Go.RowKit
set_option linter.unusedVariables false
set_option linter.unusedSimpArgs false

/-- What is read of package-level variables. -/
structure SgT (w : World) : Prop where
  tabs : Tabs w
  pow : Lib.TabIs Tryz.prog w "internal/strconv.uint64pow10" .u64 Lib.pow10Tab
  syn : ∃ tp p, w.var? Tryz.prog "strconv.ErrSyntax" = some #[.iface tp p]
  rng : ∃ tp p, w.var? Tryz.prog "strconv.ErrRange" = some #[.iface tp p]
theorem var_still {w w' : World} {nm : String} {cs : Array Value} (h : w.var? Tryz.prog nm = some cs) (s : Still w w') : w'.var? Tryz.prog nm = some cs := by
  unfold World.var? at h ⊢
  cases hg : Tryz.prog.globalNamed nm with
  | none => rw [hg] at h; cases h
  | some g =>
    rw [hg] at h
    simp only [Option.bind_some] at h ⊢
    have hlt : g < w.heap.size := by
      cases hq : w.heap[g]? with
      | none => rw [hq] at h; cases h
      | some o => exact (Array.getElem?_eq_some_iff.1 hq).1
    rw [s.block g hlt]
    exact h
theorem SgT.still {w w' : World} (h : SgT w) (s : Still w w') : SgT w' :=
  ⟨h.tabs.still s, var_still h.pow s, by obtain ⟨tp, p, e⟩ := h.syn; exact ⟨tp, p, var_still e s⟩, by obtain ⟨tp, p, e⟩ := h.rng; exact ⟨tp, p, var_still e s⟩⟩
def segLaid : List (String × DataW Unit) := [("hoard/crc.lowHalf", Rows.laid_hoard_crc_lowHalf), ("hoard/crc.highHalf", Rows.laid_hoard_crc_highHalf), ("math/bits.deBruijn32tab", Rows.laid_math_bits_deBruijn32tab), ("math/bits.deBruijn64tab", Rows.laid_math_bits_deBruijn64tab), ("internal/strconv.uint64pow10", Rows.laid_internal_strconv_uint64pow10), ("strconv.ErrRange", Rows.laid_strconv_ErrRange), ("strconv.ErrSyntax", Rows.laid_strconv_ErrSyntax)]
theorem gPow : Tryz.prog.globalNamed "internal/strconv.uint64pow10" = some 4 := by kernel_rfl
theorem tPow : (Tryz.prog.globals[4]?).map (·.type) = some 265 := by kernel_rfl
theorem gSyn : Tryz.prog.globalNamed "strconv.ErrSyntax" = some 2 := by kernel_rfl
theorem tSyn : (Tryz.prog.globals[2]?).map (·.type) = some 166 := by kernel_rfl
theorem gRng : Tryz.prog.globalNamed "strconv.ErrRange" = some 3 := by kernel_rfl
theorem tRng : (Tryz.prog.globals[3]?).map (·.type) = some 166 := by kernel_rfl
theorem starErr : "*" ++ "errors.errorString" = "*errors.errorString" := by decide
theorem rowErr (u : TypeId) (h : Tryz.prog.typeName? 3 u = some "*errors.errorString") : u = 261 :=
  typeName_ptr_named (nm := "errors.errorString") (by rw [starErr]; kernel_rfl) (by kernel_rfl) (by decide) u (by rw [starErr]; exact h)
theorem sgt_of_laid {W : World} (h : laidMetH Tryz.prog segLaid W) : SgT W := by
  rw [MakeChecks.laidMetH_plain _ _ _ (by kernel_rfl)] at h
  have h1 : Lib.TabIs Tryz.prog W "hoard/crc.lowHalf" .u32 lowT := Lib.tabIs_of_head gLow tLow Tryz.underlying230 Tryz.underlying176 (by kernel_rfl) (by kernel_rfl) h
  have h2 : Lib.TabIs Tryz.prog W "hoard/crc.highHalf" .u32 highT := Lib.tabIs_of_head gHigh tHigh Tryz.underlying230 Tryz.underlying176 (by kernel_rfl) (by kernel_rfl) (laidMet.tail h)
  have h5 := laidMet.tail (laidMet.tail (laidMet.tail (laidMet.tail h)))
  have h3 : Lib.TabIs Tryz.prog W "internal/strconv.uint64pow10" .u64 Lib.pow10Tab := Lib.tabIs_of_head gPow tPow Tryz.underlying265 Tryz.underlying174 (by kernel_rfl) (by kernel_rfl) h5
  have h6 := laidMet.tail h5
  have h7 := laidMet.tail h6
  obtain ⟨a0, s0, hv0, _, _, _⟩ := laid_sentinel h6 gRng tRng Tryz.underlying166 rowErr Tryz.underlying261 Tryz.underlying263 rfl rfl Tryz.underlying9 (by kernel_rfl) (by kernel_rfl)
  obtain ⟨a1, s1, hv1, _, _, _⟩ := laid_sentinel h7 gSyn tSyn Tryz.underlying166 rowErr Tryz.underlying261 Tryz.underlying263 rfl rfl Tryz.underlying9 (by kernel_rfl) (by kernel_rfl)
  refine ⟨⟨fun i hi => ?_, fun i hi => ?_⟩, h3, ⟨_, _, hv1⟩, ⟨_, _, hv0⟩⟩
  · have := h1.cell gLow i (by simpa [lowT] using hi)
    rwa [lowT_cast i hi] at this
  · have := h2.cell gHigh i (by simpa [highT] using hi)
    rwa [highT_cast i hi] at this
end Go.Proofs.YtljacdbdjacbkaaGreatDoor
