/- Contracts and facts, several texts in one. It proves no statement. -/
import Derived.Test.YtfneloobfidckaaGreatDoorSf21
import Derived.Lib.ItoaNum
import Derived.Shelf.Strconv.Itoa1
import Derived.Test.YtfneloobfidckaaGreatDoorSf20
import Derived.Test.YtfneloobfidckaaGreatDoorSgLib
import Derived.Test.YtfneloobfidckaaGreatDoorSf06
import Derived.Test.YtfneloobfidckaaGreatDoorSf01
import Derived.Test.YtfneloobfidckaaGreatDoorSf12
import Derived.Test.YtfneloobfidckaaGreatDoorSf14

/- What the rows' condition on the library's and the sum's variables gives the walks. It proves no statement. -/



namespace Go.Proofs.YtfneloobfidckaaGreatDoor
open Go.RowKit
set_option linter.unusedVariables false
set_option linter.unusedSimpArgs false

/-- What is read of package-level variables. -/
structure SgT (w : World) : Prop where
  tabs : Tabs w
  pow : Lib.TabIs Tryz.prog w "internal/strconv.uint64pow10" .u64 Lib.pow10Tab
  syn : ∃ tp p, w.var? Tryz.prog "strconv.ErrSyntax" = some #[.iface tp p]
  rng : ∃ tp p, w.var? Tryz.prog "strconv.ErrRange" = some #[.iface tp p]
theorem var_still {w w' : World} {nm : String} {cs : Array Value} (h : w.var? Tryz.prog nm = some cs) (s : Still w w') : w'.var? Tryz.prog nm = some cs := by
  unfold World.var? at h ⊢
  cases hg : Tryz.prog.globalNamed nm with
  | none => rw [hg] at h; cases h
  | some g =>
    rw [hg] at h
    simp only [Option.bind_some] at h ⊢
    have hlt : g < w.heap.size := by
      cases hq : w.heap[g]? with
      | none => rw [hq] at h; cases h
      | some o => exact (Array.getElem?_eq_some_iff.1 hq).1
    rw [s.block g hlt]
    exact h
theorem SgT.still {w w' : World} (h : SgT w) (s : Still w w') : SgT w' :=
  ⟨h.tabs.still s, var_still h.pow s, by obtain ⟨tp, p, e⟩ := h.syn; exact ⟨tp, p, var_still e s⟩, by obtain ⟨tp, p, e⟩ := h.rng; exact ⟨tp, p, var_still e s⟩⟩
def segLaid : List (String × DataW Unit) := [("hoard/crc.lowHalf", Rows.laid_hoard_crc_lowHalf), ("hoard/crc.highHalf", Rows.laid_hoard_crc_highHalf), ("math/bits.deBruijn32tab", Rows.laid_math_bits_deBruijn32tab), ("math/bits.deBruijn64tab", Rows.laid_math_bits_deBruijn64tab), ("internal/strconv.uint64pow10", Rows.laid_internal_strconv_uint64pow10), ("strconv.ErrRange", Rows.laid_strconv_ErrRange), ("strconv.ErrSyntax", Rows.laid_strconv_ErrSyntax)]
theorem gPow : Tryz.prog.globalNamed "internal/strconv.uint64pow10" = some 4 := by kernel_rfl
theorem tPow : (Tryz.prog.globals[4]?).map (·.type) = some 384 := by kernel_rfl
theorem gSyn : Tryz.prog.globalNamed "strconv.ErrSyntax" = some 2 := by kernel_rfl
theorem tSyn : (Tryz.prog.globals[2]?).map (·.type) = some 243 := by kernel_rfl
theorem gRng : Tryz.prog.globalNamed "strconv.ErrRange" = some 3 := by kernel_rfl
theorem tRng : (Tryz.prog.globals[3]?).map (·.type) = some 243 := by kernel_rfl
theorem starErr : "*" ++ "errors.errorString" = "*errors.errorString" := by decide
theorem rowErr (u : TypeId) (h : Tryz.prog.typeName? 3 u = some "*errors.errorString") : u = 380 :=
  typeName_ptr_named (nm := "errors.errorString") (by rw [starErr]; kernel_rfl) (by kernel_rfl) (by decide) u (by rw [starErr]; exact h)
theorem sgt_of_laid {W : World} (h : laidMetH Tryz.prog segLaid W) : SgT W := by
  rw [MakeChecks.laidMetH_plain _ _ _ (by kernel_rfl)] at h
  have h1 : Lib.TabIs Tryz.prog W "hoard/crc.lowHalf" .u32 lowT := Lib.tabIs_of_head gLow tLow Tryz.underlying336 Tryz.underlying250 (by kernel_rfl) (by kernel_rfl) h
  have h2 : Lib.TabIs Tryz.prog W "hoard/crc.highHalf" .u32 highT := Lib.tabIs_of_head gHigh tHigh Tryz.underlying336 Tryz.underlying250 (by kernel_rfl) (by kernel_rfl) (laidMet.tail h)
  have h5 := laidMet.tail (laidMet.tail (laidMet.tail (laidMet.tail h)))
  have h3 : Lib.TabIs Tryz.prog W "internal/strconv.uint64pow10" .u64 Lib.pow10Tab := Lib.tabIs_of_head gPow tPow Tryz.underlying384 Tryz.underlying248 (by kernel_rfl) (by kernel_rfl) h5
  have h6 := laidMet.tail h5
  have h7 := laidMet.tail h6
  obtain ⟨a0, s0, hv0, _, _, _⟩ := laid_sentinel h6 gRng tRng Tryz.underlying243 rowErr Tryz.underlying380 Tryz.underlying382 rfl rfl Tryz.underlying9 (by kernel_rfl) (by kernel_rfl)
  obtain ⟨a1, s1, hv1, _, _, _⟩ := laid_sentinel h7 gSyn tSyn Tryz.underlying243 rowErr Tryz.underlying380 Tryz.underlying382 rfl rfl Tryz.underlying9 (by kernel_rfl) (by kernel_rfl)
  refine ⟨⟨fun i hi => ?_, fun i hi => ?_⟩, h3, ⟨_, _, hv1⟩, ⟨_, _, hv0⟩⟩
  · have := h1.cell gLow i (by simpa [lowT] using hi)
    rwa [lowT_cast i hi] at this
  · have := h2.cell gHigh i (by simpa [highT] using hi)
    rwa [highT_cast i hi] at this
end Go.Proofs.YtfneloobfidckaaGreatDoor

/- Contracts: segments' names, by the program. It proves no statement. -/



namespace Go.Proofs.YtfneloobfidckaaGreatDoor
open Go.RowKit
set_option linter.unusedVariables false
set_option linter.unusedSimpArgs false

theorem still_growN {w : World} (k : Nat) (os : Array Obj) : Still w (Sort.grow (w.drewN k) os) := by
  refine ⟨rfl, rfl, rfl, ?_, fun b hb => ?_⟩
  · show w.heap.size ≤ (w.heap ++ os).size
    rw [Array.size_append]
    omega
  · show (w.heap ++ os)[b]? = w.heap[b]?
    rw [Array.getElem?_append_left hb]
theorem catB (a b : List UInt8) : (⟨a.toArray⟩ : ByteArray) ++ ⟨b.toArray⟩ = ⟨(a ++ b).toArray⟩ := by
  apply ByteArray.ext
  simp [ByteArray.data_append]
theorem sizeB (a : List UInt8) : (⟨a.toArray⟩ : ByteArray).size = a.length := by simp [ByteArray.size]
theorem itoa_nat (n : Nat) : Lib.itoa (n : Int) = Lib.decDigits n := by
  unfold Lib.itoa
  rw [if_neg (by omega)]
  rfl
set_option maxRecDepth 100000 in
theorem name_any (n : Int) (w : World) (T : SgT w) : Calls Tryz.prog 89 #[.int .i64 n] w fun e w' => e = .returned (.string (nameS n)) ∧ Still w w' := by
  by_cases h0 : n < 0
  · have e : nameS n = ⟨#[]⟩ := by unfold nameS; rw [if_neg (by omega)]
    rw [e]
    clear e T
    go_enter Tryz.func89, Tryz.ntmps89
    go_wp2_with fail
    go_ret
    exact ⟨rfl, Still.refl _⟩
  by_cases h1 : 1048576 ≤ n
  · have e : nameS n = ⟨#[]⟩ := by unfold nameS; rw [if_neg (by omega)]
    rw [e]
    clear e T
    go_enter Tryz.func89, Tryz.ntmps89
    go_wp2_with fail
    go_ret
    exact ⟨rfl, Still.refl _⟩
  obtain ⟨m, rfl⟩ := Int.eq_ofNat_of_zero_le (show 0 ≤ n by omega)
  have hm : m < 1048576 := by omega
  have IT := Lib.hid (itoa_lib (m : Int) (by omega) (by omega) w T.pow)
  rw [itoa_nat] at IT
  have hl := Lib.decDigits_length m
  have hd := nDigits_le 6 m (by omega)
  have hd1 := Lib.nDigits_pos m
  obtain ⟨q, hq⟩ : ∃ q, q = 8 - (Lib.decDigits m).length := ⟨_, rfl⟩
  have RP := Lib.hid (fun W => repeat_lib ⟨#[48]⟩ q W (by omega) (by show 1 * q ≤ _; omega))
  have hpad := dig_pad 8 m (by omega)
  rw [← hq] at hpad
  have e1 : (Lib.repeatL (⟨#[48]⟩ : ByteArray).data.toList q) = List.replicate q 48 := by
    have := Lib.repeatL_replicate 48 1 q
    rw [Nat.mul_one] at this
    exact this
  rw [e1] at RP
  obtain ⟨X, hX⟩ : ∃ X : ByteArray, X = ⟨(Lib.decDigits m).toArray⟩ := ⟨_, rfl⟩
  obtain ⟨Y, hY⟩ : ∃ Y : ByteArray, Y = ⟨(List.replicate q (48 : UInt8)).toArray⟩ := ⟨_, rfl⟩
  rw [← hX] at IT
  rw [← hY] at RP
  have hXs : X.size = (Lib.decDigits m).length := by rw [hX]; simp [ByteArray.size]
  have hq2 : (8 : Int) - (X.size : Int) = (q : Int) := by omega
  have hYs : Y.size = q := by rw [hY, sizeB, List.length_replicate]
  obtain ⟨Z, hZ⟩ : ∃ Z : ByteArray, Z = (⟨#[115, 101, 103, 46]⟩ : ByteArray) ++ Y := ⟨_, rfl⟩
  have a1 : (⟨#[115, 101, 103, 46]⟩ : ByteArray) ++ Y = Z := hZ.symm
  have a2 : Z ++ X = nameS m := by
    rw [hZ, hY, hX, nameS_nat hm]
    have e2 := catB [115, 101, 103, 46] (List.replicate q 48)
    rw [show (⟨#[115, 101, 103, 46]⟩ : ByteArray) = ⟨[115, 101, 103, 46].toArray⟩ from rfl, e2, catB]
    unfold sgnB
    rw [← hpad, List.append_assoc]
  have z1 : (⟨#[115, 101, 103, 46]⟩ : ByteArray).size + Y.size ≤ 9223372036854775807 := by
    show 4 + Y.size ≤ _
    omega
  have z2 : Z.size + X.size ≤ 9223372036854775807 := by
    rw [hZ, ByteArray.size_append]
    show 4 + Y.size + X.size ≤ _
    omega
  obtain ⟨V, hV⟩ : ∃ V, V = nameS m := ⟨_, rfl⟩
  rw [← hV] at a2 ⊢
  clear hl hd hd1 hq hpad e1 hX hY hXs hYs hZ hV T h0
  go_enter Tryz.func89, Tryz.ntmps89
  go_wp2_with fail
  refine IT.out.mono ?_
  rintro e w1 ⟨rfl, k, os, rfl⟩
  obtain ⟨w1, hw1⟩ : ∃ w1, w1 = Sort.grow (w.drewN k) os := ⟨_, rfl⟩
  rw [← hw1]
  have S1 := Lib.hid (show Still w w1 by rw [hw1]; exact still_growN k os)
  clear hw1
  go_wp2_with fail
  refine (RP.out _).mono ?_
  rintro e w2 ⟨rfl, b2⟩
  have S2 := Lib.hid (show Still w w2 from Still.trans S1.out b2)
  clear b2
  go_wp2_with fail
  go_ret
  exact ⟨rfl, S2.out⟩
end Go.Proofs.YtfneloobfidckaaGreatDoor

/- What is left of a slice that came in. It proves no statement. -/

namespace Go.Proofs.YtfneloobfidckaaGreatDoor
open Go.RowKit
set_option linter.unusedVariables false

/-- A slice that came in, or what is left of it. -/
structure RowS (w : World) (B : Nat) (A : Option Addr) (n c : Nat) (l : List UInt8) : Prop where
  reads : Reads w B A n l
  fit : n ≤ c
  cap : c ≤ 9223372036854775807
  nil : A = none → n = 0 ∧ c = 0
theorem RowS.still {w w' : World} {B n c : Nat} {A : Option Addr} {l : List UInt8} (h : RowS w B A n c l) (hB : B ≤ w.heap.size) (hs : Still w w') : RowS w' B A n c l := ⟨h.reads.still hB hs, h.fit, h.cap, h.nil⟩
theorem RowS.dropk {w : World} {B n c k : Nat} {A : Option Addr} {l : List UInt8} (h : RowS w B A n c l) (hk : k ≤ n) : RowS w B (A.map (·.add k)) (n - k) (c - k) (l.drop k) :=
  ⟨h.reads.dropk hk, by have := h.fit; omega, by have := h.cap; omega, fun e => by
    have e2 : A = none := by simpa using e
    have := h.nil e2
    omega⟩
theorem RowS.endk {w : World} {B n c : Nat} {A : Option Addr} {l : List UInt8} (h : RowS w B A n c l) {k : Nat} (hk : n ≤ k) : RowS w B A 0 0 (l.drop k) := by
  have e : l.drop k = [] := List.drop_of_length_le (by have := h.reads.1; omega)
  rw [e]
  exact ⟨⟨rfl, fun h => by omega⟩, by omega, by omega, fun _ => ⟨rfl, rfl⟩⟩
/-- A row that came in, cut. -/
theorem cut_row {w : World} {A : Option Addr} {n0 c0 : Nat} {z : List Int} (h : RowIn .u8 w A n0 c0 z) (k : Nat) (hk : 1 ≤ k) :
    ∃ n l, RowS w w.heap.size A n c0 l ∧ n ≤ k ∧ Calls Tryz.prog 118 #[.slice A n0 c0, .int .i64 k] w fun e w' => e = .returned (.slice A n c0) ∧ w = w' := by
  obtain ⟨l0, r0, hc0, hm0, hA0⟩ := reads_of_row h
  exact ⟨_, _, ⟨r0.take k, by omega, hm0, fun e => ⟨by have := (hA0 e).1; omega, (hA0 e).2⟩⟩, by omega, cut_any A n0 c0 k l0 w _ r0 hc0 hm0 hk⟩
end Go.Proofs.YtfneloobfidckaaGreatDoor

/- Slices of bytes in blocks of a kind. It proves no statement. -/


namespace Go.Proofs.YtfneloobfidckaaGreatDoor
open Go.RowKit
set_option linter.unusedVariables false
set_option linter.unusedSimpArgs false

/-- A slice of bytes in a block of P. -/
structure RowP (w : World) (P : Nat → Prop) (A : Option Addr) (n c : Nat) (l : List UInt8) : Prop where
  len : l.length = n
  fit : n ≤ c
  cap : c ≤ 9223372036854775807
  nil : A = none → n = 0 ∧ c = 0
  at_ : 0 < n → ∃ b o, A = some ⟨b, o, none⟩ ∧ P b ∧ b < w.heap.size ∧ ∀ i, i < n → w.cell? ⟨b, o + i, none⟩ = some (Value.int .u8 ((l.getD i 0).toNat : Int))
section
variable {w w' : World} {P Q : Nat → Prop} {A : Option Addr} {n c k : Nat} {l : List UInt8}
theorem RowP.reads (h : RowP w P A n c l) : Reads w w.heap.size A n l :=
  ⟨h.len, fun hn => by obtain ⟨b, o, e, _, hb, hc⟩ := h.at_ hn; exact ⟨b, o, e, hb, hc⟩⟩
theorem RowP.rowS (h : RowP w P A n c l) : RowS w w.heap.size A n c l := ⟨h.reads, h.fit, h.cap, h.nil⟩
theorem RowP.none_ : RowP w P none 0 0 [] := ⟨rfl, Nat.le_refl _, by omega, fun _ => ⟨rfl, rfl⟩, fun h => absurd h (by omega)⟩
theorem RowP.keep (h : RowP w P A n c l) (hk : ∀ b, P b → b < w.heap.size → w'.heap[b]? = w.heap[b]?) (hs : w.heap.size ≤ w'.heap.size) : RowP w' P A n c l :=
  ⟨h.len, h.fit, h.cap, h.nil, fun hn => by
    obtain ⟨b, o, e, hp, hb, hc⟩ := h.at_ hn
    exact ⟨b, o, e, hp, by omega, fun i hi => (World.cell?_of_block (w := w) (hk b hp hb)).trans (hc i hi)⟩⟩
theorem RowP.chg {S : Nat → Prop} (h : RowP w P A n c l) (g : Chg w w' S) (hS : ∀ b, P b → b < w.heap.size → ¬ S b) : RowP w' P A n c l := h.keep (fun b hp hb => g.block b hb (hS b hp hb)) g.size
theorem RowP.still (h : RowP w P A n c l) (s : Still w w') : RowP w' P A n c l := h.keep (fun b _ hb => s.block b hb) s.size
theorem RowP.mono (h : RowP w P A n c l) (hP : ∀ b, P b → b < w.heap.size → Q b) : RowP w Q A n c l :=
  ⟨h.len, h.fit, h.cap, h.nil, fun hn => by obtain ⟨b, o, e, hp, hb, hc⟩ := h.at_ hn; exact ⟨b, o, e, hP b hp hb, hb, hc⟩⟩
theorem RowP.of_rowS {B : Nat} (h : RowS w B A n c l) (hB : B ≤ w.heap.size) : RowP w (fun b => b < B) A n c l :=
  ⟨h.reads.1, h.fit, h.cap, h.nil, fun hn => by obtain ⟨b, o, e, hb, hc⟩ := h.reads.2 hn; exact ⟨b, o, e, hb, by omega, hc⟩⟩
theorem RowP.of_own {base : Nat} (h : w.ownsRow base 5 1 (.slice A n c) n (bytesV l)) : RowP w (fun b => base ≤ b ∧ (Value.slice A n c).ownBlock = some b) A n c l := by
  have hr := Reads.of_own h
  obtain ⟨A', c', e, h1, h2, h3⟩ := own_form h
  injection e with e1 e2 e3
  subst e1
  subst e3
  refine ⟨hr.1, h1, h2, h3, fun hn => ?_⟩
  obtain ⟨b, o, rfl, hb, hc⟩ := hr.2 hn
  refine ⟨b, o, rfl, ⟨?_, rfl⟩, hb, hc⟩
  rcases h.2 with ⟨_, h0⟩ | ⟨g, cp, cur, hv, hg, _⟩
  · omega
  · injection hv with hv1
    cases hv1
    exact hg
theorem RowP.dropk (h : RowP w P A n c l) (hk : k ≤ n) : RowP w P (A.map (·.add k)) (n - k) (c - k) (l.drop k) :=
  ⟨by rw [List.length_drop, h.len], by have := h.fit; omega, by have := h.cap; omega, fun e => by
    have e2 : A = none := by simpa using e
    have := h.nil e2
    omega, fun hn => by
    obtain ⟨b, o, rfl, hp, hb, hc⟩ := h.at_ (by omega)
    refine ⟨b, o + k, by simp [Addr.add_lit], hp, hb, fun i hi => ?_⟩
    have := hc (k + i) (by omega)
    rw [Nat.add_assoc, this]
    simp [List.getD]⟩
theorem RowP.endk (h : RowP w P A n c l) (hk : n ≤ k) : RowP w P A 0 0 (l.drop k) := by
  have e : l.drop k = [] := List.drop_of_length_le (by have := h.len; omega)
  rw [e]
  exact ⟨rfl, by omega, by omega, fun _ => ⟨rfl, rfl⟩, fun h => by omega⟩
theorem RowP.takek (h : RowP w P A n c l) (hk : k ≤ n) : RowP w P A k c (l.take k) :=
  ⟨by rw [List.length_take, h.len]; omega, by have := h.fit; omega, h.cap, fun e => by have := h.nil e; omega, fun hn => by
    obtain ⟨b, o, e, hp, hb, hc⟩ := h.at_ (by omega)
    refine ⟨b, o, e, hp, hb, fun i hi => ?_⟩
    rw [hc i (by omega)]
    have : (l.take k).getD i 0 = l.getD i 0 := by simp [List.getD, List.getElem?_take, hi]
    rw [this]⟩
end
end Go.Proofs.YtfneloobfidckaaGreatDoor

/- Contract: Size of a file that is there, and the way with an error. It proves no statement. -/


namespace Go.Proofs.YtfneloobfidckaaGreatDoor
open Go.RowKit Go.Maps Go.WideMaps
set_option linter.unusedVariables false
set_option linter.unusedSimpArgs false

theorem size_ok {w : World} {g : Nat} {room : Int} {bn bf : Nat} {wv : Value} {left : Int} (h : MedB w g room bn bf wv left false) (s : ByteArray) (hs : s.size ≤ maxLen) (n : Nat) (D : DataW Unit) (hown : NM w bn n D) (gf nf c : Nat) (A : Option Addr) (fv wtv : Value) (hlk : look D s = (gf : Int)) (hf : FileB w gf (.slice A nf c) fv wtv) :
    Calls Tryz.prog 76 #[.pointer (some ⟨g, 0, none⟩), .string s] w fun e w' => e = .returned (.tuple #[.int .i64 nf, .int .i64 0]) ∧ w = w' := by
  have FD := Lib.hid (find_yes h s n D hown hs)
  rw [hlk, show findV false (gf : Int) = pv (gf : Int) from rfl, pv_at, show findE false (gf : Int) = if (gf : Int) < 0 then 9 else 0 from rfl, if_neg (by omega)] at FD
  have c0 : w.cell? ⟨gf, 0, none⟩ = some (.slice A nf c) := Blk.cell hf 0
  clear h hown hs hlk hf
  go_enter Tryz.func76, Tryz.ntmps76
  go_wp2_with fail
  refine FD.out.mono ?_
  rintro e w2 ⟨rfl, rfl⟩
  go_wp2_with fail
  go_ret2
  exact ⟨rfl, rfl⟩

theorem size_err (P : Value) (s : ByteArray) (w : World) (E : Int) (b1 : (E != 0) = true) (h : Calls Tryz.prog 137 #[P, .string s] w fun e w' => e = .returned (.tuple #[.pointer none, .int .i64 E]) ∧ w = w') : Calls Tryz.prog 76 #[P, .string s] w fun e w' => e = .returned (.tuple #[.int .i64 0, .int .i64 E]) ∧ w = w' := by
  have HW := Lib.hid h
  clear h
  go_enter Tryz.func76, Tryz.ntmps76
  go_wp2_with fail
  refine HW.out.mono ?_
  rintro e w1 ⟨rfl, rfl⟩
  go_wp2_with fail
  go_ret2
  exact ⟨rfl, rfl⟩
end Go.Proofs.YtfneloobfidckaaGreatDoor

/- Contract: Size, whatever stands against it. It proves no statement. -/


namespace Go.Proofs.YtfneloobfidckaaGreatDoor
open Go.RowKit Go.Maps Go.WideMaps Go.Sort
set_option linter.unusedVariables false
set_option linter.unusedSimpArgs false

theorem size_M {w : World} {base g : Nat} {own : Own} {M : Me} (s : ByteArray) (h : MedI w base own g M) (hok : M.ok) (hs : s.size ≤ maxLen) :
    Calls Tryz.prog 76 #[.pointer (some ⟨g, 0, none⟩), .string s] w fun e w' => e = .returned (.tuple #[.int .i64 ((M.bytes s).1.length : Nat), .int .i64 (M.bytes s).2]) ∧ w = w' := by
  rcases find_M s h hok hs with ⟨E, hE, hEE, hf⟩ | ⟨gf, F, hE, hoff, hlk, hF, hf⟩
  · have e : M.bytes s = ([], E) := by unfold Me.bytes; rw [hE]
    rw [e]
    exact size_err _ s w E (err_ne hEE) hf
  · have e : M.bytes s = (F.now, 0) := by unfold Me.bytes; rw [hE]
    rw [e]
    obtain ⟨bn, bf, wv, ns, nn, nf, d1, d2, _⟩ := h.dir
    obtain ⟨q1, q2, q3, nv, fv, wtv, cs, f1, f2, _⟩ := h.files gf F hF
    obtain ⟨Anv, cnv, rfl, _, _, _⟩ := own_form f2
    rw [hoff] at d1
    exact size_ok d1 s hs nn _ d2 gf F.now.length cnv Anv fv wtv (look_found hlk) f1
end Go.Proofs.YtfneloobfidckaaGreatDoor
