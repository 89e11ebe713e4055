/- Contracts and facts, several texts in one. It proves no statement. -/
import Derived.Test.YtljacdbdjacbkaaGreatMpGn
import Derived.Test.YtljacdbdjacbkaaGreatMpGb
import Derived.Test.YtljacdbdjacbkaaGreatMpGc

/- Contract: names behind a change. It proves no statement. -/

namespace Go.Proofs.YtljacdbdjacbkaaGreat
open Go.RowKit Go.Maps Go.WideMaps Go.Sort
set_option linter.unusedVariables false
set_option linter.unusedSimpArgs false

/-- A change of names. -/
structure Lk where
  s : ByteArray
  t : ByteArray
  f : Nat
def lkC (x : Lk) : List Value := [.string x.s, .string x.t, .int .i64 (x.f : Int)]
def bE (s : ByteArray) : Bool := s.toList.isEmpty
def lk1 (N : NT) (x : Lk) : NT := if bE x.s = true then N else nDel N x.s.data.toList
def lkD (N : NT) (x : Lk) : NT := if bE x.t = true then lk1 N x else nPut (lk1 N x) x.t.data.toList x.f
theorem nDel_len (N : NT) (s : List UInt8) : (nDel N s).length ≤ N.length := List.length_filter_le _ _
theorem nPut_len (N : NT) (s : List UInt8) (f : Nat) : (nPut N s f).length ≤ N.length + 1 := by
  unfold nPut
  rw [nIns_length]
  have := nDel_len N s
  omega
theorem lk1_len (N : NT) (x : Lk) : (lk1 N x).length ≤ N.length := by
  unfold lk1
  split
  · exact Nat.le_refl _
  · exact nDel_len _ _
theorem lkD_len (N : NT) (x : Lk) : (lkD N x).length ≤ N.length + 1 := by
  have := lk1_len N x
  unfold lkD
  split
  · omega
  · have := nPut_len (lk1 N x) x.t.data.toList x.f
    omega
theorem Rising.lk {N : NT} (h : Rising N) (x : Lk) : Rising (lkD N x) := by
  have h1 : Rising (lk1 N x) := by
    unfold lk1
    split
    · exact h
    · exact h.del _
  unfold lkD
  split
  · exact h1
  · exact h1.put _ _
set_option maxRecDepth 100000 in
set_option maxHeartbeats 3200000 in
theorem linked_any (A : Option Addr) (n c : Nat) (N : NT) (x : Lk) (w : World) {P : Nat → Prop} (h : NRow w P A n c N) (hn : n ≤ 900000) :
    Calls Tryz.prog 80 #[.slice A n c, .agg #[.string x.s, .string x.t, .int .i64 (x.f : Int)]] w fun e w' => (∃ (A' : Option Addr) (n' c' : Nat), e = .returned (.slice A' n' c') ∧ NRow w' (fun b => P b ∨ w.heap.size ≤ b) A' n' c' (lkD N x)) ∧ Still w w' := by
  obtain ⟨s, t, f⟩ := x
  show Calls Tryz.prog 80 #[.slice A n c, .agg #[.string s, .string t, .int .i64 (f : Int)]] w _
  obtain ⟨wb, hwb⟩ : ∃ wb, wb = w.alloc (.cells #[.string s, .string t, .int .i64 (f : Int)] 114) := ⟨_, rfl⟩
  have SB := Lib.hid (show Still w wb by rw [hwb]; exact (Still.refl w).alloc (Nat.le_refl _) _)
  have BX := Lib.hid (show Blk wb w.heap.size 114 #[.string s, .string t, .int .i64 (f : Int)] by rw [hwb]; exact Blk.new _ _ _)
  have RF := Lib.hid (show ∀ w3 A3 n3 c3 N3, N3.length ≤ N.length → Still wb w3 → NRow w3 (fun b => P b ∨ w.heap.size ≤ b) A3 n3 c3 N3 → Calls Tryz.prog 86 #[.slice A3 n3 c3, .agg #[.string t, .int .i64 (f : Int)]] w3 fun e w' => (∃ (A' : Option Addr) (n' c' : Nat), e = .returned (.slice A' n' c') ∧ NRow w' (fun b => P b ∨ w.heap.size ≤ b) A' n' c' (nPut N3 t.data.toList f)) ∧ Still w w' from by
    intro w3 A3 n3 c3 N3 hl s3 h3
    refine (with_any A3 n3 c3 N3 t f w3 h3 (by have := h3.len; have := h.len; omega)).mono ?_
    rintro e w' ⟨⟨A', c', he, o⟩, st⟩
    refine ⟨⟨A', _, c', he, (NRow.of_own o).mono (fun b hb _ => .inr ?_)⟩, Still.trans SB.out (Still.trans s3 st)⟩
    have h1 := hb.1
    have h2 := s3.size
    have h3 := SB.out.size
    omega)
  have WO := Lib.hid (without_any A n c N s wb (h.still SB.out) (by omega))
  have HB := Lib.hid ((h.still SB.out).mono (Q := fun b => P b ∨ w.heap.size ≤ b) (fun b hb _ => .inl hb))
  have HL := Lib.hid (nDel_len N s.data.toList)
  have HWB := Lib.hid hwb
  clear h hn hwb
  go_enter Tryz.func80, Tryz.ntmps80
  go_upto_region 1 with fail
  rw [← HWB.out]
  have xc0 : wb.cell? ⟨w.heap.size, 0, none⟩ = some (.string s) := BX.out.cell 0
  have xc1 : wb.cell? ⟨w.heap.size, 1, none⟩ = some (.string t) := BX.out.cell 1
  have xc2 : wb.cell? ⟨w.heap.size, 2, none⟩ = some (.int .i64 (f : Int)) := BX.out.cell 2
  clear HWB
  obtain ⟨b1, hb1⟩ : ∃ b1, b1 = bE s := ⟨_, rfl⟩
  obtain ⟨b2, hb2⟩ : ∃ b2, b2 = bE t := ⟨_, rfl⟩
  have HB1 := Lib.hid hb1
  have HB2 := Lib.hid hb2
  unfold bE at hb1 hb2
  have g1 : s.toList.isEmpty = b1 := hb1.symm
  have g2 : t.toList.isEmpty = b2 := hb2.symm
  have k1 : (!s.toList.isEmpty) = !b1 := by rw [g1]
  have k2 : (!t.toList.isEmpty) = !b2 := by rw [g2]
  clear hb1 hb2
  cases b1
  · go_wp2_with fail
    refine WO.out.mono ?_
    rintro e w3 ⟨⟨A3, c3, rfl, o3⟩, s3⟩
    have S3 := Lib.hid s3
    have N3 := Lib.hid ((NRow.of_own o3).mono (Q := fun b => P b ∨ w.heap.size ≤ b) (fun b hb _ => .inr (by have := hb.1; have := SB.out.size; omega)))
    have xd1 : w3.cell? ⟨w.heap.size, 1, none⟩ = some (.string t) := (BX.out.still s3).cell 1
    have xd2 : w3.cell? ⟨w.heap.size, 2, none⟩ = some (.int .i64 (f : Int)) := (BX.out.still s3).cell 2
    clear o3 s3
    cases b2
    · go_wp2_with fail
      refine (RF.out w3 _ _ _ _ HL.out S3.out N3.out).mono ?_
      rintro e w4 ⟨⟨A4, n4, c4, rfl, r4⟩, s4⟩
      have R4 := Lib.hid (And.intro r4 s4)
      clear r4 s4
      go_wp2_with fail
      go_ret
      exact ⟨⟨A4, n4, c4, rfl, by unfold lkD; rw [if_neg (show ¬ bE t = true by rw [← HB2.out]; decide)]; unfold lk1; rw [if_neg (show ¬ bE s = true by rw [← HB1.out]; decide)]; exact R4.out.1⟩, R4.out.2⟩
    · go_wp2_with fail
      go_ret
      exact ⟨⟨A3, _, c3, rfl, by unfold lkD; rw [if_pos (show bE t = true from HB2.out.symm)]; unfold lk1; rw [if_neg (show ¬ bE s = true by rw [← HB1.out]; decide)]; exact N3.out⟩, Still.trans SB.out S3.out⟩
  · cases b2
    · go_wp2_with fail
      refine (RF.out wb _ _ _ _ (Nat.le_refl _) (Still.refl _) HB.out).mono ?_
      rintro e w4 ⟨⟨A4, n4, c4, rfl, r4⟩, s4⟩
      have R4 := Lib.hid (And.intro r4 s4)
      clear r4 s4
      go_wp2_with fail
      go_ret
      exact ⟨⟨A4, n4, c4, rfl, by unfold lkD; rw [if_neg (show ¬ bE t = true by rw [← HB2.out]; decide)]; unfold lk1; rw [if_pos (show bE s = true from HB1.out.symm)]; exact R4.out.1⟩, R4.out.2⟩
    · go_wp2_with fail
      go_ret
      exact ⟨⟨A, n, c, rfl, by unfold lkD; rw [if_pos (show bE t = true from HB2.out.symm)]; unfold lk1; rw [if_pos (show bE s = true from HB1.out.symm)]; exact HB.out⟩, SB.out⟩
end Go.Proofs.YtljacdbdjacbkaaGreat

/- What is left of a slice that came in. It proves no statement. -/

namespace Go.Proofs.YtljacdbdjacbkaaGreat
open Go.RowKit
set_option linter.unusedVariables false

/-- A slice that came in, or what is left of it. -/
structure RowS (w : World) (B : Nat) (A : Option Addr) (n c : Nat) (l : List UInt8) : Prop where
  reads : Reads w B A n l
  fit : n ≤ c
  cap : c ≤ 9223372036854775807
  nil : A = none → n = 0 ∧ c = 0
theorem RowS.still {w w' : World} {B n c : Nat} {A : Option Addr} {l : List UInt8} (h : RowS w B A n c l) (hB : B ≤ w.heap.size) (hs : Still w w') : RowS w' B A n c l := ⟨h.reads.still hB hs, h.fit, h.cap, h.nil⟩
theorem RowS.dropk {w : World} {B n c k : Nat} {A : Option Addr} {l : List UInt8} (h : RowS w B A n c l) (hk : k ≤ n) : RowS w B (A.map (·.add k)) (n - k) (c - k) (l.drop k) :=
  ⟨h.reads.dropk hk, by have := h.fit; omega, by have := h.cap; omega, fun e => by
    have e2 : A = none := by simpa using e
    have := h.nil e2
    omega⟩
theorem RowS.endk {w : World} {B n c : Nat} {A : Option Addr} {l : List UInt8} (h : RowS w B A n c l) {k : Nat} (hk : n ≤ k) : RowS w B A 0 0 (l.drop k) := by
  have e : l.drop k = [] := List.drop_of_length_le (by have := h.reads.1; omega)
  rw [e]
  exact ⟨⟨rfl, fun h => by omega⟩, by omega, by omega, fun _ => ⟨rfl, rfl⟩⟩
/-- A row that came in, cut. -/
theorem cut_row {w : World} {A : Option Addr} {n0 c0 : Nat} {z : List Int} (h : RowIn .u8 w A n0 c0 z) (k : Nat) (hk : 1 ≤ k) :
    ∃ n l, RowS w w.heap.size A n c0 l ∧ n ≤ k ∧ Calls Tryz.prog 16 #[.slice A n0 c0, .int .i64 k] w fun e w' => e = .returned (.slice A n c0) ∧ w = w' := by
  obtain ⟨l0, r0, hc0, hm0, hA0⟩ := reads_of_row h
  exact ⟨_, _, ⟨r0.take k, by omega, hm0, fun e => ⟨by have := (hA0 e).1; omega, (hA0 e).2⟩⟩, by omega, cut_any A n0 c0 k l0 w _ r0 hc0 hm0 hk⟩
end Go.Proofs.YtljacdbdjacbkaaGreat

/- Slices of bytes in blocks of a kind. It proves no statement. -/


namespace Go.Proofs.YtljacdbdjacbkaaGreat
open Go.RowKit
set_option linter.unusedVariables false
set_option linter.unusedSimpArgs false

/-- A slice of bytes in a block of P. -/
structure RowP (w : World) (P : Nat → Prop) (A : Option Addr) (n c : Nat) (l : List UInt8) : Prop where
  len : l.length = n
  fit : n ≤ c
  cap : c ≤ 9223372036854775807
  nil : A = none → n = 0 ∧ c = 0
  at_ : 0 < n → ∃ b o, A = some ⟨b, o, none⟩ ∧ P b ∧ b < w.heap.size ∧ ∀ i, i < n → w.cell? ⟨b, o + i, none⟩ = some (Value.int .u8 ((l.getD i 0).toNat : Int))
section
variable {w w' : World} {P Q : Nat → Prop} {A : Option Addr} {n c k : Nat} {l : List UInt8}
theorem RowP.reads (h : RowP w P A n c l) : Reads w w.heap.size A n l :=
  ⟨h.len, fun hn => by obtain ⟨b, o, e, _, hb, hc⟩ := h.at_ hn; exact ⟨b, o, e, hb, hc⟩⟩
theorem RowP.rowS (h : RowP w P A n c l) : RowS w w.heap.size A n c l := ⟨h.reads, h.fit, h.cap, h.nil⟩
theorem RowP.none_ : RowP w P none 0 0 [] := ⟨rfl, Nat.le_refl _, by omega, fun _ => ⟨rfl, rfl⟩, fun h => absurd h (by omega)⟩
theorem RowP.keep (h : RowP w P A n c l) (hk : ∀ b, P b → b < w.heap.size → w'.heap[b]? = w.heap[b]?) (hs : w.heap.size ≤ w'.heap.size) : RowP w' P A n c l :=
  ⟨h.len, h.fit, h.cap, h.nil, fun hn => by
    obtain ⟨b, o, e, hp, hb, hc⟩ := h.at_ hn
    exact ⟨b, o, e, hp, by omega, fun i hi => (World.cell?_of_block (w := w) (hk b hp hb)).trans (hc i hi)⟩⟩
theorem RowP.chg {S : Nat → Prop} (h : RowP w P A n c l) (g : Chg w w' S) (hS : ∀ b, P b → b < w.heap.size → ¬ S b) : RowP w' P A n c l := h.keep (fun b hp hb => g.block b hb (hS b hp hb)) g.size
theorem RowP.still (h : RowP w P A n c l) (s : Still w w') : RowP w' P A n c l := h.keep (fun b _ hb => s.block b hb) s.size
theorem RowP.mono (h : RowP w P A n c l) (hP : ∀ b, P b → b < w.heap.size → Q b) : RowP w Q A n c l :=
  ⟨h.len, h.fit, h.cap, h.nil, fun hn => by obtain ⟨b, o, e, hp, hb, hc⟩ := h.at_ hn; exact ⟨b, o, e, hP b hp hb, hb, hc⟩⟩
theorem RowP.of_rowS {B : Nat} (h : RowS w B A n c l) (hB : B ≤ w.heap.size) : RowP w (fun b => b < B) A n c l :=
  ⟨h.reads.1, h.fit, h.cap, h.nil, fun hn => by obtain ⟨b, o, e, hb, hc⟩ := h.reads.2 hn; exact ⟨b, o, e, hb, by omega, hc⟩⟩
theorem RowP.of_own {base : Nat} (h : w.ownsRow base 5 1 (.slice A n c) n (bytesV l)) : RowP w (fun b => base ≤ b ∧ (Value.slice A n c).ownBlock = some b) A n c l := by
  have hr := Reads.of_own h
  obtain ⟨A', c', e, h1, h2, h3⟩ := own_form h
  injection e with e1 e2 e3
  subst e1
  subst e3
  refine ⟨hr.1, h1, h2, h3, fun hn => ?_⟩
  obtain ⟨b, o, rfl, hb, hc⟩ := hr.2 hn
  refine ⟨b, o, rfl, ⟨?_, rfl⟩, hb, hc⟩
  rcases h.2 with ⟨_, h0⟩ | ⟨g, cp, cur, hv, hg, _⟩
  · omega
  · injection hv with hv1
    cases hv1
    exact hg
theorem RowP.dropk (h : RowP w P A n c l) (hk : k ≤ n) : RowP w P (A.map (·.add k)) (n - k) (c - k) (l.drop k) :=
  ⟨by rw [List.length_drop, h.len], by have := h.fit; omega, by have := h.cap; omega, fun e => by
    have e2 : A = none := by simpa using e
    have := h.nil e2
    omega, fun hn => by
    obtain ⟨b, o, rfl, hp, hb, hc⟩ := h.at_ (by omega)
    refine ⟨b, o + k, by simp [Addr.add_lit], hp, hb, fun i hi => ?_⟩
    have := hc (k + i) (by omega)
    rw [Nat.add_assoc, this]
    simp [List.getD]⟩
theorem RowP.endk (h : RowP w P A n c l) (hk : n ≤ k) : RowP w P A 0 0 (l.drop k) := by
  have e : l.drop k = [] := List.drop_of_length_le (by have := h.len; omega)
  rw [e]
  exact ⟨rfl, by omega, by omega, fun _ => ⟨rfl, rfl⟩, fun h => by omega⟩
theorem RowP.takek (h : RowP w P A n c l) (hk : k ≤ n) : RowP w P A k c (l.take k) :=
  ⟨by rw [List.length_take, h.len]; omega, by have := h.fit; omega, h.cap, fun e => by have := h.nil e; omega, fun hn => by
    obtain ⟨b, o, e, hp, hb, hc⟩ := h.at_ (by omega)
    refine ⟨b, o, e, hp, hb, fun i hi => ?_⟩
    rw [hc i (by omega)]
    have : (l.take k).getD i 0 = l.getD i 0 := by simp [List.getD, List.getElem?_take, hi]
    rw [this]⟩
end
end Go.Proofs.YtljacdbdjacbkaaGreat

/- The document's disk in memory: whose block is whose; what stays when something turns. It proves no statement. -/


namespace Go.Proofs.YtljacdbdjacbkaaGreat
open Go.RowKit Go.Maps Go.WideMaps Go.Sort
set_option linter.unusedVariables false
set_option linter.unusedSimpArgs false

/-- A change of a file's bytes. -/
structure DCh where
  cut : Bool
  k : Int
  b : List UInt8
/-- A file: its bytes that are fast, those now, what waits. -/
structure DFi where
  fast : List UInt8
  now : List UInt8
  waits : List DCh
structure Dk where
  room : Int
  files : List DFi
  fast : NT
  now : NT
  waits : List Lk
  armed : Bool
  left : Int
  off : Bool
def lkV (X : List Lk) : List Value := X.flatMap lkC
theorem lkV_append (X Y : List Lk) : lkV (X ++ Y) = lkV X ++ lkV Y := by simp [lkV]
theorem lkV_one (x : Lk) : lkV [x] = lkC x := by simp [lkV]
theorem lkV_length (X : List Lk) : (lkV X).length = X.length * 3 := by
  induction X with
  | nil => rfl
  | cons x r ih =>
    have : (lkV (x :: r)).length = 3 + (lkV r).length := by simp [lkV, lkC]; omega
    rw [this, ih, List.length_cons]
    omega
theorem lkV_get : ∀ (X : List Lk) (i : Nat) (x : Lk), X[i]? = some x → ∀ q u, (lkC x)[q]? = some u → (lkV X)[i * 3 + q]? = some u
  | [], i, x, h, _, _, _ => by simp at h
  | y :: r, 0, x, h, q, u, hu => by
    simp only [List.getElem?_cons_zero, Option.some.injEq] at h
    subst h
    have hq : q < 3 := by have := (List.getElem?_eq_some_iff.1 hu).1; simpa [lkC] using this
    show (lkC y ++ lkV r)[0 * 3 + q]? = some u
    rw [Nat.zero_mul, Nat.zero_add, List.getElem?_append_left (by simp [lkC]; exact hq)]
    exact hu
  | y :: r, i + 1, x, h, q, u, hu => by
    show (lkC y ++ lkV r)[(i + 1) * 3 + q]? = some u
    rw [List.getElem?_append_right (by simp [lkC]; omega), show (i + 1) * 3 + q - (lkC y).length = i * 3 + q by simp [lkC]; omega]
    exact lkV_get r i x (by simpa using h) q u hu
/-- Whose a block is: 0: bytes, names, that never turn; 1: the disk; 2: its files' row; 3: what waits of names; 4 + i: what waits of the i-th file. -/
abbrev DOwn := Nat → Option Nat
def frz (own : DOwn) (b : Nat) : Prop := own b = some 0
/-- Changes of bytes, in cells. -/
def HasDc (w : World) (own : DOwn) (X : List DCh) (ccs : List Value) : Prop :=
  ccs.length = X.length * 3 ∧ ∀ j x, X[j]? = some x → ∃ A n c, (∀ q u, ([.bool x.cut, .int .i64 x.k, .slice A n c] : List Value)[q]? = some u → ccs[j * 3 + q]? = some u) ∧ RowP w (frz own) A n c x.b
def FileD (w : World) (base : Nat) (own : DOwn) (i : Nat) (F : DFi) (cs : List Value) : Prop :=
  ∃ A n c A2 n2 c2 A3 n3 c3 ccs, cs = [.slice A n c, .slice A2 n2 c2, .slice A3 n3 c3] ∧ RowP w (frz own) A n c F.fast ∧ RowP w (frz own) A2 n2 c2 F.now ∧ n3 = F.waits.length ∧ w.ownsRow base 72 3 (.slice A3 n3 c3) n3 ccs ∧ HasDc w own F.waits ccs ∧ ∀ b, (Value.slice A3 n3 c3).ownBlock = some b → own b = some (4 + i)
def FilesD (w : World) (base : Nat) (own : DOwn) (files : List DFi) (fcs : List Value) : Prop :=
  fcs.length = files.length * 3 ∧ ∀ i F, files[i]? = some F → ∃ cs, cs.length = 3 ∧ (∀ q u, cs[q]? = some u → fcs[i * 3 + q]? = some u) ∧ FileD w base own i F cs
def dkC (D : Dk) (fv : Value) (A : Option Addr) (n c : Nat) (A2 : Option Addr) (n2 c2 : Nat) (wv : Value) : Array Value := #[.int .i64 D.room, fv, .slice A n c, .slice A2 n2 c2, wv, .bool D.armed, .int .i64 D.left, .bool D.off]
structure DiskC (w : World) (base : Nat) (own : DOwn) (dk : Nat) (D : Dk) (fv : Value) (fcs : List Value) (A : Option Addr) (n c : Nat) (A2 : Option Addr) (n2 c2 : Nat) (wv : Value) : Prop where
  blk : Blk w dk 47 (dkC D fv A n c A2 n2 c2 wv)
  fown : w.ownsRow base 111 3 fv D.files.length fcs
  files : FilesD w base own D.files fcs
  fast : NRow w (frz own) A n c D.fast
  now : NRow w (frz own) A2 n2 c2 D.now
  wown : w.ownsRow base 114 3 wv D.waits.length (lkV D.waits)
  odk : own dk = some 1
  ofv : ∀ b, fv.ownBlock = some b → own b = some 2
  owv : ∀ b, wv.ownBlock = some b → own b = some 3
  dom : ∀ b, own b ≠ none → base ≤ b ∧ b < w.heap.size
  low : base ≤ w.heap.size
def DiskI (w : World) (base : Nat) (own : DOwn) (dk : Nat) (D : Dk) : Prop := ∃ fv fcs A n c A2 n2 c2 wv, DiskC w base own dk D fv fcs A n c A2 n2 c2 wv
section
variable {w w' : World} {base dk i : Nat} {own own' : DOwn} {D : Dk} {F : DFi} {S : Nat → Prop} {cs fcs : List Value}
theorem RowP.move {A : Option Addr} {n c : Nat} {l : List UInt8} (h : RowP w (frz own) A n c l) (g : Chg w w' S) (h0 : ∀ b, S b → own b ≠ some 0) (ho : ∀ b, b < w.heap.size → own' b = own b) : RowP w' (frz own') A n c l :=
  (h.mono (Q := fun b => own b = some 0 ∧ own' b = some 0) (fun b hb hlt => ⟨hb, by rw [ho b hlt]; exact hb⟩)).chg g (fun b hb _ hs => h0 b hs hb.1) |>.mono (fun b hb _ => hb.2)
theorem NRow.move {A : Option Addr} {n c : Nat} {N : NT} (h : NRow w (frz own) A n c N) (g : Chg w w' S) (h0 : ∀ b, S b → own b ≠ some 0) (ho : ∀ b, b < w.heap.size → own' b = own b) : NRow w' (frz own') A n c N :=
  (h.mono (Q := fun b => own b = some 0 ∧ own' b = some 0) (fun b hb hlt => ⟨hb, by rw [ho b hlt]; exact hb⟩)).chg g (fun b hb _ hs => h0 b hs hb.1) |>.mono (fun b hb _ => hb.2)
theorem HasDc.move {X : List DCh} {ccs : List Value} (h : HasDc w own X ccs) (g : Chg w w' S) (h0 : ∀ b, S b → own b ≠ some 0) (ho : ∀ b, b < w.heap.size → own' b = own b) : HasDc w' own' X ccs :=
  ⟨h.1, fun j x hx => by
    obtain ⟨A, n, c, h1, h2⟩ := h.2 j x hx
    exact ⟨A, n, c, h1, h2.move g h0 ho⟩⟩
theorem HasDc.nil (w : World) (own : DOwn) : HasDc w own [] [] := ⟨rfl, fun j x h => by cases h⟩
theorem FileD.move (h : FileD w base own i F cs) (g : Chg w w' S) (h0 : ∀ b, S b → own b ≠ some 0) (hi : ∀ b, S b → own b ≠ some (4 + i)) (ho : ∀ b, b < w.heap.size → own' b = own b) : FileD w' base own' i F cs := by
  obtain ⟨A, n, c, A2, n2, c2, A3, n3, c3, ccs, h1, h2, h3, h4, h5, h6, h7⟩ := h
  exact ⟨A, n, c, A2, n2, c2, A3, n3, c3, ccs, h1, h2.move g h0 ho, h3.move g h0 ho, h4, g.own h5 (fun b hb hs => hi b hs (h7 b hb)), h6.move g h0 ho, fun b hb => by rw [ho b (h5.lt b hb).2]; exact h7 b hb⟩
theorem FilesD.move {files : List DFi} (h : FilesD w base own files fcs) (g : Chg w w' S) (h0 : ∀ b, S b → own b ≠ some 0) (hi : ∀ b i, S b → own b ≠ some (4 + i)) (ho : ∀ b, b < w.heap.size → own' b = own b) : FilesD w' base own' files fcs :=
  ⟨h.1, fun i F hF => by
    obtain ⟨cs, h1, h2, h3⟩ := h.2 i F hF
    exact ⟨cs, h1, h2, h3.move g h0 (fun b hs => hi b i hs) ho⟩⟩
/-- Another file in the place of one of them. -/
theorem FilesD.set {files : List DFi} {f : Nat} {G : DFi} {cs' : List Value} (h : FilesD w base own files fcs) (g : Chg w w' S) (h0 : ∀ b, S b → own b ≠ some 0) (hi : ∀ b i, S b → i ≠ f → own b ≠ some (4 + i)) (ho : ∀ b, b < w.heap.size → own' b = own b) (hf : f < files.length) (hl : cs'.length = 3) (hG : FileD w' base own' f G cs') (fcs' : List Value) (hl' : fcs'.length = files.length * 3) (he : ∀ q u, cs'[q]? = some u → fcs'[f * 3 + q]? = some u) (hne : ∀ j, (j < f * 3 ∨ f * 3 + 3 ≤ j) → fcs'[j]? = fcs[j]?) : FilesD w' base own' (files.set f G) fcs' := by
  refine ⟨by rw [List.length_set]; exact hl', fun i F hF => ?_⟩
  by_cases e : i = f
  · subst e
    rw [List.getElem?_set_self hf] at hF
    obtain rfl := Option.some.inj hF
    exact ⟨cs', hl, he, hG⟩
  · rw [List.getElem?_set_ne (fun h => e h.symm)] at hF
    obtain ⟨cs, h1, h2, h3⟩ := h.2 i F hF
    refine ⟨cs, h1, fun q u hq => ?_, h3.move g h0 (fun b hs => hi b i hs e) ho⟩
    have hq3 := (List.getElem?_eq_some_iff.1 hq).1
    rw [hne _ (by omega)]
    exact h2 q u hq
/-- One more file. -/
theorem FilesD.snoc {files : List DFi} {G : DFi} {cs' : List Value} (h : FilesD w base own files fcs) (hl : cs'.length = 3) (hG : FileD w base own files.length G cs') : FilesD w base own (files ++ [G]) (fcs ++ cs') := by
  refine ⟨by rw [List.length_append, List.length_append, h.1, hl, List.length_singleton]; omega, fun i F hF => ?_⟩
  by_cases e : i < files.length
  · rw [List.getElem?_append_left e] at hF
    obtain ⟨cs, h1, h2, h3⟩ := h.2 i F hF
    refine ⟨cs, h1, fun q u hq => ?_, h3⟩
    have hq3 := (List.getElem?_eq_some_iff.1 hq).1
    rw [List.getElem?_append_left (by rw [h.1]; omega)]
    exact h2 q u hq
  · have hi := (List.getElem?_eq_some_iff.1 hF).1
    rw [List.length_append, List.length_singleton] at hi
    obtain rfl : i = files.length := by omega
    rw [List.getElem?_append_right (Nat.le_refl _), Nat.sub_self] at hF
    obtain rfl := Option.some.inj hF
    refine ⟨cs', hl, fun q u hq => ?_, hG⟩
    rw [List.getElem?_append_right (by rw [h.1]; omega), h.1, show files.length * 3 + q - files.length * 3 = q by omega]
    exact hq
theorem DiskI.keep (h : DiskI w base own dk D) (g : Chg w w' S) (hS : ∀ b, S b → own b = none) : DiskI w' base own dk D := by
  obtain ⟨fv, fcs, A, n, c, A2, n2, c2, wv, h⟩ := h
  have h0 : ∀ k b, S b → own b ≠ some k := fun k b hs e => by rw [hS b hs] at e; cases e
  exact ⟨fv, fcs, A, n, c, A2, n2, c2, wv, g.blk h.blk (fun hs => h0 _ _ hs h.odk), g.own h.fown (fun b hb hs => h0 _ _ hs (h.ofv b hb)), h.files.move g (h0 0) (fun b i => h0 _ b) (fun _ _ => rfl), h.fast.move g (h0 0) (fun _ _ => rfl), h.now.move g (h0 0) (fun _ _ => rfl), g.own h.wown (fun b hb hs => h0 _ _ hs (h.owv b hb)), h.odk, h.ofv, h.owv, fun b hb => ⟨(h.dom b hb).1, Nat.lt_of_lt_of_le (h.dom b hb).2 g.size⟩, Nat.le_trans h.low g.size⟩
theorem DiskI.still (h : DiskI w base own dk D) (s : Still w w') : DiskI w' base own dk D := h.keep (Chg.of_still s (fun _ => False)) (fun _ h => h.elim)
end
/-- What a call leaves of a disk. -/
def DLeft (w w' : World) (base dk : Nat) (own : DOwn) (D' : Dk) : Prop := Chg w w' (fun b => own b ≠ none) ∧ ∃ own' : DOwn, (∀ b, b < w.heap.size → own' b = own b) ∧ DiskI w' base own' dk D'
theorem DLeft.still {w w' : World} {base dk : Nat} {own : DOwn} {D : Dk} (h : DiskI w base own dk D) (s : Still w w') : DLeft w w' base dk own D := ⟨Chg.of_still s _, own, fun _ _ => rfl, h.still s⟩
theorem DLeft.trans {w w1 w2 : World} {base dk : Nat} {own : DOwn} {D' D'' : Dk} (hd : ∀ b, own b ≠ none → b < w.heap.size) (h : DLeft w w1 base dk own D') (k : ∀ own', (∀ b, b < w.heap.size → own' b = own b) → DiskI w1 base own' dk D' → DLeft w1 w2 base dk own' D'') : DLeft w w2 base dk own D'' := by
  obtain ⟨c, own', ho, d⟩ := h
  obtain ⟨c2, own2, ho2, d2⟩ := k own' ho d
  exact ⟨c.trans c2 (fun b hb hs => by rw [← ho b hb]; exact hs), own2, fun b hb => (ho2 b (Nat.lt_of_lt_of_le hb c.size)).trans (ho b hb), d2⟩
end Go.Proofs.YtljacdbdjacbkaaGreat
