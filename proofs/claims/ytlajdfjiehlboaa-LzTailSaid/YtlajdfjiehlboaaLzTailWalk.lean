/- The walk of LzTail: it returns true, and nothing that was there turns. -/
import Derived.Test.YtlajdfjiehlboaaLzBoundWalk
namespace Go.Proofs.Ytlajdfjiehlboaa
open Go.RowKit
set_option linter.unusedVariables false
set_option linter.unusedSimpArgs false

/-- What stands while LzTail goes through a block Z of n bytes of text. -/
structure TlMid (n : Nat) (Z : List UInt8) (told at_ many : Nat) : Prop where
  ex : ∃ (S : List (List UInt8 × Nat × Nat)) (z t : List UInt8), Z.drop at_ = encS S ++ litB z 0 ∧ Good n t S ∧ t.length = told ∧ (decS t S ++ z).length = n ∧ (many = 0 ∨ 5 ≤ z.length) ∧ (S = [] ∨ 5 ≤ z.length)
  fit : at_ ≤ Z.length
theorem TlMid.start (b : List UInt8) (h : b.length ≤ 65536) : TlMid b.length (sqz b) 0 0 0 := by
  obtain ⟨S, told, h1, h2, h3, h4, h5⟩ := sqz_form b h
  refine ⟨⟨S, b.drop told, [], by rw [List.drop_zero, h1], h2, rfl, by rw [h3, List.take_append_drop], .inl rfl, ?_⟩, Nat.zero_le _⟩
  rcases h5 with h5 | h5
  · exact .inl h5
  · exact .inr (by rw [List.length_drop]; omega)
/-- The next token, and the literals behind it: the last sequence, or another. -/
theorem TlMid.next {n told at_ many : Nat} {Z : List UInt8} (h : TlMid n Z told at_ many) : ∃ (k : UInt8) (a nxt : Nat), at_ < Z.length ∧ Z.getD at_ 0 = k ∧ numR (k.toNat / 16) (Z.drop (at_ + 1)) = some (a, Z.drop nxt) ∧ nxt + a ≤ Z.length ∧ a ≤ n ∧ told ≤ n ∧
    ((nxt + a = Z.length ∧ (many = 0 ∨ 5 ≤ a) ∧ told + a = n) ∨
     (nxt + a + 2 ≤ Z.length ∧ told + a + 12 ≤ n ∧ ∃ m further, numR (k.toNat % 16) (Z.drop (nxt + a + 2)) = some (m, Z.drop further) ∧ further ≤ Z.length ∧ at_ < further ∧ m ≤ n ∧ TlMid n Z (told + a + m + 4) further (many + 1))) := by
  obtain ⟨⟨S, z, t, hZ, hg, ht, hlen, hm, hs⟩, hfit⟩ := h
  have hlt : ∀ (X : List UInt8) (p : Nat), Z.drop at_ = X → p ≤ X.length → Z.drop (at_ + p) = X.drop p := fun X p e hp => by rw [← e, List.drop_drop]
  cases S with
  | nil =>
    have e : Z.drop at_ = tokL z.length 0 :: (extL z.length ++ z) := hZ
    have hl : Z.length = at_ + 1 + (extL z.length).length + z.length := by
      have := congrArg List.length e
      simp only [List.length_drop, List.length_cons, List.length_append] at this
      omega
    have e1 : Z.drop (at_ + 1) = extL z.length ++ z := by rw [← List.drop_drop, e]; rfl
    have e2 : Z.drop (at_ + 1 + (extL z.length).length) = z := by rw [← List.drop_drop, e1, List.drop_left]
    have hk : Z.getD at_ 0 = tokL z.length 0 := by
      have := getD_drop0 Z at_ (by omega)
      rw [e] at this
      exact (List.cons.inj this).1.symm
    have hdec : decS t [] = t := rfl
    rw [hdec, List.length_append] at hlen
    refine ⟨tokL z.length 0, z.length, at_ + 1 + (extL z.length).length, by omega, hk, by rw [tok_div, e1, numR_ext, e2], by omega, by omega, by omega, .inl ⟨by omega, hm, by omega⟩⟩
  | cons s S =>
    obtain ⟨l, d, k⟩ := s
    obtain ⟨⟨g1, g2, g3, g4, g5⟩, hg2⟩ := hg
    simp only at g1 g2 g3 g4 g5 hg2
    have h5 : 5 ≤ z.length := by rcases hs with h | h; cases h; exact h
    obtain ⟨rest, hrest⟩ : ∃ rest, rest = encS S ++ litB z 0 := ⟨_, rfl⟩
    have e : Z.drop at_ = tokL l.length (k - 4) :: (extL l.length ++ (l ++ (UInt8.ofNat d :: UInt8.ofNat (d / 256) :: (extL (k - 4) ++ rest)))) := by
      rw [hZ, encS_cons, List.append_assoc, ← hrest]
      exact seqB_form l d k rest
    have hl : Z.length = at_ + 1 + (extL l.length).length + l.length + 2 + (extL (k - 4)).length + rest.length := by
      have := congrArg List.length e
      simp only [List.length_drop, List.length_cons, List.length_append] at this
      omega
    have e1 : Z.drop (at_ + 1) = extL l.length ++ (l ++ (UInt8.ofNat d :: UInt8.ofNat (d / 256) :: (extL (k - 4) ++ rest))) := by rw [← List.drop_drop, e]; rfl
    have e2 : Z.drop (at_ + 1 + (extL l.length).length) = l ++ (UInt8.ofNat d :: UInt8.ofNat (d / 256) :: (extL (k - 4) ++ rest)) := by rw [← List.drop_drop, e1, List.drop_left]
    have e3 : Z.drop (at_ + 1 + (extL l.length).length + l.length + 2) = extL (k - 4) ++ rest := by rw [← List.drop_drop, ← List.drop_drop, e2, List.drop_left]; rfl
    have e4 : Z.drop (at_ + 1 + (extL l.length).length + l.length + 2 + (extL (k - 4)).length) = rest := by rw [← List.drop_drop, e3, List.drop_left]
    have hk : Z.getD at_ 0 = tokL l.length (k - 4) := by
      have := getD_drop0 Z at_ (by omega)
      rw [e] at this
      exact (List.cons.inj this).1.symm
    rw [List.length_append] at g5
    have hdl := decS_len (backL d k (t ++ l)) S
    rw [backL_length, List.length_append] at hdl
    have hlen' : (decS (backL d k (t ++ l)) S ++ z).length = n := hlen
    rw [List.length_append] at hlen'
    refine ⟨tokL l.length (k - 4), l.length, at_ + 1 + (extL l.length).length, by omega, hk, by rw [tok_div, e1, numR_ext, e2], by omega, by omega, by omega, .inr ⟨by omega, by omega, k - 4, at_ + 1 + (extL l.length).length + l.length + 2 + (extL (k - 4)).length, by rw [tok_mod, e3, numR_ext, e4], by omega, by omega, by omega, ⟨⟨S, z, backL d k (t ++ l), by rw [e4]; exact hrest, hg2, by rw [backL_length, List.length_append]; omega, hlen, .inr h5, .inr h5⟩, by omega⟩⟩⟩

/-- What Extended answers, where it is known. -/
theorem ext_is {Z : List UInt8} {L m at_ a nxt : Nat} (hL : L = Z.length) (h : numR m (Z.drop at_) = some (a, Z.drop nxt)) (hn : nxt ≤ L) {P : Program} {f : FuncId} {args : Array Value} {w : World}
    (c : Calls P f args w fun e w' => (∃ y z : Nat, ∃ ok : Bool, e = .returned (.tuple #[.int .i64 y, .int .i64 z, .bool ok]) ∧ ((ok = true ∧ z ≤ L ∧ numR m (Z.drop at_) = some (y, Z.drop z)) ∨ (ok = false ∧ numR m (Z.drop at_) = none))) ∧ w' = w) :
    Calls P f args w fun e w' => e = .returned (.tuple #[.int .i64 a, .int .i64 nxt, .bool true]) ∧ w' = w := by
  refine c.mono ?_
  rintro e w' ⟨⟨y, z, ok, he, hc⟩, hw⟩
  rcases hc with ⟨rfl, hz, hc⟩ | ⟨_, hc⟩
  · rw [h] at hc
    simp only [Option.some.injEq, Prod.mk.injEq] at hc
    obtain ⟨rfl, hd⟩ := hc
    have := congrArg List.length hd
    simp only [List.length_drop] at this
    obtain rfl : nxt = z := by omega
    exact ⟨he, hw⟩
  · rw [h] at hc; cases hc

set_option maxRecDepth 100000 in
set_option maxHeartbeats 3200000 in
theorem lzTail_walk (A0 : Option Addr) (n0 c0 : Nat) (z0 : List Int) (w : World) (h0 : RowIn .u8 w A0 n0 c0 z0) :
    Calls Try.prog 8 #[.slice A0 n0 c0] w fun e w' => e = .returned (.bool true) ∧ Below w.heap.size w w' := by
  obtain ⟨n, l, rs, hn, hcut⟩ := cut_row h0 2000 (by omega)
  have hl := rs.reads.1
  obtain ⟨e1, e2⟩ := sq_ok (b := l) (by omega)
  have SQ := Lib.hid (squeeze_any A0 n c0 l w _ rs.reads (Nat.le_refl _) (by omega) rs.fit rs.cap rs.nil)
  rw [e1, e2] at SQ
  obtain ⟨b1, b2⟩ := sqz_length l (by omega)
  have TM := Lib.hid (TlMid.start l (by omega))
  obtain ⟨Z, hZ⟩ : ∃ Z, Z = sqz l := ⟨_, rfl⟩
  rw [← hZ] at SQ b1 b2 TM
  rw [hl] at b2 TM
  have HC := Lib.hid hcut
  clear hcut h0 rs e1 e2 hZ hl
  go_enter Try.func8, Try.ntmps8
  go_wp2_with fail
  refine HC.out.mono ?_
  rintro e w1 ⟨rfl, rfl⟩
  go_wp2_with fail
  refine SQ.out.mono ?_
  rintro e w2 ⟨⟨v, rfl, own⟩, s2⟩
  obtain ⟨A1, c1, rfl, f1, f2, f3⟩ := own_form own
  have S2 := Lib.hid s2
  have RZ := Lib.hid (Reads.of_own own)
  obtain ⟨L, hL⟩ : ∃ L, L = Z.length := ⟨_, rfl⟩
  rw [← hL] at RZ b1 b2 f1 ⊢
  obtain ⟨bz, oz, hA1, hbz, hcells⟩ := RZ.out.at_ (by omega)
  subst hA1
  have HCL := Lib.hid hcells
  have HL := Lib.hid hL
  clear own s2 SQ HC f1 f3 hL hcells hbz
  go_wp2_with fail
  go_loopw [5, 6, 7] (fun tv av mv wr => ∃ (told a many : Nat), tv = .int .i64 told ∧ av = .int .i64 a ∧ mv = .int .i64 many ∧ many ≤ a ∧ a ≤ L ∧ wr = w2 ∧ Hid (TlMid n Z told a many)) (fun _ av _ _ => L - (intOf av).toNat)
  case atStart => exact ⟨0, 0, 0, rfl, rfl, rfl, Nat.le_refl _, by omega, rfl, TM.out⟩
  case round =>
    obtain ⟨told, a, many, rfl, rfl, rfl, hma, haL, rfl, hh⟩ := hrel
    obtain ⟨k, la, nxt, h1, h2, h3, h4, h5, h6, hcase⟩ := hh.out.next
    rw [← HL.out] at h1 h4 hcase
    have q1 := HCL.out a h1
    rw [h2] at q1
    have hk := k.toNat_lt
    have EX1 := Lib.hid (fun (m : Nat) (hm : m ≤ 65536) => extended_any (some ⟨bz, oz, none⟩) L c1 (a + 1) m Z wr _ RZ.out (by omega) (by omega) hm)
    obtain ⟨y, hy⟩ : ∃ y, y = k.toNat := ⟨_, rfl⟩
    rw [← hy] at q1 hk h3 hcase
    have hnL : nxt ≤ L := by omega
    have EX2 := Lib.hid (ext_is HL.out h3 hnL (EX1.out (y / 16) (by omega)))
    have EX3 := Lib.hid (fun (p m a2 n2 : Nat) (hp : p ≤ L) (hm : m ≤ 65536) (h : numR m (Z.drop p) = some (a2, Z.drop n2)) (hn2 : n2 ≤ L) => ext_is HL.out h hn2 (extended_any (some ⟨bz, oz, none⟩) L c1 p m Z wr _ RZ.out (by omega) hp hm))
    have HH := Lib.hid hcase
    have i1 : IntKind.i64.wrap ((y : Int) / 16) = ((y / 16 : Nat) : Int) := by rw [IntKind.wrap_i64]; omega
    clear h2 h3 hy hh hcase
    go_wp2_with fail
    rw [show (a : Int) + 1 = ((a + 1 : Nat) : Int) by omega, show (y : Int) / 16 = ((y / 16 : Nat) : Int) by omega]
    refine EX2.out.mono ?_
    rintro e w3 ⟨rfl, rfl⟩
    clear EX1 EX2
    have d1 : ¬ ((L : Int) - (nxt : Int) < (la : Int)) := by omega
    rcases HH.out with ⟨hq, hm2, ht2⟩ | ⟨hq, ht2, m, fu, hnum, hf1, hf2, hm2, hmid⟩
    · have b1' : ((nxt : Int) + (la : Int) == (L : Int)) = true := by simp; omega
      have b2' : ((told : Int) + (la : Int) == (n : Int)) = true := by simp; omega
      clear HH EX3 hq ht2
      rcases hm2 with rfl | hm2
      · go_wp2_with fail
        refine (lives_any _).mono ?_
        rintro e w4 ⟨rfl, s4⟩
        have S4 := Lib.hid s4
        clear s4
        go_wp2_with fail
        go_ret
        exact ⟨rfl, S2.out.trans S4.out⟩
      · by_cases hm0 : many = 0
        · have b3 : ((many : Int) == 0) = true := by simp; omega
          go_wp2_with fail
          refine (lives_any _).mono ?_
          rintro e w4 ⟨rfl, s4⟩
          have S4 := Lib.hid s4
          clear s4
          go_wp2_with fail
          go_ret
          exact ⟨rfl, S2.out.trans S4.out⟩
        · have b3 : ((many : Int) == 0) = false := by simp; omega
          have b4 : (5 : Int) ≤ (la : Int) := by omega
          go_wp2_with fail
          refine (lives_any _).mono ?_
          rintro e w4 ⟨rfl, s4⟩
          have S4 := Lib.hid s4
          clear s4
          go_wp2_with fail
          go_ret
          exact ⟨rfl, S2.out.trans S4.out⟩
    · have b1' : ((nxt : Int) + (la : Int) == (L : Int)) = false := by simp; omega
      have d2 : ¬ ((n : Int) - 12 < (told : Int) + (la : Int)) := by omega
      have d3 : ¬ ((L : Int) - ((nxt : Int) + (la : Int)) < 2) := by omega
      have EX4 := Lib.hid (EX3.out (nxt + la + 2) (y % 16) m fu (by omega) (by omega) hnum hf1)
      have MID := Lib.hid hmid
      clear HH EX3 hnum hmid
      go_wp2_with fail
      rw [show (nxt : Int) + (la : Int) + 2 = ((nxt + la + 2 : Nat) : Int) by omega, show (y : Int) % 16 = ((y % 16 : Nat) : Int) by omega]
      refine EX4.out.mono ?_
      rintro e w3 ⟨rfl, rfl⟩
      clear EX4
      go_wp2_with fail
      go_roundw
      case rel => exact ⟨told + la + m + 4, fu, many + 1, by go_num, rfl, by go_num, by omega, hf1, by trivial, MID.out⟩
      case measure => simp [intOf]; omega
end Go.Proofs.Ytlajdfjiehlboaa
