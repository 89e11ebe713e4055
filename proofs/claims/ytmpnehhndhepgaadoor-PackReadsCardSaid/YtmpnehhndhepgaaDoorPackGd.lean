/- Contracts and facts, several texts in one. It proves no statement. -/
import Derived.Test.YtmpnehhndhepgaaDoorPackGb
import Derived.Test.YtmpnehhndhepgaaDoorPackGa
import Derived.BigQuiet
import Derived.BigFrame
import Derived.Test.YtmpnehhndhepgaaDoorPackGc

/- Plain facts on texts and lists. It proves no statement. -/




namespace Go.Proofs.YtmpnehhndhepgaaDoor
open Go.RowKit
set_option linter.unusedVariables false
set_option linter.unusedSimpArgs false

theorem text_iff (a b : ByteArray) : (a.toList = b.toList) ↔ a = b := by
  constructor
  · intro h
    rw [ByteArray.toList_eq, ByteArray.toList_eq] at h
    exact Go.WideShapes.bytes_inj h
  · intro h; rw [h]

theorem list_ext {α : Type} (d : α) (l l' : List α) (hl : l.length = l'.length) (h : ∀ i, i < l.length → l.getD i d = l'.getD i d) : l = l' := by
  apply List.ext_getElem hl
  intro i h1 h2
  have := h i h1
  simpa [List.getD, h1, h2] using this

end Go.Proofs.YtmpnehhndhepgaaDoor

/- When two values are the same. It proves no statement. -/


namespace Go.Proofs.YtmpnehhndhepgaaDoor
open Go.RowKit
set_option linter.unusedVariables false
set_option linter.unusedSimpArgs false

mutual
/-- Are two values the same, kind by kind? -/
def sameT : Tr → Tr → Bool
  | .mk k i b t ks l, .mk k' i' b' t' ks' l' => decide (k = k') && (if k = 3 then decide (i = i') else if k = 4 then decide (b = b') else if k = 5 then decide (t = t') else if k = 6 then sameL l l' else if k = 7 then decide (ks = ks') && sameL l l' else true)
def sameL : List Tr → List Tr → Bool
  | [], [] => true
  | x :: r, y :: r' => sameT x y && sameL r r'
  | [], _ :: _ => false
  | _ :: _, [] => false
end
theorem sameL_len : ∀ (l l' : List Tr), l.length ≠ l'.length → sameL l l' = false
  | [], [], h => absurd rfl h
  | x :: r, y :: r', h => by
    unfold sameL
    rw [sameL_len r r' (by simpa using h), Bool.and_false]
  | [], _ :: _, _ => by unfold sameL; rfl
  | _ :: _, [], _ => by unfold sameL; rfl
/-- The two boxes in which 'Same' lays its values. -/
theorem two_boxes (w : World) (cs cs' : Array Value) : ∃ wA, wA = (w.alloc (.cells cs 26)).alloc (.cells cs' 26) ∧ Still w wA ∧ Blk wA w.heap.size 26 cs ∧ Blk wA (w.heap.size + 1) 26 cs' := by
  refine ⟨_, rfl, ((Still.refl w).alloc (Nat.le_refl _) _).alloc (by simp) _, (Blk.new _ _ _).alloc _, ?_⟩
  have h := Blk.new (w.alloc (.cells cs 26)) 26 cs'
  simpa using h

end Go.Proofs.YtmpnehhndhepgaaDoor

/- Mathematics: what is written, read again. It proves no statement. -/




namespace Go.Proofs.YtmpnehhndhepgaaDoor
open Go.RowKit
set_option linter.unusedVariables false
set_option linter.unusedSimpArgs false

theorem st_kd (k n : Nat) (h4 : 4 ≤ k) (h7 : k ≤ 7) (hn : n < 65536) : kd (st k n) = (k : Int) ∧ (bh (st k n) = 0 → st k n - noneT k = n) ∧ (bh (st k n) ≠ 0 → n < 2 ^ (8 * bh (st k n))) := by
  obtain rfl | rfl | rfl | rfl : k = 4 ∨ k = 5 ∨ k = 6 ∨ k = 7 := by omega
  · rw [st4]; split
    · exact ⟨rfl, fun h => absurd h (by decide), fun _ => by rw [show bh 196 = 1 from rfl]; omega⟩
    · exact ⟨rfl, fun h => absurd h (by decide), fun _ => by rw [show bh 197 = 2 from rfl]; omega⟩
  · rw [st5]; split
    · refine ⟨by unfold kd; simp only [show ¬(160 + n < 128 ∨ 224 ≤ 160 + n ∨ (204 ≤ 160 + n ∧ 160 + n ≤ 211)) by omega, show ¬(160 + n < 144 ∨ 160 + n = 222) by omega, show ¬(160 + n < 160 ∨ 160 + n = 220) by omega, show (160 + n < 192 ∨ 160 + n = 217 ∨ 160 + n = 218) by omega, if_true, if_false]; rfl, fun _ => ?_, fun h => absurd ?_ h⟩
      · rw [show noneT 5 = 160 from rfl]; omega
      · unfold bh; rw [if_neg (by omega), if_neg (by omega), if_neg (by omega), if_neg (by omega)]
    · split
      · exact ⟨rfl, fun h => absurd h (by decide), fun _ => by rw [show bh 217 = 1 from rfl]; omega⟩
      · exact ⟨rfl, fun h => absurd h (by decide), fun _ => by rw [show bh 218 = 2 from rfl]; omega⟩
  · rw [st6]; split
    · refine ⟨by unfold kd; simp only [show ¬(144 + n < 128 ∨ 224 ≤ 144 + n ∨ (204 ≤ 144 + n ∧ 144 + n ≤ 211)) by omega, show ¬(144 + n < 144 ∨ 144 + n = 222) by omega, show (144 + n < 160 ∨ 144 + n = 220) by omega, if_true, if_false]; rfl, fun _ => ?_, fun h => absurd ?_ h⟩
      · rw [show noneT 6 = 144 from rfl]; omega
      · unfold bh; rw [if_neg (by omega), if_neg (by omega), if_neg (by omega), if_neg (by omega)]
    · exact ⟨rfl, fun h => absurd h (by decide), fun _ => by rw [show bh 220 = 2 from rfl]; omega⟩
  · rw [st7]; split
    · refine ⟨by unfold kd; simp only [show ¬(128 + n < 128 ∨ 224 ≤ 128 + n ∨ (204 ≤ 128 + n ∧ 128 + n ≤ 211)) by omega, show (128 + n < 144 ∨ 128 + n = 222) by omega, if_true, if_false]; rfl, fun _ => ?_, fun h => absurd ?_ h⟩
      · rw [show noneT 7 = 128 from rfl]; omega
      · unfold bh; rw [if_neg (by omega), if_neg (by omega), if_neg (by omega), if_neg (by omega)]
    · exact ⟨rfl, fun h => absurd h (by decide), fun _ => by rw [show bh 222 = 2 from rfl]; omega⟩
theorem u8_st (k n : Nat) (h4 : 4 ≤ k) (h7 : k ≤ 7) : (UInt8.ofNat (st k n)).toNat = st k n := by
  have := st_lt k n h4 h7
  rw [UInt8.toNat_ofNat']; omega
/-- A size, read again. -/
theorem szD_st (k n : Nat) (h4 : 4 ≤ k) (h7 : k ≤ 7) (hn : n < 65536) (r : List UInt8) : szD k (st k n) (numB (st k n) n ++ r) = (0, n, r) := by
  obtain ⟨h1, h2, h3⟩ := st_kd k n h4 h7 hn
  have hl := numB_length (st k n) n
  unfold szD
  by_cases hb : bh (st k n) = 0
  · rw [if_pos hb, h2 hb]
    rw [hb] at hl
    rw [List.length_eq_zero_iff.1 hl]; rfl
  · rw [if_neg hb, if_neg (by rw [List.length_append, hl]; omega)]
    have e1 : (numB (st k n) n ++ r).take (bh (st k n)) = numB (st k n) n := by rw [← hl]; exact List.take_left
    have e2 : (numB (st k n) n ++ r).drop (bh (st k n)) = r := by rw [← hl]; exact List.drop_left
    rw [e1, e2, numB_num, Nat.mod_eq_of_lt (h3 hb), if_pos rfl]
theorem szB_len (k n : Nat) (h : (szB k n).length ≤ 65536) : n ≤ 65535 ∧ szB k n = UInt8.ofNat (st k n) :: numB (st k n) n := by
  unfold szB at h ⊢
  split at h
  · rw [List.length_replicate] at h; omega
  · rename_i hh
    rw [if_neg hh]
    exact ⟨by omega, rfl⟩
theorem keD_cons (t : UInt8) (l : List UInt8) : keD (t :: l) = if kd t.toNat = 5 then txD t.toNat l else (4, [], l) := rfl
/-- A text, read again. -/
theorem keD_txB (t r : List UInt8) (h : (txB t).length ≤ 65536) : keD (txB t ++ r) = (0, t, r) := by
  unfold txB at h ⊢
  obtain ⟨hn, e⟩ := szB_len 5 t.length (by rw [List.length_append] at h; omega)
  have hs := szD_st 5 t.length (by omega) (by omega) (by omega) (t ++ r)
  rw [e, List.cons_append, List.cons_append, List.append_assoc]
  rw [keD_cons, u8_st 5 _ (by omega) (by omega), (st_kd 5 t.length (by omega) (by omega) (by omega)).1]
  rw [if_pos (by rfl)]
  unfold txD
  rw [hs]
  simp only [ne_eq, not_true_eq_false, if_false, List.length_append]
  rw [if_neg (by omega), List.take_left, List.drop_left]
theorem byD_szB (b r : List UInt8) (hn : b.length ≤ 65535) : byD (st 4 b.length) (numB (st 4 b.length) b.length ++ (b ++ r)) = (0, b, r) := by
  have hs := szD_st 4 b.length (by omega) (by omega) (by omega) (b ++ r)
  unfold byD
  rw [hs]
  simp only [ne_eq, not_true_eq_false, if_false, List.length_append]
  rw [if_neg (by omega), List.take_left, List.drop_left]
theorem u8_nt (x : Int) : (UInt8.ofNat (nt x)).toNat = nt x := by
  have := nt_lt x
  rw [UInt8.toNat_ofNat']; omega
/-- A number, read again. -/
theorem nuD_nt (x : Int) (h1 : -9223372036854775808 ≤ x) (h2 : x ≤ 9223372036854775807) (r : List UInt8) : nuD (nt x) (numB (nt x) (ux x) ++ r) = (0, x, r) := by
  have hl := numB_length (nt x) (ux x)
  unfold nuD
  by_cases hb : bh (nt x) = 0
  · rw [if_pos hb]
    rw [hb] at hl
    rw [List.length_eq_zero_iff.1 hl]
    have hs : -32 ≤ x ∧ x ≤ 127 := by
      by_cases c : -32 ≤ x ∧ x ≤ 127
      · exact c
      · exfalso
        unfold nt at hb
        rw [if_neg c] at hb
        split at hb
        · rw [pk_bh _ _ (Or.inl rfl)] at hb; split at hb <;> (try split at hb) <;> (try split at hb) <;> omega
        · rw [pk_bh _ _ (Or.inr rfl)] at hb; split at hb <;> (try split at hb) <;> (try split at hb) <;> omega
    have e := (nt_small x hs).2
    rw [e]
    rw [show IntKind.i8.wrap (x % 256) = x by unfold IntKind.wrap; simp [IntKind.bits, IntKind.signed]; omega]
    rfl
  · rw [if_neg hb, if_neg (by rw [List.length_append, hl]; omega)]
    have e1 : (numB (nt x) (ux x) ++ r).take (bh (nt x)) = numB (nt x) (ux x) := by rw [← hl]; exact List.take_left
    have e2 : (numB (nt x) (ux x) ++ r).drop (bh (nt x)) = r := by rw [← hl]; exact List.drop_left
    rw [e1, e2, numB_num, dec_enc x h1 h2 hb, if_pos rfl]

mutual
/-- A value as it is read: nothing but what its kind has. -/
def clT : Tr → Tr
  | .mk k i b t ks l => if k = 3 then .mk 3 i [] ByteArray.empty [] [] else if k = 4 then .mk 4 0 b ByteArray.empty [] [] else if k = 5 then .mk 5 0 [] t [] []
    else if k = 6 then .mk 6 0 [] ByteArray.empty [] (clL l) else if k = 7 then .mk 7 0 [] ByteArray.empty ks (clL l) else .mk k 0 [] ByteArray.empty [] []
def clL : List Tr → List Tr
  | [] => []
  | x :: r => clT x :: clL r
end
theorem clL_cons (x : Tr) (r : List Tr) : clL (x :: r) = clT x :: clL r := by rw [clL]
mutual
/-- Every number is an int64. -/
def inT : Tr → Prop
  | .mk k i b t ks l => (-9223372036854775808 ≤ i ∧ i ≤ 9223372036854775807) ∧ inL l
def inL : List Tr → Prop
  | [] => True
  | x :: r => inT x ∧ inL r
end

theorem riseB_tail {a : ByteArray} {ks : List ByteArray} (h : riseB (a :: ks) = true) : riseB ks = true := by
  rcases ks with _ | ⟨b, ks⟩
  · unfold riseB; rfl
  · unfold riseB at h
    simp only [Bool.and_eq_true] at h
    exact h.2
theorem toArr (t : ByteArray) : (⟨t.data.toList.toArray⟩ : ByteArray) = t := by simp

mutual
theorem decV_enc : ∀ (x : Tr) (d : Nat) (r : List UInt8), canT d x = true → inT x → (encT x).length ≤ 65536 → decV (17 - d) (encT x ++ r) = (0, clT x, r)
  | .mk k i b t ks l, d, r, hc, hi, hl => by
    unfold canT at hc
    simp only [Bool.and_eq_true, decide_eq_true_eq, Bool.or_eq_true] at hc
    obtain ⟨⟨⟨⟨hd, h0⟩, h7⟩, hk7⟩, hsub⟩ := hc
    unfold inT at hi
    obtain ⟨hi, hil⟩ := hi
    obtain ⟨f, hf⟩ : ∃ f, 17 - d = f + 1 := ⟨16 - d, by omega⟩
    have hf' : f = 17 - (d + 1) := by omega
    unfold clT
    rw [hf]
    obtain rfl | rfl | rfl | rfl | rfl | rfl | rfl | rfl : k = 0 ∨ k = 1 ∨ k = 2 ∨ k = 3 ∨ k = 4 ∨ k = 5 ∨ k = 6 ∨ k = 7 := by omega
    · rfl
    · rfl
    · rfl
    · have e : encT (.mk 3 i b t ks l) = encI i := by rw [encT]; rfl
      rw [e]
      unfold encI
      rw [List.cons_append]
      unfold decV
      rw [u8_nt, kd_int i hi.1 hi.2, nuD_nt i hi.1 hi.2]
      rfl
    · have e : encT (.mk 4 i b t ks l) = szB 4 b.length ++ b := by rw [encT]; rfl
      rw [e] at hl ⊢
      obtain ⟨hn, e2⟩ := szB_len 4 b.length (by rw [List.length_append] at hl; omega)
      rw [e2, List.cons_append, List.cons_append, List.append_assoc]
      unfold decV
      rw [u8_st 4 _ (by omega) (by omega), (st_kd 4 b.length (by omega) (by omega) (by omega)).1, byD_szB b r hn]
      rfl
    · have e : encT (.mk 5 i b t ks l) = txB t.data.toList := by rw [encT]; rfl
      rw [e] at hl ⊢
      have hk := keD_txB t.data.toList r hl
      unfold txB at hl hk ⊢
      obtain ⟨hn, e2⟩ := szB_len 5 t.data.toList.length (by rw [List.length_append] at hl; omega)
      rw [e2, List.cons_append, List.cons_append] at hk ⊢
      rw [keD_cons, u8_st 5 _ (by omega) (by omega), (st_kd 5 t.data.toList.length (by omega) (by omega) (by omega)).1] at hk
      rw [if_pos (by rfl)] at hk
      unfold decV
      rw [u8_st 5 _ (by omega) (by omega), (st_kd 5 t.data.toList.length (by omega) (by omega) (by omega)).1, hk]
      simp only [toArr]
      rfl
    · have e : encT (.mk 6 i b t ks l) = szB 6 l.length ++ encL 6 l ks := by rw [encT]; rfl
      rw [e] at hl ⊢
      rw [List.length_append] at hl
      obtain ⟨hn, e2⟩ := szB_len 6 l.length (by omega)
      have hcl : canL (d + 1) l = true := by rcases hsub with h | h; exact absurd h (by decide); exact h
      have IH := decL_enc l (d + 1) ks r hcl hil (by omega)
      rw [← hf'] at IH
      rw [e2, List.cons_append, List.cons_append, List.append_assoc]
      unfold decV
      rw [u8_st 6 _ (by omega) (by omega), (st_kd 6 l.length (by omega) (by omega) (by omega)).1, szD_st 6 l.length (by omega) (by omega) (by omega)]
      simp only [IH]
      rfl
    · have e : encT (.mk 7 i b t ks l) = szB 7 l.length ++ encL 7 l ks := by rw [encT]; rfl
      rw [e] at hl ⊢
      rw [List.length_append] at hl
      obtain ⟨hn, e2⟩ := szB_len 7 l.length (by omega)
      have hcl : canL (d + 1) l = true := by rcases hsub with h | h; exact absurd h (by decide); exact h
      have hks : ks.length = l.length ∧ riseB ks = true := by rcases hk7 with h | h; exact absurd rfl h; exact ⟨by simpa using h.1, h.2⟩
      have IH := decM_enc l (d + 1) ks none r hcl hil (by omega) hks.1 hks.2 trivial
      rw [← hf'] at IH
      rw [e2, List.cons_append, List.cons_append, List.append_assoc]
      unfold decV
      rw [u8_st 7 _ (by omega) (by omega), (st_kd 7 l.length (by omega) (by omega) (by omega)).1, szD_st 7 l.length (by omega) (by omega) (by omega)]
      simp only [IH, List.map_map]
      rw [show ((fun k : List UInt8 => (⟨k.toArray⟩ : ByteArray)) ∘ fun s : ByteArray => s.data.toList) = id from funext fun s => toArr s, List.map_id]
      rfl
theorem decL_enc : ∀ (l : List Tr) (d : Nat) (ks : List ByteArray) (r : List UInt8), canL d l = true → inL l → (encL 6 l ks).length ≤ 65536 → decL (decV (17 - d)) l.length (encL 6 l ks ++ r) = (0, clL l, r)
  | [], d, ks, r, hc, hi, hl => by
    unfold encL clL
    rfl
  | x :: l, d, ks, r, hc, hi, hl => by
    unfold canL at hc
    simp only [Bool.and_eq_true] at hc
    unfold inL at hi
    have e : encL 6 (x :: l) ks = encT x ++ encL 6 l ks.tail := by rw [encL]; rfl
    rw [e, List.length_append] at hl
    have h1 := decV_enc x d (encL 6 l ks.tail ++ r) hc.1 hi.1 (by omega)
    have h2 := decL_enc l d ks.tail r hc.2 hi.2 (by omega)
    rw [e, List.append_assoc, List.length_cons]
    unfold decL
    rw [h1]
    simp only [h2, clL_cons]
    rfl
theorem decM_enc : ∀ (l : List Tr) (d : Nat) (ks : List ByteArray) (last : Option (List UInt8)) (r : List UInt8), canL d l = true → inL l → (encL 7 l ks).length ≤ 65536 → ks.length = l.length → riseB ks = true →
    (match last with | some p => ∀ a ∈ ks.head?, Op.bytesLess p a.data.toList = true | none => True) → decM (decV (17 - d)) l.length last (encL 7 l ks ++ r) = (0, (ks.map fun s => s.data.toList, clL l), r)
  | [], d, ks, last, r, hc, hi, hl, hn, hr, hp => by
    rw [List.length_eq_zero_iff.1 hn]
    unfold encL clL
    rfl
  | x :: l, d, [], last, r, hc, hi, hl, hn, hr, hp => by simp at hn
  | x :: l, d, a :: ks, last, r, hc, hi, hl, hn, hr, hp => by
    unfold canL at hc
    simp only [Bool.and_eq_true] at hc
    unfold inL at hi
    have e : encL 7 (x :: l) (a :: ks) = txB a.data.toList ++ (encT x ++ encL 7 l ks) := by rw [encL]; rfl
    rw [e, List.length_append, List.length_append] at hl
    have h0 := keD_txB a.data.toList (encT x ++ (encL 7 l ks ++ r)) (by omega)
    have h1 := decV_enc x d (encL 7 l ks ++ r) hc.1 hi.1 (by omega)
    have h2 := decM_enc l d ks (some a.data.toList) r hc.2 hi.2 (by omega) (by simpa using hn) (riseB_tail hr) (by
      rcases ks with _ | ⟨b, ks⟩
      · intro a h; simp at h
      · intro c h
        simp only [List.head?_cons, Option.mem_def, Option.some.injEq] at h
        subst h
        unfold riseB at hr
        simp only [Bool.and_eq_true] at hr
        simpa [ByteArray.toList_eq] using hr.1)
    rw [e, List.append_assoc, List.append_assoc, List.length_cons]
    unfold decM
    rw [h0]
    simp only [h1, h2, clL_cons]
    rcases last with _ | p
    · rfl
    · have hq : Op.bytesLess p a.data.toList = true := hp a (by simp)
      simp only [hq]
      rfl
end
end Go.Proofs.YtmpnehhndhepgaaDoor

/- Mathematics: what is read, written again. It proves no statement. -/

namespace Go.Proofs.YtmpnehhndhepgaaDoor
open Go.RowKit
set_option linter.unusedVariables false
set_option linter.unusedSimpArgs false

theorem leNum_inj : ∀ (xs ys : List UInt8), xs.length = ys.length → leNum xs = leNum ys → xs = ys
  | [], [], _, _ => rfl
  | [], y :: ys, h, _ => by simp at h
  | x :: xs, [], h, _ => by simp at h
  | x :: xs, y :: ys, h, e => by
    unfold leNum at e
    have := x.toNat_lt
    have := y.toNat_lt
    have e1 : x.toNat = y.toNat := by omega
    rw [UInt8.toNat_inj.1 e1, leNum_inj xs ys (by simpa using h) (by omega)]
/-- A number behind a tag is what is laid of it. -/
theorem numB_take (t x : Nat) (l : List UInt8) (hs : bh t ≤ l.length) (hx : x % 2 ^ (8 * bh t) = leNum (l.take (bh t)).reverse) : l = numB t x ++ l.drop (bh t) := by
  have h : (numB t x).reverse = (l.take (bh t)).reverse := leNum_inj _ _ (by simp [numB_length]; omega) (by rw [numB_num, hx])
  have h2 : numB t x = l.take (bh t) := by simpa using h
  rw [h2, List.take_append_drop]
theorem numB_none (t x : Nat) (h : bh t = 0) : numB t x = [] := by
  have hl := numB_length t x
  rw [h] at hl
  exact List.length_eq_zero_iff.1 hl
theorem szD_inv (k t : Nat) (l : List UInt8) (n : Nat) (r : List UInt8) (h4 : 4 ≤ k) (h7 : k ≤ 7) (ht : t < 256) (hk : kd t = (k : Int)) (h : szD k t l = (0, n, r)) : n < 65536 ∧ st k n = t ∧ l = numB t n ++ r := by
  have hT := tagOf_kd k t h4 h7 ht hk
  have hn := szD_bd k t l hT
  rw [h] at hn
  refine ⟨hn, ?_⟩
  unfold szD at h
  by_cases hb : bh t = 0
  · rw [if_pos hb] at h
    simp only [Prod.mk.injEq, true_and] at h
    obtain ⟨rfl, rfl⟩ := h
    rw [numB_none _ _ hb]
    refine ⟨?_, rfl⟩
    have hh : ((List.range 8).all fun k => (List.range 256).all fun t => decide (4 ≤ k → kd t = (k : Int) → bh t = 0 → st k (t - noneT k) = t)) = true := by decide +kernel
    rw [List.all_eq_true] at hh
    have h1 := hh k (List.mem_range.2 (by omega))
    rw [List.all_eq_true] at h1
    exact of_decide_eq_true (h1 t (List.mem_range.2 ht)) h4 hk hb
  · rw [if_neg hb] at h
    by_cases hs : l.length < bh t
    · rw [if_pos hs] at h
      simp at h
    · rw [if_neg hs] at h
      simp only [Prod.mk.injEq] at h
      obtain ⟨h1, h2, h3⟩ := h
      rw [h2] at h1
      have hst : st k n = t := by
        by_cases c : st k n = t
        · exact c
        · rw [if_neg c] at h1; exact absurd h1 (by decide)
      refine ⟨hst, ?_⟩
      rw [← h3]
      refine numB_take t n l (by omega) ?_
      rw [← h2]
      refine Nat.mod_eq_of_lt ?_
      have := leNum_lt (l.take (bh t)).reverse
      rwa [List.length_reverse, List.length_take, Nat.min_eq_left (by omega)] at this
theorem szB_of (k n : Nat) (h : n < 65536) : szB k n = UInt8.ofNat (st k n) :: numB (st k n) n := by unfold szB; rw [if_neg (by omega)]
theorem u8_self (t : UInt8) : UInt8.ofNat t.toNat = t := by simp
theorem byD_inv (t : UInt8) (l b r : List UInt8) (hk : kd t.toNat = 4) (h : byD t.toNat l = (0, b, r)) : t :: l = szB 4 b.length ++ b ++ r := by
  unfold byD at h
  rcases hz : szD 4 t.toNat l with ⟨e, n, q⟩
  rw [hz] at h
  simp only at h
  by_cases he : e = 0
  · subst he
    obtain ⟨h1, h2, h3⟩ := szD_inv 4 t.toNat l n q (by omega) (by omega) t.toNat_lt hk hz
    rw [if_neg (by decide)] at h
    by_cases hs : q.length < n
    · rw [if_pos hs] at h; simp at h
    · rw [if_neg hs] at h
      simp only [Prod.mk.injEq, true_and] at h
      obtain ⟨rfl, rfl⟩ := h
      rw [List.length_take, Nat.min_eq_left (by omega), szB_of 4 n h1, h2, u8_self, h3]
      simp
  · rw [if_pos he] at h
    simp only [Prod.mk.injEq] at h
    exact absurd h.1 he
theorem txD_inv (t : UInt8) (l b r : List UInt8) (hk : kd t.toNat = 5) (h : txD t.toNat l = (0, b, r)) : t :: l = txB b ++ r := by
  unfold txD at h
  rcases hz : szD 5 t.toNat l with ⟨e, n, q⟩
  rw [hz] at h
  simp only at h
  by_cases he : e = 0
  · subst he
    obtain ⟨h1, h2, h3⟩ := szD_inv 5 t.toNat l n q (by omega) (by omega) t.toNat_lt hk hz
    rw [if_neg (by decide)] at h
    by_cases hs : q.length < n
    · rw [if_pos hs] at h; simp at h
    · rw [if_neg hs] at h
      simp only [Prod.mk.injEq, true_and] at h
      obtain ⟨rfl, rfl⟩ := h
      unfold txB
      rw [List.length_take, Nat.min_eq_left (by omega), szB_of 5 n h1, h2, u8_self, h3]
      simp
  · rw [if_pos he] at h
    simp only [Prod.mk.injEq] at h
    exact absurd h.1 he
theorem keD_inv (l b r : List UInt8) (h : keD l = (0, b, r)) : l = txB b ++ r := by
  rcases l with _ | ⟨t, l⟩
  · have h' : (3 : Int) = 0 := congrArg Prod.fst h
    exact absurd h' (by decide)
  · rw [keD_cons] at h
    by_cases hk : kd t.toNat = 5
    · rw [if_pos hk] at h
      exact txD_inv t l b r hk h
    · rw [if_neg hk] at h
      simp at h
theorem uxK (neg : Bool) (k u : Nat) (hk : k = 1 ∨ k = 2 ∨ k = 4 ∨ k = 8) (hu : u < 2 ^ (8 * k)) : ux (decK neg k u) % 2 ^ (8 * k) = u := by
  unfold decK
  split
  · rcases hk with rfl | rfl | rfl | rfl
    · simp only [show (2 : Int) ^ (64 - 8 * 1) = 72057594037927936 from rfl, show 2 ^ (8 * 1) = 256 from rfl] at hu ⊢
      unfold ux wrap64
      omega
    · simp only [show (2 : Int) ^ (64 - 8 * 2) = 281474976710656 from rfl, show 2 ^ (8 * 2) = 65536 from rfl] at hu ⊢
      unfold ux wrap64
      omega
    · simp only [show (2 : Int) ^ (64 - 8 * 4) = 4294967296 from rfl, show 2 ^ (8 * 4) = 4294967296 from rfl] at hu ⊢
      unfold ux wrap64
      omega
    · simp only [show (2 : Int) ^ (64 - 8 * 8) = 1 from rfl, show 2 ^ (8 * 8) = 18446744073709551616 from rfl] at hu ⊢
      unfold ux wrap64
      omega
  · rcases hk with rfl | rfl | rfl | rfl
    · simp only [show 2 ^ (8 * 1) = 256 from rfl] at hu ⊢
      unfold ux wrap64
      omega
    · simp only [show 2 ^ (8 * 2) = 65536 from rfl] at hu ⊢
      unfold ux wrap64
      omega
    · simp only [show 2 ^ (8 * 4) = 4294967296 from rfl] at hu ⊢
      unfold ux wrap64
      omega
    · simp only [show 2 ^ (8 * 8) = 18446744073709551616 from rfl] at hu ⊢
      unfold ux wrap64
      omega
theorem nuD_inv (t : UInt8) (l : List UInt8) (x : Int) (r : List UInt8) (hk : kd t.toNat = 3) (h : nuD t.toNat l = (0, x, r)) : (-9223372036854775808 ≤ x ∧ x ≤ 9223372036854775807) ∧ t :: l = encI x ++ r := by
  unfold nuD at h
  by_cases hb : bh t.toNat = 0
  · rw [if_pos hb] at h
    simp only [Prod.mk.injEq, true_and] at h
    obtain ⟨rfl, rfl⟩ := h
    have hh : ((List.range 256).all fun t => decide (kd t = 3 → bh t = 0 → nt (IntKind.i8.wrap (t : Int)) = t ∧ -128 ≤ IntKind.i8.wrap (t : Int) ∧ IntKind.i8.wrap (t : Int) ≤ 127)) = true := by decide +kernel
    rw [List.all_eq_true] at hh
    obtain ⟨h1, h2, h3⟩ := of_decide_eq_true (hh t.toNat (List.mem_range.2 t.toNat_lt)) hk hb
    refine ⟨by omega, ?_⟩
    unfold encI
    rw [h1, numB_none _ _ hb, u8_self]
    rfl
  · rw [if_neg hb] at h
    have hc : bh t.toNat = 1 ∨ bh t.toNat = 2 ∨ bh t.toNat = 4 ∨ bh t.toNat = 8 := by
      rcases bh_cases t.toNat with h | h
      · exact absurd h hb
      · exact h
    by_cases hs : l.length < bh t.toNat
    · rw [if_pos hs] at h
      simp at h
    · rw [if_neg hs] at h
      simp only [Prod.mk.injEq] at h
      obtain ⟨h1, h2, h3⟩ := h
      rw [h2] at h1
      have hnt : nt x = t.toNat := by
        by_cases c : nt x = t.toNat
        · exact c
        · rw [if_neg c] at h1; exact absurd h1 (by decide)
      have hu := leNum_lt (l.take (bh t.toNat)).reverse
      rw [List.length_reverse, List.length_take, Nat.min_eq_left (by omega)] at hu
      have hbd := decK_bd (decide (208 ≤ t.toNat)) (bh t.toNat) (leNum (l.take (bh t.toNat)).reverse) hc
      have hux := uxK (decide (208 ≤ t.toNat)) (bh t.toNat) (leNum (l.take (bh t.toNat)).reverse) hc hu
      rw [h2] at hbd hux
      refine ⟨hbd, ?_⟩
      unfold encI
      rw [hnt, u8_self, List.cons_append, ← h3, ← numB_take t.toNat (ux x) l (by omega) hux]

/-- What a reader says is what is written. -/
def Back (dec : List UInt8 → Int × Tr × List UInt8) (d : Nat) : Prop := ∀ (l : List UInt8) (x : Tr) (r : List UInt8), dec l = (0, x, r) → canT d x = true ∧ inT x ∧ l = encT x ++ r ∧ clT x = x
theorem decL_inv {dec : List UInt8 → Int × Tr × List UInt8} {d : Nat} (H : Back dec d) : ∀ (n : Nat) (l : List UInt8) (xs : List Tr) (r : List UInt8), decL dec n l = (0, xs, r) → xs.length = n ∧ canL d xs = true ∧ inL xs ∧ (∀ ks, l = encL 6 xs ks ++ r) ∧ clL xs = xs
  | 0, l, xs, r, h => by
    unfold decL at h
    simp only [Prod.mk.injEq, true_and] at h
    obtain ⟨rfl, rfl⟩ := h
    refine ⟨rfl, by unfold canL; rfl, by unfold inL; trivial, fun ks => by unfold encL; rfl, by unfold clL; rfl⟩
  | n + 1, l, xs, r, h => by
    unfold decL at h
    rcases h1 : dec l with ⟨e1, x, l1⟩
    rw [h1] at h
    simp only at h
    by_cases c1 : e1 = 0
    · subst c1
      rw [if_neg (by decide)] at h
      rcases h2 : decL dec n l1 with ⟨e2, ys, l2⟩
      rw [h2] at h
      simp only at h
      by_cases c2 : e2 = 0
      · subst c2
        rw [if_neg (by decide)] at h
        simp only [Prod.mk.injEq, true_and] at h
        obtain ⟨rfl, rfl⟩ := h
        obtain ⟨a1, a2, a3, a4⟩ := H l x l1 h1
        obtain ⟨b1, b2, b3, b4, b5⟩ := decL_inv H n l1 ys l2 h2
        refine ⟨by simp [b1], by unfold canL; rw [a1, b2]; rfl, by unfold inL; exact ⟨a2, b3⟩, fun ks => ?_, by rw [clL_cons, a4, b5]⟩
        have e : encL 6 (x :: ys) ks = encT x ++ encL 6 ys ks.tail := by rw [encL]; rfl
        rw [e, List.append_assoc, ← b4, ← a3]
      · rw [if_pos c2] at h
        simp only [Prod.mk.injEq] at h
        exact absurd h.1 c2
    · rw [if_pos c1] at h
      simp only [Prod.mk.injEq] at h
      exact absurd h.1 c1
def mkS (k : List UInt8) : ByteArray := ⟨k.toArray⟩
theorem mkS_list (k : List UInt8) : (mkS k).data.toList = k := by simp [mkS]
def ordB (last : Option (List UInt8)) (k : List UInt8) : Bool := match last with | some p => !Op.bytesLess p k | none => false
theorem decM_succ (dec : List UInt8 → Int × Tr × List UInt8) (n : Nat) (last : Option (List UInt8)) (l : List UInt8) : decM dec (n + 1) last l =
    if (keD l).1 ≠ 0 then ((keD l).1, ([], []), [])
    else if ordB last (keD l).2.1 = true then (4, ([], []), [])
    else if (dec (keD l).2.2).1 ≠ 0 then ((dec (keD l).2.2).1, ([], []), [])
    else if (decM dec n (some (keD l).2.1) (dec (keD l).2.2).2.2).1 ≠ 0 then ((decM dec n (some (keD l).2.1) (dec (keD l).2.2).2.2).1, ([], []), [])
    else (0, ((keD l).2.1 :: (decM dec n (some (keD l).2.1) (dec (keD l).2.2).2.2).2.1.1, (dec (keD l).2.2).2.1 :: (decM dec n (some (keD l).2.1) (dec (keD l).2.2).2.2).2.1.2), (decM dec n (some (keD l).2.1) (dec (keD l).2.2).2.2).2.2) := by
  cases last <;> rfl
theorem decM_inv {dec : List UInt8 → Int × Tr × List UInt8} {d : Nat} (H : Back dec d) : ∀ (n : Nat) (last : Option (List UInt8)) (l : List UInt8) (ks : List (List UInt8)) (xs : List Tr) (r : List UInt8), decM dec n last l = (0, (ks, xs), r) →
    xs.length = n ∧ ks.length = n ∧ canL d xs = true ∧ inL xs ∧ l = encL 7 xs (ks.map mkS) ++ r ∧ clL xs = xs ∧ riseB (ks.map mkS) = true ∧ (∀ p, last = some p → ∀ a ∈ ks.head?, Op.bytesLess p a = true)
  | 0, last, l, ks, xs, r, h => by
    unfold decM at h
    simp only [Prod.mk.injEq, true_and] at h
    obtain ⟨⟨rfl, rfl⟩, rfl⟩ := h
    refine ⟨rfl, rfl, by unfold canL; rfl, by unfold inL; trivial, by unfold encL; rfl, by unfold clL; rfl, by unfold riseB; rfl, fun p _ a ha => by simp at ha⟩
  | n + 1, last, l, ks, xs, r, h => by
    rw [decM_succ] at h
    rcases h0 : keD l with ⟨e0, k, l0⟩
    rw [h0] at h
    simp only at h
    by_cases c0 : e0 = 0
    · subst c0
      rw [if_neg (by decide)] at h
      obtain ⟨o, ho⟩ : ∃ o, o = ordB last k := ⟨_, rfl⟩
      rw [← ho] at h
      rcases o with _ | _
      · rw [if_neg (by decide)] at h
        rcases h1 : dec l0 with ⟨e1, x, l1⟩
        rw [h1] at h
        simp only at h
        by_cases c1 : e1 = 0
        · subst c1
          rw [if_neg (by decide)] at h
          rcases h2 : decM dec n (some k) l1 with ⟨e2, ⟨qs, ys⟩, l2⟩
          rw [h2] at h
          simp only at h
          by_cases c2 : e2 = 0
          · subst c2
            rw [if_neg (by decide)] at h
            simp only [Prod.mk.injEq, true_and] at h
            obtain ⟨⟨rfl, rfl⟩, rfl⟩ := h
            obtain ⟨a1, a2, a3, a4⟩ := H l0 x l1 h1
            obtain ⟨b1, b2, b3, b4, b5, b6, b7, b8⟩ := decM_inv H n (some k) l1 qs ys l2 h2
            have a0 := keD_inv l k l0 h0
            refine ⟨by simp [b1], by simp [b2], by unfold canL; rw [a1, b3]; rfl, by unfold inL; exact ⟨a2, b4⟩, ?_, by rw [clL_cons, a4, b6], ?_, ?_⟩
            · have e : encL 7 (x :: ys) ((k :: qs).map mkS) = txB k ++ (encT x ++ encL 7 ys (qs.map mkS)) := by
                rw [encL]
                simp only [if_true, List.map_cons, List.headD_cons, List.tail_cons, mkS_list]
              rw [e, List.append_assoc, List.append_assoc, ← b5, ← a3, ← a0]
            · rcases qs with _ | ⟨q, qs⟩
              · unfold riseB; rfl
              · have := b8 k rfl q (by simp)
                rw [List.map_cons, List.map_cons]
                unfold riseB
                rw [ByteArray.toList_eq, ByteArray.toList_eq, mkS_list, mkS_list, this]
                exact b7
            · intro p hp a ha
              subst hp
              simp only [List.head?_cons, Option.mem_def, Option.some.injEq] at ha
              subst ha
              simpa [ordB] using ho
          · rw [if_pos c2] at h
            simp only [Prod.mk.injEq] at h
            exact absurd h.1 c2
        · rw [if_pos c1] at h
          simp only [Prod.mk.injEq] at h
          exact absurd h.1 c1
      · rw [if_pos rfl] at h
        simp at h
    · rw [if_pos c0] at h
      simp only [Prod.mk.injEq] at h
      exact absurd h.1 c0
theorem decV_inv : ∀ (f : Nat), f ≤ 17 → Back (decV f) (17 - f)
  | 0, _ => by
    intro l x r h
    rcases l with _ | ⟨t, l⟩
    · have h' : (3 : Int) = 0 := congrArg Prod.fst h
      exact absurd h' (by decide)
    · have h' : (4 : Int) = 0 := congrArg Prod.fst h
      exact absurd h' (by decide)
  | f + 1, hf => by
    intro l x r h
    rcases l with _ | ⟨t, l⟩
    · have h' : (3 : Int) = 0 := congrArg Prod.fst h
      exact absurd h' (by decide)
    have IH := decV_inv f (by omega)
    have hd : 17 - f = 17 - (f + 1) + 1 := by omega
    rw [hd] at IH
    obtain ⟨d, hdd⟩ : ∃ d, d = 17 - (f + 1) := ⟨_, rfl⟩
    rw [← hdd] at IH ⊢
    have hd16 : d ≤ 16 := by omega
    unfold decV at h
    by_cases e1 : kd t.toNat = -1
    · rw [if_pos e1] at h
      simp at h
    rw [if_neg e1] at h
    by_cases e3 : kd t.toNat = 3
    · rw [if_pos e3] at h
      rcases hz : nuD t.toNat l with ⟨e, i, q⟩
      rw [hz] at h
      simp only [Prod.mk.injEq] at h
      obtain ⟨rfl, rfl, rfl⟩ := h
      obtain ⟨h1, h2⟩ := nuD_inv t l i q e3 hz
      refine ⟨?_, ?_, ?_, ?_⟩
      · unfold canT; simp [hd16]
      · unfold inT inL; exact ⟨h1, trivial⟩
      · rw [h2]; unfold encT; rfl
      · unfold clT; rfl
    rw [if_neg e3] at h
    by_cases e4 : kd t.toNat = 4
    · rw [if_pos e4] at h
      rcases hz : byD t.toNat l with ⟨e, i, q⟩
      rw [hz] at h
      simp only [Prod.mk.injEq] at h
      obtain ⟨rfl, rfl, rfl⟩ := h
      have h2 := byD_inv t l i q e4 hz
      refine ⟨?_, ?_, ?_, ?_⟩
      · unfold canT; simp [hd16]
      · unfold inT inL; exact ⟨by omega, trivial⟩
      · rw [h2]; unfold encT; rfl
      · unfold clT; rfl
    rw [if_neg e4] at h
    by_cases e5 : kd t.toNat = 5
    · rw [if_pos e5] at h
      rcases hz : txD t.toNat l with ⟨e, i, q⟩
      rw [hz] at h
      simp only [Prod.mk.injEq] at h
      obtain ⟨rfl, rfl, rfl⟩ := h
      have h2 := txD_inv t l i q e5 hz
      refine ⟨?_, ?_, ?_, ?_⟩
      · unfold canT; simp [hd16]
      · unfold inT inL; exact ⟨by omega, trivial⟩
      · rw [h2]; unfold encT; simp
      · unfold clT; rfl
    rw [if_neg e5] at h
    by_cases e6 : kd t.toNat = 6
    · rw [if_pos e6] at h
      rcases hz : szD 6 t.toNat l with ⟨e, n, q⟩
      rw [hz] at h
      simp only at h
      by_cases c : e = 0
      · subst c
        rw [if_neg (by decide)] at h
        obtain ⟨a1, a2, a3⟩ := szD_inv 6 t.toNat l n q (by omega) (by omega) t.toNat_lt e6 hz
        rcases hy : decL (decV f) n q with ⟨e, ys, q2⟩
        rw [hy] at h
        simp only [Prod.mk.injEq] at h
        obtain ⟨rfl, rfl, rfl⟩ := h
        obtain ⟨b1, b2, b3, b4, b5⟩ := decL_inv IH n q ys q2 hy
        refine ⟨?_, ?_, ?_, ?_⟩
        · unfold canT; simp [hd16, b2]
        · unfold inT; exact ⟨by omega, b3⟩
        · have e : encT (.mk 6 0 [] ByteArray.empty [] ys) = szB 6 ys.length ++ encL 6 ys [] := by rw [encT]; rfl
          rw [e, b1, szB_of 6 n a1, a2, u8_self, a3, b4 []]
          simp
        · unfold clT; simp [b5]
      · rw [if_pos c] at h
        simp only [Prod.mk.injEq] at h
        exact absurd h.1 c
    rw [if_neg e6] at h
    by_cases e7 : kd t.toNat = 7
    · rw [if_pos e7] at h
      rcases hz : szD 7 t.toNat l with ⟨e, n, q⟩
      rw [hz] at h
      simp only at h
      by_cases c : e = 0
      · subst c
        rw [if_neg (by decide)] at h
        obtain ⟨a1, a2, a3⟩ := szD_inv 7 t.toNat l n q (by omega) (by omega) t.toNat_lt e7 hz
        rcases hy : decM (decV f) n none q with ⟨e, ⟨ks, ys⟩, q2⟩
        rw [hy] at h
        simp only [Prod.mk.injEq] at h
        obtain ⟨rfl, rfl, rfl⟩ := h
        obtain ⟨b1, b2, b3, b4, b5, b6, b7, b8⟩ := decM_inv IH n none q ks ys q2 hy
        have em : (ks.map fun k : List UInt8 => (⟨k.toArray⟩ : ByteArray)) = ks.map mkS := rfl
        rw [em]
        refine ⟨?_, ?_, ?_, ?_⟩
        · unfold canT; simp [hd16, b3, b7, b1, b2]
        · unfold inT; exact ⟨by omega, b4⟩
        · have e : encT (.mk 7 0 [] ByteArray.empty (ks.map mkS) ys) = szB 7 ys.length ++ encL 7 ys (ks.map mkS) := by rw [encT]; rfl
          rw [e, b1, szB_of 7 n a1, a2, u8_self, a3, b5]
          simp
        · unfold clT; simp [b6]
      · rw [if_pos c] at h
        simp only [Prod.mk.injEq] at h
        exact absurd h.1 c
    rw [if_neg e7] at h
    simp only [Prod.mk.injEq, true_and] at h
    obtain ⟨rfl, rfl⟩ := h
    have hh : ((List.range 256).all fun t => decide (kd t ≠ -1 → kd t ≠ 3 → kd t ≠ 4 → kd t ≠ 5 → kd t ≠ 6 → kd t ≠ 7 → (t = 192 ∧ kd t = 0) ∨ (t = 194 ∧ kd t = 1) ∨ (t = 195 ∧ kd t = 2))) = true := by decide +kernel
    rw [List.all_eq_true] at hh
    have hq := of_decide_eq_true (hh t.toNat (List.mem_range.2 t.toNat_lt)) e1 e3 e4 e5 e6 e7
    have ht := u8_self t
    rcases hq with ⟨h1, h2⟩ | ⟨h1, h2⟩ | ⟨h1, h2⟩
    · rw [h2]
      rw [h1] at ht
      refine ⟨by unfold canT; simp [hd16], by unfold inT inL; exact ⟨by omega, trivial⟩, ?_, by unfold clT; rfl⟩
      rw [← ht]; unfold encT; rfl
    · rw [h2]
      rw [h1] at ht
      refine ⟨by unfold canT; simp [hd16], by unfold inT inL; exact ⟨by omega, trivial⟩, ?_, by unfold clT; rfl⟩
      rw [← ht]; unfold encT; rfl
    · rw [h2]
      rw [h1] at ht
      refine ⟨by unfold canT; simp [hd16], by unfold inT inL; exact ⟨by omega, trivial⟩, ?_, by unfold clT; rfl⟩
      rw [← ht]; unfold encT; rfl
end Go.Proofs.YtmpnehhndhepgaaDoor

/- Contract: hoardref01.Same of whatever bytes. It proves no statement. -/

namespace Go.Proofs.YtmpnehhndhepgaaDoor
open Go.RowKit
set_option linter.unusedVariables false
set_option linter.unusedSimpArgs false

theorem bytes_ext (l l' : List UInt8) (hl : l.length = l'.length) (h : ∀ i, i < l.length → l.getD i 0 = l'.getD i 0) : l = l' := by
  apply List.ext_getElem hl
  intro i h1 h2
  have := h i h1
  simpa [List.getD, h1, h2] using this

set_option maxRecDepth 100000 in
set_option maxHeartbeats 1600000 in
theorem same_any (A A' : Option Addr) (n n' c c' : Nat) (l l' : List UInt8) (w : World) (B B' : Nat) (h : Reads w B A n l) (h' : Reads w B' A' n' l') (hn : n ≤ 70368744177664) (hn' : n' ≤ 70368744177664) :
    Calls Tryd.prog 12 #[.slice A n c, .slice A' n' c'] w fun e w' => e = .returned (.bool (decide (l = l'))) ∧ Still w w' := by
  have h1 := h.1
  have h2 := h'.1
  by_cases hlen : n = n'
  · subst hlen
    obtain ⟨q, hq⟩ : ∃ q, q = decide (l = l') := ⟨_, rfl⟩
    rw [← hq]
    have HQ := Lib.hid hq
    have HL := Lib.hid (⟨h1, h2⟩ : l.length = n ∧ l'.length = n)
    have HH := Lib.hid h
    have HH' := Lib.hid h'
    have d3 : (n : Int) ≤ 70368744177664 := by omega
    clear hq h1 h2 h h' hn hn'
    go_enter Tryd.func12, Tryd.ntmps12
    go_wp2_with fail
    go_loopw [5] (fun iv wr => ∃ k : Nat, k ≤ n ∧ iv = .int .i64 k ∧ Hid ((∀ i, i < k → l.getD i 0 = l'.getD i 0) ∧ ∃ m, wr = w.drewN m)) (fun iv _ => n - (intOf iv).toNat)
    case atStart => exact ⟨0, Nat.zero_le _, rfl, fun i hi => by omega, 0, rfl⟩
    case round =>
      obtain ⟨k, hk, rfl, hin⟩ := hrel
      obtain ⟨mm, hwm⟩ := hin.out.2
      have st : Still w wr := by rw [hwm]; exact still_drewN (Still.refl w) mm
      have hkeep : Reads wr B A n l ∧ Reads wr B' A' n l' := by
        rw [hwm]
        exact ⟨HH.out.keep fun _ _ => rfl, HH'.out.keep fun _ _ => rfl⟩
      have ST := Lib.hid st
      have HWM := Lib.hid hwm
      clear hwm st
      by_cases hlt : k < n
      · obtain ⟨b, o, rfl, hb, hc⟩ := hkeep.1.at_ (by omega)
        obtain ⟨b', o', rfl, hb', hc'⟩ := hkeep.2.at_ (by omega)
        have c1 := hc k hlt
        have c2 := hc' k hlt
        obtain ⟨y, hy⟩ : ∃ y, y = l.getD k 0 := ⟨_, rfl⟩
        obtain ⟨y', hy'⟩ : ∃ y, y = l'.getD k 0 := ⟨_, rfl⟩
        rw [← hy] at c1
        rw [← hy'] at c2
        have HY := Lib.hid hy
        have HY' := Lib.hid hy'
        have HLT := Lib.hid hlt
        have z1 : (0 : Int) ≤ (k : Int) := by omega
        have z2 : (k : Int) < (n : Int) := by omega
        clear hc hc' hb hb' hy hy' hlt hkeep
        by_cases hyy : y = y'
        · subst hyy
          generalize y.toNat = yy at *
          go_wp2_with fail
          go_quiet (fail)
          go_wp2_with fail
          go_roundw
          case rel =>
            refine ⟨k + 1, by have := HLT.out; omega, by go_num, Lib.hid ⟨fun i hi => ?_, mm + nq, ?_⟩⟩
            · by_cases h : i = k
              · rw [h, ← HY.out, ← HY'.out]
              · exact hin.out.1 i (by omega)
            · rw [HWM.out, World.drewN_drewN]
          case measure => simp [intOf]; have := HLT.out; omega
        · have hne : ¬ y.toNat = y'.toNat := fun e => hyy (UInt8.toNat_inj.1 e)
          have hq : q = false := by
            rw [HQ.out]
            simp only [decide_eq_false_iff_not]
            intro e
            exact hyy (by rw [HY.out, HY'.out, e])
          have HNE := Lib.hid hq
          have hni : (((y.toNat : Nat) : Int) == ((y'.toNat : Nat) : Int)) = false := by
            rw [beq_eq_false_iff_ne]
            omega
          have hni2 : (((y.toNat : Nat) : Int) != ((y'.toNat : Nat) : Int)) = true := by rw [bne_iff_ne]; omega
          generalize y.toNat = yy at *
          generalize y'.toNat = yy' at *
          clear hyy hq hne
          go_wp2_with fail
          go_quiet (fail)
          go_wp2_with fail
          (try simp only [Exit.inBlock, Exit.then])
          go_ret
          rw [HNE.out]
          exact ⟨rfl, still_drewN ST.out _⟩
      · obtain rfl : k = n := by omega
        have hq : q = true := by
          rw [HQ.out]
          simp only [decide_eq_true_eq]
          exact bytes_ext _ _ (HL.out.1.trans HL.out.2.symm) fun i hi => hin.out.1 i (by have := HL.out.1; omega)
        have HNE := Lib.hid hq
        clear hq hlt hkeep
        go_wp2_with fail
        go_ret
        rw [HNE.out]
        exact ⟨rfl, ST.out⟩
  · have hne : ¬ l = l' := fun e => hlen (by rw [← h1, ← h2, e])
    rw [show decide (l = l') = false by simpa using hne]
    have d : ((n : Int) != (n' : Int)) = true := by simp; omega
    clear hne hlen h h' h1 h2 hn hn'
    go_enter Tryd.func12, Tryd.ntmps12
    go_wp2_with fail
    (try simp only [Exit.inBlock, Exit.then])
    go_ret
    exact ⟨rfl, Still.refl _⟩
end Go.Proofs.YtmpnehhndhepgaaDoor

/- Mathematics: alike is written alike, and only alike. It proves no statement. -/

namespace Go.Proofs.YtmpnehhndhepgaaDoor
open Go.RowKit
set_option linter.unusedVariables false
set_option linter.unusedSimpArgs false

mutual
theorem sameT_cl : ∀ (x y : Tr) (d e : Nat), canT d x = true → canT e y = true → clT x = clT y → sameT x y = true
  | .mk k i b t ks l, .mk k' i' b' t' ks' l', d, e, hc, hc', h => by
    unfold canT at hc hc'
    simp only [Bool.and_eq_true, decide_eq_true_eq, Bool.or_eq_true] at hc hc'
    obtain ⟨⟨⟨⟨hd, h0⟩, h7⟩, hk7⟩, hsub⟩ := hc
    obtain ⟨⟨⟨⟨hd', h0'⟩, h7'⟩, hk7'⟩, hsub'⟩ := hc'
    have hk : k = k' := by
      have q : ∀ (k i : Int) (b : List UInt8) (t : ByteArray) (ks : List ByteArray) (l : List Tr), ∃ i' b' t' ks' l', clT (.mk k i b t ks l) = .mk k i' b' t' ks' l' := by
        intro k i b t ks l
        unfold clT
        split
        · subst_vars; exact ⟨_, _, _, _, _, rfl⟩
        split
        · subst_vars; exact ⟨_, _, _, _, _, rfl⟩
        split
        · subst_vars; exact ⟨_, _, _, _, _, rfl⟩
        split
        · subst_vars; exact ⟨_, _, _, _, _, rfl⟩
        split
        · subst_vars; exact ⟨_, _, _, _, _, rfl⟩
        exact ⟨_, _, _, _, _, rfl⟩
      obtain ⟨_, _, _, _, _, e1⟩ := q k i b t ks l
      obtain ⟨_, _, _, _, _, e2⟩ := q k' i' b' t' ks' l'
      rw [e1, e2] at h
      injection h
    subst hk
    unfold sameT
    simp only [decide_true, Bool.true_and]
    unfold clT at h
    by_cases e3 : k = 3
    · simp only [if_pos e3, Tr.mk.injEq] at h ⊢
      simp [h.2.1]
    by_cases e4 : k = 4
    · simp only [if_neg e3, if_pos e4, Tr.mk.injEq] at h ⊢
      simp [h.2.2.1]
    by_cases e5 : k = 5
    · simp only [if_neg e3, if_neg e4, if_pos e5, Tr.mk.injEq] at h ⊢
      simp [h.2.2.2.1]
    by_cases e6 : k = 6
    · simp only [if_neg e3, if_neg e4, if_neg e5, if_pos e6, Tr.mk.injEq] at h ⊢
      refine sameL_cl l l' (d + 1) (e + 1) ?_ ?_ h.2.2.2.2.2
      · rcases hsub with h | h; omega; exact h
      · rcases hsub' with h | h; omega; exact h
    by_cases e7 : k = 7
    · simp only [if_neg e3, if_neg e4, if_neg e5, if_neg e6, if_pos e7, Tr.mk.injEq] at h ⊢
      have hs : sameL l l' = true := by
        refine sameL_cl l l' (d + 1) (e + 1) ?_ ?_ h.2.2.2.2.2
        · rcases hsub with h | h; omega; exact h
        · rcases hsub' with h | h; omega; exact h
      simp [h.2.2.2.2.1, hs]
    simp only [if_neg e3, if_neg e4, if_neg e5, if_neg e6, if_neg e7]
theorem sameL_cl : ∀ (l l' : List Tr) (d e : Nat), canL d l = true → canL e l' = true → clL l = clL l' → sameL l l' = true
  | [], [], _, _, _, _, _ => by unfold sameL; rfl
  | [], y :: r', _, _, _, _, h => by unfold clL at h; simp at h
  | x :: r, [], _, _, _, _, h => by unfold clL at h; simp at h
  | x :: r, y :: r', d, e, hc, hc', h => by
    unfold canL at hc hc'
    simp only [Bool.and_eq_true] at hc hc'
    rw [clL_cons, clL_cons] at h
    simp only [List.cons.injEq] at h
    unfold sameL
    rw [sameT_cl x y d e hc.1 hc'.1 h.1, sameL_cl r r' d e hc.2 hc'.2 h.2]
    rfl
end
mutual
theorem encT_same : ∀ (x y : Tr) (d : Nat), canT d x = true → sameT x y = true → encT x = encT y
  | .mk k i b t ks l, .mk k' i' b' t' ks' l', d, hc, h => by
    unfold canT at hc
    simp only [Bool.and_eq_true, decide_eq_true_eq, Bool.or_eq_true] at hc
    obtain ⟨⟨⟨⟨hd, h0⟩, h7⟩, hk7⟩, hsub⟩ := hc
    unfold sameT at h
    simp only [Bool.and_eq_true, decide_eq_true_eq] at h
    obtain ⟨rfl, h⟩ := h
    unfold encT
    by_cases e0 : k = 0
    · simp only [if_pos e0]
    by_cases e1 : k = 1
    · simp only [if_neg e0, if_pos e1]
    by_cases e2 : k = 2
    · simp only [if_neg e0, if_neg e1, if_pos e2]
    simp only [if_neg e0, if_neg e1, if_neg e2]
    by_cases e3 : k = 3
    · simp only [if_pos e3, decide_eq_true_eq] at h ⊢
      rw [h]
    by_cases e4 : k = 4
    · simp only [if_neg e3, if_pos e4, decide_eq_true_eq] at h ⊢
      rw [h]
    by_cases e5 : k = 5
    · simp only [if_neg e3, if_neg e4, if_pos e5, decide_eq_true_eq] at h ⊢
      rw [h]
    simp only [if_neg e3, if_neg e4, if_neg e5] at h ⊢
    by_cases e6 : k = 6
    · simp only [if_pos e6] at h
      have hh := encL_same k l l' ks ks' (d + 1) (by rcases hsub with h | h; omega; exact h) h (fun e => absurd e (by omega))
      rw [hh.1, hh.2]
    by_cases e7 : k = 7
    · simp only [if_neg e6, if_pos e7, Bool.and_eq_true, decide_eq_true_eq] at h
      have hh := encL_same k l l' ks ks' (d + 1) (by rcases hsub with h | h; omega; exact h) h.2 (fun _ => h.1)
      rw [hh.1, hh.2]
    omega
theorem encL_same (k : Int) : ∀ (l l' : List Tr) (ks ks' : List ByteArray) (d : Nat), canL d l = true → sameL l l' = true → (k = 7 → ks = ks') → l.length = l'.length ∧ encL k l ks = encL k l' ks'
  | [], [], _, _, _, _, _, _ => by unfold encL; exact ⟨rfl, rfl⟩
  | [], y :: r', _, _, _, _, h, _ => by unfold sameL at h; simp at h
  | x :: r, [], _, _, _, _, h, _ => by unfold sameL at h; simp at h
  | x :: r, y :: r', ks, ks', d, hc, h, hk => by
    unfold sameL at h
    unfold canL at hc
    simp only [Bool.and_eq_true] at h hc
    have h1 := encT_same x y d hc.1 h.1
    have h2 := encL_same k r r' ks.tail ks'.tail d hc.2 h.2 (fun e => by rw [hk e])
    refine ⟨by simp [h2.1], ?_⟩
    unfold encL
    rw [h1, h2.2]
    by_cases h7 : k = 7
    · rw [if_pos h7, if_pos h7, hk h7]
    · rw [if_neg h7, if_neg h7]
end
/-- One way to write each value. -/
theorem encT_one (x y : Tr) (hx : canT 0 x = true) (hy : canT 0 y = true) (ix : inT x) (iy : inT y) (lx : (encT x).length ≤ 65536) (ly : (encT y).length ≤ 65536) : encT x = encT y ↔ sameT x y = true := by
  refine ⟨fun h => ?_, encT_same x y 0 hx⟩
  have h1 := decV_enc x 0 [] hx ix lx
  have h2 := decV_enc y 0 [] hy iy ly
  rw [h, h2] at h1
  injection h1 with _ h1
  injection h1 with h1 _
  exact sameT_cl x y 0 0 hx hy h1.symm
end Go.Proofs.YtmpnehhndhepgaaDoor

/- Mathematics: what is cut off is too short. It proves no statement. -/

namespace Go.Proofs.YtmpnehhndhepgaaDoor
open Go.RowKit
set_option linter.unusedVariables false
set_option linter.unusedSimpArgs false

/-- A front of two parts: a front of the first, or the first and a front of the second. -/
theorem front_split {a b p q : List UInt8} (h : a ++ b = p ++ q) : (∃ p', p = a ++ p' ∧ b = p' ++ q) ∨ (∃ c, c ≠ [] ∧ a = p ++ c) := by
  rcases List.append_eq_append_iff.1 h with ⟨a', h1, h2⟩ | ⟨c, h1, h2⟩
  · exact .inl ⟨a', h1, h2⟩
  · by_cases hc : c = []
    · subst hc
      exact .inl ⟨[], by simpa using h1.symm, by simpa using h2.symm⟩
    · exact .inr ⟨c, hc, h1⟩
theorem pos_of {c : List UInt8} (h : c ≠ []) : 0 < c.length := List.length_pos_iff.2 h
theorem szD_front (k n : Nat) (h4 : 4 ≤ k) (h7 : k ≤ 7) (hn : n < 65536) (p c : List UInt8) (hc : c ≠ []) (h : numB (st k n) n = p ++ c) : szD k (st k n) p = (3, 0, p) := by
  have hl := numB_length (st k n) n
  have := pos_of hc
  rw [h, List.length_append] at hl
  unfold szD
  rw [if_neg (by omega), if_pos (by omega)]
theorem byD_front (b p q : List UInt8) (hn : b.length ≤ 65535) (hq : q ≠ []) (h : numB (st 4 b.length) b.length ++ b = p ++ q) : (byD (st 4 b.length) p).1 = 3 := by
  unfold byD
  rcases front_split h with ⟨p', rfl, h2⟩ | ⟨c, hc, h2⟩
  · rw [szD_st 4 b.length (by omega) (by omega) (by omega)]
    have := pos_of hq
    have h3 : b.length = p'.length + q.length := by rw [← List.length_append, ← h2]
    simp only [ne_eq, not_true_eq_false, if_false]
    rw [if_pos (by omega)]
  · rw [szD_front 4 b.length (by omega) (by omega) (by omega) p c hc h2]
    rfl
theorem txD_front (b p q : List UInt8) (hn : b.length ≤ 65535) (hq : q ≠ []) (h : numB (st 5 b.length) b.length ++ b = p ++ q) : (txD (st 5 b.length) p).1 = 3 := by
  unfold txD
  rcases front_split h with ⟨p', rfl, h2⟩ | ⟨c, hc, h2⟩
  · rw [szD_st 5 b.length (by omega) (by omega) (by omega)]
    have := pos_of hq
    have h3 : b.length = p'.length + q.length := by rw [← List.length_append, ← h2]
    simp only [ne_eq, not_true_eq_false, if_false]
    rw [if_pos (by omega)]
  · rw [szD_front 5 b.length (by omega) (by omega) (by omega) p c hc h2]
    rfl
theorem keD_front (b p q : List UInt8) (hl : (txB b).length ≤ 65536) (hq : q ≠ []) (h : txB b = p ++ q) : (keD p).1 = 3 := by
  rcases p with _ | ⟨t, p⟩
  · rfl
  unfold txB at h hl
  obtain ⟨hn, e⟩ := szB_len 5 b.length (by rw [List.length_append] at hl; omega)
  rw [e, List.cons_append, List.cons_append] at h
  injection h with h1 h2
  rw [← h1, keD_cons, u8_st 5 _ (by omega) (by omega), (st_kd 5 b.length (by omega) (by omega) (by omega)).1]
  rw [if_pos (by rfl)]
  exact txD_front b p q hn hq h2

mutual
theorem decV_front : ∀ (x : Tr) (d : Nat) (p q : List UInt8), canT d x = true → inT x → (encT x).length ≤ 65536 → q ≠ [] → encT x = p ++ q → (decV (17 - d) p).1 = 3
  | .mk k i b t ks l, d, [], q, hc, hi, hl, hq, h => by
    unfold decV; rfl
  | .mk k i b t ks l, d, u :: p, q, hc, hi, hl, hq, h => by
    have hp := pos_of hq
    unfold canT at hc
    simp only [Bool.and_eq_true, decide_eq_true_eq, Bool.or_eq_true] at hc
    obtain ⟨⟨⟨⟨hd, h0⟩, h7⟩, hk7⟩, hsub⟩ := hc
    unfold inT at hi
    obtain ⟨hi, hil⟩ := hi
    obtain ⟨f, hf⟩ : ∃ f, 17 - d = f + 1 := ⟨16 - d, by omega⟩
    have hf' : f = 17 - (d + 1) := by omega
    rw [hf]
    obtain rfl | rfl | rfl | rfl | rfl | rfl | rfl | rfl : k = 0 ∨ k = 1 ∨ k = 2 ∨ k = 3 ∨ k = 4 ∨ k = 5 ∨ k = 6 ∨ k = 7 := by omega
    · have e : encT (.mk 0 i b t ks l) = [192] := by rw [encT]; rfl
      rw [e] at h
      have := congrArg List.length h
      rw [List.length_append, List.length_cons, List.length_cons, List.length_nil] at this; omega
    · have e : encT (.mk 1 i b t ks l) = [194] := by rw [encT]; rfl
      rw [e] at h
      have := congrArg List.length h
      rw [List.length_append, List.length_cons, List.length_cons, List.length_nil] at this; omega
    · have e : encT (.mk 2 i b t ks l) = [195] := by rw [encT]; rfl
      rw [e] at h
      have := congrArg List.length h
      rw [List.length_append, List.length_cons, List.length_cons, List.length_nil] at this; omega
    · have e : encT (.mk 3 i b t ks l) = encI i := by rw [encT]; rfl
      rw [e] at h
      unfold encI at h
      rw [List.cons_append] at h
      injection h with h1 h2
      have h3 := numB_length (nt i) (ux i)
      rw [h2, List.length_append] at h3
      rw [← h1]
      unfold decV
      rw [u8_nt, kd_int i hi.1 hi.2]
      simp only [if_neg (show ¬((3 : Int) = -1) by decide), if_true]
      unfold nuD
      rw [if_neg (by omega), if_pos (by omega)]
    · have e : encT (.mk 4 i b t ks l) = szB 4 b.length ++ b := by rw [encT]; rfl
      rw [e] at hl h
      obtain ⟨hn, e2⟩ := szB_len 4 b.length (by rw [List.length_append] at hl; omega)
      rw [e2, List.cons_append, List.cons_append] at h
      injection h with h1 h2
      rw [← h1]
      unfold decV
      rw [u8_st 4 _ (by omega) (by omega), (st_kd 4 b.length (by omega) (by omega) (by omega)).1]
      exact byD_front b p q hn hq h2
    · have e : encT (.mk 5 i b t ks l) = txB t.data.toList := by rw [encT]; rfl
      rw [e] at hl h
      unfold txB at hl h
      obtain ⟨hn, e2⟩ := szB_len 5 t.data.toList.length (by rw [List.length_append] at hl; omega)
      rw [e2, List.cons_append, List.cons_append] at h
      injection h with h1 h2
      rw [← h1]
      unfold decV
      rw [u8_st 5 _ (by omega) (by omega), (st_kd 5 t.data.toList.length (by omega) (by omega) (by omega)).1]
      exact txD_front t.data.toList p q hn hq h2
    · have e : encT (.mk 6 i b t ks l) = szB 6 l.length ++ encL 6 l ks := by rw [encT]; rfl
      rw [e] at hl h
      rw [List.length_append] at hl
      obtain ⟨hn, e2⟩ := szB_len 6 l.length (by omega)
      have hcl : canL (d + 1) l = true := by rcases hsub with h | h; exact absurd h (by decide); exact h
      rw [e2, List.cons_append, List.cons_append] at h
      injection h with h1 h2
      rw [← h1]
      unfold decV
      rw [u8_st 6 _ (by omega) (by omega), (st_kd 6 l.length (by omega) (by omega) (by omega)).1]
      rcases front_split h2 with ⟨p', rfl, h3⟩ | ⟨c, hcc, h3⟩
      · rw [szD_st 6 l.length (by omega) (by omega) (by omega)]
        have IH := decL_front l (d + 1) ks p' q hcl hil (by omega) hq h3
        rw [← hf'] at IH
        exact IH
      · rw [szD_front 6 l.length (by omega) (by omega) (by omega) p c hcc h3]
        rfl
    · have e : encT (.mk 7 i b t ks l) = szB 7 l.length ++ encL 7 l ks := by rw [encT]; rfl
      rw [e] at hl h
      rw [List.length_append] at hl
      obtain ⟨hn, e2⟩ := szB_len 7 l.length (by omega)
      have hcl : canL (d + 1) l = true := by rcases hsub with h | h; exact absurd h (by decide); exact h
      have hks : ks.length = l.length ∧ riseB ks = true := by rcases hk7 with h | h; exact absurd rfl h; exact ⟨by simpa using h.1, h.2⟩
      rw [e2, List.cons_append, List.cons_append] at h
      injection h with h1 h2
      rw [← h1]
      unfold decV
      rw [u8_st 7 _ (by omega) (by omega), (st_kd 7 l.length (by omega) (by omega) (by omega)).1]
      rcases front_split h2 with ⟨p', rfl, h3⟩ | ⟨c, hcc, h3⟩
      · rw [szD_st 7 l.length (by omega) (by omega) (by omega)]
        have IH := decM_front l (d + 1) ks none p' q hcl hil (by omega) hks.1 hks.2 (fun _ h => absurd h (by simp)) hq h3
        rw [← hf'] at IH
        exact IH
      · rw [szD_front 7 l.length (by omega) (by omega) (by omega) p c hcc h3]
        rfl
theorem decL_front : ∀ (l : List Tr) (d : Nat) (ks : List ByteArray) (p q : List UInt8), canL d l = true → inL l → (encL 6 l ks).length ≤ 65536 → q ≠ [] → encL 6 l ks = p ++ q → (decL (decV (17 - d)) l.length p).1 = 3
  | [], d, ks, p, q, hc, hi, hl, hq, h => by
    unfold encL at h
    have := pos_of hq
    have := congrArg List.length h
    simp at this; omega
  | x :: l, d, ks, p, q, hc, hi, hl, hq, h => by
    unfold canL at hc
    simp only [Bool.and_eq_true] at hc
    unfold inL at hi
    have e : encL 6 (x :: l) ks = encT x ++ encL 6 l ks.tail := by rw [encL]; rfl
    rw [e, List.length_append] at hl
    rw [e] at h
    rw [List.length_cons]
    unfold decL
    rcases front_split h with ⟨p', rfl, h3⟩ | ⟨c, hcc, h3⟩
    · have h1 := decV_enc x d p' hc.1 hi.1 (by omega)
      have h2 := decL_front l d ks.tail p' q hc.2 hi.2 (by omega) hq h3
      rw [h1]
      simp only [h2]
      rfl
    · have h1 := decV_front x d p c hc.1 hi.1 (by omega) hcc h3
      rw [if_pos (by rw [h1]; decide)]
      exact h1
theorem decM_front : ∀ (l : List Tr) (d : Nat) (ks : List ByteArray) (last : Option (List UInt8)) (p q : List UInt8), canL d l = true → inL l → (encL 7 l ks).length ≤ 65536 → ks.length = l.length → riseB ks = true →
    (∀ o, last = some o → ∀ a ∈ ks.head?, Op.bytesLess o a.data.toList = true) → q ≠ [] → encL 7 l ks = p ++ q → (decM (decV (17 - d)) l.length last p).1 = 3
  | [], d, ks, last, p, q, hc, hi, hl, hn, hr, ho, hq, h => by
    unfold encL at h
    have := pos_of hq
    have := congrArg List.length h
    simp at this; omega
  | x :: l, d, [], last, p, q, hc, hi, hl, hn, hr, ho, hq, h => by simp at hn
  | x :: l, d, a :: ks, last, p, q, hc, hi, hl, hn, hr, ho, hq, h => by
    unfold canL at hc
    simp only [Bool.and_eq_true] at hc
    unfold inL at hi
    have e : encL 7 (x :: l) (a :: ks) = txB a.data.toList ++ (encT x ++ encL 7 l ks) := by rw [encL]; rfl
    rw [e, List.length_append, List.length_append] at hl
    rw [e] at h
    rw [List.length_cons, decM_succ]
    rcases front_split h with ⟨p', rfl, h3⟩ | ⟨c, hcc, h3⟩
    · rw [keD_txB a.data.toList p' (by omega)]
      have hor : ordB last a.data.toList = false := by
        rcases last with _ | o
        · rfl
        · unfold ordB
          simp only [ho o rfl a (by simp)]
          rfl
      simp only [hor]
      rw [if_neg (by decide), if_neg (by decide)]
      rcases front_split h3 with ⟨p'', rfl, h4⟩ | ⟨c, hcc, h4⟩
      · have h1 := decV_enc x d p'' hc.1 hi.1 (by omega)
        have h2 := decM_front l d ks (some a.data.toList) p'' q hc.2 hi.2 (by omega) (by simpa using hn) (riseB_tail hr) (by
          intro o ho2 b hb
          simp only [Option.some.injEq] at ho2
          subst ho2
          rcases ks with _ | ⟨c, ks⟩
          · simp at hb
          · simp only [List.head?_cons, Option.mem_def, Option.some.injEq] at hb
            subst hb
            unfold riseB at hr
            simp only [Bool.and_eq_true] at hr
            simpa [ByteArray.toList_eq] using hr.1) hq h4
        rw [h1]
        simp only [h2]
        rfl
      · have h1 := decV_front x d p' c hc.1 hi.1 (by omega) hcc h4
        rw [if_pos (by rw [h1]; decide)]
        exact h1
    · have h1 := keD_front a.data.toList p c (by omega) hcc h3
      rw [if_pos (by rw [h1]; decide)]
      exact h1
end
end Go.Proofs.YtmpnehhndhepgaaDoor
