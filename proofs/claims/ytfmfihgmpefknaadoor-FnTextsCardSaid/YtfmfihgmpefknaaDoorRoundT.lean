/-
  Plain mathematics: what GetTexts reads is what PutTexts gives, and the other way round.
-/
import Derived.Test.YtfmfihgmpefknaaDoorRoundW
import Derived.Test.YtfmfihgmpefknaaDoorPutTextsW
import Derived.Test.YtfmfihgmpefknaaDoorGetTextsW
namespace Go.Proofs.YtfmfihgmpefknaaDoor
open Go.RowKit

theorem bytesN_numB (n : Nat) (h : n ≤ 999999999) : bytesN (numB n) = Plain.encF 4 n := by unfold numB; exact bytesN_str _ (Plain.encF_byte 4 _ (by omega))

/-- a number that stands in a text at a place is read from there -/
theorem getNI_there (s : ByteArray) (i n : Nat) (r : List Nat) (hn : n ≤ 999999999) (hb : (bytesN s).drop i = Plain.encF 4 n ++ r) : getNI s (i : Int) = ((n : Int), (i : Int) + ((Plain.encF 4 n).length : Int)) := by
  have hlt : n < 128 ^ (4 + 1) := by omega
  obtain ⟨p, b, h1, h2, h3⟩ := Plain.chain_enc 4 n r hlt
  have hdec := Plain.dec_encF 4 n hlt
  rw [show getNI s (i : Int) = Plain.getN (bytesN s) i from by unfold getNI; rw [if_neg (by omega), Int.toNat_natCast]]
  unfold Plain.getN
  rw [hb, h2]
  simp only
  rw [← h1, hdec, if_neg]
  · rw [h1]
    simp
    omega
  · rintro (h | h)
    · rcases h3 with h3 | h3
      · exact h3 h.1
      · exact h.2 h3
    · omega

/-- the bytes of a text with its length -/
def bT (t : ByteArray) : List Nat := Plain.encF 4 t.size ++ bytesN t
def bTs : List ByteArray → List Nat
  | [] => []
  | t :: r => bT t ++ bTs r
theorem bT_length (t : ByteArray) : (bT t).length = (Plain.encF 4 t.size).length + t.size := by simp [bT, bytesN_length]

theorem getTI_there (s : ByteArray) (i : Nat) (t : ByteArray) (r : List Nat) (ht : t.size ≤ 10000000) (hb : (bytesN s).drop i = bT t ++ r) : getTI s (i : Int) = (t, (i : Int) + ((bT t).length : Int)) := by
  have hb2 : (bytesN s).drop i = Plain.encF 4 t.size ++ (bytesN t ++ r) := by rw [hb, bT, List.append_assoc]
  have hg := getNI_there s i t.size (bytesN t ++ r) (by omega) hb2
  have hlt := bytesN_length t
  have hls := bytesN_length s
  have hlen : s.size = i + ((Plain.encF 4 t.size).length + (t.size + r.length)) := by
    have h1 := congrArg List.length hb2
    have h2 := (Plain.encF_length 4 t.size).1
    simp at h1
    omega
  unfold getTI
  rw [hg]
  simp only
  rw [if_neg (by rw [hlen]; omega), bT_length]
  refine Prod.ext ?_ (by simp only; omega)
  simp only
  apply bytesN_inj
  rw [bytesN_extract]
  have e1 : ((i : Int) + ((Plain.encF 4 t.size).length : Int)).toNat = i + (Plain.encF 4 t.size).length := by omega
  have e2 : ((i : Int) + ((Plain.encF 4 t.size).length : Int) + (t.size : Int)).toNat - (i + (Plain.encF 4 t.size).length) = t.size := by omega
  rw [e1, e2, ← List.drop_drop, hb2, List.drop_left, List.take_append_of_le_length (by omega), List.take_of_length_le (by omega)]

theorem getTsL_there (s : ByteArray) (ts : List ByteArray) (i : Nat) (r : List Nat) (ht : ∀ t ∈ ts, t.size ≤ 10000000) (hb : (bytesN s).drop i = bTs ts ++ r) : getTsL s ts.length (i : Int) = some (ts, (i : Int) + ((bTs ts).length : Int)) := by
  induction ts generalizing i with
  | nil => simp [getTsL, bTs]
  | cons t q ih =>
    have hb2 : (bytesN s).drop i = bT t ++ (bTs q ++ r) := by rw [hb, bTs, List.append_assoc]
    have hg := getTI_there s i t (bTs q ++ r) (ht t (by simp)) hb2
    have hn : (bytesN s).drop (i + (bT t).length) = bTs q ++ r := by rw [← List.drop_drop, hb2, List.drop_left]
    have hi := ih (i + (bT t).length) (fun x hx => ht x (by simp [hx])) hn
    rw [show (t :: q).length = q.length + 1 from rfl, getTsL, hg]
    simp only
    rw [if_neg (by omega), show ((i : Int) + ((bT t).length : Int)) = ((i + (bT t).length : Nat) : Int) from by omega, hi]
    simp [bTs]
    omega

theorem bytes_flat (ts : List ByteArray) (ht : ∀ t ∈ ts, t.size ≤ 999999999) : (catL (flatT ts)).map UInt8.toNat = bTs ts := by
  induction ts with
  | nil => rfl
  | cons t q ih =>
    have h1 : (numB t.size).data.toList.map UInt8.toNat = Plain.encF 4 t.size := bytesN_numB t.size (ht t (by simp))
    simp only [flatT, catL, List.map_append, h1, ih (fun x hx => ht x (by simp [hx])), bTs, bT, List.append_assoc]
    rfl

theorem bytes_putTs (ts : List ByteArray) (hl : ts.length ≤ 200) (ht : ∀ t ∈ ts, t.size ≤ 999999999) : bytesN (putTs ts) = Plain.encF 4 ts.length ++ bTs ts := by
  rw [show putTs ts = ⟨(catL (partsT ts)).toArray⟩ from if_neg (by omega)]
  have h1 : (numB ts.length).data.toList.map UInt8.toNat = Plain.encF 4 ts.length := bytesN_numB ts.length (by omega)
  have h2 := bytes_flat ts ht
  simp [bytesN, partsT, catL, h1, h2]

/-- texts come back from their bytes -/
theorem getTs_put (ts : List ByteArray) (hl : ts.length ≤ 200) (ht : ∀ t ∈ ts, t.size ≤ 10000000) : getTs (putTs ts) = (ts, true) := by
  have hb := bytes_putTs ts hl (fun t h => by have := ht t h; omega)
  have hg := getNI_there (putTs ts) 0 ts.length (bTs ts) (by omega) (by rw [List.drop_zero]; exact hb)
  have hn : (bytesN (putTs ts)).drop (Plain.encF 4 ts.length).length = bTs ts ++ [] := by rw [hb, List.drop_left, List.append_nil]
  have hL := getTsL_there (putTs ts) ts (Plain.encF 4 ts.length).length [] ht hn
  have hs : (putTs ts).size = (Plain.encF 4 ts.length).length + (bTs ts).length := by rw [← bytesN_length, hb, List.length_append]
  have hg' : getNI (putTs ts) 0 = ((ts.length : Int), ((Plain.encF 4 ts.length).length : Int)) := by
    have : getNI (putTs ts) ((0 : Nat) : Int) = _ := hg
    simpa using this
  unfold getTs
  rw [hg']
  simp only
  rw [if_neg (by omega), Int.toNat_natCast, hL]
  simp only
  rw [if_pos (by rw [hs]; omega)]

/-- with one byte more behind they do not -/
theorem getTs_more (ts : List ByteArray) (hl : ts.length ≤ 200) (ht : ∀ t ∈ ts, t.size ≤ 10000000) : getTs (putTs ts ++ ⟨#[120]⟩) = ([], false) := by
  have hb0 := bytes_putTs ts hl (fun t h => by have := ht t h; omega)
  have hb : bytesN (putTs ts ++ ⟨#[120]⟩) = Plain.encF 4 ts.length ++ (bTs ts ++ [120]) := by rw [bytesN_append, hb0, List.append_assoc]; rfl
  generalize putTs ts ++ ⟨#[120]⟩ = S at *
  have hg := getNI_there S 0 ts.length (bTs ts ++ [120]) (by omega) (by rw [List.drop_zero]; exact hb)
  have hn : (bytesN S).drop (Plain.encF 4 ts.length).length = bTs ts ++ [120] := by rw [hb, List.drop_left]
  have hL := getTsL_there S ts (Plain.encF 4 ts.length).length [120] ht hn
  have hs : S.size = (Plain.encF 4 ts.length).length + (bTs ts).length + 1 := by rw [← bytesN_length, hb]; simp; omega
  have hg' : getNI S 0 = ((ts.length : Int), ((Plain.encF 4 ts.length).length : Int)) := by
    have : getNI S ((0 : Nat) : Int) = _ := hg
    simpa using this
  unfold getTs
  rw [hg']
  simp only
  rw [if_neg (by omega), Int.toNat_natCast, hL]
  simp only
  rw [if_neg (by rw [hs]; omega)]

theorem bytes_putT (t : ByteArray) (h : t.size ≤ 10000000) : bytesN (putT t) = bT t := by
  rw [show putT t = numB t.size ++ t from if_neg (by omega), bytesN_append, bytesN_numB t.size (by omega)]
  rfl

theorem drop_split (l : List Nat) (i j : Nat) (h : i ≤ j) : l.drop i = (l.drop i).take (j - i) ++ l.drop j := by
  have := List.take_append_drop (j - i) (l.drop i)
  rw [List.drop_drop, show i + (j - i) = j from by omega] at this
  exact this.symm

theorem getTI_small (v : ByteArray) (k : Int) (h : 0 < (getTI v k).2) : (getTI v k).1.size ≤ 10000000 := by
  unfold getTI at h ⊢
  by_cases hc : (getNI v k).2 < 0 ∨ 10000000 < (getNI v k).1 ∨ (v.size : Int) - (getNI v k).2 < (getNI v k).1
  · rw [if_pos hc] at h; simp at h
  · rw [if_neg hc]
    simp
    omega

/-- texts that were read stand there -/
theorem getTsL_back (s : ByteArray) (n : Nat) (a : Nat) (y : List ByteArray × Int) (h : getTsL s n (a : Int) = some y) (ha : a ≤ s.size) : ∃ b : Nat, y.2 = (b : Int) ∧ a ≤ b ∧ b ≤ s.size ∧ y.1.length = n ∧ (∀ t ∈ y.1, t.size ≤ 10000000) ∧ (bytesN s).drop a = bTs y.1 ++ (bytesN s).drop b := by
  induction n generalizing a y with
  | zero =>
    simp [getTsL] at h
    subst h
    exact ⟨a, rfl, Nat.le_refl _, ha, rfl, by simp, by simp [bTs]⟩
  | succ n ih =>
    rw [getTsL] at h
    by_cases hp : (getTI s (a : Int)).2 < 0
    · rw [if_pos hp] at h; simp at h
    · rw [if_neg hp] at h
      simp only [Option.map_eq_some_iff] at h
      obtain ⟨z, hz, he⟩ := h
      have hpos : 0 < (getTI s (a : Int)).2 := by rcases getTI_range s (a : Int) with h' | h' <;> omega
      obtain ⟨b1, b2, b3, b4⟩ := getTI_back s (a : Int) hpos
      have hsm := getTI_small s (a : Int) hpos
      generalize getTI s (a : Int) = r at *
      obtain ⟨t, c⟩ := r
      simp only at *
      obtain ⟨c', rfl⟩ := Int.eq_ofNat_of_zero_le (show 0 ≤ c by omega)
      obtain ⟨b, e1, e2, e3, e4, e5, e6⟩ := ih c' z hz (by omega)
      subst he
      refine ⟨b, e1, by omega, e3, by simp [e4], ?_, ?_⟩
      · intro x hx
        rcases List.mem_cons.1 hx with h | h
        · subst h; exact hsm
        · exact e5 x h
      · have hbt := congrArg bytesN b4
        rw [bytes_putT t hsm, bytesN_extract, Int.toNat_natCast, Int.toNat_natCast] at hbt
        rw [drop_split (bytesN s) a c' (by omega), ← hbt, e6]
        simp [bTs]

/-- no other bytes are theirs -/
theorem getTs_back (u : ByteArray) (h : (getTs u).2 = true) : putTs (getTs u).1 = u ∧ (getTs u).1.length ≤ 200 ∧ ∀ t ∈ (getTs u).1, t.size ≤ 10000000 := by
  unfold getTs at h ⊢
  by_cases hc : (getNI u 0).2 < 0 ∨ 200 < (getNI u 0).1
  · rw [if_pos hc] at h; simp at h
  · rw [if_neg hc] at h ⊢
    have hpos : 0 < (getNI u 0).2 := by
      rcases getNI_range u 0 with h' | h'
      · rw [h'] at hc; simp at hc
      · omega
    obtain ⟨b1, b2, b3, b4, b5, b6⟩ := getNI_back u 0 hpos
    generalize getNI u 0 = r at *
    obtain ⟨n, a⟩ := r
    simp only at *
    obtain ⟨N, rfl⟩ := Int.eq_ofNat_of_zero_le b5
    obtain ⟨A, rfl⟩ := Int.eq_ofNat_of_zero_le b2
    rw [Int.toNat_natCast] at h ⊢
    cases hy : getTsL u N (A : Int) with
    | none => rw [hy] at h; simp at h
    | some y =>
      rw [hy] at h
      simp only at h ⊢
      by_cases he : y.2 = (u.size : Int)
      · rw [if_pos he]
        simp only
        obtain ⟨b, e1, e2, e3, e4, e5, e6⟩ := getTsL_back u N A y hy (by omega)
        have hb : b = u.size := by omega
        subst hb
        have hl2 : y.1.length ≤ 200 := by omega
        refine ⟨?_, hl2, e5⟩
        apply bytesN_inj
        rw [bytes_putTs y.1 hl2 (fun t ht => by have := e5 t ht; omega)]
        have hend : (bytesN u).drop u.size = [] := by rw [List.drop_eq_nil_iff, bytesN_length]; exact Nat.le_refl _
        rw [hend, List.append_nil] at e6
        have hpn : putNI (N : Int) = numB N := by unfold putNI; rw [if_pos ⟨by omega, by omega⟩, Int.toNat_natCast]
        rw [hpn] at b4
        have hbn := congrArg bytesN b4
        rw [bytesN_numB N (by omega), bytesN_extract] at hbn
        rw [e4, hbn, ← e6]
        simp
      · rw [if_neg he] at h; simp at h

end Go.Proofs.YtfmfihgmpefknaaDoor
