/-
  Plain mathematics: what GetNum and GetText read is what PutNum and PutText give, and the other way round.
-/
import Derived.Test.YtfmfihgmpefknaaDoorGetTextW
import Derived.Test.YtfmfihgmpefknaaDoorDrawsA
namespace Go.Proofs.YtfmfihgmpefknaaDoor
open Go.RowKit

theorem Plain.chain_some (f : Nat) (l p : List Nat) (b : Nat) (h : Plain.chain f l = some (p, b)) : (∀ x ∈ p, 128 ≤ x) ∧ b < 128 ∧ p.length < f ∧ ∃ r, l = p ++ b :: r := by
  induction f generalizing l p b with
  | zero => simp [Plain.chain] at h
  | succ f ih =>
    cases l with
    | nil => simp [Plain.chain] at h
    | cons x r =>
      rw [Plain.chain] at h
      by_cases hx : x < 128
      · rw [if_pos hx] at h
        simp at h
        obtain ⟨h1, h2⟩ := h
        subst h1; subst h2
        exact ⟨by simp, hx, by simp, r, rfl⟩
      · rw [if_neg hx] at h
        simp only [Option.map_eq_some_iff] at h
        obtain ⟨⟨q, c⟩, hq, he⟩ := h
        obtain ⟨h1, h2, h3, r', h4⟩ := ih r q c hq
        simp at he
        obtain ⟨he1, he2⟩ := he
        subst he1; subst he2
        refine ⟨?_, h2, by simp; omega, r', by rw [h4]; rfl⟩
        intro y hy
        rcases List.mem_cons.1 hy with e | e
        · omega
        · exact h1 y e

theorem Plain.chain_enc (f n : Nat) (r : List Nat) (h : n < 128 ^ (f + 1)) : ∃ p b, Plain.encF f n = p ++ [b] ∧ Plain.chain (f + 1) (Plain.encF f n ++ r) = some (p, b) ∧ (b ≠ 0 ∨ p = []) := by
  induction f generalizing n with
  | zero =>
    have hn : n < 128 := by simpa using h
    exact ⟨[], n, rfl, by simp [Plain.encF, Plain.chain, hn], .inr rfl⟩
  | succ f ih =>
    by_cases hn : n < 128
    · rw [Plain.encF_small _ _ hn]
      exact ⟨[], n, rfl, by simp [Plain.chain, hn], .inr rfl⟩
    · have hd : n / 128 < 128 ^ (f + 1) := by rw [Nat.pow_succ] at h; exact Nat.div_lt_of_lt_mul (by omega)
      obtain ⟨p, b, h1, h2, h3⟩ := ih (n / 128) hd
      rw [Plain.encF_big _ _ (by omega)]
      refine ⟨(n % 128 + 128) :: p, b, by rw [h1]; rfl, ?_, ?_⟩
      · rw [List.cons_append, Plain.chain, if_neg (by omega), h2]
        rfl
      · left
        rcases h3 with h3 | h3
        · exact h3
        · subst h3
          intro hb
          subst hb
          have he := Plain.dec_encF f (n / 128) hd
          rw [h1] at he
          simp [Plain.dec] at he
          omega

/-- a number that stands in a text is read from there -/
theorem getNI_of (s : ByteArray) (n : Nat) (r : List Nat) (hn : n ≤ 999999999) (hb : bytesN s = 97 :: (Plain.encF 4 n ++ r)) : getNI s 1 = ((n : Int), 1 + ((Plain.encF 4 n).length : Int)) := by
  have hlt : n < 128 ^ (4 + 1) := by omega
  obtain ⟨p, b, h1, h2, h3⟩ := Plain.chain_enc 4 n r hlt
  have hdec := Plain.dec_encF 4 n hlt
  rw [show getNI s 1 = Plain.getN (bytesN s) 1 from if_neg (by omega)]
  unfold Plain.getN
  rw [hb, show (97 :: (Plain.encF 4 n ++ r)).drop 1 = Plain.encF 4 n ++ r from rfl, h2]
  simp only
  rw [← h1, hdec, if_neg]
  · rw [h1]
    simp
    omega
  · rintro (h | h)
    · rcases h3 with h3 | h3
      · exact h3 h.1
      · exact h.2 h3
    · omega

/-- what was read as a number is what stands there -/
theorem getNI_back (u : ByteArray) (i : Int) (h : 0 < (getNI u i).2) : 0 ≤ i ∧ i ≤ (getNI u i).2 ∧ (getNI u i).2 ≤ u.size ∧ putNI (getNI u i).1 = u.extract i.toNat (getNI u i).2.toNat ∧ 0 ≤ (getNI u i).1 ∧ (getNI u i).1 ≤ 999999999 := by
  by_cases hi : i < 0
  · rw [show getNI u i = (0, -1) from if_pos hi] at h
    simp at h
  · have e : getNI u i = Plain.getN (bytesN u) i.toNat := if_neg hi
    have hrg := Plain.getN_range (bytesN u) i.toNat
    rw [e] at h ⊢
    rw [bytesN_length] at hrg
    unfold Plain.getN at h hrg ⊢
    cases hc : Plain.chain 5 ((bytesN u).drop i.toNat) with
    | none => rw [hc] at h; simp at h
    | some y =>
      obtain ⟨p, b⟩ := y
      rw [hc] at h hrg
      obtain ⟨h1, h2, h3, r, h4⟩ := Plain.chain_some 5 _ p b hc
      simp only at h hrg ⊢
      by_cases hcond : (b = 0 ∧ p ≠ []) ∨ 999999999 < Plain.dec (p ++ [b])
      · rw [if_pos hcond] at h; simp at h
      · rw [if_neg hcond] at hrg ⊢
        simp only [not_or] at hcond
        have hr2 : ((i.toNat + p.length + 1 : Nat) : Int) ≤ u.size := by
          rcases hrg with hr | hr
          · simp at hr; omega
          · exact hr.2.2.2
        have hch : Plain.Chain p b := by
          refine ⟨fun x hx => ⟨h1 x hx, ?_⟩, h2⟩
          have hx2 : x ∈ (bytesN u).drop i.toNat := by rw [h4]; simp [hx]
          have hx3 := List.mem_of_mem_drop hx2
          simp only [bytesN, List.mem_map] at hx3
          obtain ⟨y, _, rfl⟩ := hx3
          exact UInt8.toNat_lt y
        have henc := (Plain.enc_dec p b 4 hch (by omega)).2 (by
          by_cases hb0 : b = 0
          · right
            by_cases hp : p = []
            · exact hp
            · exact absurd ⟨hb0, hp⟩ hcond.1
          · exact .inl hb0)
        refine ⟨by omega, by simp only; omega, by simp only; omega, ?_, by simp, by simp only; omega⟩
        simp only
        rw [show putNI ((Plain.dec (p ++ [b]) : Nat) : Int) = numB (Plain.dec (p ++ [b])) from by
          unfold putNI
          rw [if_pos ⟨by omega, by omega⟩, Int.toNat_natCast]]
        apply bytesN_inj
        unfold numB
        rw [bytesN_str _ (Plain.encF_byte 4 _ (by omega)), henc, bytesN_extract, Int.toNat_natCast, h4, show i.toNat + p.length + 1 - i.toNat = p.length + 1 from by omega]
        rw [show p ++ b :: r = (p ++ [b]) ++ r from by simp, List.take_append_of_le_length (by simp), List.take_of_length_le (by simp)]

theorem extract_split (v : ByteArray) (i j k : Nat) (h1 : i ≤ j) (h2 : j ≤ k) (_h3 : k ≤ v.size) : v.extract i j ++ v.extract j k = v.extract i k := by
  apply bytesN_inj
  have hap : ∀ a b : ByteArray, bytesN (a ++ b) = bytesN a ++ bytesN b := fun a b => by simp [bytesN]
  rw [hap, bytesN_extract, bytesN_extract, bytesN_extract]
  have hl := bytesN_length v
  have e1 : (bytesN v).drop j = ((bytesN v).drop i).drop (j - i) := by rw [List.drop_drop, show i + (j - i) = j from by omega]
  rw [e1, show k - i = (j - i) + (k - j) from by omega, List.take_add]

/-- what was read as a text is what stands there -/
theorem getTI_back (v : ByteArray) (k : Int) (h : 0 < (getTI v k).2) : 0 ≤ k ∧ k ≤ (getTI v k).2 ∧ (getTI v k).2 ≤ v.size ∧ putT (getTI v k).1 = v.extract k.toNat (getTI v k).2.toNat := by
  unfold getTI at h ⊢
  by_cases hc : (getNI v k).2 < 0 ∨ 10000000 < (getNI v k).1 ∨ (v.size : Int) - (getNI v k).2 < (getNI v k).1
  · rw [if_pos hc] at h; simp at h
  · rw [if_neg hc] at h ⊢
    have hpos : 0 < (getNI v k).2 := by
      rcases getNI_range v k with h' | h'
      · rw [h'] at hc; simp at hc
      · omega
    obtain ⟨b1, b2, b3, b4, b5, b6⟩ := getNI_back v k hpos
    generalize getNI v k = r at *
    obtain ⟨n, a⟩ := r
    simp only at *
    refine ⟨b1, by omega, by omega, ?_⟩
    have hsz : (v.extract a.toNat (a + n).toNat).size = n.toNat := by simp; omega
    have hput : putT (v.extract a.toNat (a + n).toNat) = numB n.toNat ++ v.extract a.toNat (a + n).toNat := by
      unfold putT
      rw [if_neg (by rw [hsz]; omega), hsz]
    rw [hput, show numB n.toNat = putNI n from by unfold putNI; rw [if_pos ⟨b5, b6⟩], b4]
    exact extract_split v k.toNat a.toNat (a + n).toNat (by omega) (by omega) (by omega)

theorem bytesN_append (a b : ByteArray) : bytesN (a ++ b) = bytesN a ++ bytesN b := by simp [bytesN]

/-- PutNum's bytes, with one ahead and one behind, are read again -/
theorem getNI_put (n : Nat) (hn : n ≤ 999999999) : getNI ((⟨#[97]⟩ : ByteArray) ++ numB n ++ ⟨#[98]⟩) 1 = ((n : Int), 1 + ((numB n).size : Int)) := by
  have hb : bytesN ((⟨#[97]⟩ : ByteArray) ++ numB n ++ ⟨#[98]⟩) = 97 :: (Plain.encF 4 n ++ [98]) := by
    rw [bytesN_append, bytesN_append]
    unfold numB
    rw [bytesN_str _ (Plain.encF_byte 4 _ (by omega))]
    rfl
  rw [getNI_of _ n [98] hn hb]
  have : (numB n).size = (Plain.encF 4 n).length := by simp [numB, strOfNums_size, ints]
  rw [this]

/-- PutText's bytes, with one ahead and one behind, are read again -/
theorem getTI_put (a : ByteArray) (ha : a.size ≤ 10000000) : getTI ((⟨#[97]⟩ : ByteArray) ++ putT a ++ ⟨#[98]⟩) 1 = (a, 1 + ((putT a).size : Int)) := by
  have hput : putT a = numB a.size ++ a := if_neg (by omega)
  have hns : (numB a.size).size = (Plain.encF 4 a.size).length := by simp [numB, strOfNums_size, ints]
  have hbn : bytesN (numB a.size) = Plain.encF 4 a.size := by unfold numB; exact bytesN_str _ (Plain.encF_byte 4 _ (by omega))
  have hb : bytesN ((⟨#[97]⟩ : ByteArray) ++ putT a ++ ⟨#[98]⟩) = 97 :: (Plain.encF 4 a.size ++ (bytesN a ++ [98])) := by
    rw [bytesN_append, bytesN_append, hput, bytesN_append, hbn]
    simp [bytesN]
  have hg := getNI_of _ a.size (bytesN a ++ [98]) (by omega) hb
  have hsz : ((⟨#[97]⟩ : ByteArray) ++ putT a ++ ⟨#[98]⟩).size = 2 + (Plain.encF 4 a.size).length + a.size := by
    have h1 : (⟨#[97]⟩ : ByteArray).size = 1 := rfl
    have h2 : (⟨#[98]⟩ : ByteArray).size = 1 := rfl
    rw [ByteArray.size_append, ByteArray.size_append, hput, ByteArray.size_append, h1, h2, hns]
    omega
  have hps : (putT a).size = (Plain.encF 4 a.size).length + a.size := by rw [hput, ByteArray.size_append, hns]
  generalize ((⟨#[97]⟩ : ByteArray) ++ putT a ++ ⟨#[98]⟩) = S at *
  unfold getTI
  rw [hg]
  simp only
  rw [if_neg (by rw [hsz]; omega), hps]
  refine Prod.ext ?_ (by simp only; omega)
  simp only
  apply bytesN_inj
  rw [bytesN_extract, hb]
  have hla := bytesN_length a
  rw [show (1 + ((Plain.encF 4 a.size).length : Int)).toNat = (Plain.encF 4 a.size).length + 1 from by omega, List.drop_succ_cons, List.drop_left, show (1 + ((Plain.encF 4 a.size).length : Int) + (a.size : Int)).toNat - ((Plain.encF 4 a.size).length + 1) = a.size from by omega]
  rw [List.take_append_of_le_length (by omega), List.take_of_length_le (by omega)]

end Go.Proofs.YtfmfihgmpefknaaDoor
