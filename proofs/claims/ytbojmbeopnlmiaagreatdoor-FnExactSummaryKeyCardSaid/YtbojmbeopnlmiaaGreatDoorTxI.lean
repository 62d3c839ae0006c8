/-
 A right type is told by its text. No program here.
-/
import Derived.Test.YtbojmbeopnlmiaaGreatDoorRightS
namespace Go.Proofs.YtbojmbeopnlmiaaGreatDoor
open Go.RowKit
def bt (s : ByteArray) : List UInt8 := s.data.toList
theorem bt_app (a b : ByteArray) : bt (a ++ b) = bt a ++ bt b := by
 unfold bt
 rw [ByteArray.data_append, Array.toList_append]
def joinB (sep : List UInt8) : List (List UInt8) → List UInt8
 | [] => []
 | a :: r => a ++ r.flatMap fun x => sep ++ x
theorem bt_fold (sep : ByteArray) (r : List ByteArray) (a : ByteArray) : bt (r.foldl (fun o x => o ++ sep ++ x) a) = bt a ++ (r.map bt).flatMap fun x => bt sep ++ x := by
 induction r generalizing a with
 | nil => simp
 | cons x r ih => rw [List.foldl_cons, ih, bt_app, bt_app]; simp
theorem bt_join (sep : ByteArray) (l : List ByteArray) : bt (joinP sep l) = joinB (bt sep) (l.map bt) := by
 cases l with
 | nil => rfl
 | cons a r => exact bt_fold sep r a
def wcB (c : UInt8) : Bool := Lx.alB c.toNat || decide (c.toNat = 46)
theorem bt_byt {s : ByteArray} {c : UInt8} (h : c ∈ bt s) : ∃ j, j < s.size ∧ Lx.byt s j = c.toNat := by
 obtain ⟨j, hj, rfl⟩ := List.getElem_of_mem h
 have hj' : j < s.size := by simpa [bt] using hj
 refine ⟨j, hj', ?_⟩
 rw [← Lx.byt_eq s j hj']
 rfl
theorem name_bytes {s : ByteArray} (h : Lx.nameOkP s = true) : 0 < s.size ∧ Lx.letterB (Lx.byt s 0) = true ∧ ∀ j, j < s.size → Lx.alB (Lx.byt s j) = true := by
 unfold Lx.nameOkP at h
 simp only [Bool.and_eq_true, decide_eq_true_eq] at h
 obtain ⟨⟨⟨h1, _⟩, h3, h4⟩, _⟩ := h
 exact ⟨by omega, h3, fun j hj => Lx.endP_in Lx.alB s 0 j (Nat.zero_le _) (by omega)⟩
theorem name_al {s : ByteArray} (h : Lx.nameOkP s = true) : ∀ c ∈ bt s, Lx.alB c.toNat = true := fun c hc => by
 obtain ⟨j, hj, e⟩ := bt_byt hc
 rw [← e]
 exact (name_bytes h).2.2 j hj
theorem head_byt {s : ByteArray} (h : 0 < s.size) : ∃ c r, bt s = c :: r ∧ c.toNat = Lx.byt s 0 := by
 have hl : (bt s).length = s.size := by simp [bt]
 cases hb : bt s with
 | nil => rw [hb] at hl; simp at hl; omega
 | cons c r =>
  refine ⟨c, r, rfl, ?_⟩
  rw [← Lx.byt_eq s 0 h]
  have : (bt s)[0]? = some c := by rw [hb]; rfl
  have h2 : (bt s)[0]? = some s[0] := by
   rw [List.getElem?_eq_getElem (by omega)]
   rfl
  rw [h2] at this
  exact congrArg UInt8.toNat (Option.some.inj this).symm
theorem byt_cut (s : ByteArray) (i j k : Nat) (h : i + k < j) (hj : j ≤ s.size) : Lx.byt (s.extract i j) k = Lx.byt s (i + k) := by
 have h1 : k < (s.extract i j).size := by rw [ByteArray.size_extract]; omega
 unfold Lx.byt
 rw [dif_pos h1, dif_pos (by omega), ByteArray.getElem_extract]
theorem dotP_some {s : ByteArray} {f i k : Nat} (h : dotP s f i = some k) : i ≤ k ∧ k < s.size ∧ Lx.byt s k = 46 := by
 induction f generalizing i with
 | zero => cases h
 | succ f ih =>
  rw [dotP] at h
  by_cases c : i < s.size
  ·rw [if_pos c] at h
   by_cases c2 : Lx.byt s i = 46
   ·rw [if_pos c2] at h
    cases h
    exact ⟨Nat.le_refl _, c, c2⟩
   ·rw [if_neg c2] at h
    have := ih h
    exact ⟨by omega, this.2⟩
  ·rw [if_neg c] at h
   cases h
theorem dotted_bytes {s : ByteArray} (h : dottedP s = true) : 0 < s.size ∧ Lx.letterB (Lx.byt s 0) = true ∧ ∀ c ∈ bt s, wcB c = true := by
 have hj : 0 < s.size ∧ Lx.letterB (Lx.byt s 0) = true ∧ ∀ j, j < s.size → Lx.alB (Lx.byt s j) = true ∨ Lx.byt s j = 46 := by
  unfold dottedP at h
  cases hd : dotP s (s.size + 1) 0 with
  | none =>
   rw [hd] at h
   obtain ⟨h1, h2, h3⟩ := name_bytes h
   exact ⟨h1, h2, fun j hj => .inl (h3 j hj)⟩
  | some i =>
   rw [hd] at h
   simp only [Bool.and_eq_true] at h
   obtain ⟨_, hi, h46⟩ := dotP_some hd
   obtain ⟨a1, a2, a3⟩ := name_bytes h.1
   obtain ⟨b1, _, b3⟩ := name_bytes h.2
   rw [ByteArray.size_extract] at a1 a3 b1 b3
   rw [byt_cut s 0 i 0 (by omega) (by omega)] at a2
   refine ⟨by omega, a2, fun j hj => ?_⟩
   by_cases c : j < i
   ·have := a3 j (by omega)
    rw [byt_cut s 0 i j (by omega) (by omega), Nat.zero_add] at this
    exact .inl this
   ·by_cases c2 : j = i
    ·subst c2; exact .inr h46
    ·have := b3 (j - (i + 1)) (by omega)
     rw [byt_cut s (i + 1) s.size (j - (i + 1)) (by omega) (Nat.le_refl _), show i + 1 + (j - (i + 1)) = j by omega] at this
     exact .inl this
 refine ⟨hj.1, hj.2.1, fun c hc => ?_⟩
 obtain ⟨j, h1, e⟩ := bt_byt hc
 unfold wcB
 rw [Bool.or_eq_true, decide_eq_true_eq, ← e]
 exact hj.2.2 j h1
def tb (n : Nat) (t : Ty) : List UInt8 := bt (Ty.text n t)
def ub (n : Nat) (t : Ty) : List UInt8 := if t.kind = 6 then 40 :: (tb n t ++ [41]) else tb n t
theorem ub_eq (n : Nat) (t : Ty) : bt (roundP 6 t (Ty.text n t)) = ub n t := by
 unfold roundP ub
 split
 ·unfold roundB
  rw [bt_app, bt_app]
  rfl
 ·rfl
theorem zip_with {α β γ : Type} (f : α → β → γ) (l : List α) (m : List β) : List.zipWith f l m = (l.zip m).map fun p => f p.1 p.2 := by
 induction l generalizing m with
 | nil => simp
 | cons a r ih => cases m <;> simp [ih]
theorem tb_rec {n : Nat} {t : Ty} (h : t.kind = 5) : tb (n + 1) t = 123 :: (joinB [44, 32] ((t.names.zip t.kids).map fun p => bt p.1 ++ [58, 32] ++ tb n p.2) ++ [125]) := by
 unfold tb
 rw [Ty.text, if_neg (by omega), if_neg (by omega), if_neg (by omega), if_neg (by omega), if_neg (by omega), if_pos h, bt_app, bt_app, bt_join]
 unfold fieldsP
 rw [zip_with, List.map_map]
 have e : (bt ∘ fun p : ByteArray × Ty => p.1 ++ ⟨#[58, 32]⟩ ++ Ty.text n p.2) = fun p => bt p.1 ++ [58, 32] ++ bt (Ty.text n p.2) := by
  funext p
  show bt (p.1 ++ ⟨#[58, 32]⟩ ++ Ty.text n p.2) = _
  rw [bt_app, bt_app]
  rfl
 rw [e]
 rfl
theorem tb_fn {n : Nat} {t : Ty} (h : t.kind = 6) : tb (n + 1) t = 40 :: (joinB [44, 32] (t.kids.dropLast.map (tb n)) ++ (41 :: 32 :: 45 :: 62 :: 32 :: (if (lastTy t.kids).kind = 7 then 40 :: (tb n (lastTy t.kids) ++ [41]) else tb n (lastTy t.kids)))) := by
 unfold tb
 rw [Ty.text, if_neg (by omega), if_neg (by omega), if_neg (by omega), if_neg (by omega), if_neg (by omega), if_neg (by omega), if_pos h, bt_app, bt_app, bt_app, bt_join, List.map_map]
 unfold roundP
 split
 ·unfold roundB
  rw [bt_app, bt_app]
  simp only [List.append_assoc]
  rfl
 ·simp only [List.append_assoc]
  rfl
theorem tb_un {n : Nat} {t : Ty} (h : t.kind = 7) : tb (n + 1) t = joinB [32, 124, 32] (t.kids.map (ub n)) := by
 unfold tb
 rw [Ty.text, if_neg (by omega), if_neg (by omega), if_neg (by omega), if_neg (by omega), if_neg (by omega), if_neg (by omega), if_neg (by omega), bt_join, List.map_map]
 congr 1
 exact List.map_congr_left fun k _ => ub_eq n k
theorem right_kinds {n : Nat} {t : Ty} {d : Int} (h : Right (n + 1) t d) : (0 ≤ t.kind ∧ t.kind ≤ 4) ∨ t.kind = 5 ∨ t.kind = 6 ∨ t.kind = 7 := by
 rcases h.2.2 with ⟨h | h | h | h, _⟩ | ⟨h, _⟩ | ⟨h, _⟩ | ⟨h, _⟩ | ⟨h, _⟩ <;> omega
theorem tb_word {n : Nat} {t : Ty} (h0 : 0 ≤ t.kind) (h4 : t.kind ≤ 4) : tb (n + 1) t = (if t.kind = 0 then [105, 110, 116] else if t.kind = 1 then [116, 101, 120, 116] else if t.kind = 2 then [98, 111, 111, 108] else if t.kind = 3 then [97, 110, 121] else bt t.name) := by
 unfold tb
 rw [Ty.text]
 by_cases c0 : t.kind = 0
 ·rw [if_pos c0, if_pos c0]; rfl
 ·rw [if_neg c0, if_neg c0]
  by_cases c1 : t.kind = 1
  ·rw [if_pos c1, if_pos c1]; rfl
  ·rw [if_neg c1, if_neg c1]
   by_cases c2 : t.kind = 2
   ·rw [if_pos c2, if_pos c2]; rfl
   ·rw [if_neg c2, if_neg c2]
    by_cases c3 : t.kind = 3
    ·rw [if_pos c3, if_pos c3]; rfl
    ·rw [if_neg c3, if_neg c3, if_pos (by omega)]
theorem right_name {n : Nat} {t : Ty} {d : Int} (h : Right (n + 1) t d) (h4 : t.kind = 4) : dottedP t.name = true ∧ t.names = [] ∧ t.kids = [] := by
 rcases h.2.2 with ⟨q, _⟩ | ⟨_, q1, q2, q3⟩ | ⟨q, _⟩ | ⟨q, _⟩ | ⟨q, _⟩
 ·omega
 ·exact ⟨q1, List.length_eq_zero_iff.1 q2, List.length_eq_zero_iff.1 q3⟩
 ·omega
 ·omega
 ·omega
theorem name_none {s : ByteArray} (h : s.size = 0) : s = ⟨#[]⟩ := by
 cases s with
 | mk a =>
  have : a.size = 0 := h
  rw [Array.eq_empty_of_size_eq_zero this]
theorem word_wc {n : Nat} {t : Ty} {d : Int} (h : Right (n + 1) t d) (h0 : 0 ≤ t.kind) (h4 : t.kind ≤ 4) : (∀ c ∈ tb (n + 1) t, wcB c = true) ∧ ∃ c r, tb (n + 1) t = c :: r ∧ Lx.letterB c.toNat = true := by
 rw [tb_word h0 h4]
 by_cases c0 : t.kind = 0
 ·rw [if_pos c0]
  exact ⟨by decide, _, _, rfl, by decide⟩
 ·rw [if_neg c0]
  by_cases c1 : t.kind = 1
  ·rw [if_pos c1]
   exact ⟨by decide, _, _, rfl, by decide⟩
  ·rw [if_neg c1]
   by_cases c2 : t.kind = 2
   ·rw [if_pos c2]
    exact ⟨by decide, _, _, rfl, by decide⟩
   ·rw [if_neg c2]
    by_cases c3 : t.kind = 3
    ·rw [if_pos c3]
     exact ⟨by decide, _, _, rfl, by decide⟩
    ·rw [if_neg c3]
     obtain ⟨b1, b2, b3⟩ := dotted_bytes (right_name h (by omega)).1
     obtain ⟨c, r, e1, e2⟩ := head_byt b1
     exact ⟨b3, c, r, e1, by rw [e2]; exact b2⟩
theorem right_union {n : Nat} {t : Ty} {d : Int} (h : Right (n + 1) t d) (h7 : t.kind = 7) : t.name = ⟨#[]⟩ ∧ t.names = [] ∧ (∀ k ∈ t.kids, k.kind ≠ 7 ∧ k.kind ≠ 3) ∧ ∃ a b r, t.kids = a :: b :: r := by
 rcases h.2.2 with ⟨q, _⟩ | ⟨q, _⟩ | ⟨q, _⟩ | ⟨q, _⟩ | ⟨_, q1, q2, q3, q4⟩
 ·omega
 ·omega
 ·omega
 ·omega
 ·refine ⟨name_none q2, List.length_eq_zero_iff.1 q3, fun k hk => ?_, ?_⟩
  ·obtain ⟨i, hi, rfl⟩ := List.getElem_of_mem hk
   exact (q1 i hi).1
  ·match hk : t.kids with
   | [] => rw [hk] at q4; simp at q4
   | [a] => rw [hk] at q4; simp at q4
   | a :: b :: r => exact ⟨a, b, r, rfl⟩
theorem head_cls {n : Nat} {t : Ty} {d : Int} (h : Right n t d) : ∃ c r, tb n t = c :: r ∧ (t.kind ≤ 4 → Lx.letterB c.toNat = true) ∧ (t.kind = 5 → c = 123) ∧ (t.kind = 6 → c = 40) ∧ (Lx.letterB c.toNat = true ∨ c = 123 ∨ c = 40) := by
 induction n generalizing t d with
 | zero => exact h.elim
 | succ n ih =>
  rcases right_kinds h with ⟨a0, a4⟩ | a | a | a
  ·obtain ⟨_, c, r, e, hl⟩ := word_wc h a0 a4
   exact ⟨c, r, e, fun _ => hl, fun q => by omega, fun q => by omega, .inl hl⟩
  ·exact ⟨123, _, tb_rec a, fun q => by omega, fun _ => rfl, fun q => by omega, .inr (.inl rfl)⟩
  ·exact ⟨40, _, tb_fn a, fun q => by omega, fun q => by omega, fun _ => rfl, .inr (.inr rfl)⟩
  ·obtain ⟨_, _, _, x, y, r, e⟩ := right_union h a
   obtain ⟨c, z, e1, _, _, _, e2⟩ := ih (h.2.1 x (by rw [e]; simp))
   by_cases c6 : x.kind = 6
   ·have e3 : ∃ z', tb (n + 1) t = 40 :: z' := by
     rw [tb_un a, e]
     simp only [List.map_cons, joinB, ub, if_pos c6]
     exact ⟨_, rfl⟩
    obtain ⟨z', e3⟩ := e3
    exact ⟨40, z', e3, fun q => by omega, fun q => by omega, fun q => by omega, .inr (.inr rfl)⟩
   ·have e3 : ∃ z', tb (n + 1) t = c :: z' := by
     rw [tb_un a, e]
     simp only [List.map_cons, joinB, ub, if_neg c6, e1]
     exact ⟨_, rfl⟩
    obtain ⟨z', e3⟩ := e3
    exact ⟨c, z', e3, fun q => by omega, fun q => by omega, fun q => by omega, e2⟩
theorem right_rec {n : Nat} {t : Ty} {d : Int} (h : Right (n + 1) t d) (h5 : t.kind = 5) : t.name = ⟨#[]⟩ ∧ (∀ x ∈ t.names, Lx.nameOkP x = true) ∧ t.names.length = t.kids.length := by
 rcases h.2.2 with ⟨q, _⟩ | ⟨q, _⟩ | ⟨_, q1, q2, q3⟩ | ⟨q, _⟩ | ⟨q, _⟩
 ·omega
 ·omega
 ·refine ⟨name_none q2, fun x hx => ?_, q3⟩
  obtain ⟨i, hi, rfl⟩ := List.getElem_of_mem hx
  exact (q1 i hi).1
 ·omega
 ·omega
theorem right_fn {n : Nat} {t : Ty} {d : Int} (h : Right (n + 1) t d) (h6 : t.kind = 6) : t.name = ⟨#[]⟩ ∧ t.names = [] ∧ t.kids ≠ [] := by
 rcases h.2.2 with ⟨q, _⟩ | ⟨q, _⟩ | ⟨q, _⟩ | ⟨_, q1, q2, q3⟩ | ⟨q, _⟩
 ·omega
 ·omega
 ·omega
 ·exact ⟨name_none q1, List.length_eq_zero_iff.1 q2, fun e => by rw [e] at q3; simp at q3⟩
 ·omega
theorem lastTy_mem {ks : List Ty} (h : ks ≠ []) : lastTy ks ∈ ks ∧ ks.dropLast ++ [lastTy ks] = ks := by
 have e : lastTy ks = ks.getLast h := by unfold lastTy; rw [List.getLastD_eq_getLast?, List.getLast?_eq_some_getLast h]; rfl
 rw [e]
 exact ⟨List.getLast_mem h, List.dropLast_concat_getLast h⟩
theorem map_same {α : Type} {f g : Ty → α} {l : List Ty} (h : ∀ k ∈ l, f k = g k) : l.map f = l.map g := List.map_congr_left h
theorem zip_same {f g : Ty → ByteArray} {l : List ByteArray} {m : List Ty} (h : ∀ k ∈ m, f k = g k) : fieldsP f l m = fieldsP g l m := by
 unfold fieldsP
 induction l generalizing m with
 | nil => simp
 | cons x r ih =>
  cases m with
  | nil => simp
  | cons k m =>
   simp only [List.zipWith_cons_cons]
   rw [h k (by simp), ih fun q hq => h q (List.mem_cons_of_mem _ hq)]
def Ty.hgt : Nat → Ty → Nat
 | 0, _ => 0
 | n + 1, t => t.kids.foldl (fun m k => max m (Ty.hgt n k + 1)) 0
theorem fold_max (f : Ty → Nat) (l : List Ty) (a : Nat) (b : Int) : ((l.foldl (fun m k => max m (f k + 1)) a : Nat) : Int) ≤ b ↔ (a : Int) ≤ b ∧ ∀ k ∈ l, (f k : Int) + 1 ≤ b := by
 induction l generalizing a with
 | nil => simp
 | cons x r ih =>
  rw [List.foldl_cons, ih]
  constructor
  ·rintro ⟨h1, h2⟩
   refine ⟨by omega, fun k hk => ?_⟩
   rcases List.mem_cons.1 hk with rfl | hk
   ·omega
   ·exact h2 k hk
  ·rintro ⟨h1, h2⟩
   have := h2 x (by simp)
   exact ⟨by omega, fun k hk => h2 k (List.mem_cons_of_mem _ hk)⟩
theorem right_hgt {n : Nat} {t : Ty} {d d' : Int} (h : Right n t d) : Right n t d' ↔ (Ty.hgt n t : Int) ≤ d' := by
 induction n generalizing t d d' with
 | zero => exact h.elim
 | succ n ih =>
  rw [Ty.hgt, fold_max]
  constructor
  ·rintro ⟨h1, h2, _⟩
   exact ⟨h1, fun k hk => by have := (ih (h.2.1 k hk)).1 (h2 k hk); omega⟩
  ·rintro ⟨h1, h2⟩
   exact ⟨h1, fun k hk => (ih (h.2.1 k hk)).2 (by have := h2 k hk; omega), h.2.2⟩
theorem right_hgt_le {n : Nat} {t : Ty} {d : Int} (h : Right n t d) : (Ty.hgt n t : Int) ≤ d := (right_hgt h).1 h
def Above (B : Nat) (w w' : World) : Prop := w.heap.size ≤ w'.heap.size ∧ ∀ b, B ≤ b → b < w.heap.size → w'.heap[b]? = w.heap[b]?
theorem Above.refl (B : Nat) (w : World) : Above B w w := ⟨Nat.le_refl _, fun _ _ _ => rfl⟩
theorem Above.trans {B : Nat} {a b c : World} (h : Above B a b) (k : Above B b c) : Above B a c := ⟨Nat.le_trans h.1 k.1, fun i h1 h2 => (k.2 i h1 (Nat.lt_of_lt_of_le h2 h.1)).trans (h.2 i h1 h2)⟩
theorem Above.mono {B B' : Nat} {a b : World} (h : Above B a b) (hB : B ≤ B') : Above B' a b := ⟨h.1, fun i h1 h2 => h.2 i (Nat.le_trans hB h1) h2⟩
theorem Above.of_below {B : Nat} {w w' : World} (h : Below w.heap.size w w') : Above B w w' := ⟨h.size, fun b _ h2 => h.block b h2⟩
theorem Above.set {B : Nat} (w : World) (a : Addr) (u : Value) (h : a.block < B) : Above B w (w.setCell a u) := ⟨by simp, fun b h1 _ => Below.heap_setCell w a u b (by omega)⟩
def RowIn (w : World) (R : Nat → Nat → List Value → Ty → Prop) (lo hi : Nat) (v : Value) (ts : List Ty) : Prop :=
 ∃ b cap, v = .slice (some ⟨b, 0, none⟩) ts.length cap ∧ lo ≤ b ∧ b < hi ∧ (∃ cur e, w.heap[b]? = some (.cells cur e (0, 0))) ∧ ∃ L : Nat → Nat, (∀ j, j ≤ ts.length → b < L j ∧ L j ≤ hi) ∧ (∀ i j, i ≤ j → j ≤ ts.length → L i ≤ L j) ∧ ∀ j (h : j < ts.length), ∃ cs, R (L j) (L (j + 1)) cs ts[j] ∧ ∀ c u, cs[c]? = some u → w.cell? ⟨b, j * 4 + c, none⟩ = some u
def NamesIn (w : World) (lo hi : Nat) (v : Value) (ts : List ByteArray) : Prop := w.ownsRow lo 9 1 v ts.length (strV ts) ∧ ∀ g, v.ownBlock = some g → g < hi
theorem NamesIn.mono {w : World} {lo hi lo' hi' : Nat} {v : Value} {ts : List ByteArray} (h : NamesIn w lo hi v ts) (hl : lo' ≤ lo) (hh : hi ≤ hi') : NamesIn w lo' hi' v ts :=
 ⟨⟨h.1.1, h.1.2.imp id fun ⟨g, c, cur, e1, e2, e3⟩ => ⟨g, c, cur, e1, Nat.le_trans hl e2, e3⟩⟩, fun g hg => Nat.lt_of_lt_of_le (h.2 g hg) hh⟩
theorem NamesIn.texts {w : World} {lo hi : Nat} {v : Value} {ts : List ByteArray} (h : NamesIn w lo hi v ts) : Texts w v ts := by
 rcases h.1.2 with ⟨e, h0⟩ | ⟨g, c, cur, e, _⟩
 ·exact .inl ⟨List.length_eq_zero_iff.1 h0, _, _, e⟩
 ·have h1 := h.1
  rw [e] at h1 ⊢
  exact Texts.own h1
def TyIn (w : World) : Nat → Nat → Nat → List Value → Ty → Prop
 | 0, _, _, _, _ => False
 | n + 1, lo, hi, cs, t => ∃ vn vk mid, cs = [.int .i64 t.kind, .string t.name, vn, vk] ∧ (-9223372036854775808 ≤ t.kind ∧ t.kind ≤ 9223372036854775807) ∧ t.name.size ≤ maxLen ∧ (NamesIn w lo mid vn t.names ∧ t.names.length ≤ maxLen ∧ ∀ x ∈ t.names, x.size ≤ maxLen) ∧ t.kids.length ≤ maxLen ∧ lo ≤ mid ∧ RowIn w (TyIn w n) mid hi vk t.kids
theorem RowIn.mono {w : World} {R : Nat → Nat → List Value → Ty → Prop} {lo hi lo' hi' : Nat} {v : Value} {ts : List Ty} (h : RowIn w R lo hi v ts) (hl : lo' ≤ lo) (hh : hi ≤ hi') : RowIn w R lo' hi' v ts := by
 obtain ⟨b, cap, e, h1, h2, hcl, L, h3, h4, h5⟩ := h
 exact ⟨b, cap, e, Nat.le_trans hl h1, Nat.lt_of_lt_of_le h2 hh, hcl, L, fun j hj => ⟨(h3 j hj).1, Nat.le_trans (h3 j hj).2 hh⟩, h4, h5⟩
theorem TyIn.mono {w : World} {n lo hi lo' hi' : Nat} {cs : List Value} {t : Ty} (h : TyIn w n lo hi cs t) (hl : lo' ≤ lo) (hh : hi ≤ hi') : TyIn w n lo' hi' cs t := by
 cases n with
 | zero => exact h.elim
 | succ n =>
  obtain ⟨vn, vk, mid, h1, h2, h3, ⟨h4, h4'⟩, h5, hm, h6⟩ := h
  exact ⟨vn, vk, mid, h1, h2, h3, ⟨h4.mono hl (Nat.le_refl _), h4'⟩, h5, Nat.le_trans hl hm, h6.mono (Nat.le_refl _) hh⟩
theorem TyIn.len {w : World} {n lo hi : Nat} {cs : List Value} {t : Ty} (h : TyIn w n lo hi cs t) : cs.length = 4 := by
 cases n with
 | zero => exact h.elim
 | succ n =>
  obtain ⟨vn, vk, _, rfl, _⟩ := h
  rfl
theorem RowIn.row {w : World} {R : Nat → Nat → List Value → Ty → Prop} {R' : List Value → Ty → Prop} {lo hi : Nat} {v : Value} {ts : List Ty} (h : RowIn w R lo hi v ts) (hR : ∀ lo hi cs t, R lo hi cs t → R' cs t) : RowAt w R' v ts := by
 obtain ⟨b, cap, e, _, _, _, L, _, _, h5⟩ := h
 refine .inr ⟨b, 0, cap, e, fun j hj => ?_⟩
 obtain ⟨cs, h1, h2⟩ := h5 j hj
 exact ⟨cs, hR _ _ _ _ h1, fun c u hu => by rw [Nat.zero_add]; exact h2 c u hu⟩
theorem TyIn.at {w : World} {n lo hi : Nat} {cs : List Value} {t : Ty} (h : TyIn w n lo hi cs t) : TyAt w n cs t := by
 induction n generalizing lo hi cs t with
 | zero => exact h.elim
 | succ n ih =>
  obtain ⟨vn, vk, mid, h1, h2, h3, ⟨h4, h4'⟩, h5, _, h6⟩ := h
  exact ⟨vn, vk, h1, h2, h3, ⟨h4.texts, h4'⟩, h5, h6.row fun _ _ _ _ h => ih h⟩
theorem cell_same {w w' : World} {b o : Nat} {u : Value} (h : w.cell? ⟨b, o, none⟩ = some u) (hs : w'.heap[b]? = w.heap[b]?) : w'.cell? ⟨b, o, none⟩ = some u := by
 rw [← h]
 simp only [World.cell?, hs]
theorem TyIn.below {w w' : World} {n lo hi : Nat} {cs : List Value} {t : Ty} (h : TyIn w n lo hi cs t) (hb : Below w.heap.size w w') : TyIn w' n lo hi cs t := by
 induction n generalizing lo hi cs t with
 | zero => exact h.elim
 | succ n ih =>
  obtain ⟨vn, vk, mid, h1, h2, h3, ⟨⟨⟨h4, h5⟩, h6⟩, h4'⟩, h7, hm, b, cap, e, g1, g2, ⟨cur, et, g0⟩, L, g3, g4, g5⟩ := h
  refine ⟨vn, vk, mid, h1, h2, h3, ⟨⟨⟨h4, ?_⟩, h6⟩, h4'⟩, h7, hm, b, cap, e, g1, g2, ⟨cur, et, (hb.block b (Array.getElem?_eq_some_iff.1 g0).1).trans g0⟩, L, g3, g4, fun j hj => ?_⟩
  ·exact h5.imp id fun ⟨g, c, cur, e1, e2, e3, e4⟩ => ⟨g, c, cur, e1, e2, (hb.block g (Array.getElem?_eq_some_iff.1 e3).1).trans e3, e4⟩
  ·obtain ⟨cs, k1, k2⟩ := g5 j hj
   refine ⟨cs, ih k1, fun c u hu => ?_⟩
   have := k2 c u hu
   exact (hb.cell (p := ⟨b, j * 4 + c, none⟩) (World.block_lt_of_cell? w ⟨b, j * 4 + c, none⟩ this)).trans this
def NewTy (B H : Nat) (w : World) (n : Nat) (cs : List Value) (t : Ty) : Prop := H ≤ w.heap.size ∧ ∀ w', Above B w w' → TyIn w' n B H cs t
def NewRow (B H : Nat) (w : World) (n : Nat) (v : Value) (ks : List Ty) : Prop := H ≤ w.heap.size ∧ ∀ w', Above B w w' → RowIn w' (TyIn w' n) B H v ks
theorem NewTy.step {B H : Nat} {w w' : World} {n : Nat} {cs : List Value} {t : Ty} (h : NewTy B H w n cs t) (ha : Above B w w') : NewTy B H w' n cs t := ⟨Nat.le_trans h.1 ha.1, fun w'' h2 => h.2 w'' (ha.trans h2)⟩
theorem NewTy.mono {B B' H : Nat} {w : World} {n : Nat} {cs : List Value} {t : Ty} (h : NewTy B H w n cs t) (hB : B' ≤ B) : NewTy B' H w n cs t := ⟨h.1, fun w' ha => (h.2 w' (ha.mono hB)).mono hB (Nat.le_refl _)⟩
theorem owns_above {w w' : World} {B e z : Nat} {v : Value} {n : Nat} {xs : List Value} (h : w.ownsRow B e z v n xs) (ha : Above B w w') : w'.ownsRow B e z v n xs := by
 refine ⟨h.1, ?_⟩
 rcases h.2 with h | ⟨g, cap, cur, hv, hg, hh, r⟩
 ·exact .inl h
 ·exact .inr ⟨g, cap, cur, hv, hg, by rw [ha.2 g hg (Array.getElem?_eq_some_iff.1 hh).1]; exact hh, r⟩
theorem Tryz.infoType : (Tryz.prog.info? 30).map (fun i => (i.zero, i.size, i.bytes)) = some (some (.agg #[.int .i64 0, .string ⟨#[]⟩, .slice none 0 0, .slice none 0 0]), 4, 72) := by kernel_rfl
theorem kept_belowT {w w' : World} {B e z : Nat} {v : Value} {n : Nat} {xs : List Value} (h : w.ownsRow B e z v n xs) (hb : Below w.heap.size w w') : w'.ownsRow B e z v n xs := owns_above h (Above.of_below hb)
def Filled (B : Nat) (w : World) (n : Nat) (X : List Value) (ks : List Ty) (k : Nat) : Prop :=
 ∃ L : Nat → Nat, (∀ j, j ≤ k → B ≤ L j ∧ L j ≤ w.heap.size) ∧ (∀ i j, i ≤ j → j ≤ k → L i ≤ L j) ∧ ∀ j (h : j < ks.length), j < k → ∃ x0 x1 x2 x3, X[j * 4]? = some x0 ∧ X[j * 4 + 1]? = some x1 ∧ X[j * 4 + 2]? = some x2 ∧ X[j * 4 + 3]? = some x3 ∧ NewTy (L j) (L (j + 1)) w n [x0, x1, x2, x3] ks[j]
theorem Filled.zero {B : Nat} {w : World} {n : Nat} {X : List Value} {ks : List Ty} (h : B ≤ w.heap.size) : Filled B w n X ks 0 := ⟨fun _ => B, fun _ _ => ⟨Nat.le_refl _, h⟩, fun _ _ _ _ => Nat.le_refl _, fun j _ h => absurd h (by omega)⟩
theorem Filled.row {g cap : Nat} {w : World} {n : Nat} {X : List Value} {ks : List Ty} (hf : Filled (g + 1) w n X ks ks.length) (ho : w.ownsRow g 30 4 (.slice (some ⟨g, 0, none⟩) ks.length cap) ks.length X) : NewRow g w.heap.size w n (.slice (some ⟨g, 0, none⟩) ks.length cap) ks := ⟨Nat.le_refl _, fun w' ha => by
 have ho' := owns_above ho ha
 obtain ⟨L, hL, hm, hf⟩ := hf
 have h0 := hL 0 (Nat.zero_le _)
 have hcl : ∃ cur e, w'.heap[g]? = some (.cells cur e (0, 0)) := by
  rcases ho'.2 with ⟨h, _⟩ | ⟨g', cap', cur, hv, _, hh, _⟩
  ·simp at h
  ·simp only [Value.slice.injEq, Option.some.injEq, Addr.mk.injEq] at hv
   rw [← hv.1.1] at hh
   exact ⟨cur, _, hh⟩
 refine ⟨g, cap, rfl, Nat.le_refl _, by omega, hcl, L, fun j hj => ⟨by have := (hL j hj).1; omega, (hL j hj).2⟩, hm, fun j hj => ?_⟩
 obtain ⟨x0, x1, x2, x3, e0, e1, e2, e3, hn⟩ := hf j hj hj
 have hLj := (hL j (by omega)).1
 refine ⟨[x0, x1, x2, x3], hn.2 w' (ha.mono (by omega)), fun c u hu => ?_⟩
 have hc : c < 4 := by
  have := (List.getElem?_eq_some_iff.1 hu).1
  simpa using this
 rw [ho'.cellAt (j * 4 + c) (by omega)]
 match c, hc, hu with
 | 0, _, hu => rw [Nat.add_zero, e0]; exact hu
 | 1, _, hu => rw [e1]; exact hu
 | 2, _, hu => rw [e2]; exact hu
 | 3, _, hu => rw [e3]; exact hu⟩
theorem Filled.more {B lo : Nat} {w w1 w' : World} {n : Nat} {X : List Value} {ks : List Ty} {k : Nat} {y0 y1 y2 y3 : Value} (hf : Filled B w n X ks k) (ha : Above B w w') (hk : k < ks.length) (hX : X.length = ks.length * 4) (hlo : w.heap.size ≤ lo) (hw1 : lo ≤ w1.heap.size) (hy : NewTy lo w1.heap.size w' n [y0, y1, y2, y3] ks[k]) :
  Filled B w' n ((((X.set (k * 4) y0).set (k * 4 + 1) y1).set (k * 4 + 2) y2).set (k * 4 + 3) y3) ks (k + 1) := by
 obtain ⟨L, hL, hm, hf⟩ := hf
 have hLk := hL k (Nat.le_refl _)
 have hz := ha.1
 have hy1 := hy.1
 refine ⟨fun j => if j ≤ k then L j else w1.heap.size, fun j hj => ?_, fun i j hij hj => ?_, fun j hj hlt => ?_⟩
 ·by_cases c : j ≤ k
  ·simp only [if_pos c]
   have := hL j c
   omega
  ·simp only [if_neg c]
   omega
 ·by_cases c : j ≤ k
  ·simp only [if_pos c, if_pos (show i ≤ k by omega)]
   exact hm i j hij c
  ·simp only [if_neg c]
   by_cases d : i ≤ k
   ·simp only [if_pos d]
    have := hL i d
    omega
   ·simp only [if_neg d]; omega
 ·by_cases e : j = k
  ·subst e
   refine ⟨y0, y1, y2, y3, ?_, ?_, ?_, ?_, ?_⟩
   ·rw [List.getElem?_set_ne (by omega), List.getElem?_set_ne (by omega), List.getElem?_set_ne (by omega), List.getElem?_set_self (by omega)]
   ·rw [List.getElem?_set_ne (by omega), List.getElem?_set_ne (by omega), List.getElem?_set_self (by rw [List.length_set]; omega)]
   ·rw [List.getElem?_set_ne (by omega), List.getElem?_set_self (by rw [List.length_set, List.length_set]; omega)]
   ·rw [List.getElem?_set_self (by rw [List.length_set, List.length_set, List.length_set]; omega)]
   ·simp only [if_pos (Nat.le_refl j), if_neg (show ¬ j + 1 ≤ j by omega)]
    exact hy.mono (by omega)
  ·obtain ⟨x0, x1, x2, x3, e0, e1, e2, e3, hn⟩ := hf j hj (by omega)
   have s : ∀ c, c < 4 → ((((X.set (k * 4) y0).set (k * 4 + 1) y1).set (k * 4 + 2) y2).set (k * 4 + 3) y3)[j * 4 + c]? = X[j * 4 + c]? := fun c hc => by
    rw [List.getElem?_set_ne (by omega), List.getElem?_set_ne (by omega), List.getElem?_set_ne (by omega), List.getElem?_set_ne (by omega)]
   refine ⟨x0, x1, x2, x3, (s 0 (by decide)).trans e0, (s 1 (by decide)).trans e1, (s 2 (by decide)).trans e2, (s 3 (by decide)).trans e3, ?_⟩
   simp only [if_pos (show j ≤ k by omega), if_pos (show j + 1 ≤ k by omega)]
   exact hn.step (ha.mono (hL j (by omega)).1)
set_option maxHeartbeats 1600000 in
set_option maxRecDepth 100000 in
theorem lawsToRow (n : Nat) (ih : ∀ (cs : List Value) (t : Ty) (w : World), TyAt w n cs t → Ty.bulk n t ≤ 1048576 →
   Calls Tryz.prog 8 #[.agg cs.toArray] w fun e w' => ∃ an ln cn ak lk ck, e = .returned (.agg #[.int .i64 t.kind, .string t.name, .slice an ln cn, .slice ak lk ck]) ∧ NewTy w.heap.size w'.heap.size w' n [.int .i64 t.kind, .string t.name, .slice an ln cn, .slice ak lk ck] t ∧ Below w.heap.size w w')
  (v : Value) (ks : List Ty) (w : World) (hrow : RowAt w (TyAt w n) v ks) (hkl : rowBulk n ks ≤ 1048576) :
  Calls Tryz.prog 23 #[v] w fun e w' => e = .returned (.slice (some ⟨w.heap.size, 0, none⟩) ks.length ks.length) ∧ NewRow w.heap.size w'.heap.size w' n (.slice (some ⟨w.heap.size, 0, none⟩) ks.length ks.length) ks ∧ Below w.heap.size w w' := by
 obtain ⟨i0, hi, hz0, hz1, hz2⟩ := info_parts Tryz.infoType
 obtain ⟨a, capa, rfl, ha⟩ := rowOpen hrow
 have HEA : Hid (type_of% ha) := ha
 have IH : Hid (type_of% ih) := ih
 have hlen : ks.length ≤ 1048576 := by unfold rowBulk at hkl; omega
 clear hrow ha ih
 go_enter Tryz.func23, Tryz.ntmps23
 go_wp2_with (at_make; refine wpList_make_full _ rfl _ _ 28 rfl w.heap.size 30 i0 (.agg #[.int .i64 0, .string ⟨#[]⟩, .slice none 0 0, .slice none 0 0]) 4 Tryz.underlying28 hi hz0 hz1 .i64 .i64 _ _ ks.length rfl rfl rfl rfl (by rw [hz2]; omega) (by unfold maxLen; omega) (Nat.le_refl _) ?_)
 intro w1 hown hgrow
 have hB : Below w.heap.size w w1 := (Below.refl _ _).grown hgrow (Nat.le_refl _) (fun k hk => by cases hk)
 obtain ⟨X, hX⟩ : ∃ X, w1.ownsRow w.heap.size 30 4 (.slice (some ⟨w.heap.size, 0, none⟩) ks.length ks.length) ks.length X := ⟨_, hown⟩
 have hw1 : w.heap.size + 1 ≤ w1.heap.size := by have := (hX.lt w.heap.size rfl).2; omega
 have HX : Hid (w1.ownsRow w.heap.size 30 4 (.slice (some ⟨w.heap.size, 0, none⟩) ks.length ks.length) ks.length X) := hX
 clear hown hgrow hX
 go_wp2_with fail
 go_loopw [4] (fun i wr => ∃ (k : Nat) (X : List Value), k ≤ ks.length ∧ i = .int .i64 k ∧ wr.ownsRow w.heap.size 30 4 (.slice (some ⟨w.heap.size, 0, none⟩) ks.length ks.length) ks.length X ∧ Filled (w.heap.size + 1) wr n X ks k ∧ Below w.heap.size w wr ∧ w.heap.size + 1 ≤ wr.heap.size) (fun i _ => ks.length - (intOf i).toNat)
 case atStart => exact ⟨0, X, Nat.zero_le _, rfl, HX.out, Filled.zero hw1, hB, hw1⟩
 case round =>
  obtain ⟨k, Y, hk, rfl, ho, hfil, hbe, hsz⟩ := hrel
  clear HX hB hw1
  have HF : Hid (Filled (w.heap.size + 1) wr n Y ks k) := hfil
  clear hfil
  have hYl : Y.length = ks.length * 4 := ho.1
  by_cases hlt : k < ks.length
  ·obtain ⟨ba, oa, x0, x1, x2, x3, rfl, hba, hta, a0, a1, a2, a3⟩ := HEA.out k hlt
   have A0 := (hbe.cell (p := ⟨ba, oa + k * 4, none⟩) hba).trans a0
   have A1 := (hbe.cell (p := ⟨ba, oa + k * 4 + 1, none⟩) hba).trans a1
   have A2 := (hbe.cell (p := ⟨ba, oa + k * 4 + 2, none⟩) hba).trans a2
   have A3 := (hbe.cell (p := ⟨ba, oa + k * 4 + 3, none⟩) hba).trans a3
   have hbk := kid_bulk n ks k hlt
   have HC0 := IH.out [x0, x1, x2, x3] ks[k] wr (hta.below hbe) (by unfold rowBulk at hkl; omega)
   have HC : Hid (type_of% HC0) := HC0
   clear a0 a1 a2 a3 HEA IH hta hbk HC0
   go_wp2_with fail
   refine HC.out.mono ?_
   rintro e w2 ⟨an, ln, cn, ak, lk, ck, rfl, hnew, hb2⟩
   have HNW : Hid (NewTy wr.heap.size w2.heap.size w2 n [.int .i64 ks[k].kind, .string ks[k].name, .slice an ln cn, .slice ak lk ck] ks[k]) := hnew
   have o1 := kept_belowT ho hb2
   have hbe2 : Below w.heap.size w w2 := hbe.trans (hb2.mono (by omega))
   have hsz2 : w.heap.size + 1 ≤ w2.heap.size := Nat.le_trans hsz hb2.size
   have ab2 : Above (w.heap.size + 1) wr w2 := Above.of_below hb2
   have hw12 : wr.heap.size ≤ w2.heap.size := hb2.size
   clear hnew ho hbe hb2 HC
   generalize hkd : Value.int .i64 ks[k].kind = y0 at *
   generalize hnm : Value.string ks[k].name = y1 at *
   generalize hnn : Value.slice an ln cn = y2 at *
   generalize hkk : Value.slice ak lk ck = y3 at *
   have f1 := o1.frozenAt (k * 4)
   have q1 : ∃ u, w2.cell? ⟨w.heap.size, k * 4, none⟩ = some u := by rw [o1.cellAt (k * 4) (by omega)]; exact ⟨_, List.getElem?_eq_getElem (by omega)⟩
   obtain ⟨u1, q1⟩ := q1
   obtain ⟨o2, _⟩ := o1.stored (k * 4) y0
   have f2 := o2.frozenAt (k * 4 + 1)
   have q2 : ∃ u, (w2.setCell ⟨w.heap.size, k * 4, none⟩ y0).cell? ⟨w.heap.size, k * 4 + 1, none⟩ = some u := by rw [o2.cellAt (k * 4 + 1) (by omega)]; exact ⟨_, List.getElem?_eq_getElem (by simp; omega)⟩
   obtain ⟨u2, q2⟩ := q2
   obtain ⟨o3, _⟩ := o2.stored (k * 4 + 1) y1
   have f3 := o3.frozenAt (k * 4 + 2)
   have q3 : ∃ u, ((w2.setCell ⟨w.heap.size, k * 4, none⟩ y0).setCell ⟨w.heap.size, k * 4 + 1, none⟩ y1).cell? ⟨w.heap.size, k * 4 + 2, none⟩ = some u := by rw [o3.cellAt (k * 4 + 2) (by omega)]; exact ⟨_, List.getElem?_eq_getElem (by simp; omega)⟩
   obtain ⟨u3, q3⟩ := q3
   obtain ⟨o4, _⟩ := o3.stored (k * 4 + 2) y2
   have f4 := o4.frozenAt (k * 4 + 3)
   have q4 : ∃ u, (((w2.setCell ⟨w.heap.size, k * 4, none⟩ y0).setCell ⟨w.heap.size, k * 4 + 1, none⟩ y1).setCell ⟨w.heap.size, k * 4 + 2, none⟩ y2).cell? ⟨w.heap.size, k * 4 + 3, none⟩ = some u := by rw [o4.cellAt (k * 4 + 3) (by omega)]; exact ⟨_, List.getElem?_eq_getElem (by simp; omega)⟩
   obtain ⟨u4, q4⟩ := q4
   obtain ⟨o5, _⟩ := o4.stored (k * 4 + 3) y3
   have ab3 : Above (w.heap.size + 1) w2 ((((w2.setCell ⟨w.heap.size, k * 4, none⟩ y0).setCell ⟨w.heap.size, k * 4 + 1, none⟩ y1).setCell ⟨w.heap.size, k * 4 + 2, none⟩ y2).setCell ⟨w.heap.size, k * 4 + 3, none⟩ y3) :=
    (((Above.set _ _ _ (by simp)).trans (Above.set _ _ _ (by simp))).trans (Above.set _ _ _ (by simp))).trans (Above.set _ _ _ (by simp))
   have HR1 : Hid (type_of% o5) := o5
   have HR2 : Hid (Filled (w.heap.size + 1) _ n _ ks (k + 1)) := HF.out.more (ab2.trans ab3) hlt hYl (Nat.le_refl _) hw12 (HNW.out.step (ab3.mono hsz))
   have HR3 : Hid (Below w.heap.size w ((((w2.setCell ⟨w.heap.size, k * 4, none⟩ y0).setCell ⟨w.heap.size, k * 4 + 1, none⟩ y1).setCell ⟨w.heap.size, k * 4 + 2, none⟩ y2).setCell ⟨w.heap.size, k * 4 + 3, none⟩ y3)) := (((hbe2.setCell (Nat.le_refl _) _).setCell (Nat.le_refl _) _).setCell (Nat.le_refl _) _).setCell (Nat.le_refl _) _
   have HR4 : w.heap.size + 1 ≤ ((((w2.setCell ⟨w.heap.size, k * 4, none⟩ y0).setCell ⟨w.heap.size, k * 4 + 1, none⟩ y1).setCell ⟨w.heap.size, k * 4 + 2, none⟩ y2).setCell ⟨w.heap.size, k * 4 + 3, none⟩ y3).heap.size := by simpa using hsz2
   clear o1 o2 o3 o4 o5 ab2 ab3 HNW HF hbe2 hsz2 hsz hw12
   subst hkd hnm hnn hkk
   go_wp2_with fail
   go_roundw
   case rel => exact ⟨k + 1, _, by omega, by go_num, HR1.out, HR2.out, HR3.out, HR4⟩
   case measure => simp [intOf]; omega
  ·have hke : k = ks.length := by omega
   subst hke
   have HR : Hid (NewRow w.heap.size wr.heap.size wr n (.slice (some ⟨w.heap.size, 0, none⟩) ks.length ks.length) ks) := HF.out.row ho
   clear HF HEA IH ho
   go_wp2_with fail
   go_ret
   exact ⟨rfl, HR.out, hbe⟩
theorem cellNew {w : World} {cs : Array Value} {t : TypeId} {b : Nat} (i : Nat) (h : b = w.heap.size) : (w.alloc (.cells cs t)).cell? ⟨b, i, none⟩ = cs[i]? := by
 subst h
 simp
theorem cellOld {w : World} {o : Obj} {b : Nat} (i : Nat) (h : b < w.heap.size) : (w.alloc o).cell? ⟨b, i, none⟩ = w.cell? ⟨b, i, none⟩ := ((Below.refl w.heap.size w).alloc (Nat.le_refl _) o).cell (p := ⟨b, i, none⟩) h
theorem frozenNew {w : World} {cs : Array Value} {t : TypeId} {b : Nat} (i : Nat) (h : b = w.heap.size) : (w.alloc (.cells cs t)).frozen? ⟨b, i, none⟩ = false := by
 subst h
 simp
theorem frozenOld {w : World} {o : Obj} {b : Nat} (i : Nat) (h : b < w.heap.size) : (w.alloc o).frozen? ⟨b, i, none⟩ = w.frozen? ⟨b, i, none⟩ := ((Below.refl w.heap.size w).alloc (Nat.le_refl _) o).frozen (p := ⟨b, i, none⟩) h
theorem put4T {w0 : World} {b : Nat} {x0 x1 x2 x3 : Value} (h : ∀ j, j < 4 → (w0.cell? ⟨b, j, none⟩).isSome = true) :
  ((((w0.setCell ⟨b, 0, none⟩ x0).setCell ⟨b, 1, none⟩ x1).setCell ⟨b, 2, none⟩ x2).setCell ⟨b, 3, none⟩ x3).cell? ⟨b, 0, none⟩ = some x0 ∧
  ((((w0.setCell ⟨b, 0, none⟩ x0).setCell ⟨b, 1, none⟩ x1).setCell ⟨b, 2, none⟩ x2).setCell ⟨b, 3, none⟩ x3).cell? ⟨b, 1, none⟩ = some x1 ∧
  ((((w0.setCell ⟨b, 0, none⟩ x0).setCell ⟨b, 1, none⟩ x1).setCell ⟨b, 2, none⟩ x2).setCell ⟨b, 3, none⟩ x3).cell? ⟨b, 2, none⟩ = some x2 ∧
  ((((w0.setCell ⟨b, 0, none⟩ x0).setCell ⟨b, 1, none⟩ x1).setCell ⟨b, 2, none⟩ x2).setCell ⟨b, 3, none⟩ x3).cell? ⟨b, 3, none⟩ = some x3 := by
 have o : ∀ (w : World) (v : Value) (j k : Nat), j ≠ k → (w.setCell ⟨b, j, none⟩ v).cell? ⟨b, k, none⟩ = w.cell? ⟨b, k, none⟩ := fun w v j k hjk => World.cell?_setCell_other w _ _ v (fun e => hjk (by cases e; rfl))
 refine ⟨?_, ?_, ?_, ?_⟩
 ·rw [o _ _ 3 0 (by decide), o _ _ 2 0 (by decide), o _ _ 1 0 (by decide)]
  exact World.cell?_setCell_same' _ _ _ (h 0 (by decide))
 ·rw [o _ _ 3 1 (by decide), o _ _ 2 1 (by decide)]
  exact World.cell?_setCell_same' _ _ _ (by rw [o _ _ 0 1 (by decide)]; exact h 1 (by decide))
 ·rw [o _ _ 3 2 (by decide)]
  exact World.cell?_setCell_same' _ _ _ (by rw [o _ _ 1 2 (by decide), o _ _ 0 2 (by decide)]; exact h 2 (by decide))
 ·exact World.cell?_setCell_same' _ _ _ (by rw [o _ _ 2 3 (by decide), o _ _ 1 3 (by decide), o _ _ 0 3 (by decide)]; exact h 3 (by decide))
theorem ret_ty {R : Ending → World → Prop} {w0 : World} {tmps : Array Value} {b : Nat} {t : Ty} {an ak : Option Addr} {ln cn lk ck : Nat} (hp : tmps[2]?.getD undef = .pointer (some ⟨b, 0, none⟩))
  (h : ∀ j, j < 4 → (w0.cell? ⟨b, j, none⟩).isSome = true) (hR : R (.returned (.agg #[.int .i64 t.kind, .string t.name, .slice an ln cn, .slice ak lk ck])) ((((w0.setCell ⟨b, 0, none⟩ (.int .i64 t.kind)).setCell ⟨b, 1, none⟩ (.string t.name)).setCell ⟨b, 2, none⟩ (.slice an ln cn)).setCell ⟨b, 3, none⟩ (.slice ak lk ck))) :
  bodyPost Tryz.prog Tryz.f8 R .ret { tmps := tmps, defers := [] } ((((w0.setCell ⟨b, 0, none⟩ (.int .i64 t.kind)).setCell ⟨b, 1, none⟩ (.string t.name)).setCell ⟨b, 2, none⟩ (.slice an ln cn)).setCell ⟨b, 3, none⟩ (.slice ak lk ck)) := by
 obtain ⟨h0, h1, h2, h3⟩ := put4T (x0 := .int .i64 t.kind) (x1 := .string t.name) (x2 := .slice an ln cn) (x3 := .slice ak lk ck) h
 generalize ((((w0.setCell ⟨b, 0, none⟩ (.int .i64 t.kind)).setCell ⟨b, 1, none⟩ (.string t.name)).setCell ⟨b, 2, none⟩ (.slice an ln cn)).setCell ⟨b, 3, none⟩ (.slice ak lk ck)) = W at *
 refine bodyPost_ret (v := .agg #[.int .i64 t.kind, .string t.name, .slice an ln cn, .slice ak lk ck]) ?_ rfl hR
 simp [results, Tryz.results8, go_sem, hp, h0, h1, h2, h3]
set_option maxHeartbeats 1600000 in
set_option maxRecDepth 100000 in
theorem lawsToTy (n : Nat) : ∀ (cs : List Value) (t : Ty) (w : World), TyAt w n cs t → Ty.bulk n t ≤ 1048576 →
  Calls Tryz.prog 8 #[.agg cs.toArray] w fun e w' => ∃ an ln cn ak lk ck, e = .returned (.agg #[.int .i64 t.kind, .string t.name, .slice an ln cn, .slice ak lk ck]) ∧ NewTy w.heap.size w'.heap.size w' n [.int .i64 t.kind, .string t.name, .slice an ln cn, .slice ak lk ck] t ∧ Below w.heap.size w w' := by
 induction n with
 | zero => intro cs t w h; exact h.elim
 | succ n ih =>
  intro cs t w h hbk
  obtain ⟨vn, vk, rfl, hkd, hnm, ⟨hT, hTl, hTs⟩, hkl, hrow⟩ := h
  rw [Ty.bulk, bulk_texts] at hbk
  have hB3 : Below w.heap.size w (((w.alloc (.cells #[.int .i64 t.kind, .string t.name, vn, vk] 25)).alloc (.cells #[.int .i64 0, .string ⟨#[]⟩, .slice none 0 0, .slice none 0 0] 30)).alloc (.cells #[.int .i64 t.kind, .string t.name, .slice none 0 0, .slice none 0 0] 30)) := (((Below.refl _ _).alloc (Nat.le_refl _) _).alloc (by simp) _).alloc (by simp; omega) _
  have HN : Hid (Calls Tryz.prog 22 #[vn] (((w.alloc (.cells #[.int .i64 t.kind, .string t.name, vn, vk] 25)).alloc (.cells #[.int .i64 0, .string ⟨#[]⟩, .slice none 0 0, .slice none 0 0] 30)).alloc (.cells #[.int .i64 t.kind, .string t.name, .slice none 0 0, .slice none 0 0] 30)) fun e w' => e = .returned (.slice (some ⟨(((w.alloc (.cells #[.int .i64 t.kind, .string t.name, vn, vk] 25)).alloc (.cells #[.int .i64 0, .string ⟨#[]⟩, .slice none 0 0, .slice none 0 0] 30)).alloc (.cells #[.int .i64 t.kind, .string t.name, .slice none 0 0, .slice none 0 0] 30)).heap.size, 0, none⟩) t.names.length t.names.length) ∧ w'.ownsRow (((w.alloc (.cells #[.int .i64 t.kind, .string t.name, vn, vk] 25)).alloc (.cells #[.int .i64 0, .string ⟨#[]⟩, .slice none 0 0, .slice none 0 0] 30)).alloc (.cells #[.int .i64 t.kind, .string t.name, .slice none 0 0, .slice none 0 0] 30)).heap.size 9 1 (.slice (some ⟨(((w.alloc (.cells #[.int .i64 t.kind, .string t.name, vn, vk] 25)).alloc (.cells #[.int .i64 0, .string ⟨#[]⟩, .slice none 0 0, .slice none 0 0] 30)).alloc (.cells #[.int .i64 t.kind, .string t.name, .slice none 0 0, .slice none 0 0] 30)).heap.size, 0, none⟩) t.names.length t.names.length) t.names.length (strV t.names) ∧ Below (((w.alloc (.cells #[.int .i64 t.kind, .string t.name, vn, vk] 25)).alloc (.cells #[.int .i64 0, .string ⟨#[]⟩, .slice none 0 0, .slice none 0 0] 30)).alloc (.cells #[.int .i64 t.kind, .string t.name, .slice none 0 0, .slice none 0 0] 30)).heap.size (((w.alloc (.cells #[.int .i64 t.kind, .string t.name, vn, vk] 25)).alloc (.cells #[.int .i64 0, .string ⟨#[]⟩, .slice none 0 0, .slice none 0 0] 30)).alloc (.cells #[.int .i64 t.kind, .string t.name, .slice none 0 0, .slice none 0 0] 30)) w') := lawsTo vn t.names _ (hT.below hB3) (by omega)
  have HK : Hid (∀ wx : World, Below w.heap.size w wx → Calls Tryz.prog 23 #[vk] wx fun e w' => e = .returned (.slice (some ⟨wx.heap.size, 0, none⟩) t.kids.length t.kids.length) ∧ NewRow wx.heap.size w'.heap.size w' n (.slice (some ⟨wx.heap.size, 0, none⟩) t.kids.length t.kids.length) t.kids ∧ Below wx.heap.size wx w') := fun wx hx => lawsToRow n ih vk t.kids wx (hrow.below hx fun cs t _ h => h.below hx) (by unfold rowBulk; omega)
  have HD : Hid ((-9223372036854775808 ≤ t.kind ∧ t.kind ≤ 9223372036854775807) ∧ t.name.size ≤ maxLen ∧ (t.names.length ≤ maxLen ∧ ∀ x ∈ t.names, x.size ≤ maxLen) ∧ t.kids.length ≤ maxLen) := ⟨hkd, hnm, ⟨hTl, hTs⟩, hkl⟩
  have h3 : (((w.alloc (.cells #[.int .i64 t.kind, .string t.name, vn, vk] 25)).alloc (.cells #[.int .i64 0, .string ⟨#[]⟩, .slice none 0 0, .slice none 0 0] 30)).alloc (.cells #[.int .i64 t.kind, .string t.name, .slice none 0 0, .slice none 0 0] 30)).heap.size = w.heap.size + 1 + 1 + 1 := by simp
  rw [h3] at HN
  clear hT hTl hTs hkd hnm hkl hrow ih hbk
  go_enter Tryz.func8, Tryz.ntmps8
  go_wp2_with fail
  refine HN.out.mono ?_
  rintro e w2 ⟨rfl, ho2, hb2⟩
  rw [← h3] at hb2
  obtain ⟨bc, bf⟩ := bcellT hb2
  have hz : w.heap.size + 1 + 1 < w2.heap.size := by have := hb2.size; rw [h3] at this; omega
  have hbw2 : Below w.heap.size w w2 := hB3.trans (hb2.mono (by rw [h3]; omega))
  have HO2 : Hid (type_of% ho2) := ho2
  have HNB : Hid (∀ g, (Value.slice (some ⟨w.heap.size + 1 + 1 + 1, 0, none⟩) t.names.length t.names.length).ownBlock = some g → g < w2.heap.size) := fun g hg => (ho2.lt g hg).2
  clear ho2 HN
  have hbw3 : Below w.heap.size w (w2.setCell ⟨w.heap.size + 1 + 1, 2, none⟩ (.slice (some ⟨w.heap.size + 1 + 1 + 1, 0, none⟩) t.names.length t.names.length)) := hbw2.setCell (by simp; omega) _
  have u0 : (w2.setCell ⟨w.heap.size + 1 + 1, 2, none⟩ (.slice (some ⟨w.heap.size + 1 + 1 + 1, 0, none⟩) t.names.length t.names.length)).cell? ⟨w.heap.size + 1 + 1, 0, none⟩ = some (.int .i64 t.kind) := by rw [World.cell?_setCell_other _ _ _ _ (fun e => by cases e), bc _ _ (by rw [h3]; omega), cellNew _ (by simp)]; rfl
  have u1 : (w2.setCell ⟨w.heap.size + 1 + 1, 2, none⟩ (.slice (some ⟨w.heap.size + 1 + 1 + 1, 0, none⟩) t.names.length t.names.length)).cell? ⟨w.heap.size + 1 + 1, 1, none⟩ = some (.string t.name) := by rw [World.cell?_setCell_other _ _ _ _ (fun e => by cases e), bc _ _ (by rw [h3]; omega), cellNew _ (by simp)]; rfl
  have u2 : (w2.setCell ⟨w.heap.size + 1 + 1, 2, none⟩ (.slice (some ⟨w.heap.size + 1 + 1 + 1, 0, none⟩) t.names.length t.names.length)).cell? ⟨w.heap.size + 1 + 1, 2, none⟩ = some (.slice (some ⟨w.heap.size + 1 + 1 + 1, 0, none⟩) t.names.length t.names.length) := World.cell?_setCell_same' _ _ _ (by rw [bc _ _ (by rw [h3]; omega), cellNew _ (by simp)]; rfl)
  have u3 : (w2.setCell ⟨w.heap.size + 1 + 1, 2, none⟩ (.slice (some ⟨w.heap.size + 1 + 1 + 1, 0, none⟩) t.names.length t.names.length)).cell? ⟨w.heap.size + 1 + 1, 3, none⟩ = some (.slice none 0 0) := by rw [World.cell?_setCell_other _ _ _ _ (fun e => by cases e), bc _ _ (by rw [h3]; omega), cellNew _ (by simp)]; rfl
  have uf : (w2.setCell ⟨w.heap.size + 1 + 1, 2, none⟩ (.slice (some ⟨w.heap.size + 1 + 1 + 1, 0, none⟩) t.names.length t.names.length)).frozen? ⟨w.heap.size + 1 + 1, 3, none⟩ = false := by rw [World.frozen?_setCell, bf _ _ (by rw [h3]; omega), frozenNew _ (by simp)]
  have r : ∀ c, c < 4 → ∃ u, (w2.setCell ⟨w.heap.size + 1 + 1, 2, none⟩ (.slice (some ⟨w.heap.size + 1 + 1 + 1, 0, none⟩) t.names.length t.names.length)).cell? ⟨w.heap.size + 1, c, none⟩ = some u := fun c hc => by
   rw [World.cell?_setCell_other _ _ _ _ (fun e => by injection e; omega), bc _ _ (by rw [h3]; omega)]
   rw [cellOld _ (by simp), cellNew _ (by simp)]
   match c, hc with
   | 0, _ => exact ⟨_, rfl⟩
   | 1, _ => exact ⟨_, rfl⟩
   | 2, _ => exact ⟨_, rfl⟩
   | 3, _ => exact ⟨_, rfl⟩
  have rf : ∀ c, (w2.setCell ⟨w.heap.size + 1 + 1, 2, none⟩ (.slice (some ⟨w.heap.size + 1 + 1 + 1, 0, none⟩) t.names.length t.names.length)).frozen? ⟨w.heap.size + 1, c, none⟩ = false := fun c => by rw [World.frozen?_setCell, bf _ _ (by rw [h3]; omega), frozenOld _ (by simp), frozenNew _ (by simp)]
  have hUz : (w2.setCell ⟨w.heap.size + 1 + 1, 2, none⟩ (.slice (some ⟨w.heap.size + 1 + 1 + 1, 0, none⟩) t.names.length t.names.length)).heap.size = w2.heap.size := by simp
  have hab1 : Above (w.heap.size + 1 + 1 + 1) w2 (w2.setCell ⟨w.heap.size + 1 + 1, 2, none⟩ (.slice (some ⟨w.heap.size + 1 + 1 + 1, 0, none⟩) t.names.length t.names.length)) := Above.set _ _ _ (by simp)
  go_wp2_with fail
  refine (HK.out _ hbw3).mono ?_
  rintro e w4 ⟨rfl, hnr, hb4⟩
  generalize (w2.setCell ⟨w.heap.size + 1 + 1, 2, none⟩ (.slice (some ⟨w.heap.size + 1 + 1 + 1, 0, none⟩) t.names.length t.names.length)) = U at *
  have c0 := (hb4.cell (p := ⟨w.heap.size + 1 + 1, 0, none⟩) (show w.heap.size + 1 + 1 < U.heap.size by omega)).trans u0
  have c1 := (hb4.cell (p := ⟨w.heap.size + 1 + 1, 1, none⟩) (show w.heap.size + 1 + 1 < U.heap.size by omega)).trans u1
  have c2 := (hb4.cell (p := ⟨w.heap.size + 1 + 1, 2, none⟩) (show w.heap.size + 1 + 1 < U.heap.size by omega)).trans u2
  have c3 := (hb4.cell (p := ⟨w.heap.size + 1 + 1, 3, none⟩) (show w.heap.size + 1 + 1 < U.heap.size by omega)).trans u3
  have cf := (hb4.frozen (p := ⟨w.heap.size + 1 + 1, 3, none⟩) (show w.heap.size + 1 + 1 < U.heap.size by omega)).trans uf
  obtain ⟨v0, r0⟩ := r 0 (by decide)
  obtain ⟨v1, r1⟩ := r 1 (by decide)
  obtain ⟨v2, r2⟩ := r 2 (by decide)
  obtain ⟨v3, r3⟩ := r 3 (by decide)
  have d0 := (hb4.cell (p := ⟨w.heap.size + 1, 0, none⟩) (show w.heap.size + 1 < U.heap.size by omega)).trans r0
  have d1 := (hb4.cell (p := ⟨w.heap.size + 1, 1, none⟩) (show w.heap.size + 1 < U.heap.size by omega)).trans r1
  have d2 := (hb4.cell (p := ⟨w.heap.size + 1, 2, none⟩) (show w.heap.size + 1 < U.heap.size by omega)).trans r2
  have d3 := (hb4.cell (p := ⟨w.heap.size + 1, 3, none⟩) (show w.heap.size + 1 < U.heap.size by omega)).trans r3
  have df0 := (hb4.frozen (p := ⟨w.heap.size + 1, 0, none⟩) (show w.heap.size + 1 < U.heap.size by omega)).trans (rf 0)
  have df1 := (hb4.frozen (p := ⟨w.heap.size + 1, 1, none⟩) (show w.heap.size + 1 < U.heap.size by omega)).trans (rf 1)
  have df2 := (hb4.frozen (p := ⟨w.heap.size + 1, 2, none⟩) (show w.heap.size + 1 < U.heap.size by omega)).trans (rf 2)
  have df3 := (hb4.frozen (p := ⟨w.heap.size + 1, 3, none⟩) (show w.heap.size + 1 < U.heap.size by omega)).trans (rf 3)
  have hbw4 : Below w.heap.size w w4 := hbw3.trans (hb4.mono (by omega))
  have HR : Hid (NewRow U.heap.size w4.heap.size w4 n (.slice (some ⟨U.heap.size, 0, none⟩) t.kids.length t.kids.length) t.kids) := hnr
  have HAB : Hid (Above (w.heap.size + 1 + 1 + 1) w2 w4) := hab1.trans (Above.of_below hb4)
  rw [hUz] at HR
  have hUs : w.heap.size + 1 + 1 + 1 ≤ w2.heap.size := by omega
  clear u0 u1 u2 u3 uf r rf r0 r1 r2 r3 hnr hab1 hb2 hb4 bc bf HK hbw2 hbw3
  go_wp2_with fail
  refine ret_ty (t := t) (b := w.heap.size + 1) rfl ?_ ⟨_, _, _, _, _, _, rfl, ?_, ?_⟩
  ·intro j hj
   rw [World.cell?_setCell_other _ _ _ _ (by simp)]
   match j, hj with
   | 0, _ => rw [d0]; rfl
   | 1, _ => rw [d1]; rfl
   | 2, _ => rw [d2]; rfl
   | 3, _ => rw [d3]; rfl
  ·refine ⟨Nat.le_refl _, fun w' ha => ?_⟩
   have hA4 : Above (w.heap.size + 1 + 1 + 1) w4 w' := by
    refine Above.trans ?_ (ha.mono (by omega))
    refine ((((Above.set _ _ _ ?_).trans (Above.set _ _ _ ?_)).trans (Above.set _ _ _ ?_)).trans (Above.set _ _ _ ?_)).trans (Above.set _ _ _ ?_)
    all_goals (simp only []; omega)
   have hd := HD.out
   exact ⟨_, _, w2.heap.size, rfl, hd.1, hd.2.1, ⟨NamesIn.mono ⟨owns_above HO2.out (HAB.out.trans hA4), fun g hg => HNB.out g hg⟩ (by omega) (Nat.le_refl _), hd.2.2.1.1, hd.2.2.1.2⟩, hd.2.2.2, by omega, (HR.out.2 w' (hA4.mono hUs)).mono (Nat.le_refl _) (by simp)⟩
  ·exact ((((hbw4.setCell (by simp; omega) _).setCell (by simp) _).setCell (by simp) _).setCell (by simp) _).setCell (by simp) _
def Ty.ends : Nat → Ty → Prop
 | 0, _ => False
 | n + 1, t => ∀ k ∈ t.kids, Ty.ends n k
theorem TyAt.ends {w : World} {n : Nat} {cs : List Value} {t : Ty} (h : TyAt w n cs t) : Ty.ends n t := by
 induction n generalizing cs t with
 | zero => exact h.elim
 | succ n ih =>
  obtain ⟨vn, vk, _, _, _, _, _, hr⟩ := h
  intro k hk
  rcases hr with ⟨e, _⟩ | ⟨b, off, cap, _, hc⟩
  ·rw [e] at hk; simp at hk
  ·obtain ⟨j, hj, rfl⟩ := List.getElem_of_mem hk
   obtain ⟨cs, h1, _⟩ := hc j hj
   exact ih h1
theorem RowAt.det {w : World} {R R' : List Value → Ty → Prop} {v : Value} {ts us : List Ty} (h : RowAt w R v ts) (h' : RowAt w R' v us) (hl : ∀ cs t, R cs t → cs.length = 4) (hl' : ∀ cs t, R' cs t → cs.length = 4) (hd : ∀ cs t u, t ∈ ts → R cs t → R' cs u → t = u) : ts = us := by
 rcases h with ⟨e, a, cap, e2⟩ | ⟨b, off, cap, e2, hc⟩
 ·rcases h' with ⟨e3, _⟩ | ⟨b', off', cap', e3, hc'⟩
  ·rw [e, e3]
  ·rw [e2] at e3
   simp only [Value.slice.injEq] at e3
   rw [e]
   exact (List.length_eq_zero_iff.1 e3.2.1.symm).symm
 ·have hlen : ts.length = us.length := by
   rcases h' with ⟨e3, a', cap', e4⟩ | ⟨b', off', cap', e4, hc'⟩
   ·rw [e2] at e4
    simp only [Value.slice.injEq] at e4
    rw [e3]; exact e4.2.1
   ·rw [e2] at e4
    simp only [Value.slice.injEq] at e4
    exact e4.2.1
  refine List.ext_getElem hlen fun j h1 h2 => ?_
  rcases h' with ⟨e3, _⟩ | ⟨b', off', cap', e4, hc'⟩
  ·rw [e3] at h2; simp at h2
  ·rw [e2] at e4
   simp only [Value.slice.injEq, Option.some.injEq, Addr.mk.injEq] at e4
   obtain ⟨⟨rfl, rfl, _⟩, _, _⟩ := e4
   obtain ⟨cs, q1, q2⟩ := hc j h1
   obtain ⟨cs', q3, q4⟩ := hc' j h2
   have e5 : cs = cs' := by
    refine List.ext_getElem (by rw [hl _ _ q1, hl' _ _ q3]) fun c c1 c2 => ?_
    have r1 := q2 c cs[c] (List.getElem?_eq_getElem c1)
    have r2 := q4 c cs'[c] (List.getElem?_eq_getElem c2)
    rw [r1] at r2
    exact Option.some.inj r2
   subst e5
   exact hd cs _ _ (List.getElem_mem h1) q1 q3
theorem texts_det {w : World} {v : Value} {a b : List ByteArray} (h : Texts w v a) (h' : Texts w v b) : a = b := by
 rcases h with ⟨e, x, cap, e2⟩ | ⟨p, off, cap, e2, hc⟩
 ·rcases h' with ⟨e3, _⟩ | ⟨b', off', cap', e3, hc'⟩
  ·rw [e, e3]
  ·rw [e2] at e3
   simp only [Value.slice.injEq] at e3
   rw [e]
   exact (List.length_eq_zero_iff.1 e3.2.1.symm).symm
 ·rcases h' with ⟨e3, x, cap', e4⟩ | ⟨b', off', cap', e4, hc'⟩
  ·rw [e2] at e4
   simp only [Value.slice.injEq] at e4
   rw [e3]
   exact List.length_eq_zero_iff.1 e4.2.1
  ·rw [e2] at e4
   simp only [Value.slice.injEq, Option.some.injEq, Addr.mk.injEq] at e4
   obtain ⟨⟨rfl, rfl, _⟩, hlen, _⟩ := e4
   refine List.ext_getElem hlen fun j h1 h2 => ?_
   have r1 := hc j h1
   have r2 := hc' j h2
   rw [r1] at r2
   simpa using r2
theorem TyAt.det {w : World} {n m : Nat} {cs : List Value} {t u : Ty} (h : TyAt w n cs t) (h' : TyAt w m cs u) : t = u := by
 induction n generalizing m cs t u with
 | zero => exact h.elim
 | succ n ih =>
  cases m with
  | zero => exact h'.elim
  | succ m =>
   obtain ⟨vn, vk, e1, _, _, ⟨ht, _, _⟩, _, hr⟩ := h
   obtain ⟨vn', vk', e2, _, _, ⟨ht', _, _⟩, _, hr'⟩ := h'
   rw [e1] at e2
   simp only [List.cons.injEq, Value.int.injEq, true_and, Value.string.injEq, and_true] at e2
   obtain ⟨a1, a2, rfl, rfl⟩ := e2
   have a3 := texts_det ht ht'
   have a4 := hr.det hr' (fun cs t h => TyAt.len h) (fun cs t h => TyAt.len h) fun cs t u _ q1 q2 => ih q1 q2
   cases t
   cases u
   simp only at a1 a2 a3 a4
   rw [a1, a2, a3, a4]
def TextsR (A : Nat → Prop) (w : World) (v : Value) (ts : List ByteArray) : Prop :=
 (ts = [] ∧ ∃ a cap, v = .slice a 0 cap) ∨ ∃ b off cap, v = .slice (some ⟨b, off, none⟩) ts.length cap ∧ A b ∧ ∀ j (h : j < ts.length), w.cell? ⟨b, off + j, none⟩ = some (.string ts[j])
def RowR (A : Nat → Prop) (w : World) (R : List Value → Ty → Prop) (v : Value) (ts : List Ty) : Prop :=
 (ts = [] ∧ ∃ a cap, v = .slice a 0 cap) ∨ ∃ b off cap, v = .slice (some ⟨b, off, none⟩) ts.length cap ∧ A b ∧ (∃ cur e, w.heap[b]? = some (.cells cur e (0, 0))) ∧ ∀ j (h : j < ts.length), ∃ cs, R cs ts[j] ∧ ∀ c u, cs[c]? = some u → w.cell? ⟨b, off + j * 4 + c, none⟩ = some u
def TyR (A : Nat → Prop) (w : World) : Nat → List Value → Ty → Prop
 | 0, _, _ => False
 | n + 1, cs, t => ∃ vn vk, cs = [.int .i64 t.kind, .string t.name, vn, vk] ∧ (-9223372036854775808 ≤ t.kind ∧ t.kind ≤ 9223372036854775807) ∧ t.name.size ≤ maxLen ∧ (TextsR A w vn t.names ∧ t.names.length ≤ maxLen ∧ ∀ x ∈ t.names, x.size ≤ maxLen) ∧ t.kids.length ≤ maxLen ∧ RowR A w (TyR A w n) vk t.kids
def SameOn (A : Nat → Prop) (w w' : World) : Prop := ∀ b, A b → w'.heap[b]? = w.heap[b]?
theorem TextsR.at {A : Nat → Prop} {w : World} {v : Value} {ts : List ByteArray} (h : TextsR A w v ts) : Texts w v ts := by
 rcases h with h | ⟨b, off, cap, e, _, hc⟩
 ·exact .inl h
 ·exact .inr ⟨b, off, cap, e, hc⟩
theorem TextsR.same {A : Nat → Prop} {w w' : World} {v : Value} {ts : List ByteArray} (h : TextsR A w v ts) (hs : SameOn A w w') : TextsR A w' v ts := by
 rcases h with h | ⟨b, off, cap, e, ha, hc⟩
 ·exact .inl h
 ·exact .inr ⟨b, off, cap, e, ha, fun j hj => (World.cell?_of_block (a := ⟨b, off + j, none⟩) (hs b ha)).trans (hc j hj)⟩
theorem TextsR.sub {A A' : Nat → Prop} {w : World} {v : Value} {ts : List ByteArray} (h : TextsR A w v ts) (hs : ∀ b, A b → A' b) : TextsR A' w v ts := by
 rcases h with h | ⟨b, off, cap, e, ha, hc⟩
 ·exact .inl h
 ·exact .inr ⟨b, off, cap, e, hs b ha, hc⟩
theorem RowR.at {A : Nat → Prop} {w : World} {R R' : List Value → Ty → Prop} {v : Value} {ts : List Ty} (h : RowR A w R v ts) (hR : ∀ cs t, t ∈ ts → R cs t → R' cs t) : RowAt w R' v ts := by
 rcases h with h | ⟨b, off, cap, e, _, _, hc⟩
 ·exact .inl h
 ·refine .inr ⟨b, off, cap, e, fun j hj => ?_⟩
  obtain ⟨cs, h1, h2⟩ := hc j hj
  exact ⟨cs, hR _ _ (List.getElem_mem hj) h1, h2⟩
theorem RowR.same {A : Nat → Prop} {w w' : World} {R R' : List Value → Ty → Prop} {v : Value} {ts : List Ty} (h : RowR A w R v ts) (hs : SameOn A w w') (hR : ∀ cs t, t ∈ ts → R cs t → R' cs t) : RowR A w' R' v ts := by
 rcases h with h | ⟨b, off, cap, e, ha, ⟨cur, et, hb⟩, hc⟩
 ·exact .inl h
 ·refine .inr ⟨b, off, cap, e, ha, ⟨cur, et, (hs b ha).trans hb⟩, fun j hj => ?_⟩
  obtain ⟨cs, h1, h2⟩ := hc j hj
  exact ⟨cs, hR _ _ (List.getElem_mem hj) h1, fun c u hu => (World.cell?_of_block (a := ⟨b, off + j * 4 + c, none⟩) (hs b ha)).trans (h2 c u hu)⟩
theorem RowR.sub {A A' : Nat → Prop} {w : World} {R R' : List Value → Ty → Prop} {v : Value} {ts : List Ty} (h : RowR A w R v ts) (hs : ∀ b, A b → A' b) (hR : ∀ cs t, t ∈ ts → R cs t → R' cs t) : RowR A' w R' v ts := by
 rcases h with h | ⟨b, off, cap, e, ha, hb, hc⟩
 ·exact .inl h
 ·refine .inr ⟨b, off, cap, e, hs b ha, hb, fun j hj => ?_⟩
  obtain ⟨cs, h1, h2⟩ := hc j hj
  exact ⟨cs, hR _ _ (List.getElem_mem hj) h1, h2⟩
theorem TyR.at {A : Nat → Prop} {w : World} {n : Nat} {cs : List Value} {t : Ty} (h : TyR A w n cs t) : TyAt w n cs t := by
 induction n generalizing cs t with
 | zero => exact h.elim
 | succ n ih =>
  obtain ⟨vn, vk, h1, h2, h3, ⟨h4, h5, h6⟩, h7, h8⟩ := h
  exact ⟨vn, vk, h1, h2, h3, ⟨h4.at, h5, h6⟩, h7, h8.at fun cs t _ h => ih h⟩
theorem TyR.same {A : Nat → Prop} {w w' : World} {n : Nat} {cs : List Value} {t : Ty} (h : TyR A w n cs t) (hs : SameOn A w w') : TyR A w' n cs t := by
 induction n generalizing cs t with
 | zero => exact h.elim
 | succ n ih =>
  obtain ⟨vn, vk, h1, h2, h3, ⟨h4, h5, h6⟩, h7, h8⟩ := h
  exact ⟨vn, vk, h1, h2, h3, ⟨h4.same hs, h5, h6⟩, h7, h8.same hs fun cs t _ h => ih h⟩
theorem TyR.sub {A A' : Nat → Prop} {w : World} {n : Nat} {cs : List Value} {t : Ty} (h : TyR A w n cs t) (hs : ∀ b, A b → A' b) : TyR A' w n cs t := by
 induction n generalizing cs t with
 | zero => exact h.elim
 | succ n ih =>
  obtain ⟨vn, vk, h1, h2, h3, ⟨h4, h5, h6⟩, h7, h8⟩ := h
  exact ⟨vn, vk, h1, h2, h3, ⟨h4.sub hs, h5, h6⟩, h7, h8.sub hs fun cs t _ h => ih h⟩
theorem TyR.depth {A : Nat → Prop} {w : World} {n m : Nat} {cs : List Value} {t : Ty} (h : TyR A w n cs t) (hm : Ty.ends m t) : TyR A w m cs t := by
 induction n generalizing m cs t with
 | zero => exact h.elim
 | succ n ih =>
  cases m with
  | zero => exact hm.elim
  | succ m =>
   obtain ⟨vn, vk, h1, h2, h3, h4, h7, h8⟩ := h
   exact ⟨vn, vk, h1, h2, h3, h4, h7, h8.sub (fun _ h => h) fun cs t ht h => ih h (hm t ht)⟩
theorem TyIn.reads {w : World} {n lo hi : Nat} {cs : List Value} {t : Ty} (h : TyIn w n lo hi cs t) : TyR (fun b => lo ≤ b ∧ b < hi) w n cs t := by
 induction n generalizing lo hi cs t with
 | zero => exact h.elim
 | succ n ih =>
  obtain ⟨vn, vk, mid, h1, h2, h3, ⟨h4, h5, h6⟩, h7, h8, b, cap, hv, hb1, hb2, hc, L, hL1, hL2, hk⟩ := h
  have hmid : mid ≤ hi := by omega
  refine ⟨vn, vk, h1, h2, h3, ⟨?_, h5, h6⟩, h7, ?_⟩
  ·rcases h4.1.2 with ⟨e, h0⟩ | ⟨g, c, cur, e, hg, _⟩
   ·exact .inl ⟨List.length_eq_zero_iff.1 h0, _, _, e⟩
   ·have ht := h4.texts
    have hgh := h4.2 g (by rw [e]; rfl)
    rcases ht with q | ⟨b', off', cap', e', hc'⟩
    ·exact .inl q
    ·rw [e] at e'
     simp only [Value.slice.injEq, Option.some.injEq, Addr.mk.injEq] at e'
     obtain ⟨⟨rfl, rfl, _⟩, _, rfl⟩ := e'
     exact .inr ⟨g, 0, c, e, ⟨hg, by omega⟩, hc'⟩
  ·refine .inr ⟨b, 0, cap, hv, ⟨by omega, hb2⟩, hc, fun j hj => ?_⟩
   obtain ⟨cs, q1, q2⟩ := hk j hj
   have l1 := hL1 j (by omega)
   have l2 := hL1 (j + 1) (by omega)
   exact ⟨cs, (ih q1).sub fun x hx => ⟨by omega, by omega⟩, fun c u hu => by rw [Nat.zero_add]; exact q2 c u hu⟩
theorem Right.ends {n : Nat} {t : Ty} {d : Int} (h : Right n t d) : Ty.ends n t := by
 induction n generalizing t d with
 | zero => exact h.elim
 | succ n ih => exact fun k hk => ih (h.2.1 k hk)
theorem text_any {n m : Nat} {t : Ty} {d : Int} (h : Right n t d) (hm : Ty.ends m t) : Ty.text m t = Ty.text n t := by
 induction n generalizing m t d with
 | zero => exact h.elim
 | succ n ih =>
  cases m with
  | zero => exact hm.elim
  | succ m =>
   have hk : ∀ k ∈ t.kids, Ty.text m k = Ty.text n k := fun k hk => ih (h.2.1 k hk) (hm k hk)
   have hd : t.kids.dropLast.map (Ty.text m) = t.kids.dropLast.map (Ty.text n) := map_same fun k hk' => hk k (List.dropLast_subset _ hk')
   have hr : (t.kids.map fun k => roundP 6 k (Ty.text m k)) = t.kids.map fun k => roundP 6 k (Ty.text n k) := map_same fun k hk' => by rw [hk k hk']
   have hf : fieldsP (Ty.text m) t.names t.kids = fieldsP (Ty.text n) t.names t.kids := zip_same hk
   have hl : t.kind = 6 → Ty.text m (lastTy t.kids) = Ty.text n (lastTy t.kids) := fun h6 => hk _ (lastTy_mem (right_fn h h6).2.2).1
   rw [Ty.text.eq_2 t m, Ty.text.eq_2 t n, hd, hr, hf]
   by_cases c6 : t.kind = 6
   ·rw [hl c6]
   ·rw [if_neg c6, if_neg c6]
theorem right_any {n m : Nat} {t : Ty} {d : Int} (h : Right n t d) (hm : Ty.ends m t) : Right m t d := by
 induction n generalizing m t d with
 | zero => exact h.elim
 | succ n ih =>
  cases m with
  | zero => exact hm.elim
  | succ m =>
   refine ⟨h.1, fun k hk => ih (h.2.1 k hk) (hm k hk), ?_⟩
   have hk : ∀ k ∈ t.kids, Ty.text m k = Ty.text n k := fun k hk => text_any (h.2.1 k hk) (hm k hk)
   rcases h.2.2 with q | q | q | q | ⟨q1, q2, q3⟩
   ·exact .inl q
   ·exact .inr (.inl q)
   ·exact .inr (.inr (.inl q))
   ·exact .inr (.inr (.inr (.inl q)))
   ·refine .inr (.inr (.inr (.inr ⟨q1, fun i hi => ⟨(q2 i hi).1, fun h0 => ?_⟩, q3⟩)))
    rw [hk _ (List.getElem_mem _), hk _ (List.getElem_mem _)]
    exact (q2 i hi).2 h0
theorem hgt_any {n m : Nat} {t : Ty} (h : Ty.ends n t) (hm : Ty.ends m t) : Ty.hgt m t = Ty.hgt n t := by
 induction n generalizing m t with
 | zero => exact h.elim
 | succ n ih =>
  cases m with
  | zero => exact hm.elim
  | succ m =>
   rw [Ty.hgt, Ty.hgt]
   have : ∀ (l : List Ty) (a : Nat), (∀ k ∈ l, Ty.hgt m k = Ty.hgt n k) → l.foldl (fun x k => max x (Ty.hgt m k + 1)) a = l.foldl (fun x k => max x (Ty.hgt n k + 1)) a := by
    intro l
    induction l with
    | nil => intro a _; rfl
    | cons k r ihl =>
     intro a hl
     rw [List.foldl_cons, List.foldl_cons, hl k (List.mem_cons_self ..)]
     exact ihl _ fun q hq => hl q (List.mem_cons_of_mem _ hq)
   exact this _ _ fun k hk => ih (h k hk) (hm k hk)
theorem right_ends {n : Nat} {t : Ty} {d : Int} (h : Right n t d) : ∀ m : Nat, d < m → Ty.ends m t := by
 induction n generalizing t d with
 | zero => exact h.elim
 | succ n ih =>
  intro m hm
  cases m with
  | zero => have := h.1; omega
  | succ m => exact fun k hk => ih (h.2.1 k hk) m (by omega)
def Ty.ok (t : Ty) : Prop := Right 13 t 12
def Ty.txt (t : Ty) : ByteArray := Ty.text 13 t
def Ty.hi (t : Ty) : Nat := Ty.hgt 13 t
theorem right_more {n : Nat} {t : Ty} {d d' : Int} (h : Right n t d) (hd : d ≤ d') : Right n t d' := by
 rw [right_hgt h]
 have := right_hgt_le h
 omega
theorem Right.ok {n : Nat} {t : Ty} {d : Int} (h : Right n t d) (hd : d ≤ 12) : Ty.ok t :=
 right_any (right_more h hd) (right_ends (right_more h hd) 13 (by omega))
theorem Ty.ok.ends {t : Ty} (h : Ty.ok t) : Ty.ends 13 t := Right.ends h
theorem Ty.ok.right {n : Nat} {t : Ty} {d : Int} (h : Ty.ok t) (hn : Ty.ends n t) : Right n t d ↔ (Ty.hi t : Int) ≤ d := by
 constructor
 ·intro q
  have h1 := right_hgt_le q
  have e := hgt_any hn h.ends
  unfold Ty.hi
  omega
 ·intro q
  exact right_any ((right_hgt h).2 q) hn
theorem Ty.ok.hi_le {t : Ty} (h : Ty.ok t) : Ty.hi t ≤ 12 := by
 have := right_hgt_le (n := 13) h
 unfold Ty.hi
 omega
theorem Right.text {n : Nat} {t : Ty} {d : Int} (h : Right n t d) (hd : d ≤ 12) : Ty.text n t = Ty.txt t := text_any (h.ok hd) h.ends
theorem Ty.ok.kid {t : Ty} (h : Ty.ok t) {k : Ty} (hk : k ∈ t.kids) : Ty.ok k := (h.2.1 k hk).ok (by omega)
def hiMost (ts : List Ty) : Nat := ts.foldl (fun m k => max m (Ty.hi k)) 0
theorem foldl_most (f : Ty → Nat) (l : List Ty) (a b : Nat) : l.foldl (fun m k => max m (f k)) a ≤ b ↔ a ≤ b ∧ ∀ k ∈ l, f k ≤ b := by
 induction l generalizing a with
 | nil => simp
 | cons x r ih =>
  rw [List.foldl_cons, ih]
  simp only [List.mem_cons, forall_eq_or_imp]
  constructor
  ·rintro ⟨h1, h2⟩
   exact ⟨by omega, by omega, h2⟩
  ·rintro ⟨h1, h2, h3⟩
   exact ⟨by omega, h3⟩
theorem hiMost_le {ts : List Ty} {b : Nat} : hiMost ts ≤ b ↔ ∀ k ∈ ts, Ty.hi k ≤ b := by
 unfold hiMost
 rw [foldl_most]
 exact ⟨fun h => h.2, fun h => ⟨Nat.zero_le _, h⟩⟩
theorem foldl_up (f g : Ty → Nat) : ∀ (l : List Ty) (a c : Nat), (∀ k ∈ l, g k = f k) → c = (if l = [] then c else c) → l.foldl (fun m k => max m (g k + 1)) (a + 1) = l.foldl (fun m k => max m (f k)) a + 1 := by
 intro l
 induction l with
 | nil => intro a c _ _; rfl
 | cons x r ih =>
  intro a c h _
  rw [List.foldl_cons, List.foldl_cons, h x (List.mem_cons_self ..)]
  have e : max (a + 1) (f x + 1) = max a (f x) + 1 := by omega
  rw [e]
  exact ih _ 0 (fun k hk => h k (List.mem_cons_of_mem _ hk)) (by simp)
theorem hi_of_kids {t : Ty} (h : Ty.ok t) : Ty.hi t = if t.kids.length = 0 then 0 else hiMost t.kids + 1 := by
 have hk : ∀ k ∈ t.kids, Ty.hgt 12 k = Ty.hi k := fun k hk => hgt_any (h.kid hk).ends (h.2.1 k hk).ends
 unfold Ty.hi
 rw [Ty.hgt]
 generalize t.kids = l at *
 cases l with
 | nil => rfl
 | cons x r =>
  rw [if_neg (by simp)]
  rw [List.foldl_cons, hk x (List.mem_cons_self ..), Nat.zero_max]
  rw [foldl_up Ty.hi (Ty.hgt 12) r (Ty.hi x) 0 (fun k hk' => hk k (List.mem_cons_of_mem _ hk')) (by simp)]
  unfold hiMost
  rw [List.foldl_cons, Nat.zero_max]
end Go.Proofs.YtbojmbeopnlmiaaGreatDoor
