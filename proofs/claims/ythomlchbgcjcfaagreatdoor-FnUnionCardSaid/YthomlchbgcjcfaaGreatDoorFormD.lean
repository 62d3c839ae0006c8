/-
  What an interface value that holds a type's form is; and the walk of impl.fieldsOk.
-/
import Derived.Test.YthomlchbgcjcfaaGreatDoorCutI
namespace Go.Proofs.YthomlchbgcjcfaaGreatDoor
open Go.RowKit

/-- the value is a slice whose elements, of one cell each, are such -/
def PartsAt (w : World) (R : Value → Ty → Prop) (v : Value) (ts : List Ty) : Prop :=
  (ts = [] ∧ ∃ a cap, v = .slice a 0 cap) ∨ ∃ b off cap, v = .slice (some ⟨b, off, none⟩) ts.length cap ∧ ts.length ≤ cap ∧ ∀ j (h : j < ts.length), ∃ u, w.cell? ⟨b, off + j, none⟩ = some u ∧ R u ts[j]

/-- the interface value of a type of its kind, with these parts and these names -/
def formV (t : Ty) (vp vn : Value) : Value :=
  if t.kind = 0 then .iface 69 (.agg #[vp]) else if t.kind = 1 then .iface 70 (.agg #[vp]) else if t.kind = 2 then .iface 71 (.agg #[vp]) else if t.kind = 3 then .iface 58 (.agg #[vp])
  else if t.kind = 4 then .iface 73 (.agg #[vp, .string t.name]) else if t.kind = 5 then .iface 76 (.agg #[vp, vn]) else if t.kind = 6 then .iface 78 (.agg #[vp]) else .iface 59 (.agg #[vp])

/-- the interface value holds the type, which is no deeper than that -/
def FormAt (w : World) : Nat → Value → Ty → Prop
  | 0, _, _ => False
  | n + 1, v, t => ∃ vp vn, v = formV t vp vn ∧ Texts w vn t.names ∧ PartsAt w (FormAt w n) vp t.kids

theorem PartsAt.below {w w' : World} {R R' : Value → Ty → Prop} {v : Value} {ts : List Ty} (h : PartsAt w R v ts) (hb : Below w.heap.size w w') (hR : ∀ u t, t ∈ ts → R u t → R' u t) : PartsAt w' R' v ts := by
  rcases h with h | ⟨b, off, cap, rfl, hcap, hc⟩
  · exact .inl h
  · refine .inr ⟨b, off, cap, rfl, hcap, fun j hj => ?_⟩
    obtain ⟨u, h1, h2⟩ := hc j hj
    exact ⟨u, (hb.cell (p := ⟨b, off + j, none⟩) (World.block_lt_of_cell? w ⟨b, off + j, none⟩ h1)).trans h1, hR u _ (List.getElem_mem hj) h2⟩
theorem FormAt.below {w w' : World} {n : Nat} {v : Value} {t : Ty} (h : FormAt w n v t) (hb : Below w.heap.size w w') : FormAt w' n v t := by
  induction n generalizing v t with
  | zero => exact h.elim
  | succ n ih =>
    obtain ⟨vp, vn, h1, h2, h3⟩ := h
    exact ⟨vp, vn, h1, h2.below hb, h3.below hb fun u t _ h => ih h⟩

/-- the texts lie below block B -/
def TextsB (w : World) (B : Nat) (v : Value) (ts : List ByteArray) : Prop := ∀ w' : World, (∀ b, b < B → w'.heap[b]? = w.heap[b]?) → Texts w' v ts

/-- the value is a slice whose elements, of one cell each, are such, all of it in blocks lo up to hi -/
def PartsIn (w : World) (R : Nat → Nat → Value → Ty → Prop) (lo hi : Nat) (v : Value) (ts : List Ty) : Prop :=
  (ts = [] ∧ ∃ a cap, v = .slice a 0 cap) ∨ ∃ b cap, v = .slice (some ⟨b, 0, none⟩) ts.length cap ∧ ts.length ≤ cap ∧ lo ≤ b ∧ b < hi ∧ ∀ j (h : j < ts.length), ∃ l' h' u, lo ≤ l' ∧ h' ≤ hi ∧ w.cell? ⟨b, j, none⟩ = some u ∧ R l' h' u ts[j]

/-- the interface value holds the type; its own memory is in blocks lo up to hi, its names below block B -/
def FormIn (w : World) (B : Nat) : Nat → Nat → Nat → Value → Ty → Prop
  | 0, _, _, _, _ => False
  | n + 1, lo, hi, v, t => ∃ vp vn, v = formV t vp vn ∧ TextsB w B vn t.names ∧ PartsIn w (FormIn w B n) lo hi vp t.kids

theorem TextsB.same {w w' : World} {B : Nat} {v : Value} {ts : List ByteArray} (h : TextsB w B v ts) (hB : ∀ b, b < B → w'.heap[b]? = w.heap[b]?) : TextsB w' B v ts := fun w'' h2 => h w'' fun b hb => (h2 b hb).trans (hB b hb)

theorem FormIn.same {w w' : World} {B n lo hi : Nat} {v : Value} {t : Ty} (h : FormIn w B n lo hi v t) (hB : ∀ b, b < B → w'.heap[b]? = w.heap[b]?) (hs : ∀ b, lo ≤ b → b < hi → w'.heap[b]? = w.heap[b]?) : FormIn w' B n lo hi v t := by
  induction n generalizing lo hi v t with
  | zero => exact h.elim
  | succ n ih =>
    obtain ⟨vp, vn, h1, h2, h3⟩ := h
    refine ⟨vp, vn, h1, h2.same hB, ?_⟩
    rcases h3 with h3 | ⟨b, cap, e, g0, g1, g2, g3⟩
    · exact .inl h3
    · refine .inr ⟨b, cap, e, g0, g1, g2, fun j hj => ?_⟩
      obtain ⟨l', h', u, q1, q2, q3, q4⟩ := g3 j hj
      refine ⟨l', h', u, q1, q2, ?_, ih q4 fun x hx1 hx2 => hs x (by omega) (by omega)⟩
      rw [← q3]
      simp only [World.cell?, hs b g1 g2]

theorem FormIn.mono {w : World} {B n lo hi lo' hi' : Nat} {v : Value} {t : Ty} (h : FormIn w B n lo hi v t) (hl : lo' ≤ lo) (hh : hi ≤ hi') : FormIn w B n lo' hi' v t := by
  cases n with
  | zero => exact h.elim
  | succ n =>
    obtain ⟨vp, vn, h1, h2, h3⟩ := h
    refine ⟨vp, vn, h1, h2, ?_⟩
    rcases h3 with h3 | ⟨b, cap, e, g0, g1, g2, g3⟩
    · exact .inl h3
    · refine .inr ⟨b, cap, e, g0, by omega, by omega, fun j hj => ?_⟩
      obtain ⟨l', h', u, q1, q2, q3, q4⟩ := g3 j hj
      exact ⟨l', h', u, by omega, by omega, q3, q4⟩

theorem FormIn.at {w : World} {B n lo hi : Nat} {v : Value} {t : Ty} (h : FormIn w B n lo hi v t) : FormAt w n v t := by
  induction n generalizing lo hi v t with
  | zero => exact h.elim
  | succ n ih =>
    obtain ⟨vp, vn, h1, h2, h3⟩ := h
    refine ⟨vp, vn, h1, h2 w fun _ _ => rfl, ?_⟩
    rcases h3 with h3 | ⟨b, cap, e, g0, g1, g2, g3⟩
    · exact .inl h3
    · refine .inr ⟨b, 0, cap, e, g0, fun j hj => ?_⟩
      obtain ⟨l', h', u, q1, q2, q3, q4⟩ := g3 j hj
      exact ⟨u, by rw [Nat.zero_add]; exact q3, ih q4⟩

/-- whether a record's names are right for so many kids -/
def FieldsRight (nms : List ByteArray) (k : Nat) : Prop := (∀ x ∈ nms, Lx.nameOkP x = true) ∧ nms.length = k ∧ Ascend nms

set_option maxHeartbeats 1600000 in
set_option maxRecDepth 100000 in
open Classical in
theorem implFieldsOk (vn : Value) (nms : List ByteArray) (ap : Option Addr) (lp cp : Nat) (w : World) (hT : Texts w vn nms) (hl : nms.length ≤ 1048576) (hns : ∀ x ∈ nms, x.size ≤ 1048576) (hc : ClsIs w) (hcl : 1 < w.heap.size) :
    Calls Tryz.prog 38 #[vn, .slice ap lp cp] w fun e w' => e = .returned (.bool (decide (FieldsRight nms lp))) ∧ Below w.heap.size w w' := by
  have HT : Hid (Texts w vn nms) := hT
  obtain ⟨a, cap, rfl, hcs⟩ : ∃ a cap, vn = .slice a nms.length cap ∧ ∀ j (h : j < nms.length), ∃ b off, a = some ⟨b, off, none⟩ ∧ w.cell? ⟨b, off + j, none⟩ = some (.string nms[j]) := by
    rcases hT with ⟨h, a, cap, e⟩ | ⟨b, off, cap, e, hc⟩
    · subst h; exact ⟨a, cap, e, fun j hj => absurd hj (by simp)⟩
    · exact ⟨_, cap, e, fun j hj => ⟨b, off, rfl, hc j hj⟩⟩
  have HC : Hid (type_of% hcs) := hcs
  have HCL : Hid (∀ wx : World, Below w.heap.size w wx → ClsIs wx) := fun wx hx => hc.below hx hcl
  have HSZ : Hid (type_of% hns) := hns
  obtain ⟨RR, hRR⟩ : ∃ RR, RR = decide (FieldsRight nms lp) := ⟨_, rfl⟩
  rw [← hRR]
  have HNO : Hid (¬ FieldsRight nms lp → RR = false) := fun h => by rw [hRR]; exact decide_eq_false h
  have HYES : Hid (FieldsRight nms lp → RR = true) := fun h => by rw [hRR]; exact decide_eq_true h
  clear hRR hT hcs hc hcl hns
  go_enter Tryz.func38, Tryz.ntmps38
  go_wp2_with fail
  go_loopw [9] (fun i wr => ∃ k : Nat, k ≤ nms.length ∧ i = .int .i64 k ∧ (∀ j (hj : j < nms.length), j < k → Lx.nameOkP nms[j] = true) ∧ Below w.heap.size w wr) (fun i _ => nms.length - (intOf i).toNat)
  case atStart => exact ⟨0, Nat.zero_le _, rfl, fun j _ h => absurd h (by omega), Below.refl _ _⟩
  case round =>
    obtain ⟨k, hk, rfl, hall, hbe⟩ := hrel
    have HALL : Hid (type_of% hall) := hall
    clear hall
    by_cases hlt : k < nms.length
    · obtain ⟨b, off, rfl, c0⟩ := HC.out k hlt
      have hb : b < w.heap.size := World.block_lt_of_cell? w ⟨b, off + k, none⟩ c0
      have C0 := (hbe.cell (p := ⟨b, off + k, none⟩) hb).trans c0
      have HN0 := implNameOk nms[k] wr (by have := HSZ.out _ (List.getElem_mem hlt); omega) (HCL.out wr hbe)
      cases hr : Lx.nameOkP nms[k] with
      | true =>
        have HA2 : Hid (∀ j (hj : j < nms.length), j < k + 1 → Lx.nameOkP nms[j] = true) := fun j hj hjk => by
          by_cases c : j = k
          · subst c; exact hr
          · exact HALL.out j hj (by omega)
        rw [hr] at HN0
        have HN : Hid (type_of% HN0) := HN0
        clear HN0 hr c0 HALL HNO HYES HC HSZ HCL HT
        generalize nms[k] = x at *
        go_wp2_with fail
        refine HN.out.mono ?_
        rintro e w2 ⟨rfl, rfl⟩
        go_wp2_with fail
        go_roundw
        case rel => exact ⟨k + 1, by omega, by go_num, HA2.out, hbe⟩
        case measure => simp [intOf]; omega
      | false =>
        have HR : Hid (RR = false) := HNO.out fun h => by
          have := h.1 _ (List.getElem_mem hlt)
          rw [hr] at this
          cases this
        rw [hr] at HN0
        have HN : Hid (type_of% HN0) := HN0
        clear HN0 hr c0 HALL HNO HYES HC HSZ HCL HT
        generalize nms[k] = x at *
        go_wp2_with fail
        refine HN.out.mono ?_
        rintro e w2 ⟨rfl, rfl⟩
        go_wp2_with fail
        go_ret
        exact ⟨by rw [HR.out]; rfl, hbe⟩
    · have HAN : Hid (∀ x ∈ nms, Lx.nameOkP x = true) := fun x hx => by
        obtain ⟨j, hj, rfl⟩ := List.getElem_of_mem hx
        exact HALL.out j hj (by omega)
      have HA0 := implAscends _ nms wr (HT.out.below hbe) (by omega)
      by_cases h2 : nms.length = lp
      · have h2i : ((nms.length : Int) == (lp : Int)) = true := by rw [beq_iff_eq]; omega
        by_cases h3 : Ascend nms
        · have HR : Hid (RR = true) := HYES.out ⟨HAN.out, h2, h3⟩
          rw [decide_eq_true h3] at HA0
          have HA : Hid (type_of% HA0) := HA0
          clear HA0 h2 h3 HALL HNO HYES HC HSZ HCL HT HAN
          go_wp2_with fail
          refine HA.out.mono ?_
          rintro e w2 ⟨rfl, hb2⟩
          go_wp2_with fail
          go_ret
          exact ⟨by rw [HR.out]; rfl, hbe.trans (hb2.mono hbe.size)⟩
        · have HR : Hid (RR = false) := HNO.out fun h => h3 h.2.2
          rw [decide_eq_false h3] at HA0
          have HA : Hid (type_of% HA0) := HA0
          clear HA0 h2 h3 HALL HNO HYES HC HSZ HCL HT HAN
          go_wp2_with fail
          refine HA.out.mono ?_
          rintro e w2 ⟨rfl, hb2⟩
          go_wp2_with fail
          go_ret
          exact ⟨by rw [HR.out]; rfl, hbe.trans (hb2.mono hbe.size)⟩
      · have HR : Hid (RR = false) := HNO.out fun h => h2 h.2.1
        have h2i : ((nms.length : Int) == (lp : Int)) = false := by rw [beq_eq_false_iff_ne]; omega
        clear HA0 h2 HALL HNO HYES HC HSZ HCL HT HAN
        go_wp2_with fail
        go_ret
        exact ⟨by rw [HR.out]; rfl, hbe⟩

end Go.Proofs.YthomlchbgcjcfaaGreatDoor
