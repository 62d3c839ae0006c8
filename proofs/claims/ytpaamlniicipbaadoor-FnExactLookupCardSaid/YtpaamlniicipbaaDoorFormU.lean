/-
  The walk of impl.unionKidsOk.
  When a type of each kind is right, as impl asks it.
  The walk of impl.formOf.
-/
import Derived.Test.YtpaamlniicipbaaDoorTextL
import Derived.Lib.QuietBelow
namespace Go.Proofs.YtpaamlniicipbaaDoor
open Go.RowKit Go.Shelf

/-- whether these are right as a union's -/
def KidsRight (n : Nat) (ks : List Ty) : Prop := 2 ≤ ks.length ∧ (∀ q ∈ ks, q.kind ≠ 3 ∧ q.kind ≠ 7) ∧ Ascend (textsP n ks)

set_option maxHeartbeats 1600000 in
set_option maxRecDepth 100000 in
open Classical in
theorem implUnionKidsOk (n : Nat) (vp : Value) (ks : List Ty) (d : Int) (w : World) (hp : PartsAt w (FormAt w n) vp ks) (hr : ∀ q ∈ ks, Right n q d) (hbk : rowBulk n ks ≤ 1048576) :
    Calls Tryd.prog 61 #[vp] w fun e w' => e = .returned (.bool (decide (KidsRight n ks))) ∧ Below w.heap.size w w' := by
  obtain ⟨av, capv, rfl, hel⟩ := partsOpen hp
  have hlen : ks.length ≤ 1048576 := by unfold rowBulk at hbk; omega
  have HTX : Hid (∀ wx : World, Below w.heap.size w wx → Calls Tryd.prog 68 #[.slice av ks.length capv] wx fun e w' => ∃ (a : Option Addr) (c : Nat), e = .returned (.slice a ks.length c) ∧ w'.ownsRow wx.heap.size 9 1 (.slice a ks.length c) ks.length (strV (textsP n ks)) ∧ Below wx.heap.size wx w') := fun wx hx => implTexts n (implTextOf n) _ ks d wx (hp.below hx fun u t _ h => h.below hx) hr hbk
  have HEL : Hid (∀ k (hk : k < ks.length), ∃ b off T x, av = some ⟨b, off, none⟩ ∧ b < w.heap.size ∧ w.cell? ⟨b, off + k, none⟩ = some (.iface T x) ∧ (∃ a l c, ∀ wx : World, (Instr.typeAssert (.iface T x) 66 88 true).run Tryd.prog wx = .ok (.tuple #[.agg #[.slice a l c], .bool (decide (ks[k].kind = 3))]) wx) ∧ (∃ a l c, ∀ wx : World, (Instr.typeAssert (.iface T x) 66 95 true).run Tryd.prog wx = .ok (.tuple #[.agg #[.slice a l c], .bool (decide (ks[k].kind = 7))]) wx)) := fun k hk => by
    obtain ⟨b, off, u, h1, h2, h3⟩ := hel k hk
    obtain ⟨T, x, rfl⟩ := form_iface h3
    exact ⟨b, off, T, x, h1, World.block_lt_of_cell? w ⟨b, off + k, none⟩ h2, h2, assertAny h3, assertUnion h3 (right_kind (hr _ (List.getElem_mem hk)))⟩
  obtain ⟨RR, hRR⟩ : ∃ RR, RR = decide (KidsRight n ks) := ⟨_, rfl⟩
  rw [← hRR]
  have HNO : Hid (¬ KidsRight n ks → RR = false) := fun h => by rw [hRR]; exact decide_eq_false h
  have HYES : Hid (KidsRight n ks → RR = true) := fun h => by rw [hRR]; exact decide_eq_true h
  have HTL : Hid ((textsP n ks).length = ks.length) := textsP_len n ks
  clear hRR hp hr hbk hel
  by_cases h2 : ks.length < 2
  · have HR : Hid (RR = false) := HNO.out fun h => by have := h.1; omega
    clear HTX HEL HNO HYES HTL
    go_enter Tryd.func61, Tryd.ntmps61
    go_wp2_with fail
    go_ret
    exact ⟨by rw [HR.out]; rfl, Below.refl _ _⟩
  · go_enter Tryd.func61, Tryd.ntmps61
    go_wp2_with fail
    go_loopw [10] (fun i wr => ∃ (k : Nat), k ≤ ks.length ∧ i = .int .i64 k ∧ (∀ j (hj : j < ks.length), j < k → ks[j].kind ≠ 3 ∧ ks[j].kind ≠ 7) ∧ Below w.heap.size w wr) (fun i _ => ks.length - (intOf i).toNat)
    case atStart => exact ⟨0, Nat.zero_le _, rfl, fun j _ h => absurd h (by omega), Below.refl _ _⟩
    case round =>
      obtain ⟨k, hk, rfl, hall, hbe⟩ := hrel
      have HALL : Hid (type_of% hall) := hall
      have hzw : w.heap.size ≤ wr.heap.size := hbe.size
      clear hall
      by_cases hlt : k < ks.length
      · obtain ⟨b, off, T, x, rfl, hb, c0, ⟨a1, l1, c1, hA1⟩, ⟨a2, l2, c2, hA2⟩⟩ := HEL.out k hlt
        have C0 := (hbe.cell (p := ⟨b, off + k, none⟩) hb).trans c0
        by_cases h3 : ks[k].kind = 3
        · have HR : Hid (RR = false) := HNO.out fun h => (h.2.1 _ (List.getElem_mem hlt)).1 h3
          rw [decide_eq_true h3] at hA1
          rw [decide_eq_false (by omega)] at hA2
          clear c0 HTX HEL HNO HYES HTL HALL h3
          go_wp2_with fail
          go_ret
          exact ⟨by rw [HR.out]; rfl, hbe⟩
        · rw [decide_eq_false h3] at hA1
          by_cases h7 : ks[k].kind = 7
          · have HR : Hid (RR = false) := HNO.out fun h => (h.2.1 _ (List.getElem_mem hlt)).2 h7
            rw [decide_eq_true h7] at hA2
            clear c0 HTX HEL HNO HYES HTL HALL h7 h3
            go_wp2_with fail
            go_ret
            exact ⟨by rw [HR.out]; rfl, hbe⟩
          · rw [decide_eq_false h7] at hA2
            have HA2 : Hid (∀ j (hj : j < ks.length), j < k + 1 → ks[j].kind ≠ 3 ∧ ks[j].kind ≠ 7) := fun j hj hjk => by
              by_cases c : j = k
              · subst c; exact ⟨h3, h7⟩
              · exact HALL.out j hj (by omega)
            clear c0 HTX HEL HNO HYES HTL HALL h7 h3
            go_wp2_with fail
            go_roundw
            case rel => exact ⟨k + 1, by omega, by go_num, HA2.out, hbe⟩
            case measure => simp [intOf]; omega
      · have HAQ : Hid (∀ q ∈ ks, q.kind ≠ 3 ∧ q.kind ≠ 7) := fun q hq => by
          obtain ⟨j, hj, rfl⟩ := List.getElem_of_mem hq
          exact HALL.out j hj (by omega)
        have HRA : Hid (decide (Ascend (textsP n ks)) = RR) := by
          show _ = _
          by_cases hA : Ascend (textsP n ks)
          · rw [decide_eq_true hA]; exact (HYES.out ⟨by omega, HAQ.out, hA⟩).symm
          · rw [decide_eq_false hA]; exact (HNO.out fun h => hA h.2.2).symm
        have HT2 := HTX.out wr hbe
        have HT : Hid (type_of% HT2) := HT2
        clear HT2 HTX HEL HNO HYES HALL HAQ
        go_wp2_with fail
        refine HT.out.mono ?_
        rintro e w2 ⟨a, c, rfl, ho, hb2⟩
        have hb02 : Below w.heap.size w w2 := hbe.trans (hb2.mono hzw)
        have hTx : Texts w2 (.slice a ks.length c) (textsP n ks) := by
          rcases ho.2 with ⟨hv, h0⟩ | ⟨g, cap, cur, hv, _⟩
          · omega
          · simp only [Value.slice.injEq, true_and] at hv
            obtain ⟨rfl, rfl⟩ := hv
            have ho' := ho
            rw [← HTL.out] at ho' ⊢
            exact Texts.own ho'
        have HA0 := implAscends _ _ w2 hTx (by rw [HTL.out]; omega)
        rw [HRA.out] at HA0
        have HA : Hid (type_of% HA0) := HA0
        clear HA0 hTx ho hb2 HT HRA HTL
        go_wp2_with fail
        refine HA.out.mono ?_
        rintro e w3 ⟨rfl, hb3⟩
        go_wp2_with fail
        go_ret
        exact ⟨rfl, hb02.trans (hb3.mono hb02.size)⟩

end Go.Proofs.YtpaamlniicipbaaDoor

namespace Go.Proofs.YtpaamlniicipbaaDoor
open Go.RowKit Go.Shelf

theorem ownAlone_iff (kd : Int) (nm : ByteArray) (ln lk : Nat) : ownAlone kd nm ln lk = true ↔ (kd = 4 ∨ nm.size = 0) ∧ (kd = 5 ∨ ln = 0) ∧ (5 ≤ kd ∨ lk = 0) := by
  unfold ownAlone
  simp only [Bool.and_eq_true, decide_eq_true_eq]
  exact ⟨fun h => ⟨h.1.1, h.1.2, h.2⟩, fun h => ⟨⟨h.1, h.2.1⟩, h.2.2⟩⟩

theorem right_alone {n : Nat} {t : Ty} (h : OwnRight n t) : ownAlone t.kind t.name t.names.length t.kids.length = true := by
  rw [ownAlone_iff]
  rcases h with ⟨h1, h2, h3, h4⟩ | ⟨h1, h2, h3, h4⟩ | ⟨h1, h2, h3, h4⟩ | ⟨h1, h2, h3, h4⟩ | ⟨h1, h2, h3, h4, h5⟩
  · exact ⟨.inr h2, .inr h3, .inr h4⟩
  · exact ⟨.inl h1, .inr h3, .inr h4⟩
  · exact ⟨.inr h3, .inl h1, .inl (by omega)⟩
  · exact ⟨.inr h2, .inr h3, .inl (by omega)⟩
  · exact ⟨.inr h3, .inr h4, .inl (by omega)⟩

theorem own_plain {n : Nat} {kd : Int} {nm : ByteArray} {nms : List ByteArray} {ks : List Ty} (hk : kd = 0 ∨ kd = 1 ∨ kd = 2 ∨ kd = 3) (h : ownAlone kd nm nms.length ks.length = true) : OwnRight n (.mk kd nm nms ks) := by
  rw [ownAlone_iff] at h
  exact .inl ⟨hk, by show nm.size = 0; omega, by show nms.length = 0; omega, by show ks.length = 0; omega⟩

theorem own_name {n : Nat} {nm : ByteArray} {nms : List ByteArray} {ks : List Ty} (h : ownAlone 4 nm nms.length ks.length = true) : OwnRight n (.mk 4 nm nms ks) ↔ dottedP nm = true := by
  rw [ownAlone_iff] at h
  constructor
  · rintro (⟨h1, _⟩ | ⟨_, h2, _⟩ | ⟨h1, _⟩ | ⟨h1, _⟩ | ⟨h1, _⟩)
    · exact absurd h1 (by show ¬ ((4 : Int) = 0 ∨ (4 : Int) = 1 ∨ (4 : Int) = 2 ∨ (4 : Int) = 3); omega)
    · exact h2
    · exact absurd h1 (by show ¬ (4 : Int) = 5; omega)
    · exact absurd h1 (by show ¬ (4 : Int) = 6; omega)
    · exact absurd h1 (by show ¬ (4 : Int) = 7; omega)
  · intro hd
    exact .inr (.inl ⟨rfl, hd, by show nms.length = 0; omega, by show ks.length = 0; omega⟩)

theorem own_record {n : Nat} {nm : ByteArray} {nms : List ByteArray} {ks : List Ty} (h : ownAlone 5 nm nms.length ks.length = true) : OwnRight n (.mk 5 nm nms ks) ↔ FieldsRight nms ks.length := by
  rw [ownAlone_iff] at h
  constructor
  · rintro (⟨h1, _⟩ | ⟨h1, _⟩ | ⟨_, h2, _, h4⟩ | ⟨h1, _⟩ | ⟨h1, _⟩)
    · exact absurd h1 (by show ¬ ((5 : Int) = 0 ∨ (5 : Int) = 1 ∨ (5 : Int) = 2 ∨ (5 : Int) = 3); omega)
    · exact absurd h1 (by show ¬ (5 : Int) = 4; omega)
    · refine ⟨fun x hx => ?_, h4, fun i hi h0 => (h2 i hi).2 h0⟩
      obtain ⟨j, hj, rfl⟩ := List.getElem_of_mem hx
      exact (h2 j hj).1
    · exact absurd h1 (by show ¬ (5 : Int) = 6; omega)
    · exact absurd h1 (by show ¬ (5 : Int) = 7; omega)
  · rintro ⟨h1, h2, h3⟩
    exact .inr (.inr (.inl ⟨rfl, fun i hi => ⟨h1 _ (List.getElem_mem hi), fun h0 => h3 i hi h0⟩, by show nm.size = 0; omega, h2⟩))

theorem own_fn {n : Nat} {nm : ByteArray} {nms : List ByteArray} {ks : List Ty} (h : ownAlone 6 nm nms.length ks.length = true) : OwnRight n (.mk 6 nm nms ks) ↔ 0 < ks.length := by
  rw [ownAlone_iff] at h
  constructor
  · rintro (⟨h1, _⟩ | ⟨h1, _⟩ | ⟨h1, _⟩ | ⟨_, _, _, h4⟩ | ⟨h1, _⟩)
    · exact absurd h1 (by show ¬ ((6 : Int) = 0 ∨ (6 : Int) = 1 ∨ (6 : Int) = 2 ∨ (6 : Int) = 3); omega)
    · exact absurd h1 (by show ¬ (6 : Int) = 4; omega)
    · exact absurd h1 (by show ¬ (6 : Int) = 5; omega)
    · exact h4
    · exact absurd h1 (by show ¬ (6 : Int) = 7; omega)
  · intro h1
    exact .inr (.inr (.inr (.inl ⟨rfl, by show nm.size = 0; omega, by show nms.length = 0; omega, h1⟩)))

theorem own_union {n : Nat} {nm : ByteArray} {nms : List ByteArray} {ks : List Ty} (h : ownAlone 7 nm nms.length ks.length = true) : OwnRight n (.mk 7 nm nms ks) ↔ KidsRight n ks := by
  rw [ownAlone_iff] at h
  constructor
  · rintro (⟨h1, _⟩ | ⟨h1, _⟩ | ⟨h1, _⟩ | ⟨h1, _⟩ | ⟨_, h2, _, _, h5⟩)
    · exact absurd h1 (by show ¬ ((7 : Int) = 0 ∨ (7 : Int) = 1 ∨ (7 : Int) = 2 ∨ (7 : Int) = 3); omega)
    · exact absurd h1 (by show ¬ (7 : Int) = 4; omega)
    · exact absurd h1 (by show ¬ (7 : Int) = 5; omega)
    · exact absurd h1 (by show ¬ (7 : Int) = 6; omega)
    · refine ⟨h5, fun q hq => ?_, fun i hi h0 => ?_⟩
      · obtain ⟨j, hj, rfl⟩ := List.getElem_of_mem hq
        exact ⟨(h2 j hj).1.2, (h2 j hj).1.1⟩
      · have hik : i < ks.length := by rw [textsP_len] at hi; exact hi
        have := (h2 i hik).2 h0
        rw [textsP_get n ks i hi hik, textsP_get n ks (i - 1) (by omega) (by omega)]
        exact this
  · rintro ⟨h1, h2, h3⟩
    refine .inr (.inr (.inr (.inr ⟨rfl, fun i hi => ⟨⟨(h2 _ (List.getElem_mem hi)).2, (h2 _ (List.getElem_mem hi)).1⟩, fun h0 => ?_⟩, by show nm.size = 0; omega, by show nms.length = 0; omega, h1⟩)))
    have hit : i < (textsP n ks).length := by rw [textsP_len]; exact hi
    have := h3 i hit h0
    rw [textsP_get n ks i hit hi, textsP_get n ks (i - 1) (by omega) (by have : i < ks.length := hi; omega)] at this
    exact this

theorem own_other {n : Nat} {kd : Int} {nm : ByteArray} {nms : List ByteArray} {ks : List Ty} (hk : kd < 0 ∨ 7 < kd) : ¬ OwnRight n (.mk kd nm nms ks) := by
  rintro (⟨h1, _⟩ | ⟨h1, _⟩ | ⟨h1, _⟩ | ⟨h1, _⟩ | ⟨h1, _⟩) <;> simp only at h1 <;> omega

theorem Texts.same {w w' : World} {v : Value} {ts : List ByteArray} (h : Texts w v ts) (hs : ∀ b, b < w.heap.size → w'.heap[b]? = w.heap[b]?) : Texts w' v ts := by
  rcases h with h | ⟨b, off, cap, rfl, hc⟩
  · exact .inl h
  · refine .inr ⟨b, off, cap, rfl, fun j hj => ?_⟩
    have h1 := hc j hj
    have hb : b < w.heap.size := World.block_lt_of_cell? w ⟨b, off + j, none⟩ h1
    rw [← h1]
    simp only [World.cell?, hs b hb]

theorem PartsIn.step {w w' : World} {B n lo hi lo' hi' : Nat} {v : Value} {ks : List Ty} (h : PartsIn w (FormIn w B n) lo hi v ks) (hb : Below w.heap.size w w') (hB : B ≤ w.heap.size) (hh : hi ≤ w.heap.size) (hl : lo' ≤ lo) (hi2 : hi ≤ hi') : PartsIn w' (FormIn w' B n) lo' hi' v ks := by
  rcases h with h | ⟨b, cap, e, g0, g1, g2, g3⟩
  · exact .inl h
  · refine .inr ⟨b, cap, e, g0, by omega, by omega, fun j hj => ?_⟩
    obtain ⟨l', h', u, q1, q2, q3, q4⟩ := g3 j hj
    refine ⟨l', h', u, by omega, by omega, ?_, q4.same (fun x hx => hb.block x (by omega)) fun x _ hx2 => hb.block x (by omega)⟩
    exact (hb.cell (p := ⟨b, j, none⟩) (World.block_lt_of_cell? w ⟨b, j, none⟩ q3)).trans q3

theorem PartsIn.parts {w : World} {B n lo hi : Nat} {v : Value} {ks : List Ty} (h : PartsIn w (FormIn w B n) lo hi v ks) : PartsAt w (FormAt w n) v ks := by
  rcases h with h | ⟨b, cap, e, g0, g1, g2, g3⟩
  · exact .inl h
  · refine .inr ⟨b, 0, cap, e, g0, fun j hj => ?_⟩
    obtain ⟨l', h', u, q1, q2, q3, q4⟩ := g3 j hj
    exact ⟨u, by rw [Nat.zero_add]; exact q3, q4.at⟩

end Go.Proofs.YtpaamlniicipbaaDoor

namespace Go.Proofs.YtpaamlniicipbaaDoor
open Go.RowKit Go.Shelf Go.Sort

/-- what formOf leaves, at that depth -/
def FormPost (n : Nat) (t : Ty) (d : Int) (W w : World) (e : Ending) (w' : World) : Prop := ∃ (v : Value) (ok : Bool), e = .returned (.tuple #[v, .bool ok]) ∧ (ok = true ↔ Right n t d) ∧ (ok = true → FormIn w' W.heap.size n w.heap.size w'.heap.size v t) ∧ Below w.heap.size w w'

theorem form_no {n : Nat} {t : Ty} {d : Int} {W w w' : World} {v : Value} (h : ¬ Right n t d) (hb : Below w.heap.size w w') : FormPost n t d W w (.returned (.tuple #[v, .bool false])) w' := ⟨v, false, rfl, ⟨fun h => Bool.noConfusion h, fun q => absurd q h⟩, fun h => Bool.noConfusion h, hb⟩
theorem form_if {n : Nat} {t : Ty} {d : Int} {W w w' : World} {v : Value} {b : Bool} (h : b = true ↔ Right n t d) (hf : FormIn w' W.heap.size n w.heap.size w'.heap.size v t) (hb : Below w.heap.size w w') : FormPost n t d W w (.returned (.tuple #[v, .bool b])) w' := ⟨v, b, rfl, h, fun _ => hf, hb⟩

set_option maxHeartbeats 3200000 in
set_option maxRecDepth 100000 in
open Classical in
theorem implFormStep (n : Nat) (ih : FormOfAt n) (kd : Int) (nm : ByteArray) (nms : List ByteArray) (ks : List Ty) (an ak : Option Addr) (cn ck deep : Nat) (W w : World) (hT : Texts W (.slice an nms.length cn) nms) (hrow : RowAt W (TyAt W n) (.slice ak ks.length ck) ks) (hWw : Below W.heap.size W w) (hbk : rowBulk n ks ≤ 1048576) (hnm : nm.size ≤ 1048576) (hnl : nms.length ≤ 1048576) (hns : ∀ x ∈ nms, x.size ≤ 1048576) (hd : deep ≤ 14) (hc : ClsIs W) (hcl : 0 < W.heap.size) :
    Calls Tryd.prog 41 #[.agg #[.int .i64 kd, .string nm, .slice an nms.length cn, .slice ak ks.length ck], .int .i64 deep] w fun e w' => FormPost (n + 1) (.mk kd nm nms ks) (12 - (deep : Int)) W w e w' := by
  have hB1 : Below w.heap.size w (w.alloc (.cells #[.int .i64 kd, .string nm, .slice an nms.length cn, .slice ak ks.length ck] 32)) := (Below.refl _ _).alloc (Nat.le_refl _) _
  have hWz : W.heap.size ≤ w.heap.size := hWw.size
  by_cases hdd : 12 < deep
  · have HNR : Hid (¬ Right (n + 1) (.mk kd nm nms ks) (12 - (deep : Int))) := fun h => by have := h.1; omega
    clear hT hrow hc hcl ih hns hbk
    go_enter Tryd.func41, Tryd.ntmps41
    go_wp2_with fail
    go_ret2
    exact form_no HNR.out hB1
  have HBX : Hid (∀ wx : World, Below (w.heap.size + 1) (w.alloc (.cells #[.int .i64 kd, .string nm, .slice an nms.length cn, .slice ak ks.length ck] 32)) wx → (wx.cell? ⟨w.heap.size, 0, none⟩ = some (.int .i64 kd) ∧ wx.cell? ⟨w.heap.size, 1, none⟩ = some (.string nm) ∧ wx.cell? ⟨w.heap.size, 2, none⟩ = some (.slice an nms.length cn) ∧ wx.cell? ⟨w.heap.size, 3, none⟩ = some (.slice ak ks.length ck)) ∧ Below w.heap.size w wx ∧ w.heap.size + 1 ≤ wx.heap.size) := fun wx hx => boxedR hx
  have HOA0 := implOwnAlone kd nm an ak nms.length cn ks.length ck (w.alloc (.cells #[.int .i64 kd, .string nm, .slice an nms.length cn, .slice ak ks.length ck] 32))
  cases hoa : ownAlone kd nm nms.length ks.length with
  | false =>
    have HNR : Hid (¬ Right (n + 1) (.mk kd nm nms ks) (12 - (deep : Int))) := fun h => by
      have h2 : ownAlone kd nm nms.length ks.length = true := right_alone h.2.2
      rw [hoa] at h2
      cases h2
    rw [hoa] at HOA0
    have HOA : Hid (type_of% HOA0) := HOA0
    clear hT hrow hc hcl ih hns hbk hoa HOA0
    go_enter Tryd.func41, Tryd.ntmps41
    go_wp2_with fail
    refine HOA.out.mono ?_
    rintro e w2 ⟨rfl, hb2⟩
    go_wp2_with fail
    go_ret2
    exact form_no HNR.out (hB1.trans (hb2.mono (by simp)))
  | true =>
    rw [hoa] at HOA0
    have HOA : Hid (type_of% HOA0) := HOA0
    have HFS : Hid (∀ wx : World, Below W.heap.size W wx → Calls Tryd.prog 59 #[.slice ak ks.length ck, .int .i64 ((deep : Int) + 1)] wx fun e w' => ∃ (a : Option Addr) (l c : Nat) (ok : Bool), e = .returned (.tuple #[.slice a l c, .bool ok]) ∧ (ok = true ↔ ∀ q ∈ ks, Right n q (12 - (deep : Int) - 1)) ∧ (ok = true → l = ks.length ∧ PartsIn w' (FormIn w' W.heap.size n) wx.heap.size w'.heap.size (.slice a l c) ks) ∧ Below wx.heap.size wx w') := fun wx hx => by
      have := implForms n ih (.slice ak ks.length ck) ks (deep + 1) W wx hrow hx hbk (by omega) hc hcl
      have e : (12 - ((deep + 1 : Nat) : Int)) = 12 - (deep : Int) - 1 := by omega
      rw [e] at this
      exact this
    clear HOA0
    go_enter Tryd.func41, Tryd.ntmps41
    go_wp2_with fail
    refine HOA.out.mono ?_
    rintro e w2 ⟨rfl, hb2⟩
    have D2 : Below (w.heap.size + 1) (w.alloc (.cells #[.int .i64 kd, .string nm, .slice an nms.length cn, .slice ak ks.length ck] 32)) w2 := hb2.mono (by simp)
    obtain ⟨⟨b0, b1, b2, b3⟩, hbw2, hz2⟩ := HBX.out w2 D2
    have hWw2 : Below W.heap.size W w2 := hWw.trans (hbw2.mono hWz)
    clear HOA hb2
    go_wp2_with fail
    refine (HFS.out w2 hWw2).mono ?_
    rintro e w3 ⟨a, l, c, ok, rfl, hok, hpt, hb3⟩
    have D3 : Below (w.heap.size + 1) (w.alloc (.cells #[.int .i64 kd, .string nm, .slice an nms.length cn, .slice ak ks.length ck] 32)) w3 := D2.trans (hb3.mono hz2)
    have HOK : Hid (type_of% hok) := hok
    have HPT : Hid (type_of% hpt) := hpt
    clear b0 b1 b2 b3 HFS hok hpt D2
    obtain ⟨⟨b0, b1, b2, b3⟩, hbw3, hz3⟩ := HBX.out w3 D3
    cases ok with
    | false =>
      have HNR : Hid (¬ Right (n + 1) (.mk kd nm nms ks) (12 - (deep : Int))) := fun h => by
        have := HOK.out.2 h.2.1
        cases this
      clear hT hrow hc hcl ih hns hbk hoa HOK HPT
      go_wp2_with fail
      go_ret2
      exact form_no HNR.out hbw3
    | true =>
      obtain ⟨hl, hP3⟩ := HPT.out rfl
      subst hl
      have hz23 := hb3.size
      have hKR : ∀ q ∈ ks, Right n q (12 - (deep : Int) - 1) := HOK.out.1 rfl
      have HRI : Hid (Right (n + 1) (.mk kd nm nms ks) (12 - (deep : Int)) ↔ OwnRight n (.mk kd nm nms ks)) := ⟨fun h => h.2.2, fun h => ⟨by omega, hKR, h⟩⟩
      have hbw4 : Below w.heap.size w (w3.alloc (.cells #[.slice a ks.length c] 83)) := hbw3.alloc (by omega) _
      have hWw3 : Below W.heap.size W w3 := hWw.trans (hbw3.mono hWz)
      have c40 : (w3.alloc (.cells #[.slice a ks.length c] 83)).cell? ⟨w.heap.size, 0, none⟩ = some (.int .i64 kd) := (cellOld 0 (by omega)).trans b0
      have c41 : (w3.alloc (.cells #[.slice a ks.length c] 83)).cell? ⟨w.heap.size, 1, none⟩ = some (.string nm) := (cellOld 1 (by omega)).trans b1
      have c42 : (w3.alloc (.cells #[.slice a ks.length c] 83)).cell? ⟨w.heap.size, 2, none⟩ = some (.slice an nms.length cn) := (cellOld 2 (by omega)).trans b2
      have HFI : Hid (∀ wz : World, Below (w3.heap.size + 1) (w3.alloc (.cells #[.slice a ks.length c] 83)) wz → FormIn wz W.heap.size (n + 1) w.heap.size wz.heap.size (formV (.mk kd nm nms ks) (.slice a ks.length c) (.slice an nms.length cn)) (.mk kd nm nms ks) ∧ Below w.heap.size w wz) := fun wz hx => by
        have hx3 : Below w3.heap.size w3 wz := ((Below.refl w3.heap.size w3).alloc (Nat.le_refl _) _).trans (hx.mono (by omega))
        have hsz := hx3.size
        refine ⟨⟨_, _, rfl, fun w'' hs => hT.same fun b hb => (hs b hb).trans ((hx3.block b (by omega)).trans (hWw3.block b hb)), ?_⟩, hbw3.trans (hx3.mono (by omega))⟩
        exact hP3.step hx3 (by omega) (Nat.le_refl _) (by omega) hsz
      have HPA : Hid (PartsAt w3 (FormAt w3 n) (.slice a ks.length c) ks) := hP3.parts
      have HTN : Hid (∀ wx : World, Below w.heap.size w wx → Calls Tryd.prog 20 #[.string nm] wx fun e w' => e = .returned (.bool (dottedP nm)) ∧ Below wx.heap.size wx w') := fun wx hx => implTypeNameOk nm wx (by omega) (hc.below (hWw.trans (hx.mono hWz)) hcl) (by have := hx.size; omega)
      have HFO : Hid (∀ wx : World, Below w.heap.size w wx → Calls Tryd.prog 60 #[.slice an nms.length cn, .slice a ks.length c] wx fun e w' => e = .returned (.bool (decide (FieldsRight nms ks.length))) ∧ Below wx.heap.size wx w') := fun wx hx => implFieldsOk _ nms a ks.length c wx (hT.same fun b hb => (hWw.trans (hx.mono hWz)).block b hb) hnl hns (hc.below (hWw.trans (hx.mono hWz)) hcl) (by have := hx.size; omega)
      have HUK : Hid (∀ wx : World, Below w3.heap.size w3 wx → Calls Tryd.prog 61 #[.slice a ks.length c] wx fun e w' => e = .returned (.bool (decide (KidsRight n ks))) ∧ Below wx.heap.size wx w') := fun wx hx => implUnionKidsOk n _ ks _ wx (HPA.out.below hx fun u t _ h => h.below hx) hKR hbk
      have HOA : Hid (type_of% hoa) := hoa
      have hlen : ks.length ≤ 1048576 := by unfold rowBulk at hbk; omega
      clear hT hrow hc hcl ih hns hbk hoa HOK HPT hP3 hKR HPA hb3 D3 HBX
      by_cases k0 : kd = 0
      · subst k0
        have HY : Hid (Right (n + 1) (.mk 0 nm nms ks) (12 - (deep : Int))) := HRI.out.2 (own_plain (by omega) HOA.out)
        obtain ⟨f1, f2⟩ := HFI.out _ (Below.refl _ _)
        have HF : Hid (type_of% f1) := f1
        clear f1 HRI HFI HTN HFO HUK HOA
        go_wp2_with fail
        go_ret2
        exact form_if (iff_of_true rfl HY.out) HF.out f2
      by_cases k1 : kd = 1
      · subst k1
        have HY : Hid (Right (n + 1) (.mk 1 nm nms ks) (12 - (deep : Int))) := HRI.out.2 (own_plain (by omega) HOA.out)
        obtain ⟨f1, f2⟩ := HFI.out _ (Below.refl _ _)
        have HF : Hid (type_of% f1) := f1
        clear f1 HRI HFI HTN HFO HUK HOA
        go_wp2_with fail
        go_ret2
        exact form_if (iff_of_true rfl HY.out) HF.out f2
      by_cases k2 : kd = 2
      · subst k2
        have HY : Hid (Right (n + 1) (.mk 2 nm nms ks) (12 - (deep : Int))) := HRI.out.2 (own_plain (by omega) HOA.out)
        obtain ⟨f1, f2⟩ := HFI.out _ (Below.refl _ _)
        have HF : Hid (type_of% f1) := f1
        clear f1 HRI HFI HTN HFO HUK HOA
        go_wp2_with fail
        go_ret2
        exact form_if (iff_of_true rfl HY.out) HF.out f2
      by_cases k3 : kd = 3
      · subst k3
        have HY : Hid (Right (n + 1) (.mk 3 nm nms ks) (12 - (deep : Int))) := HRI.out.2 (own_plain (by omega) HOA.out)
        obtain ⟨f1, f2⟩ := HFI.out _ (Below.refl _ _)
        have HF : Hid (type_of% f1) := f1
        clear f1 HRI HFI HTN HFO HUK HOA
        go_wp2_with fail
        go_ret2
        exact form_if (iff_of_true rfl HY.out) HF.out f2
      have q0 : ∀ d os, (grow (redrawn (w3.alloc (.cells #[.slice a ks.length c] 83)) d) os).cell? ⟨w3.heap.size, 0, none⟩ = some (.slice a ks.length c) := fun d os => cell_regrown (cellNew 0 rfl) d os
      have q1 : ∀ d os, (grow (redrawn (w3.alloc (.cells #[.slice a ks.length c] 83)) d) os).cell? ⟨w.heap.size, 1, none⟩ = some (.string nm) := fun d os => cell_regrown ((cellOld 1 (by omega)).trans b1) d os
      have q2 : ∀ d os, (grow (redrawn (w3.alloc (.cells #[.slice a ks.length c] 83)) d) os).cell? ⟨w.heap.size, 2, none⟩ = some (.slice an nms.length cn) := fun d os => cell_regrown ((cellOld 2 (by omega)).trans b2) d os
      by_cases k4 : kd = 4
      · subst k4
        have HY : Hid (dottedP nm = true ↔ Right (n + 1) (.mk 4 nm nms ks) (12 - (deep : Int))) := by show _ ↔ _; rw [HRI.out, own_name HOA.out]
        have HCC : Hid (∀ d os, type_of% (HTN.out (grow (redrawn (w3.alloc (.cells #[.slice a ks.length c] 83)) d) os) (hbw4.trans ((below_regrown (w3.alloc (.cells #[.slice a ks.length c] 83)) d os).mono (by simp; omega))))) := fun d os => HTN.out (grow (redrawn (w3.alloc (.cells #[.slice a ks.length c] 83)) d) os) (hbw4.trans ((below_regrown (w3.alloc (.cells #[.slice a ks.length c] 83)) d os).mono (by simp; omega)))
        clear HRI HTN HFO HUK HOA
        go_wp2_with fail
        refine wp_region_quiet_below (by kernel_rfl) (by kernel_rfl) ?_
        repeat (go_big_quiet_step (exact Calls.regrown_of (HCC.out _ _)))
        refine wpQuiet_nil ?_
        intro _ hw'
        obtain ⟨⟨dq, osq⟩, hw''⟩ := hw'
        subst hw''
        obtain ⟨f1, f2⟩ := HFI.out _ ((below_regrown (w3.alloc (.cells #[.slice a ks.length c] 83)) dq osq).mono (by simp))
        have HF : Hid (type_of% f1) := f1
        clear f1 HFI q0 q1 q2
        generalize grow (redrawn (w3.alloc (.cells #[.slice a ks.length c] 83)) dq) osq = w5 at *
        go_wp2_with fail
        go_ret2
        exact form_if HY.out HF.out f2
      by_cases k5 : kd = 5
      · subst k5
        have HY : Hid (decide (FieldsRight nms ks.length) = true ↔ Right (n + 1) (.mk 5 nm nms ks) (12 - (deep : Int))) := by show _ ↔ _; rw [HRI.out, own_record HOA.out, decide_eq_true_eq]
        have HCC : Hid (∀ d os, type_of% (HFO.out (grow (redrawn (w3.alloc (.cells #[.slice a ks.length c] 83)) d) os) (hbw4.trans ((below_regrown (w3.alloc (.cells #[.slice a ks.length c] 83)) d os).mono (by simp; omega))))) := fun d os => HFO.out (grow (redrawn (w3.alloc (.cells #[.slice a ks.length c] 83)) d) os) (hbw4.trans ((below_regrown (w3.alloc (.cells #[.slice a ks.length c] 83)) d os).mono (by simp; omega)))
        clear HRI HTN HFO HUK HOA
        go_wp2_with fail
        refine wp_region_quiet_below (by kernel_rfl) (by kernel_rfl) ?_
        repeat (go_big_quiet_step (exact Calls.regrown_of (HCC.out _ _)))
        refine wpQuiet_nil ?_
        intro _ hw'
        obtain ⟨⟨dq, osq⟩, hw''⟩ := hw'
        subst hw''
        obtain ⟨f1, f2⟩ := HFI.out _ ((below_regrown (w3.alloc (.cells #[.slice a ks.length c] 83)) dq osq).mono (by simp))
        have HF : Hid (type_of% f1) := f1
        clear f1 HFI q0 q1 q2
        generalize grow (redrawn (w3.alloc (.cells #[.slice a ks.length c] 83)) dq) osq = w5 at *
        go_wp2_with fail
        go_ret2
        exact form_if HY.out HF.out f2
      by_cases k6 : kd = 6
      · subst k6
        have HY : Hid (decide (0 < ks.length) = true ↔ Right (n + 1) (.mk 6 nm nms ks) (12 - (deep : Int))) := by show _ ↔ _; rw [HRI.out, own_fn HOA.out, decide_eq_true_eq]
        obtain ⟨f1, f2⟩ := HFI.out _ (Below.refl _ _)
        have HF : Hid (type_of% f1) := f1
        clear f1 HRI HFI HTN HFO HUK HOA q0 q1 q2
        go_wp2_with fail
        go_ret2
        exact form_if (by simpa using HY.out) HF.out f2
      by_cases k7 : kd = 7
      · subst k7
        have HY : Hid (decide (KidsRight n ks) = true ↔ Right (n + 1) (.mk 7 nm nms ks) (12 - (deep : Int))) := by show _ ↔ _; rw [HRI.out, own_union HOA.out, decide_eq_true_eq]
        have HCC : Hid (∀ d os, type_of% (HUK.out (grow (redrawn (w3.alloc (.cells #[.slice a ks.length c] 83)) d) os) (((Below.refl w3.heap.size w3).alloc (Nat.le_refl _) _).trans ((below_regrown (w3.alloc (.cells #[.slice a ks.length c] 83)) d os).mono (by simp))))) := fun d os => HUK.out (grow (redrawn (w3.alloc (.cells #[.slice a ks.length c] 83)) d) os) (((Below.refl w3.heap.size w3).alloc (Nat.le_refl _) _).trans ((below_regrown (w3.alloc (.cells #[.slice a ks.length c] 83)) d os).mono (by simp)))
        clear HRI HTN HFO HUK HOA
        go_wp2_with fail
        refine wp_region_quiet_below (by kernel_rfl) (by kernel_rfl) ?_
        repeat (go_big_quiet_step (exact Calls.regrown_of (HCC.out _ _)))
        refine wpQuiet_nil ?_
        intro _ hw'
        obtain ⟨⟨dq, osq⟩, hw''⟩ := hw'
        subst hw''
        obtain ⟨f1, f2⟩ := HFI.out _ ((below_regrown (w3.alloc (.cells #[.slice a ks.length c] 83)) dq osq).mono (by simp))
        have HF : Hid (type_of% f1) := f1
        clear f1 HFI q0 q1 q2
        generalize grow (redrawn (w3.alloc (.cells #[.slice a ks.length c] 83)) dq) osq = w5 at *
        go_wp2_with fail
        go_ret2
        exact form_if HY.out HF.out f2
      have HNR : Hid (¬ Right (n + 1) (.mk kd nm nms ks) (12 - (deep : Int))) := fun h => own_other (by omega) (HRI.out.1 h)
      have e0 : (kd == 0) = false := by rw [beq_eq_false_iff_ne]; exact k0
      have e1 : (kd == 1) = false := by rw [beq_eq_false_iff_ne]; exact k1
      have e2 : (kd == 2) = false := by rw [beq_eq_false_iff_ne]; exact k2
      have e3 : (kd == 3) = false := by rw [beq_eq_false_iff_ne]; exact k3
      have e4 : (kd == 4) = false := by rw [beq_eq_false_iff_ne]; exact k4
      have e5 : (kd == 5) = false := by rw [beq_eq_false_iff_ne]; exact k5
      have e6 : (kd == 6) = false := by rw [beq_eq_false_iff_ne]; exact k6
      have e7 : (kd == 7) = false := by rw [beq_eq_false_iff_ne]; exact k7
      clear HRI HFI HTN HFO HUK HOA q0 q1 q2 k0 k1 k2 k3 k4 k5 k6 k7
      go_wp2_with fail
      go_ret2
      exact form_no HNR.out hbw4

theorem implFormOf (n : Nat) : FormOfAt n := by
  induction n with
  | zero => intro W cs t deep w h; exact h.elim
  | succ n ih =>
    intro W cs t deep w h hWw hb hd hc hcl
    obtain ⟨vn, vk, rfl, _, _, ⟨hT, _, _⟩, _, hrow⟩ := h
    cases t with
    | mk kd nm nms ks =>
      have hbe : Ty.bulk (n + 1) (.mk kd nm nms ks) = nm.size + (nms.length + Ty.textsBulk nms) + rowBulk n ks := rfl
      have hT' : Texts W vn nms := hT
      obtain ⟨an, cn, rfl⟩ : ∃ a cap, vn = .slice a nms.length cap := by
        rcases hT' with ⟨h, a, cap, e⟩ | ⟨b, off, cap, e, hc⟩
        · subst h; exact ⟨a, cap, e⟩
        · exact ⟨_, cap, e⟩
      obtain ⟨ak, ck, rfl, _⟩ := rowOpen hrow
      exact implFormStep n ih kd nm nms ks an ak cn ck deep W w hT' hrow hWw (by omega) (by omega) (by omega) (fun x hx => by have := textsBulk_mem nms x hx; omega) hd hc hcl

end Go.Proofs.YtpaamlniicipbaaDoor
