/-
  The walk of impl.textOf at every form.
-/
import Derived.Test.YthfgdeaofghnkacDoorTextN
import Derived.Test.YthfgdeaofghnkacDoorTextI
namespace Go.Proofs.YthfgdeaofghnkacDoor
open Go.RowKit Go.Shelf

set_option maxHeartbeats 1600000 in
set_option maxRecDepth 100000 in
theorem implText1 (a : Option Addr) (l c : Nat) (w : World) :
    Calls Tryd.prog 44 #[.iface 85 (.agg #[.slice a l c])] w fun e w' => e = .returned (.string ⟨#[116, 101, 120, 116]⟩) ∧ Below w.heap.size w w' := by
  have hB1 : Below w.heap.size w (w.alloc (.cells #[.slice a l c] 85)) := (Below.refl _ _).alloc (Nat.le_refl _) _
  have t0 : ∀ w : World, (Instr.typeAssert (.iface 85 (.agg #[.slice a l c])) 61 84 true).run Tryd.prog w = .ok (.tuple #[.agg #[.slice none 0 0], .bool false]) w := fun w => by kernel_rfl
  have t1 : ∀ w : World, (Instr.typeAssert (.iface 85 (.agg #[.slice a l c])) 61 85 true).run Tryd.prog w = .ok (.tuple #[.agg #[.slice a l c], .bool true]) w := fun w => by kernel_rfl
  go_enter Tryd.func44, Tryd.ntmps44
  go_wp2
  go_ret
  exact ⟨rfl, hB1⟩

set_option maxHeartbeats 1600000 in
set_option maxRecDepth 100000 in
theorem implText2 (a : Option Addr) (l c : Nat) (w : World) :
    Calls Tryd.prog 44 #[.iface 86 (.agg #[.slice a l c])] w fun e w' => e = .returned (.string ⟨#[98, 111, 111, 108]⟩) ∧ Below w.heap.size w w' := by
  have hB1 : Below w.heap.size w (w.alloc (.cells #[.slice a l c] 86)) := (Below.refl _ _).alloc (Nat.le_refl _) _
  have t0 : ∀ w : World, (Instr.typeAssert (.iface 86 (.agg #[.slice a l c])) 61 84 true).run Tryd.prog w = .ok (.tuple #[.agg #[.slice none 0 0], .bool false]) w := fun w => by kernel_rfl
  have t1 : ∀ w : World, (Instr.typeAssert (.iface 86 (.agg #[.slice a l c])) 61 85 true).run Tryd.prog w = .ok (.tuple #[.agg #[.slice none 0 0], .bool false]) w := fun w => by kernel_rfl
  have t2 : ∀ w : World, (Instr.typeAssert (.iface 86 (.agg #[.slice a l c])) 61 86 true).run Tryd.prog w = .ok (.tuple #[.agg #[.slice a l c], .bool true]) w := fun w => by kernel_rfl
  go_enter Tryd.func44, Tryd.ntmps44
  go_wp2
  go_ret
  exact ⟨rfl, hB1⟩

set_option maxHeartbeats 1600000 in
set_option maxRecDepth 100000 in
theorem implText3 (a : Option Addr) (l c : Nat) (w : World) :
    Calls Tryd.prog 44 #[.iface 87 (.agg #[.slice a l c])] w fun e w' => e = .returned (.string ⟨#[97, 110, 121]⟩) ∧ Below w.heap.size w w' := by
  have hB1 : Below w.heap.size w (w.alloc (.cells #[.slice a l c] 87)) := (Below.refl _ _).alloc (Nat.le_refl _) _
  have t0 : ∀ w : World, (Instr.typeAssert (.iface 87 (.agg #[.slice a l c])) 61 84 true).run Tryd.prog w = .ok (.tuple #[.agg #[.slice none 0 0], .bool false]) w := fun w => by kernel_rfl
  have t1 : ∀ w : World, (Instr.typeAssert (.iface 87 (.agg #[.slice a l c])) 61 85 true).run Tryd.prog w = .ok (.tuple #[.agg #[.slice none 0 0], .bool false]) w := fun w => by kernel_rfl
  have t2 : ∀ w : World, (Instr.typeAssert (.iface 87 (.agg #[.slice a l c])) 61 86 true).run Tryd.prog w = .ok (.tuple #[.agg #[.slice none 0 0], .bool false]) w := fun w => by kernel_rfl
  have t3 : ∀ w : World, (Instr.typeAssert (.iface 87 (.agg #[.slice a l c])) 61 87 true).run Tryd.prog w = .ok (.tuple #[.agg #[.slice a l c], .bool true]) w := fun w => by kernel_rfl
  go_enter Tryd.func44, Tryd.ntmps44
  go_wp2
  go_ret
  exact ⟨rfl, hB1⟩

set_option maxHeartbeats 1600000 in
set_option maxRecDepth 100000 in
theorem implText5 (a an : Option Addr) (l c ln cn : Nat) (s : ByteArray) (w : World) (hs : s.size ≤ 1000000000) (h : ∀ wx : World, Below w.heap.size w wx → Calls Tryd.prog 59 #[.agg #[.slice a l c, .slice an ln cn]] wx fun e w' => e = .returned (.string s) ∧ Below wx.heap.size wx w') :
    Calls Tryd.prog 44 #[.iface 91 (.agg #[.slice a l c, .slice an ln cn])] w fun e w' => e = .returned (.string (⟨#[123]⟩ ++ s ++ ⟨#[125]⟩)) ∧ Below w.heap.size w w' := by
  have hB1 : Below w.heap.size w (w.alloc (.cells #[.slice a l c, .slice an ln cn] 91)) := (Below.refl _ _).alloc (Nat.le_refl _) _
  have H : Hid (type_of% h) := h
  clear h
  have t0 : ∀ w : World, (Instr.typeAssert (.iface 91 (.agg #[.slice a l c, .slice an ln cn])) 61 84 true).run Tryd.prog w = .ok (.tuple #[.agg #[.slice none 0 0], .bool false]) w := fun w => by kernel_rfl
  have t1 : ∀ w : World, (Instr.typeAssert (.iface 91 (.agg #[.slice a l c, .slice an ln cn])) 61 85 true).run Tryd.prog w = .ok (.tuple #[.agg #[.slice none 0 0], .bool false]) w := fun w => by kernel_rfl
  have t2 : ∀ w : World, (Instr.typeAssert (.iface 91 (.agg #[.slice a l c, .slice an ln cn])) 61 86 true).run Tryd.prog w = .ok (.tuple #[.agg #[.slice none 0 0], .bool false]) w := fun w => by kernel_rfl
  have t3 : ∀ w : World, (Instr.typeAssert (.iface 91 (.agg #[.slice a l c, .slice an ln cn])) 61 87 true).run Tryd.prog w = .ok (.tuple #[.agg #[.slice none 0 0], .bool false]) w := fun w => by kernel_rfl
  have t4 : ∀ w : World, (Instr.typeAssert (.iface 91 (.agg #[.slice a l c, .slice an ln cn])) 61 89 true).run Tryd.prog w = .ok (.tuple #[.agg #[.slice none 0 0, .string ⟨#[]⟩], .bool false]) w := fun w => by kernel_rfl
  have t5 : ∀ w : World, (Instr.typeAssert (.iface 91 (.agg #[.slice a l c, .slice an ln cn])) 61 91 true).run Tryd.prog w = .ok (.tuple #[.agg #[.slice a l c, .slice an ln cn], .bool true]) w := fun w => by kernel_rfl
  go_enter Tryd.func44, Tryd.ntmps44
  go_wp2_with fail
  refine (H.out _ hB1).mono ?_
  rintro e w2 ⟨rfl, hb2⟩
  have hb02 := hB1.trans (hb2.mono (by simp))
  have HJ : Hid (type_of% (join3 ⟨#[123]⟩ s ⟨#[125]⟩ w2.heap.size w2 rfl (by decide) (by omega) (by decide))) := join3 ⟨#[123]⟩ s ⟨#[125]⟩ w2.heap.size w2 rfl (by decide) (by omega) (by decide)
  go_wp2_with fail
  refine HJ.out.mono ?_
  rintro e w3 ⟨rfl, hb3⟩
  go_wp2_with fail
  go_ret
  exact ⟨rfl, hb02.trans (hb3.mono hb02.size)⟩

set_option maxHeartbeats 1600000 in
set_option maxRecDepth 100000 in
theorem implText6 (a : Option Addr) (l c : Nat) (s : ByteArray) (w : World) (h : ∀ wx : World, Below w.heap.size w wx → Calls Tryd.prog 60 #[.agg #[.slice a l c]] wx fun e w' => e = .returned (.string s) ∧ Below wx.heap.size wx w') :
    Calls Tryd.prog 44 #[.iface 93 (.agg #[.slice a l c])] w fun e w' => e = .returned (.string s) ∧ Below w.heap.size w w' := by
  have hB1 : Below w.heap.size w (w.alloc (.cells #[.slice a l c] 93)) := (Below.refl _ _).alloc (Nat.le_refl _) _
  have H : Hid (type_of% h) := h
  clear h
  have t0 : ∀ w : World, (Instr.typeAssert (.iface 93 (.agg #[.slice a l c])) 61 84 true).run Tryd.prog w = .ok (.tuple #[.agg #[.slice none 0 0], .bool false]) w := fun w => by kernel_rfl
  have t1 : ∀ w : World, (Instr.typeAssert (.iface 93 (.agg #[.slice a l c])) 61 85 true).run Tryd.prog w = .ok (.tuple #[.agg #[.slice none 0 0], .bool false]) w := fun w => by kernel_rfl
  have t2 : ∀ w : World, (Instr.typeAssert (.iface 93 (.agg #[.slice a l c])) 61 86 true).run Tryd.prog w = .ok (.tuple #[.agg #[.slice none 0 0], .bool false]) w := fun w => by kernel_rfl
  have t3 : ∀ w : World, (Instr.typeAssert (.iface 93 (.agg #[.slice a l c])) 61 87 true).run Tryd.prog w = .ok (.tuple #[.agg #[.slice none 0 0], .bool false]) w := fun w => by kernel_rfl
  have t4 : ∀ w : World, (Instr.typeAssert (.iface 93 (.agg #[.slice a l c])) 61 89 true).run Tryd.prog w = .ok (.tuple #[.agg #[.slice none 0 0, .string ⟨#[]⟩], .bool false]) w := fun w => by kernel_rfl
  have t5 : ∀ w : World, (Instr.typeAssert (.iface 93 (.agg #[.slice a l c])) 61 91 true).run Tryd.prog w = .ok (.tuple #[.agg #[.slice none 0 0, .slice none 0 0], .bool false]) w := fun w => by kernel_rfl
  have t6 : ∀ w : World, (Instr.typeAssert (.iface 93 (.agg #[.slice a l c])) 61 93 true).run Tryd.prog w = .ok (.tuple #[.agg #[.slice a l c], .bool true]) w := fun w => by kernel_rfl
  go_enter Tryd.func44, Tryd.ntmps44
  go_wp2_with fail
  refine (H.out _ hB1).mono ?_
  rintro e w2 ⟨rfl, hb2⟩
  go_wp2_with fail
  go_ret
  exact ⟨rfl, hB1.trans (hb2.mono (by simp))⟩

set_option maxHeartbeats 1600000 in
set_option maxRecDepth 100000 in
theorem implText7 (a : Option Addr) (l c : Nat) (s : ByteArray) (w : World) (h : ∀ wx : World, Below w.heap.size w wx → Calls Tryd.prog 61 #[.agg #[.slice a l c]] wx fun e w' => e = .returned (.string s) ∧ Below wx.heap.size wx w') :
    Calls Tryd.prog 44 #[.iface 94 (.agg #[.slice a l c])] w fun e w' => e = .returned (.string s) ∧ Below w.heap.size w w' := by
  have hB1 : Below w.heap.size w (w.alloc (.cells #[.slice a l c] 94)) := (Below.refl _ _).alloc (Nat.le_refl _) _
  have H : Hid (type_of% h) := h
  clear h
  have t0 : ∀ w : World, (Instr.typeAssert (.iface 94 (.agg #[.slice a l c])) 61 84 true).run Tryd.prog w = .ok (.tuple #[.agg #[.slice none 0 0], .bool false]) w := fun w => by kernel_rfl
  have t1 : ∀ w : World, (Instr.typeAssert (.iface 94 (.agg #[.slice a l c])) 61 85 true).run Tryd.prog w = .ok (.tuple #[.agg #[.slice none 0 0], .bool false]) w := fun w => by kernel_rfl
  have t2 : ∀ w : World, (Instr.typeAssert (.iface 94 (.agg #[.slice a l c])) 61 86 true).run Tryd.prog w = .ok (.tuple #[.agg #[.slice none 0 0], .bool false]) w := fun w => by kernel_rfl
  have t3 : ∀ w : World, (Instr.typeAssert (.iface 94 (.agg #[.slice a l c])) 61 87 true).run Tryd.prog w = .ok (.tuple #[.agg #[.slice none 0 0], .bool false]) w := fun w => by kernel_rfl
  have t4 : ∀ w : World, (Instr.typeAssert (.iface 94 (.agg #[.slice a l c])) 61 89 true).run Tryd.prog w = .ok (.tuple #[.agg #[.slice none 0 0, .string ⟨#[]⟩], .bool false]) w := fun w => by kernel_rfl
  have t5 : ∀ w : World, (Instr.typeAssert (.iface 94 (.agg #[.slice a l c])) 61 91 true).run Tryd.prog w = .ok (.tuple #[.agg #[.slice none 0 0, .slice none 0 0], .bool false]) w := fun w => by kernel_rfl
  have t6 : ∀ w : World, (Instr.typeAssert (.iface 94 (.agg #[.slice a l c])) 61 93 true).run Tryd.prog w = .ok (.tuple #[.agg #[.slice none 0 0], .bool false]) w := fun w => by kernel_rfl
  have t7 : ∀ w : World, (Instr.typeAssert (.iface 94 (.agg #[.slice a l c])) 61 94 true).run Tryd.prog w = .ok (.tuple #[.agg #[.slice a l c], .bool true]) w := fun w => by kernel_rfl
  go_enter Tryd.func44, Tryd.ntmps44
  go_wp2_with fail
  refine (H.out _ hB1).mono ?_
  rintro e w2 ⟨rfl, hb2⟩
  go_wp2_with fail
  go_ret
  exact ⟨rfl, hB1.trans (hb2.mono (by simp))⟩

theorem implTextOf (n : Nat) : TextOfAt n := by
  induction n with
  | zero => intro v t d w h; exact h.elim
  | succ n ih =>
    intro v t d w h hr hb
    obtain ⟨a, c, an, cn, hP, hT, hc⟩ := h.cases
    have hbe : Ty.bulk (n + 1) t = t.name.size + (t.names.length + Ty.textsBulk t.names) + rowBulk n t.kids := rfl
    have hbk : rowBulk n t.kids ≤ 1048576 := by omega
    have hkr : ∀ q ∈ t.kids, Right n q (d - 1) := hr.2.1
    have hfine := hr.fine
    rcases hc with ⟨k, rfl⟩ | ⟨k, rfl⟩ | ⟨k, rfl⟩ | ⟨k, rfl⟩ | ⟨k, rfl⟩ | ⟨k, rfl⟩ | ⟨k, rfl⟩ | ⟨k, rfl⟩
    · have e : Ty.text (n + 1) t = ⟨#[105, 110, 116]⟩ := by rw [show Ty.text (n + 1) t = _ from Ty.text.eq_2 t n]; rw [if_pos k]
      rw [e]; exact implTextInt _ _ _ w
    · have e : Ty.text (n + 1) t = ⟨#[116, 101, 120, 116]⟩ := by rw [show Ty.text (n + 1) t = _ from Ty.text.eq_2 t n]; rw [if_neg (by omega), if_pos k]
      rw [e]; exact implText1 _ _ _ w
    · have e : Ty.text (n + 1) t = ⟨#[98, 111, 111, 108]⟩ := by rw [show Ty.text (n + 1) t = _ from Ty.text.eq_2 t n]; rw [if_neg (by omega), if_neg (by omega), if_pos k]
      rw [e]; exact implText2 _ _ _ w
    · have e : Ty.text (n + 1) t = ⟨#[97, 110, 121]⟩ := by rw [show Ty.text (n + 1) t = _ from Ty.text.eq_2 t n]; rw [if_neg (by omega), if_neg (by omega), if_neg (by omega), if_pos k]
      rw [e]; exact implText3 _ _ _ w
    · have e : Ty.text (n + 1) t = t.name := by rw [show Ty.text (n + 1) t = _ from Ty.text.eq_2 t n]; rw [if_neg (by omega), if_neg (by omega), if_neg (by omega), if_neg (by omega), if_pos k]
      rw [e]; exact implTextName _ _ _ t.name w (by omega)
    · have e : Ty.text (n + 1) t = ⟨#[123]⟩ ++ joinP ⟨#[44, 32]⟩ (fieldsP (Ty.text n) t.names t.kids) ++ ⟨#[125]⟩ := by rw [show Ty.text (n + 1) t = _ from Ty.text.eq_2 t n]; rw [if_neg (by omega), if_neg (by omega), if_neg (by omega), if_neg (by omega), if_neg (by omega), if_pos k]
      rw [e]
      refine implText5 _ _ _ _ _ _ _ w ?_ fun wx hx => implFieldsText n ih _ _ t.names t.kids (d - 1) wx (hP.below hx fun u t _ h => h.below hx) (hT.below hx) (hfine.1 k) hkr (by omega)
      have h1 := joinP_size ⟨#[44, 32]⟩ (fieldsP (Ty.text n) t.names t.kids)
      have h2 := kids_fields (n := n) t.names t.kids
      have h3 := rowText_size n t.kids hbk
      have e1 : (⟨#[44, 32]⟩ : ByteArray).size = 2 := rfl
      have e2 : t.kids.length ≤ 1048576 := by unfold rowBulk at hbk; omega
      unfold textsP at h3
      rw [e1] at h1
      omega
    · have e : Ty.text (n + 1) t = ⟨#[40]⟩ ++ joinP ⟨#[44, 32]⟩ (textsP n t.kids.dropLast) ++ ⟨#[41, 32, 45, 62, 32]⟩ ++ roundP 7 (lastTy t.kids) (Ty.text n (lastTy t.kids)) := by rw [show Ty.text (n + 1) t = _ from Ty.text.eq_2 t n]; rw [if_neg (by omega), if_neg (by omega), if_neg (by omega), if_neg (by omega), if_neg (by omega), if_neg (by omega), if_pos k]; rfl
      have hne : t.kids ≠ [] := hfine.2.1 k
      have hsp : t.kids.dropLast ++ [lastTy t.kids] = t.kids := by
        unfold lastTy
        rw [List.getLastD_eq_getLast?, List.getLast?_eq_some_getLast hne]
        exact List.dropLast_concat_getLast hne
      rw [e]
      refine implText6 _ _ _ _ w fun wx hx => implFnText n ih _ _ _ t.kids.dropLast (lastTy t.kids) (d - 1) wx ?_ ?_ ?_
      · rw [hsp]; exact hP.below hx fun u t _ h => h.below hx
      · rw [hsp]; exact hkr
      · rw [hsp]; exact hbk
    · have e : Ty.text (n + 1) t = joinP ⟨#[32, 124, 32]⟩ (t.kids.map fun k => roundP 6 k (Ty.text n k)) := by rw [show Ty.text (n + 1) t = _ from Ty.text.eq_2 t n]; rw [if_neg (by omega), if_neg (by omega), if_neg (by omega), if_neg (by omega), if_neg (by omega), if_neg (by omega), if_neg (by omega)]
      rw [e]
      exact implText7 _ _ _ _ w fun wx hx => implUnionText n ih _ t.kids (d - 1) wx (hP.below hx fun u t _ h => h.below hx) hkr hbk

end Go.Proofs.YthfgdeaofghnkacDoor
