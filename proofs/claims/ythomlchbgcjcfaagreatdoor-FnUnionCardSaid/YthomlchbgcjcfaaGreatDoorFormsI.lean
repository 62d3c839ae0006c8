/-
  The walk of impl.formsOf, given impl.formOf at that depth.
-/
import Derived.Test.YthomlchbgcjcfaaGreatDoorFormD
import Derived.Test.YthomlchbgcjcfaaGreatDoorTyH
import Derived.Test.YthomlchbgcjcfaaGreatDoorToTy
import Derived.Maps.AppendAt
import Derived.MapKept
namespace Go.Proofs.YthomlchbgcjcfaaGreatDoor
open Go.RowKit

/-- what formOf does at that depth -/
def FormOfAt (n : Nat) : Prop := ∀ (W : World) (cs : List Value) (t : Ty) (deep : Nat) (w : World), TyAt W n cs t → Below W.heap.size W w → Ty.bulk n t ≤ 1048576 → deep ≤ 14 → ClsIs W → 1 < W.heap.size →
    Calls Tryz.prog 19 #[.agg cs.toArray, .int .i64 deep] w fun e w' => ∃ (v : Value) (ok : Bool), e = .returned (.tuple #[v, .bool ok]) ∧ (ok = true ↔ Right n t (12 - (deep : Int))) ∧ (ok = true → FormIn w' W.heap.size n w.heap.size w'.heap.size v t) ∧ Below w.heap.size w w'

theorem form_one {w : World} {n : Nat} {v : Value} {t : Ty} (h : FormAt w n v t) : v.oneCell' = true := by
  cases n with
  | zero => exact h.elim
  | succ n =>
    obtain ⟨vp, vn, rfl, _⟩ := h
    unfold formV
    repeat' split
    all_goals rfl

theorem form_iface {w : World} {n : Nat} {v : Value} {t : Ty} (h : FormAt w n v t) : ∃ T x, v = .iface T x := by
  cases n with
  | zero => exact h.elim
  | succ n =>
    obtain ⟨vp, vn, rfl, _⟩ := h
    unfold formV
    repeat' split
    all_goals exact ⟨_, _, rfl⟩

theorem Tryz.infoForm : (Tryz.prog.info? 41).map (fun i => (i.zero, i.size, i.bytes)) = some (some .nilIface, 1, 16) := by kernel_rfl

theorem one_cellF {X : World} {G : Nat} {v : Value} (h : X.cell? ⟨G, 0, none⟩ = some v) : ∀ j u, [v][j]? = some u → X.cell? ((⟨G, 0, none⟩ : Addr).add j) = some u := by
  intro j u hj
  match j, hj with
  | 0, hj => simp at hj; subst hj; simpa [Addr.add] using h
  | j + 1, hj => simp at hj

theorem slice_ownF {w : World} {B e z : Nat} {v : Value} {n : Nat} {xs : List Value} (h : w.ownsRow B e z v n xs) : ∃ a cap, v = .slice a n cap := by
  rcases h.2 with ⟨rfl, h0⟩ | ⟨g, cap, cur, hv, _⟩
  · exact ⟨none, 0, by rw [h0]⟩
  · exact ⟨_, cap, hv⟩

theorem own_parts {w : World} {B : Nat} {R : Nat → Nat → Value → Ty → Prop} {v : Value} {ks : List Ty} {X : List Value} (h : w.ownsRow B 41 1 v ks.length X) (hX : ∀ j (hj : j < ks.length) (hx : j < X.length), ∃ lo hi, B ≤ lo ∧ hi ≤ w.heap.size ∧ R lo hi X[j] ks[j]) : PartsIn w R B w.heap.size v ks := by
  have hl : X.length = ks.length := by have := h.1; omega
  rcases h.2 with ⟨e, h0⟩ | ⟨g, c, cur, e, hg, hh, hnc, _⟩
  · exact .inl ⟨List.length_eq_zero_iff.1 h0, _, _, e⟩
  · have hgl : g < w.heap.size := (Array.getElem?_eq_some_iff.1 hh).1
    subst e
    refine .inr ⟨g, c, rfl, hnc, hg, hgl, fun j hj => ?_⟩
    obtain ⟨lo, hi, q1, q2, q3⟩ := hX j hj (by omega)
    refine ⟨lo, hi, X[j], q1, q2, ?_, q3⟩
    rw [h.cellAt j (by omega), List.getElem?_eq_getElem (by omega)]

/-- the forms that were gathered, each in memory apart from the row that gathers them -/
def Gathered (wr : World) (B C n : Nat) (v : Value) (X : List Value) (ks : List Ty) : Prop := ∀ j (hj : j < ks.length) (hx : j < X.length), ∃ lo hi, C ≤ lo ∧ hi ≤ wr.heap.size ∧ (∀ g, v.ownBlock = some g → g < lo ∨ hi ≤ g) ∧ FormIn wr B n lo hi X[j] ks[j]

theorem Gathered.more {wr w2 w3 : World} {B C n k : Nat} {v v' u : Value} {X : List Value} {ks : List Ty} {o : Obj} (h : Gathered wr B C n v X ks) (hXl : X.length = k) (hlt : k < ks.length) (hC : C ≤ wr.heap.size)
    (hb2 : Below wr.heap.size wr w2) (hg : (w2.alloc o).grownBy w3 v.ownBlock) (hB3 : ∀ b, b < B → w3.heap[b]? = wr.heap[b]?) (hB2 : ∀ b, b < B → w3.heap[b]? = w2.heap[b]?) (hvl : ∀ g, v.ownBlock = some g → g < wr.heap.size)
    (hloc : v'.ownBlock = v.ownBlock ∨ v'.ownBlock = some (w2.alloc o).heap.size) (hu : FormIn w2 B n (wr.heap.size + 1) w2.heap.size u ks[k]) : Gathered w3 B C n v' (X ++ [u]) ks := by
  have hz2 := hb2.size
  have hz3 : w2.heap.size ≤ w3.heap.size := by have := hg.size; simp at this; omega
  have same : ∀ x, x < w2.heap.size → (∀ g, v.ownBlock = some g → g ≠ x) → w3.heap[x]? = w2.heap[x]? := fun x hx hne => (hg.block x (by simp; omega) (fun e => hne x e.symm rfl)).trans ((MapKept.heap_alloc w2 o).2 x hx)
  have hal : (w2.alloc o).heap.size = w2.heap.size + 1 := by simp
  intro j hj hx
  by_cases c : j < k
  · obtain ⟨lo, hi, q1, q2, q3, q4⟩ := h j hj (by omega)
    refine ⟨lo, hi, q1, by omega, fun g hg' => ?_, ?_⟩
    · rcases hloc with e | e
      · exact q3 g (by rw [← e]; exact hg')
      · rw [e] at hg'
        simp only [Option.some.injEq] at hg'
        right
        omega
    · rw [List.getElem_append_left (by omega)]
      refine q4.same hB3 fun x h1 h2 => ?_
      rw [same x (by omega) (fun g hgv => by have := q3 g hgv; omega), hb2.block x (by omega)]
  · have e : j = k := by rw [List.length_append, List.length_singleton] at hx; omega
    subst e
    refine ⟨wr.heap.size + 1, w2.heap.size, by omega, hz3, fun g hg' => ?_, ?_⟩
    · rcases hloc with e | e
      · left
        have := hvl g (by rw [← e]; exact hg')
        omega
      · rw [e] at hg'
        simp only [Option.some.injEq] at hg'
        right
        omega
    · have e2 : (X ++ [u])[j] = u := by rw [List.getElem_append_right (by omega)]; simp [hXl]
      rw [e2]
      exact hu.same hB2 fun x h1 h2 => same x h2 (fun g hgv => by have := hvl g hgv; omega)

set_option maxHeartbeats 1600000 in
set_option maxRecDepth 100000 in
theorem implForms (n : Nat) (ih : FormOfAt n) (vk : Value) (ks : List Ty) (deep : Nat) (W w : World) (hrow : RowAt W (TyAt W n) vk ks) (hWw : Below W.heap.size W w) (hbk : rowBulk n ks ≤ 1048576) (hd : deep ≤ 14) (hc : ClsIs W) (hcl : 1 < W.heap.size) :
    Calls Tryz.prog 13 #[vk, .int .i64 deep] w fun e w' => ∃ (a : Option Addr) (l c : Nat) (ok : Bool), e = .returned (.tuple #[.slice a l c, .bool ok]) ∧ (ok = true ↔ ∀ q ∈ ks, Right n q (12 - (deep : Int))) ∧ (ok = true → l = ks.length ∧ PartsIn w' (FormIn w' W.heap.size n) w.heap.size w'.heap.size (.slice a l c) ks) ∧ Below w.heap.size w w' := by
  obtain ⟨i0, hi, hz0, hz1, hz2⟩ := info_parts Tryz.infoForm
  obtain ⟨av, capv, rfl, hel⟩ := rowOpen hrow
  have hlen : ks.length ≤ 1048576 := by unfold rowBulk at hbk; omega
  have HEL : Hid (type_of% hel) := hel
  have HFO : Hid (∀ k (hk : k < ks.length) (cs : List Value) (wx : World), TyAt W n cs ks[k] → Below W.heap.size W wx → Calls Tryz.prog 19 #[.agg cs.toArray, .int .i64 deep] wx fun e w' => ∃ (v : Value) (ok : Bool), e = .returned (.tuple #[v, .bool ok]) ∧ (ok = true ↔ Right n ks[k] (12 - (deep : Int))) ∧ (ok = true → FormIn w' W.heap.size n wx.heap.size w'.heap.size v ks[k]) ∧ Below wx.heap.size wx w') := fun k hk cs wx h hx => ih W cs ks[k] deep wx h hx (by have := kid_bulk n ks k hk; unfold rowBulk at hbk; omega) hd hc hcl
  clear hrow hel ih hbk hc hcl hd
  go_enter Tryz.func13, Tryz.ntmps13
  go_wp2_with fail
  go_loopw [6, 13] (fun v i wr => ∃ (k : Nat) (X : List Value), k ≤ ks.length ∧ i = .int .i64 k ∧ wr.ownsRow w.heap.size 41 1 v k X ∧ Gathered wr W.heap.size w.heap.size n v X ks ∧ (∀ j (hj : j < ks.length), j < k → Right n ks[j] (12 - (deep : Int))) ∧ Below w.heap.size w wr) (fun _ i _ => ks.length - (intOf i).toNat)
  case atStart => exact ⟨0, [], Nat.zero_le _, rfl, World.ownsRow_nil _ _ _ _, fun j _ hx => absurd hx (by simp), fun j _ h => absurd h (by omega), Below.refl _ _⟩
  case round =>
    obtain ⟨k, X, hk, rfl, ho, hX, hall, hbe⟩ := hrel
    have HX : Hid (type_of% hX) := hX
    have HALL : Hid (type_of% hall) := hall
    have hXl : X.length = k := by have := ho.1; omega
    obtain ⟨ao, capo, hv⟩ := slice_ownF ho
    subst hv
    have hz : w.heap.size ≤ wr.heap.size := hbe.size
    have hWr : Below W.heap.size W wr := hWw.trans (hbe.mono hWw.size)
    have hWz : W.heap.size ≤ wr.heap.size := hWr.size
    have hvl : ∀ g, (Value.slice ao k capo).ownBlock = some g → g < wr.heap.size := fun g hg => (ho.lt g hg).2
    clear hX hall
    by_cases hlt : k < ks.length
    · obtain ⟨b, off, x0, x1, x2, x3, rfl, hba, hta, a0, a1, a2, a3⟩ := HEL.out k hlt
      obtain ⟨an, ln, cn, ak, lk, ck, e⟩ := hta.shape
      simp only [List.cons.injEq, and_true] at e
      obtain ⟨rfl, rfl, rfl, rfl⟩ := e
      have A0 := (hWr.cell (p := ⟨b, off + k * 4, none⟩) hba).trans a0
      have A1 := (hWr.cell (p := ⟨b, off + k * 4 + 1, none⟩) hba).trans a1
      have A2 := (hWr.cell (p := ⟨b, off + k * 4 + 2, none⟩) hba).trans a2
      have A3 := (hWr.cell (p := ⟨b, off + k * 4 + 3, none⟩) hba).trans a3
      have hbe1 : Below w.heap.size w (wr.alloc (.cells #[.int .i64 ks[k].kind, .string ks[k].name, .slice an ln cn, .slice ak lk ck] 28)) := hbe.alloc hz _
      have HC0 := HFO.out k hlt _ (wr.alloc (.cells #[.int .i64 ks[k].kind, .string ks[k].name, .slice an ln cn, .slice ak lk ck] 28)) hta (hWr.alloc hWz _)
      have HC : Hid (type_of% HC0) := HC0
      clear a0 a1 a2 a3 HC0 hta HEL HFO
      go_wp2_with fail
      refine HC.out.mono ?_
      rintro e w2 ⟨v, ok, rfl, hok, hfm, hb2⟩
      have ho2 := kept_belowT (ho.alloc _) hb2
      have hbe2 : Below w.heap.size w w2 := hbe1.trans (hb2.mono (by simp; omega))
      have hzw2 : w.heap.size ≤ w2.heap.size := hbe2.size
      have hbr2 : Below wr.heap.size wr w2 := ((Below.refl _ _).alloc (Nat.le_refl _) _).trans (hb2.mono (by simp))
      have HOK : Hid (type_of% hok) := hok
      have HFM : Hid (type_of% hfm) := hfm
      clear hok hfm ho hb2 hbe1 HC
      cases ok with
      | false =>
        have HNR : Hid (¬ ∀ q ∈ ks, Right n q (12 - (deep : Int))) := fun h => by
          have := HOK.out.2 (h _ (List.getElem_mem hlt))
          cases this
        clear HOK HFM HX HALL
        go_wp2_with fail
        go_ret2
        exact ⟨none, 0, 0, false, rfl, ⟨fun h => Bool.noConfusion h, fun h => absurd h HNR.out⟩, fun h => Bool.noConfusion h, hbe2⟩
      | true =>
        have hfv := HFM.out rfl
        have hr := HOK.out.1 rfl
        obtain ⟨T, xv, hve⟩ := form_iface hfv.at
        subst hve
        have hone : (Value.iface T xv).oneCell' = true := rfl
        have HFV : Hid (type_of% hfv) := hfv
        have HA2 : Hid (∀ j (hj : j < ks.length), j < k + 1 → Right n ks[j] (12 - (deep : Int))) := fun j hj hjk => by
          by_cases c : j = k
          · subst c; exact hr
          · exact HALL.out j hj (by omega)
        clear hfv hr HOK HFM HALL
        go_wp2_with (at_builtin; refine wpList_append_own_at _ rfl _ _ 37 rfl w.heap.size 41 i0 .nilIface 1 16 Tryz.underlying37 hi hz0 hz1 hz2 rfl (by decide) _ _ _ rfl (ho2.alloc _) ⟨w2.heap.size, 0, none⟩ 1 1 [.iface T xv] rfl rfl ?c1 ?c2 ?c3 ?c4 ?c5 ?_)
        case c1 => exact one_cellF (cellNew 0 rfl)
        case c2 => intro u hu; simp at hu; subst hu; exact hone
        case c3 => unfold maxLen; omega
        case c4 => omega
        case c5 => simp; omega
        intro v' w3 hown' hgrow _ hloc
        have hb3 : Below w.heap.size w w3 := (hbe2.alloc hzw2 _).grown hgrow (by simp; omega) (fun j hj => (ho2.lt j hj).1)
        have hW3 : Below W.heap.size W w3 := hWw.trans (hb3.mono hWw.size)
        have hW2 : Below W.heap.size W w2 := hWw.trans (hbe2.mono hWw.size)
        have HX3 : Hid (Gathered w3 W.heap.size w.heap.size n v' (X ++ [.iface T xv]) ks) := Gathered.more HX.out hXl hlt hz hbr2 hgrow (fun x hx => (hW3.block x hx).trans (hWr.block x hx).symm) (fun x hx => (hW3.block x hx).trans (hW2.block x hx).symm) hvl (by simpa using hloc) (by have := HFV.out; simpa using this)
        clear hgrow ho2 hbe2 hzw2
        go_wp2_with fail
        go_roundw
        case rel => exact ⟨k + 1, X ++ [.iface T xv], by omega, by go_num, hown', HX3.out, HA2.out, hb3⟩
        case measure => simp [intOf]; omega
    · have hke : k = ks.length := by omega
      have HF : Hid ((∀ q ∈ ks, Right n q (12 - (deep : Int))) ∧ PartsIn wr (FormIn wr W.heap.size n) w.heap.size wr.heap.size (.slice ao k capo) ks) := by
        subst hke
        refine ⟨fun q hq => ?_, own_parts ho fun j hj hx => by obtain ⟨lo, hi, q1, q2, _, q4⟩ := HX.out j hj hx; exact ⟨lo, hi, q1, q2, q4⟩⟩
        obtain ⟨j, hj, rfl⟩ := List.getElem_of_mem hq
        exact HALL.out j hj hj
      have HKE : Hid (k = ks.length) := hke
      clear HX HALL ho hke hXl HEL HFO
      go_wp2_with fail
      go_ret2
      exact ⟨ao, k, capo, true, rfl, ⟨fun _ => HF.out.1, fun _ => rfl⟩, fun _ => ⟨HKE.out, HF.out.2⟩, hbe⟩

end Go.Proofs.YthomlchbgcjcfaaGreatDoor
