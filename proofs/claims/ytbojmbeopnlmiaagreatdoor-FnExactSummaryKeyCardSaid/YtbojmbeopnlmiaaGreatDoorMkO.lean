/-
 The walk of a maker's form: the one that was made already, or a new one.
-/
import Derived.Test.YtbojmbeopnlmiaaGreatDoorMkK
import Derived.Lib.AppendStr
import Derived.Lib.ItoaLen
import Derived.Lib.Hide
import Derived.Laws.IdiomStrings
import Derived.OwnWalk
import Derived.BigCall
import Derived.Maps.AppendAt
namespace Go.Proofs.YtbojmbeopnlmiaaGreatDoor
open Go.RowKit Go.Shelf
def FPost (C : MkC) (M : Mk) (A : Nat → Prop) (t : Ty) (w : World) (e : Ending) (w' : World) : Prop := ∃ (M' : Mk) (j : Nat), e = .returned (valAt M'.F j) ∧ (∃ r, M'.F[j]? = some r ∧ r.ty = t) ∧ MkAt C w' M' ∧ MkF C w w' ∧ (∃ G, M'.F = M.F ++ G) ∧ M'.L = M.L ∧ M'.T = M.T ∧ M'.F.length ≤ M.F.length + 1 ∧ (∀ b, M.ext b → M'.ext b) ∧ ∀ b, M'.ext b → M.ext b ∨ A b
theorem Tryz.infoByteK : (Tryz.prog.info? 5).map (fun i => (i.zero, i.size, i.bytes)) = some (some (.int .u8 0), 1, 1) := by kernel_rfl
def keyN (k : Int) (nms : List ByteArray) (j : Nat) : List UInt8 := Lib.itoa k ++ tailK ((nms.take j).map fun x => x.data.toList)
theorem keyN_more (k : Int) (nms : List ByteArray) (j : Nat) (h : j < nms.length) : keyN k nms (j + 1) = keyN k nms j ++ 32 :: nms[j].data.toList := by
 unfold keyN
 rw [List.take_succ_eq_append_getElem h, List.map_append, tailK_app, List.map_singleton, tailK_one, List.append_assoc]
theorem keyN_all (k : Int) (nms : List ByteArray) : keyN k nms nms.length = Lib.itoa k ++ tailK (nms.map fun x => x.data.toList) := by unfold keyN; rw [List.take_length]
theorem keyN_length (k : Int) (nms : List ByteArray) (h0 : -9223372036854775808 ≤ k) (h1 : k ≤ 9223372036854775807) (hs : ∀ x ∈ nms, x.size ≤ 1048576) (j : Nat) (hj : j ≤ nms.length) : (keyN k nms j).length ≤ 21 + j * 1048577 := by
 induction j with
 | zero =>
  have := Lib.itoa_length_le k h0 h1
  simp [keyN, tailK]
  omega
 | succ j ih =>
  rw [keyN_more k nms j (by omega), List.length_append, List.length_cons]
  have h2 := hs _ (List.getElem_mem (show j < nms.length by omega))
  have h3 : nms[j].data.toList.length = nms[j].size := rfl
  have := ih (by omega)
  omega
def keyK (k : Int) (nms : List ByteArray) (ks : List Nat) (j : Nat) : List UInt8 := keyN k nms nms.length ++ tailK ((ks.take j).map Lib.decDigits)
theorem keyK_more (k : Int) (nms : List ByteArray) (ks : List Nat) (j : Nat) (h : j < ks.length) : keyK k nms ks (j + 1) = keyK k nms ks j ++ 32 :: Lib.decDigits ks[j] := by
 unfold keyK
 rw [List.take_succ_eq_append_getElem h, List.map_append, tailK_app, List.map_singleton, tailK_one, List.append_assoc]
theorem keyK_all (k : Int) (nms : List ByteArray) (ks : List Nat) : keyK k nms ks ks.length = keyF k nms ks := by unfold keyK keyF; rw [List.take_length, keyN_all]
theorem keyK_length (k : Int) (nms : List ByteArray) (ks : List Nat) (h0 : -9223372036854775808 ≤ k) (h1 : k ≤ 9223372036854775807) (hs : ∀ x ∈ nms, x.size ≤ 1048576) (hn : nms.length ≤ 1048577) (hk : ∀ i ∈ ks, i ≤ 9223372036854775807) (j : Nat) (hj : j ≤ ks.length) : (keyK k nms ks j).length ≤ 1100000000000 + j * 22 := by
 induction j with
 | zero =>
  have := keyN_length k nms h0 h1 hs nms.length (Nat.le_refl _)
  have h3 : nms.length * 1048577 ≤ 1048577 * 1048577 := Nat.mul_le_mul_right _ hn
  simp [keyK, tailK]
  omega
 | succ j ih =>
  rw [keyK_more k nms ks j (by omega), List.length_append, List.length_cons]
  have h2 := hk _ (List.getElem_mem (show j < ks.length by omega))
  have h3 := Lib.itoa_length_le (ks[j] : Nat) (by omega) (by omega)
  unfold Lib.itoa at h3
  rw [if_neg (by omega), Int.toNat_natCast] at h3
  have := ih (by omega)
  omega
theorem lookD_form {F : List FRec} {s : ByteArray} {v : Value} (h : lookD (F.map fun r => (r.key, r.val)) s = some v) : ∃ (i : Nat) (r : FRec), F[i]? = some r ∧ r.key = s ∧ v = r.val := by
 induction F with
 | nil => simp [lookD] at h
 | cons x l ih =>
  simp only [List.map_cons, lookD] at h
  split at h
  ·rename_i c
   simp only [Option.some.injEq] at h
   exact ⟨0, x, rfl, c, h.symm⟩
  ·obtain ⟨i, r, h1, h2, h3⟩ := ih h
   exact ⟨i + 1, r, by simpa using h1, h2, h3⟩
theorem lookD_noform {F : List FRec} {s : ByteArray} (h : lookD (F.map fun r => (r.key, r.val)) s = none) : ∀ (i : Nat) (r : FRec), F[i]? = some r → r.key ≠ s := by
 induction F with
 | nil => intro i r hr; simp at hr
 | cons x l ih =>
  simp only [List.map_cons, lookD] at h
  split at h
  ·simp at h
  ·rename_i c
   intro i r hr
   cases i with
   | zero =>
    simp only [List.getElem?_cons_zero, Option.some.injEq] at hr
    subst hr
    exact c
   | succ i => exact ih h i r (by simpa using hr)
theorem byteCells_app (a b : List UInt8) : Lib.byteCells (a ++ b) = Lib.byteCells a ++ Lib.byteCells b := by simp [Lib.byteCells]
theorem itoa_ne (k : Int) : 0 < (Lib.itoa k).length := by
 unfold Lib.itoa
 split
 ·simp
 ·exact List.length_pos_iff.2 (dec_ne _)
theorem keyN_pos (k : Int) (nms : List ByteArray) (j : Nat) : 0 < (keyN k nms j).length := by
 unfold keyN
 have := itoa_ne k
 rw [List.length_append]
 omega
theorem keyK_pos (k : Int) (nms : List ByteArray) (ks : List Nat) (j : Nat) : 0 < (keyK k nms ks j).length := by
 unfold keyK
 have := keyN_pos k nms nms.length
 rw [List.length_append]
 omega
theorem one_cellK {X : World} {G : Nat} {v : Value} (h : X.cell? ⟨G, 0, none⟩ = some v) : ∀ j u, [v][j]? = some u → X.cell? ((⟨G, 0, none⟩ : Addr).add j) = some u := by
 intro j u hj
 match j, hj with
 | 0, hj => simp at hj; subst hj; simpa [Addr.add] using h
 | j + 1, hj => simp at hj
theorem owns_pos {w : World} {B e : Nat} {v : Value} {n : Nat} {xs : List Value} (h : w.ownsRow B e 1 v n xs) (hn : 0 < n) : ∃ g cap, v = .slice (some ⟨g, 0, none⟩) n cap := by
 rcases h.2 with ⟨_, h0⟩ | ⟨g, cap, cur, hv, _⟩
 ·omega
 ·exact ⟨g, cap, hv⟩
theorem look_none {F : List FRec} {s : ByteArray} (h : ∀ (i : Nat) (r : FRec), F[i]? = some r → r.key ≠ s) : lookD (F.map fun r => (r.key, r.val)) s = none := by
 cases hd : lookD (F.map fun r => (r.key, r.val)) s with
 | none => rfl
 | some v =>
  obtain ⟨i, r, h1, h2, _⟩ := lookD_form hd
  exact absurd h2 (h i r h1)
theorem kids_det {F : List FRec} {ks : List Nat} {a b : List Ty} (ha : KidsOf F ks a) (hb : KidsOf F ks b) : a = b := by
 refine List.ext_getElem (by rw [← ha.1, hb.1]) fun j h1 h2 => ?_
 have hj : j < ks.length := by rw [ha.1]; exact h1
 obtain ⟨r, q1, q2⟩ := ha.2 j hj
 obtain ⟨r', q3, q4⟩ := hb.2 j hj
 rw [q1, Option.some.injEq] at q3
 subst q3
 rw [List.getElem?_eq_getElem h1, Option.some.injEq] at q2
 rw [List.getElem?_eq_getElem h2, Option.some.injEq] at q4
 rw [q2, q4]
theorem empty_bytes {a : ByteArray} (h : a.size = 0) : a = ⟨#[]⟩ := by
 obtain ⟨⟨l⟩⟩ := a
 have : l.length = 0 := h
 rw [List.length_eq_zero_iff.1 this]
theorem keyName_ok {t : Ty} (h : Ty.ok t) : (0 ≤ t.kind ∧ t.kind ≤ 7) ∧ ∀ x ∈ t.keyNames, keyName x := by
 have hkn : 0 ≤ t.kind ∧ t.kind ≤ 7 := by
  rcases right_kinds h with q | q | q | q <;> omega
 have key : ∀ x : ByteArray, 0 < x.size → Lx.letterB (Lx.byt x 0) = true → (∀ c ∈ bt x, wcB c = true) → keyName x := fun x h1 h2 h3 => by
  refine ⟨fun h32 => ?_, ?_⟩
  ·have := h3 32 h32
   revert this
   decide
  ·obtain ⟨c, r, e1, e2⟩ := head_byt h1
   refine ⟨c, r, e1, ?_⟩
   rw [← e2] at h2
   unfold Lx.letterB at h2
   have := of_decide_eq_true h2
   omega
 refine ⟨hkn, fun x hx => ?_⟩
 unfold Ty.keyNames at hx
 split at hx
 ·rename_i h4
  rw [List.mem_singleton] at hx
  subst hx
  obtain ⟨q1, q2, q3⟩ := dotted_bytes (right_name h h4).1
  exact key _ q1 q2 q3
 ·by_cases h5 : t.kind = 5
  ·have hn := (right_rec h h5).2.1 x hx
   obtain ⟨q1, q2, _⟩ := name_bytes hn
   exact key _ q1 q2 fun c hc => by
    unfold wcB
    rw [name_al hn c hc, Bool.true_or]
  ·have : t.names = [] := by
    rcases h.2.2 with ⟨q, q1, q2, _⟩ | ⟨q, q1, q2, _⟩ | ⟨q, q1, q2, _⟩ | ⟨q, q1, q2, _⟩ | ⟨q, q1, q2, q3, _⟩
    ·exact List.length_eq_zero_iff.1 q2
    ·exact List.length_eq_zero_iff.1 q2
    ·exact absurd q h5
    ·exact List.length_eq_zero_iff.1 q2
    ·exact List.length_eq_zero_iff.1 q3
   rw [this] at hx
   simp at hx
theorem ty_of_key {F : List FRec} {t u : Ty} {ks js : List Nat} (ht : Ty.ok t) (hk : KidsOf F ks t.kids) (hu : Ty.ok u) (hj : KidsOf F js u.kids) (h : (⟨(keyF u.kind u.keyNames js).toArray⟩ : ByteArray) = ⟨(keyF t.kind t.keyNames ks).toArray⟩) : u = t := by
 have e0 : keyF u.kind u.keyNames js = keyF t.kind t.keyNames ks := by simpa using h
 obtain ⟨e1, e2, e3⟩ := keyF_inj (keyName_ok hu).1 (keyName_ok ht).1 (keyName_ok hu).2 (keyName_ok ht).2 e0
 subst e3
 have e4 := kids_det hj hk
 have names : ∀ v : Ty, Ty.ok v → (v.kind = 4 → v.names = []) ∧ (v.kind ≠ 4 → v.name = ⟨#[]⟩) := fun v hv => by
  rcases hv.2.2 with ⟨q, q1, q2, _⟩ | ⟨q, q1, q2, _⟩ | ⟨q, q1, q2, _⟩ | ⟨q, q1, q2, _⟩ | ⟨q, q1, q2, _⟩
  ·exact ⟨fun c => by rw [c] at q; simp at q, fun _ => empty_bytes q1⟩
  ·exact ⟨fun _ => List.length_eq_zero_iff.1 q2, fun c => absurd q c⟩
  ·exact ⟨fun c => by rw [c] at q; simp at q, fun _ => empty_bytes q2⟩
  ·exact ⟨fun c => by rw [c] at q; simp at q, fun _ => empty_bytes q1⟩
  ·exact ⟨fun c => by rw [c] at q; simp at q, fun _ => empty_bytes q2⟩
 have n1 := names u hu
 have n2 := names t ht
 unfold Ty.keyNames at e2
 obtain ⟨uk, un, uns, uks⟩ := u
 obtain ⟨tk, tn, tns, tks⟩ := t
 simp only at e1 e2 e4 n1 n2
 subst e1 e4
 by_cases c : uk = 4
 ·rw [if_pos c, if_pos c] at e2
  simp only [List.cons.injEq, and_true] at e2
  rw [n1.1 c, n2.1 c, e2]
 ·rw [if_neg c, if_neg c] at e2
  rw [n1.2 c, n2.2 c, e2]
set_option maxHeartbeats 3200000 in
set_option maxRecDepth 100000 in
theorem implForm (C : MkC) (M : Mk) (A : Nat → Prop) (t : Ty) (ks : List Nat) (ak : Option Addr) (lk ck : Nat) (an : Option Addr) (ln cn : Nat) (w : World) (hM : MkAt C w M) (hA : ExtOk C w A) (hok : Ty.ok t) (hk : KidsOf M.F ks t.kids) (hvk : VRow A w (.slice ak lk ck) (ks.map (valAt M.F)))
  (hvn : TextsR A w (.slice an ln cn) t.keyNames) (hnl : t.keyNames.length ≤ 1048577) (hns : ∀ x ∈ t.keyNames, x.size ≤ 1048576) (hkl : ks.length ≤ 1048577) (hFl : M.F.length ≤ 4611686018427387904)
  (htab : Lib.TabBelow Tryz.prog C.B w "internal/strconv.uint64pow10" .u64 Lib.pow10Tab) (hk0 : 0 ≤ t.kind) (hk7 : t.kind ≤ 7) (hsm : t.txt.size ≤ 1099511627776) :
  Calls Tryz.prog 97 #[.pointer (some ⟨C.mb, 0, none⟩), .int .i64 t.kind, .slice ak lk ck, .slice an ln cn] w fun e w' => FPost C M A t w e w' := by
 obtain ⟨i0, hi0, hz0, hz1, hz2'⟩ := info_parts Tryz.infoByteK
 have hBw : C.B ≤ w.heap.size := by
  obtain ⟨_, _, _, hs, _⟩ := hM.self
  have := (Array.getElem?_eq_some_iff.1 hs).1
  have := hM.geo.2.2.2.1
  omega
 obtain ⟨vkey, nk, xs, hs, ho⟩ := hM.self
 obtain ⟨akey, capkey, rfl⟩ := slice_own1 ho
 obtain ⟨⟨c0, c1, c2, c3⟩, hfz⟩ := block4M hs
 have ho0 := owns_none ho
 have HAI : Hid (∀ (B n : Nat) (i : Int) (sv : Value) (xs : List Value) (wx : World), -9223372036854775808 ≤ i → i ≤ 9223372036854775807 → wx.ownsRow B 5 1 sv n xs → B ≤ wx.heap.size → n + 21 ≤ 140737488355328 → Lib.TabBelow Tryz.prog B wx "internal/strconv.uint64pow10" .u64 Lib.pow10Tab → Calls Tryz.prog 123 #[sv, .int .i64 i, .int .i64 10] wx fun e w' => ∃ v', e = .returned v' ∧ w'.ownsRow B 5 1 v' (n + (Lib.itoa i).length) (xs ++ Lib.byteCells (Lib.itoa i)) ∧ Below B wx w' ∧ Lib.OthersKept 5 none wx w') := fun B n i sv xs wx h0 h1 ho hB hl ht => Tryz.strconv_AppendInt_10 B n i h0 h1 sv xs wx ho hB hl ht
 have hl0 := keyN_length t.kind t.keyNames (by omega) (by omega) hns 0 (Nat.zero_le _)
 have e0 : keyN t.kind t.keyNames 0 = Lib.itoa t.kind := by simp [keyN, tailK]
 go_enter Tryz.func97, Tryz.ntmps97
 go_wp2_with (go_at_call 123; refine (HAI.out C.B 0 t.kind _ [] w (by omega) (by omega) ho0 hBw (by omega) htab).mono ?_; rintro e w1 ⟨v1, rfl, hown1, hb1, hok1⟩; refine Hid.out ?_)
 refine Lib.hid ?_
 rw [Nat.zero_add, List.nil_append, ← e0] at hown1
 have hbf1 : ByteF C w w1 := ⟨hb1, hok1⟩
 obtain ⟨hM2, hs2, ho2, hF2⟩ := hM.rekey hbf1 hown1
 obtain ⟨⟨d0, d1, d2, d3⟩, hfz1⟩ := block4M (hbf1.cells hs (by decide))
 obtain ⟨g1, cap1, rfl⟩ := owns_pos hown1 (keyN_pos _ _ _)
 have HK0 : Hid (∃ w2, w2 = w1.setCell ⟨C.mb, 0, none⟩ (.slice (some ⟨g1, 0, none⟩) (keyN t.kind t.keyNames 0).length cap1) ∧ KeyIs C w2 M (keyN t.kind t.keyNames 0) ∧ MkF C w w2 ∧ Below C.B w w2) := ⟨_, rfl, ⟨hM2, _, hs2, ho2⟩, hF2, hF2.below hBw⟩
 clear hM2 hs2 ho2 hF2 hown1 hbf1 hb1 hok1 e0 hs ho ho0 c0 c1 c2 c3
 generalize (keyN t.kind t.keyNames 0).length = n1 at *
 obtain ⟨hln, HEN⟩ : ln = t.keyNames.length ∧ Hid (∀ j (h : j < t.keyNames.length) (wx : World), MkF C w wx → ∃ b off, an = some ⟨b, off, none⟩ ∧ wx.cell? ⟨b, off + j, none⟩ = some (.string t.keyNames[j])) := by
  rcases hvn with ⟨e, a, cap, e2⟩ | ⟨b, off, cap, e, ha, hc⟩
  ·simp only [Value.slice.injEq] at e2
   exact ⟨by rw [e2.2.1, e]; rfl, fun j h => absurd h (by rw [e]; simp)⟩
  ·simp only [Value.slice.injEq] at e
   exact ⟨e.2.1, fun j h wx hx => ⟨b, off, e.1, (World.cell?_of_block (a := ⟨b, off + j, none⟩) (hA.sameF hx b ha)).trans (hc j h)⟩⟩
 obtain ⟨w2, hw2, hkey2, hF2, _⟩ := HK0.out
 have HST : Hid (KeyIs C (w1.setCell ⟨C.mb, 0, none⟩ (.slice (some ⟨g1, 0, none⟩) n1 cap1)) M (keyN t.kind t.keyNames 0) ∧ MkF C w (w1.setCell ⟨C.mb, 0, none⟩ (.slice (some ⟨g1, 0, none⟩) n1 cap1))) := by rw [← hw2]; exact ⟨hkey2, hF2⟩
 clear hw2 hkey2 hF2 HK0
 have HNS : Hid (type_of% hns) := hns
 have HKL : Hid (∀ j, j ≤ t.keyNames.length → (keyN t.kind t.keyNames j).length ≤ 21 + j * 1048577) := fun j hj => keyN_length t.kind t.keyNames (by omega) (by omega) hns j hj
 have HMORE : Hid (∀ j (h : j < t.keyNames.length), keyN t.kind t.keyNames (j + 1) = keyN t.kind t.keyNames j ++ 32 :: t.keyNames[j].data.toList) := keyN_more t.kind t.keyNames
 have HPOS : Hid (∀ j, 0 < (keyN t.kind t.keyNames j).length) := keyN_pos t.kind t.keyNames
 obtain ⟨hlkk, HKR⟩ : lk = ks.length ∧ Hid (∀ j (h : j < ks.length) (wx : World), MkF C w wx → MkAt C wx M → ∃ b T bb, ak = some ⟨b, 0, none⟩ ∧ wx.cell? ⟨b, j, none⟩ = some (.iface T (.pointer (some ⟨bb, 0, none⟩))) ∧ (∀ wy : World, Sem.run Tryz.prog (Go.method 361 T (.pointer (some ⟨bb, 0, none⟩)) "loop.example/g00276/impl.base") wy = .ok (210, .pointer (some ⟨bb, 0, none⟩)) wy) ∧ wx.cell? ⟨bb, 0, none⟩ = some (.int .i64 (ks[j] : Nat)) ∧ (∃ c e fz, wx.heap[bb]? = some (.cells c e fz) ∧ e ≠ 5) ∧ ks[j] < M.F.length) := by
  have hrow : ∀ wx : World, MkF C w wx → VRow A wx (.slice ak lk ck) (ks.map (valAt M.F)) := fun wx hx => hvk.same (hA.sameF hx)
  have hopen : ∀ (wx : World), MkF C w wx → ∀ j (h : j < ks.length), ∃ b, ak = some ⟨b, 0, none⟩ ∧ wx.cell? ⟨b, j, none⟩ = some (valAt M.F ks[j]) := fun wx hx j h => by
   obtain ⟨a, cap, e, hc⟩ := (hrow wx hx).open
   simp only [Value.slice.injEq] at e
   obtain ⟨b, e1, _, e2⟩ := hc j (by rw [List.length_map]; exact h)
   rw [List.getElem_map] at e2
   exact ⟨b, by rw [e.1, e1], e2⟩
  refine ⟨?_, fun j h wx hx hMx => ?_⟩
  ·obtain ⟨a, cap, e, _⟩ := hvk.open
   simp only [Value.slice.injEq, List.length_map] at e
   exact e.2.1
  ·obtain ⟨b, e1, e2⟩ := hopen wx hx j h
   obtain ⟨r, e3, e4⟩ := hk.2 j h
   have hFo := hMx.each _ r e3
   obtain ⟨vp, sz, q1, _⟩ := hFo.obj
   refine ⟨b, ptT r.ty.kind, r.blk, e1, ?_, fun wy => methBase _ _ _ rfl, hFo.cells.1, ⟨_, _, _, q1, (st_ne _).1⟩, get_lt e3⟩
   rw [e2, valAt_some e3]
   rfl
 have HB0 : Hid (∀ (a : Addr) (wx : World), Calls Tryz.prog 210 #[.pointer (some a)] wx fun e w' => e = .returned (.pointer (some a)) ∧ w' = wx) := implBase
 have HKM : Hid (∀ j (h : j < ks.length), keyK t.kind t.keyNames ks (j + 1) = keyK t.kind t.keyNames ks j ++ 32 :: Lib.decDigits ks[j]) := keyK_more t.kind t.keyNames ks
 have HKP : Hid (∀ j, 0 < (keyK t.kind t.keyNames ks j).length) := keyK_pos t.kind t.keyNames ks
 have HKB : Hid (∀ j, j ≤ ks.length → (keyK t.kind t.keyNames ks j).length ≤ 1100000000000 + j * 22) := fun j hj => keyK_length t.kind t.keyNames ks (by omega) (by omega) hns hnl (fun i hi => by have := hk.lt i hi; omega) j hj
 have HTB : Hid (∀ wx : World, MkF C w wx → Lib.TabBelow Tryz.prog C.B wx "internal/strconv.uint64pow10" .u64 Lib.pow10Tab) := fun wx hx => htab.on (hx.below hBw)
 have HM : Hid (type_of% hM) := hM
 have HK : Hid (type_of% hk) := hk
 have HVK : Hid (type_of% hvk) := hvk
 have HVN : Hid (type_of% hvn) := hvn
 have HAH : Hid (type_of% hA) := hA
 have HOK : Hid (type_of% hok) := hok
 clear hns hvn hM hk hvk hA hok
 subst hlkk
 subst hln
 have hnl2 := hnl
 obtain ⟨nn, HNN, hnn⟩ : ∃ nn, Hid (t.keyNames.length = nn) ∧ nn ≤ 1048577 := ⟨_, rfl, hnl⟩
 rw [HNN.out]
 clear hnl hnl2
 go_wp2_with fail
 go_loopw [27] (fun i wr => ∃ j : Nat, j ≤ nn ∧ i = .int .i64 j ∧ KeyIs C wr M (keyN t.kind t.keyNames j) ∧ MkF C w wr) (fun i _ => nn - (intOf i).toNat)
 case atStart => exact ⟨0, Nat.zero_le _, rfl, HST.out⟩
 case round =>
  obtain ⟨j, hj, rfl, ⟨hMr, vkr, hsr, hor⟩, hFr⟩ := hrel
  have hBr : C.B ≤ wr.heap.size := Nat.le_trans hBw hFr.size
  obtain ⟨gr, capr, rfl⟩ := owns_pos hor (HPOS.out j)
  obtain ⟨⟨r0, r1, r2, r3⟩, hfzr⟩ := block4M hsr
  have hlen := HKL.out j (by rw [HNN.out]; exact hj)
  by_cases hlt : j < nn
  ·obtain ⟨b, off, rfl, cn0⟩ := HEN.out j (by rw [HNN.out]; exact hlt) wr hFr
   have hsx := HNS.out _ (List.getElem_mem (show j < t.keyNames.length by rw [HNN.out]; exact hlt))
   have HM1 : Hid (type_of% (HMORE.out j (by rw [HNN.out]; exact hlt))) := HMORE.out j (by rw [HNN.out]; exact hlt)
   have HSR : Hid (type_of% hsr) := hsr
   have HMR : Hid (type_of% hMr) := hMr
   have HFR : Hid (type_of% hFr) := hFr
   clear hsr hMr hFr HEN HNS HKL HMORE HPOS HST
   have hjN : j < t.keyNames.length := by rw [HNN.out]; exact hlt
   generalize t.keyNames[j]'hjN = x at *
   clear hjN
   generalize hKj : keyN t.kind t.keyNames j = K at *
   clear hKj
   generalize hnK : K.length = nK at *
   have HNK : Hid (K.length = nK) := hnK
   clear hnK
   go_wp2_with (at_builtin; refine wpList_append_own_at _ rfl _ _ 51 rfl C.B 5 i0 (.int .u8 0) 1 1 Tryz.underlying51 hi0 hz0 hz1 hz2' rfl (by decide) _ _ _ rfl (hor.alloc _) ⟨wr.heap.size, 0, none⟩ 1 1 [.int .u8 32] rfl rfl ?c1 ?c2 ?c3 ?c4 ?c5 ?_)
   case c1 => exact one_cellK (cellNew 0 rfl)
   case c2 => intro u hu; simp at hu; subst hu; rfl
   case c3 => unfold maxLen; omega
   case c4 => omega
   case c5 => simp; omega
   intro v2 w2 hown2 hgrow2 _ _
   have hbf2 : ByteF C wr w2 := ((ByteF.refl C wr).alloc hBr _).grown (by simp; omega) (hor.alloc _) hgrow2
   have hz2 : C.B ≤ w2.heap.size := Nat.le_trans hBr hbf2.below.size
   clear hgrow2
   go_wp2_with (at_builtin; refine Lib.wpList_append_own_string _ rfl _ _ 51 9 rfl C.B 5 i0 Tryz.underlying51 Tryz.underlying9 hi0 hz0 hz1 hz2' _ _ _ rfl hown2 _ rfl ?c1 ?c2 ?c3 ?_)
   case c1 => unfold maxLen; omega
   case c2 => omega
   case c3 => exact hz2
   intro v3 w3 hown3 hgrow3 _
   have hbf3 : ByteF C wr w3 := hbf2.grown hz2 hown2 hgrow3
   obtain ⟨g3, cap3, rfl⟩ := owns_pos hown3 (by omega)
   obtain ⟨⟨d0, d1, d2, d3⟩, hfz3⟩ := block4M (hbf3.cells HSR.out (by decide))
   have HKN : Hid (KeyIs C (w3.setCell ⟨C.mb, 0, none⟩ (.slice (some ⟨g3, 0, none⟩) (nK + 1 + x.size) cap3)) M (keyN t.kind t.keyNames (j + 1)) ∧ MkF C w (w3.setCell ⟨C.mb, 0, none⟩ (.slice (some ⟨g3, 0, none⟩) (nK + 1 + x.size) cap3))) := by
    obtain ⟨q1, q2, q3, q4⟩ := HMR.out.rekey hbf3 hown3
    refine ⟨⟨q1, _, q2, ?_⟩, HFR.out.trans q4⟩
    rw [HM1.out]
    have e1 : (K ++ 32 :: x.data.toList).length = nK + 1 + x.size := by
     rw [List.length_append, List.length_cons, HNK.out]
     show nK + (x.size + 1) = _
     omega
    have e2 : Lib.byteCells (K ++ 32 :: x.data.toList) = Lib.byteCells K ++ .int .u8 32 :: Lib.strCells x := by
     rw [byteCells_app]
     rfl
    rw [e1, e2]
    exact q3
   clear hown3 hgrow3 hbf3 hown2 hbf2 HSR HMR HFR HM1 HNK r0 r1 r2 r3 hor
   go_wp2_with fail
   go_roundw
   case rel => exact ⟨j + 1, by omega, by go_num, HKN.out⟩
   case measure => simp [intOf]; omega
  ·have hjn : j = nn := by omega
   have HST2 : Hid (KeyIs C wr M (keyK t.kind t.keyNames ks 0) ∧ MkF C w wr) := by
    have e : keyK t.kind t.keyNames ks 0 = keyN t.kind t.keyNames j := by
     rw [hjn, ← HNN.out]
     simp [keyK, tailK]
    rw [e]
    exact ⟨⟨hMr, _, hsr, hor⟩, hFr⟩
   clear hMr hsr hor hFr HNS HKL HMORE HPOS HST hjn hlen hfzr r0 r1 r2 r3
   obtain ⟨nk2, HNK2, hnk2⟩ : ∃ nk2, Hid (ks.length = nk2) ∧ nk2 ≤ 1048577 := ⟨_, rfl, hkl⟩
   rw [HNK2.out]
   clear hkl
   go_wp2_with fail
   go_loopw [45] (fun i wr => ∃ j : Nat, j ≤ nk2 ∧ i = .int .i64 j ∧ KeyIs C wr M (keyK t.kind t.keyNames ks j) ∧ MkF C w wr) (fun i _ => nk2 - (intOf i).toNat)
   case atStart => exact ⟨0, Nat.zero_le _, rfl, HST2.out⟩
   case round =>
    clear HST2
    obtain ⟨j, hj, rfl, ⟨hMr, vkr, hsr, hor⟩, hFr⟩ := hrel
    have hBr : C.B ≤ wr.heap.size := Nat.le_trans hBw hFr.size
    obtain ⟨gr, capr, rfl⟩ := owns_pos hor (HKP.out j)
    obtain ⟨⟨r0, r1, r2, r3⟩, hfzr⟩ := block4M hsr
    have hlen := HKB.out j (by rw [HNK2.out]; exact hj)
    by_cases hlt : j < nk2
    ·have hjK : j < ks.length := by rw [HNK2.out]; exact hlt
     obtain ⟨b, T, bb, rfl, ck0, hmeth, cb0, ⟨cc, ee, fzz, hbb, hee⟩, hkF⟩ := HKR.out j hjK wr hFr hMr
     have HM1 : Hid (type_of% (HKM.out j hjK)) := HKM.out j hjK
     have HSR : Hid (type_of% hsr) := hsr
     have HMR : Hid (type_of% hMr) := hMr
     have HFR : Hid (type_of% hFr) := hFr
     have hblt : b < wr.heap.size := World.block_lt_of_cell? wr ⟨b, j, none⟩ ck0
     clear hsr hMr hFr HKM HKP HKB HKR HAH HVK HVN HK HOK HM HEN
     generalize ks[j]'hjK = x at *
     clear hjK
     generalize hKj : keyK t.kind t.keyNames ks j = K at *
     clear hKj
     generalize hnK : K.length = nK at *
     have HNK : Hid (K.length = nK) := hnK
     clear hnK
     go_wp2_with (at_builtin; refine wpList_append_own_at _ rfl _ _ 51 rfl C.B 5 i0 (.int .u8 0) 1 1 Tryz.underlying51 hi0 hz0 hz1 hz2' rfl (by decide) _ _ _ rfl (hor.alloc _) ⟨wr.heap.size, 0, none⟩ 1 1 [.int .u8 32] rfl rfl ?c1 ?c2 ?c3 ?c4 ?c5 ?_)
     case c1 => exact one_cellK (cellNew 0 rfl)
     case c2 => intro u hu; simp at hu; subst hu; rfl
     case c3 => unfold maxLen; omega
     case c4 => omega
     case c5 => simp; omega
     intro v2 w2 hown2 hgrow2 _ _
     have hbf2 : ByteF C wr w2 := ((ByteF.refl C wr).alloc hBr _).grown (by simp; omega) (hor.alloc _) hgrow2
     have hzz2 : C.B ≤ w2.heap.size := Nat.le_trans hBr hbf2.below.size
     have cb2 : w2.cell? ⟨bb, 0, none⟩ = some (.int .i64 (x : Nat)) := (World.cell?_of_block (w := wr) (a := ⟨bb, 0, none⟩) ((hbf2.cells hbb hee).trans hbb.symm)).trans cb0
     obtain ⟨g2, cap2, rfl⟩ := owns_pos hown2 (by omega)
     have hmt := hmeth w2
     clear hgrow2
     go_wp2_with (go_at_call 210; refine (HB0.out _ _).mono ?_; rintro e w9 ⟨rfl, rfl⟩)
     refine (HAI.out C.B (nK + 1) (x : Nat) _ _ w9 (by omega) (by omega) hown2 hzz2 (by omega) (HTB.out w9 (HFR.out.trans hbf2.mkf))).mono ?_
     rintro e w3 ⟨v3, rfl, hown3, hb3, hok3⟩
     have hbf3 : ByteF C wr w3 := hbf2.trans ⟨hb3, hok3⟩
     obtain ⟨g3, cap3, rfl⟩ := owns_pos hown3 (by omega)
     obtain ⟨⟨d0, d1, d2, d3⟩, hfz3⟩ := block4M (hbf3.cells HSR.out (by decide))
     obtain ⟨n3, HN3⟩ : ∃ n3, Hid (n3 = nK + 1 + (Lib.itoa (x : Nat)).length) := ⟨_, rfl⟩
     rw [← HN3.out] at hown3 ⊢
     have HKN : Hid (KeyIs C (w3.setCell ⟨C.mb, 0, none⟩ (.slice (some ⟨g3, 0, none⟩) n3 cap3)) M (keyK t.kind t.keyNames ks (j + 1)) ∧ MkF C w (w3.setCell ⟨C.mb, 0, none⟩ (.slice (some ⟨g3, 0, none⟩) n3 cap3))) := by
      obtain ⟨q1, q2, q3, q4⟩ := HMR.out.rekey hbf3 hown3
      refine ⟨⟨q1, _, q2, ?_⟩, HFR.out.trans q4⟩
      rw [HM1.out]
      have e0 : Lib.itoa (x : Nat) = Lib.decDigits x := by
       unfold Lib.itoa
       rw [if_neg (by omega), Int.toNat_natCast]
      have e1 : (K ++ 32 :: Lib.decDigits x).length = n3 := by
       rw [HN3.out, List.length_append, List.length_cons, HNK.out, e0]
       omega
      have e2 : Lib.byteCells (K ++ 32 :: Lib.decDigits x) = Lib.byteCells K ++ [.int .u8 32] ++ Lib.byteCells (Lib.itoa (x : Nat)) := by
       rw [byteCells_app, e0, List.append_assoc]
       rfl
      rw [e1, e2]
      exact q3
     clear hown3 hbf3 hown2 hbf2 HSR HMR HFR HM1 HNK r0 r1 r2 r3 hor hb3 hok3 hmt hmeth
     go_wp2_with fail
     go_roundw
     case rel => exact ⟨j + 1, by omega, by go_num, HKN.out⟩
     case measure => simp [intOf]; omega
    ·have hjn : j = nk2 := by omega
     have HKEY : Hid (keyK t.kind t.keyNames ks j = keyF t.kind t.keyNames ks) := by
      show _ = _
      rw [hjn, ← HNK2.out, keyK_all]
     rw [HKEY.out] at hor hsr r0
     have hposK : 0 < (keyF t.kind t.keyNames ks).length := by rw [← HKEY.out]; exact HKP.out j
     obtain ⟨KEY, HKY⟩ : ∃ KEY, Hid (KEY = keyF t.kind t.keyNames ks) := ⟨_, rfl⟩
     rw [← HKY.out] at hor hsr r0 hposK
     clear HKEY hjn HKM HKP HKB hlen
     have hcv : ∀ q, Sem.run Tryz.prog (convert 51 9 (.slice (some ⟨gr, 0, none⟩) KEY.length capr)) (wr.drewN q) = .ok (.string ⟨KEY.toArray⟩) (wr.drewN q) := fun q => run_convert_bytes_back (P := Tryz.prog) (wr.drewN q) _ _ _ ⟨gr, 0, none⟩ capr KEY Tryz.underlying51 Tryz.underlying5 Tryz.underlying9 fun j hj => hor.cells (g := gr) rfl j _ (by simp [Lib.byteCells, hj])
     have hlk0 := fun (q : Nat) => run_lookup_text (P := Tryz.prog) (w := wr.drewN q) (T := 88) (k := 9) (e := 94) (z := .nilIface) Tryz.underlying88 Tryz.underlying9 (by kernel_rfl) (show SMap (wr.drewN q) C.fb _ from hMr.forms) ⟨KEY.toArray⟩ false
     cases hd : lookD (M.F.map fun r => (r.key, r.val)) ⟨KEY.toArray⟩ with
     | some v =>
      obtain ⟨i, r, hi1, hi2, rfl⟩ := lookD_form hd
      rw [hd] at hlk0
      have hlk : ∀ q, Sem.run Tryz.prog (Instr.lookup 88 (.map (some C.fb)) (.string ⟨KEY.toArray⟩) false) (wr.drewN q) = .ok (.iface (ptT r.ty.kind) (.pointer (some ⟨r.blk, 0, none⟩))) (wr.drewN q) := hlk0
      have HEND : Hid (∀ q, FPost C M A t w (.returned (.iface (ptT r.ty.kind) (.pointer (some ⟨r.blk, 0, none⟩)))) (wr.drewN q)) := fun q => by
       have ety : r.ty = t := ty_of_key HOK.out HK.out (hMr.each i r hi1).ok (hMr.each i r hi1).kids (by have e := hi2; rw [HKY.out] at e; exact e)
       have hbd : Below wr.heap.size wr (wr.drewN q) := below_drewN (Below.refl _ _) q
       exact ⟨M, i, by rw [valAt_some hi1]; rfl, ⟨r, hi1, ety⟩, hMr.below hbd, hFr.trans (MkF.ofBelow hbd), ⟨[], by simp⟩, rfl, rfl, by omega, fun b hb => hb, fun b hb => .inl hb⟩
      clear hlk0 hd hor hMr hsr hFr HKR HEN HAH HVK HVN HK HOK HM HKY hi1 hi2
      generalize ptT r.ty.kind = T at *
      generalize r.blk = bb at *
      go_wp2_with fail
      go_quiet (fail)
      go_wp2_with fail
      go_ret
      exact HEND.out _
     | none =>
      rw [hd] at hlk0
      have hlk : ∀ q, Sem.run Tryz.prog (Instr.lookup 88 (.map (some C.fb)) (.string ⟨KEY.toArray⟩) false) (wr.drewN q) = .ok .nilIface (wr.drewN q) := hlk0
      have HNF : Hid (∀ wx : World, MkF C w wx → Calls Tryz.prog 124 #[.int .i64 t.kind, .slice ak nk2 ck, .slice an nn cn] wx fun e w' => ∃ b, e = .returned (.iface (ptT t.kind) (.pointer (some ⟨b, 0, none⟩))) ∧ wx.heap.size ≤ b ∧ w'.heap[b]? = some (.cells (rawCells t.kind t.name (.slice ak nk2 ck) (.slice an nn cn)) (stT t.kind) (0, 0)) ∧ Below wx.heap.size wx w') := fun wx hx => implNewForm t.kind t.name ak nk2 ck an nn cn wx hk0 hk7 fun h4 => by
       have e1 : t.keyNames = [t.name] := by unfold Ty.keyNames; rw [if_pos h4]
       have e2 : 0 < t.keyNames.length := by rw [e1]; simp
       obtain ⟨b, off, q1, q2⟩ := HEN.out 0 e2 wx hx
       refine ⟨by rw [← HNN.out]; exact e2, b, off, q1, ?_⟩
       rw [Nat.add_zero] at q2
       rw [q2]
       congr 2
       simp [e1]
      have HMR : Hid (∀ q, MkAt C (wr.drewN q) M ∧ MkF C w (wr.drewN q) ∧ (wr.drewN q).heap[C.mb]? = wr.heap[C.mb]? ∧ (wr.drewN q).ownsRow C.B 5 1 (.slice (some ⟨gr, 0, none⟩) KEY.length capr) KEY.length (Lib.byteCells KEY)) := fun q => by
       have hbd : Below wr.heap.size wr (wr.drewN q) := below_drewN (Below.refl _ _) q
       exact ⟨hMr.below hbd, hFr.trans (MkF.ofBelow hbd), rfl, hor⟩
      have HSR : Hid (type_of% hsr) := hsr
      have HNO : Hid (type_of% (lookD_noform hd)) := lookD_noform hd
      clear hlk0 hd hor hMr hsr hFr HEN hBr
      go_wp2_with fail
      go_quiet (fail)
      go_wp2_with fail
      have HX := HMR.out nq
      generalize wr.drewN nq = X at *
      obtain ⟨hMX, hFX, hsX, hoX⟩ := HX
      rw [HSR.out] at hsX
      clear hlk hcv HMR HSR r0 r1 r2 r3 hfzr
      refine (HNF.out X hFX).mono ?_
      rintro e w4 ⟨bN, rfl, hbN, hobjN, hb4⟩
      obtain ⟨r, hr⟩ : ∃ r : FRec, r = ⟨bN, t, ks, .slice ak nk2 ck, .slice an nn cn⟩ := ⟨_, rfl⟩
      have HFIN : Hid (∀ Z : World, Below X.heap.size X Z → Z.heap[bN]? = some (.cells (r.cells M.F.length (.slice none 0 0) 0) (stT t.kind) (0, 0)) → ∃ Z', Sem.run Tryz.prog (Instr.mapUpdate 88 (.map (some C.fb)) (.string ⟨KEY.toArray⟩) (.iface (ptT t.kind) (.pointer (some ⟨bN, 0, none⟩)))) Z = .ok () Z' ∧ ∀ q, FPost C M A t w (.returned (.iface (ptT t.kind) (.pointer (some ⟨bN, 0, none⟩)))) (Z'.drewN q)) := fun Z hZ hobjZ => by
       have hkey : r.key = ⟨KEY.toArray⟩ := by rw [hr, HKY.out]; rfl
       have hval : r.val = .iface (ptT t.kind) (.pointer (some ⟨bN, 0, none⟩)) := by rw [hr]; rfl
       have hblk : r.blk = bN := by rw [hr]
       have hty : r.ty = t := by rw [hr]
       have hfbX : C.fb < X.heap.size := hMX.forms.lt
       obtain ⟨Z', h1, h2, h3⟩ := run_update_text (P := Tryz.prog) (w := Z) (T := 88) (k := 9) (e := 94) Tryz.underlying88 Tryz.underlying9 (hMX.forms.same (hZ.block _ hfbX)) ⟨KEY.toArray⟩ (look_none HNO.out) (.iface (ptT t.kind) (.pointer (some ⟨bN, 0, none⟩)))
       refine ⟨Z', h1, fun q => ?_⟩
       have hold : ∀ b, b < X.heap.size → b ≠ C.fb → (Z'.drewN q).heap[b]? = X.heap[b]? := fun b hb hne => (h3.2.2.2.2 b hne).trans (hZ.block b hb)
       have hz : X.heap.size ≤ (Z'.drewN q).heap.size := by
        have e1 : (Z'.drewN q).heap.size = Z'.heap.size := rfl
        rw [e1, h3.2.2.2.1]
        exact hZ.size
       have hAX := HAH.out.step hFX
       have hp := hMX.push (w' := Z'.drewN q) hAX r (by rw [hty]; exact HOK.out) (by rw [hblk]; exact hbN) (by rw [hr]; exact HK.out) (by rw [hr]; rw [HNK2.out] at HVK; exact HVK.out.same (HAH.out.sameF hFX)) (fun h5 => by
        rw [hr] at h5 ⊢
        have := HVN.out.same (HAH.out.sameF hFX)
        rw [HNN.out] at this
        have e5 : t.keyNames = t.names := by
         unfold Ty.keyNames
         rw [if_neg (by have h5' : t.kind = 5 := h5; omega)]
        rw [e5] at this
        exact this) (fun i q hq => by rw [hkey]; exact HNO.out i q hq) (by
        rw [hblk, hty]
        refine (h3.2.2.2.2 bN ?_).trans hobjZ
        omega) (by rw [hkey, hval]; exact h2) hold hz ⟨by rw [hty]; exact hsm, by rw [hr]; show ks.length ≤ _; rw [HNK2.out]; exact hnk2⟩
       refine ⟨_, M.F.length, ?_, ⟨r, by simp, hty⟩, hp, hFX.trans ⟨?_, ?_, ?_, hz, fun b hb hm => hold b hb fun e => hm (e ▸ hMX.mineFb)⟩, ⟨[r], rfl⟩, rfl, rfl, by simp, fun b hb => .inl hb, fun b hb => hb⟩
       ·rw [valAt_some (r := r) (by simp), hval]
       ·exact h3.1.trans hZ.os
       ·exact h3.2.1.trans hZ.tape
       ·exact h3.2.2.1.trans hZ.output
      have hMb : ∀ Z : World, Below X.heap.size X Z → Z.heap[C.mb]? = some (.cells #[.slice (some ⟨gr, 0, none⟩) KEY.length capr, .map (some C.fb), .map (some C.lb), .map (some C.tb)] 92 (0, 0)) := fun Z hZ => (hZ.block C.mb (Array.getElem?_eq_some_iff.1 hsX).1).trans hsX
      have HMB : Hid (type_of% hMb) := hMb
      have HCV : Hid (∀ Z : World, Below X.heap.size X Z → Sem.run Tryz.prog (convert 51 9 (.slice (some ⟨gr, 0, none⟩) KEY.length capr)) Z = .ok (.string ⟨KEY.toArray⟩) Z) := fun Z hZ => run_convert_bytes_back (P := Tryz.prog) Z _ _ _ ⟨gr, 0, none⟩ capr KEY Tryz.underlying51 Tryz.underlying5 Tryz.underlying9 fun j hj => (kept_belowT hoX hZ).cells (g := gr) rfl j _ (by simp [Lib.byteCells, hj])
      obtain ⟨⟨m0, m1, m2, m3⟩, hfm⟩ := block4M (hMb w4 hb4)
      have hfN : ∀ j, w4.frozen? ⟨bN, j, none⟩ = false := fun j => frozen_of_row _ _ j _ _ hobjN
      have cN0 : w4.cell? ⟨bN, 0, none⟩ = some (.int .i64 0) := by rw [cell_of_row _ bN 0 _ _ (0, 0) hobjN]; simp [rawCells]
      have hmeth : ∀ wy : World, Sem.run Tryz.prog (Go.method 361 (ptT t.kind) (.pointer (some ⟨bN, 0, none⟩)) "loop.example/g00276/impl.base") wy = .ok (210, .pointer (some ⟨bN, 0, none⟩)) wy := fun wy => methBase _ _ _ rfl
      have hlen4 : Sem.run Tryz.prog (Builtin.len_ #[88] 3 #[.map (some C.fb)]) w4.drew = .ok (.int .i64 (M.F.length : Int)) w4.drew := by
       obtain ⟨es, clk, hmap4, hes⟩ := (hMX.below hb4).forms
       have hesz : es.size = M.F.length := by
        have := congrArg List.length hes
        simpa using this
       have hm : w4.drew.heap[C.fb]? = some (.map es clk) := hmap4
       simp [Builtin.len_, run_underlying Tryz.underlying88, MapKept.run_getObj_map hm, goInt, Result.andThen, hesz]
      have hB5 : Below X.heap.size X (w4.setCell ⟨bN, 0, none⟩ (.int .i64 (M.F.length : Int))).drew := (hb4.setCell hbN _).drew
      have hobj5 : (w4.setCell ⟨bN, 0, none⟩ (.int .i64 (M.F.length : Int))).drew.heap[bN]? = some (.cells ((rawCells t.kind t.name (.slice ak nk2 ck) (.slice an nn cn)).setIfInBounds 0 (.int .i64 (M.F.length : Int))) (stT t.kind) (0, 0)) := heap_setCell_same w4 bN 0 _ _ _ hobjN
      have hhi := hi_of_kids HOK.out
      have hk1 : ks.length = t.kids.length := HK.out.1
      have HHT : Hid (∀ wx : World, Below X.heap.size X wx → Calls Tryz.prog 118 #[.slice ak nk2 ck] wx fun e w' => e = .returned (.int .i64 (hiMost t.kids)) ∧ w' = wx) := fun wx hx => implHeightOf C M _ ks t.kids A wx (hMX.below hx) (by rw [HNK2.out] at HVK; exact HVK.out.same (HAH.out.sameF (hFX.trans (MkF.ofBelow hx)))) HK.out (by rw [HNK2.out]; omega)
      have hFX9 : MkF C w X := hFX
      clear HNF HNO hoX hsX hMX hMb HAH HVK HVN HKR HTB HAI HM HKY
      by_cases hz : nk2 = 0
      ·have hZ0 : ((w4.setCell ⟨bN, 0, none⟩ (.int .i64 (M.F.length : Int))).drew.heap[bN]? = some (.cells (r.cells M.F.length (.slice none 0 0) 0) (stT t.kind) (0, 0))) := by
        have e0 : Ty.hi t = 0 := by rw [hhi, ← hk1, HNK2.out, if_pos hz]
        rw [hobj5, hr]
        simp [FRec.cells, rawCells, FRec.more, e0]
       have HZ0 : Hid (type_of% hZ0) := hZ0
       have hzi : ¬ ((0 : Int) < (nk2 : Int)) := by omega
       clear hZ0
       have hzb : decide ((0 : Int) < (nk2 : Int)) = false := decide_eq_false (by omega)
       clear hobj5 hobjN hhi hk1 HHT HOK HK
       generalize ptT t.kind = PT at *
       go_wp2_with fail
       go_region_with (go_at_call 210; refine (HB0.out _ _).mono ?_; rintro e w9 ⟨rfl, rfl⟩)
       all_goals
        generalize (World.setCell _ (⟨bN, 0, none⟩ : Addr) (.int .i64 (M.F.length : Int))).drew = Y at *
        obtain ⟨Z', hup, hpost⟩ := HFIN.out Y.drew hB5.drew HZ0.out
        have hcvY := HCV.out Y.drew hB5.drew
        obtain ⟨⟨y0, y1, y2, y3⟩, hfy⟩ := block4M (HMB.out Y hB5)
        have HPO : Hid (type_of% hpost) := hpost
        clear hpost
        go_wp2_with fail
        go_region
        all_goals go_wp2_with fail
        all_goals go_ret
        all_goals exact HPO.out 0
      ·have hh12 : hiMost t.kids ≤ 12 := hiMost_le.2 fun k hk => (HOK.out.kid hk).hi_le
       have hZ0 : ∀ Y : World, Y.heap[bN]? = some (.cells ((rawCells t.kind t.name (.slice ak nk2 ck) (.slice an nn cn)).setIfInBounds 0 (.int .i64 (M.F.length : Int))) (stT t.kind) (0, 0)) → (Y.setCell ⟨bN, 2, none⟩ (.int .i64 ((hiMost t.kids : Int) + 1))).heap[bN]? = some (.cells (r.cells M.F.length (.slice none 0 0) 0) (stT t.kind) (0, 0)) := fun Y hY => by
        have e0 : Ty.hi t = hiMost t.kids + 1 := by rw [hhi, ← hk1, HNK2.out, if_neg hz]
        rw [heap_setCell_same Y bN 2 _ _ _ hY, hr]
        simp [FRec.cells, rawCells, FRec.more, e0]
       have HZ0 : Hid (type_of% hZ0) := hZ0
       have hzi : (0 : Int) < (nk2 : Int) := by omega
       clear hZ0 hobjN hhi hk1 HOK HK
       generalize ptT t.kind = PT at *
       generalize hiMost t.kids = hm at *
       go_wp2_with fail
       go_region_with (go_at_call 210; refine (HB0.out _ _).mono ?_; rintro e w9 ⟨rfl, rfl⟩)
       all_goals
        generalize (World.setCell _ (⟨bN, 0, none⟩ : Addr) (.int .i64 (M.F.length : Int))).drew = Y at *
        have hfY : ∀ j, Y.frozen? ⟨bN, j, none⟩ = false := fun j => frozen_of_row _ _ j _ _ hobj5
        have cY2 : Y.cell? ⟨bN, 2, none⟩ = some (.int .i64 0) := by rw [cell_of_row _ bN 2 _ _ (0, 0) hobj5]; simp [rawCells]
        have hB6 : Below X.heap.size X (Y.setCell ⟨bN, 2, none⟩ (.int .i64 ((hm : Int) + 1))) := hB5.setCell hbN _
        obtain ⟨Z', hup, hpost⟩ := HFIN.out (Y.setCell ⟨bN, 2, none⟩ (.int .i64 ((hm : Int) + 1))).drew hB6.drew (HZ0.out Y hobj5)
        have hcvY := HCV.out (Y.setCell ⟨bN, 2, none⟩ (.int .i64 ((hm : Int) + 1))).drew hB6.drew
        have hMBY := HMB.out (Y.setCell ⟨bN, 2, none⟩ (.int .i64 ((hm : Int) + 1))) hB6
        have HPO : Hid (type_of% hpost) := hpost
        have hmY := hmeth Y
        clear hpost
        go_wp2_with (first | (go_at_call 210; refine (HB0.out _ _).mono ?_; rintro e w9 ⟨rfl, rfl⟩) | (go_at_call 118; refine (HHT.out _ hB5).mono ?_; rintro e w9 ⟨rfl, rfl⟩))
        generalize World.setCell _ (⟨bN, 2, none⟩ : Addr) (.int .i64 ((hm : Int) + 1)) = Y2 at *
        obtain ⟨⟨y0, y1, y2, y3⟩, hfy⟩ := block4M hMBY
        go_region
        all_goals go_wp2_with fail
        all_goals go_ret
        all_goals exact HPO.out 0
end Go.Proofs.YtbojmbeopnlmiaaGreatDoor
