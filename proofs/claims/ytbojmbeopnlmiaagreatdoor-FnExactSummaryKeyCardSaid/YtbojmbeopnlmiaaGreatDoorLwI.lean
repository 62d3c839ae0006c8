/-
 The walk of impl.listsWithin at types.
-/
import Derived.Test.YtbojmbeopnlmiaaGreatDoorWtF
import Derived.Test.YtbojmbeopnlmiaaGreatDoorMkL
namespace Go.Proofs.YtbojmbeopnlmiaaGreatDoor
open Go.RowKit Go.Sort
set_option maxHeartbeats 400000 in
theorem implPlace0 (a : Option Addr) (cap : Nat) (w : World) : Calls Tryz.prog 69 #[.slice a 0 cap] w fun e w' => e = .returned (.agg #[.pointer none, .int .i64 0]) ∧ Below w.heap.size w w' := by
 go_enter Tryz.func69, Tryz.ntmps69
 go_wp2_with fail
 exact ret_place rfl ⟨by rw [cellNew _ rfl]; rfl, by rw [cellNew _ rfl]; rfl⟩ ⟨rfl, (Below.refl _ _).alloc (Nat.le_refl _) _⟩
theorem implPlaceKey {A : Nat → Prop} {w0 : World} {a : Option Addr} {n m c : Nat} {ts : List Ty} (hf : LE.fits A w0 ⟨.slice a n c, ts, m⟩) (w : World) : Calls Tryz.prog 69 #[.slice a n c] w fun e w' => e = .returned (keyVP (LE.key ⟨.slice a n c, ts, m⟩)) ∧ Below w.heap.size w w' := by
 rcases Nat.eq_zero_or_pos n with hn | hn
 ·subst hn
  rw [LE.key_nil (e := ⟨.slice a 0 c, ts, m⟩) rfl]
  exact implPlace0 a c w
 ·rw [LE.key_of (e := ⟨.slice a n c, ts, m⟩) rfl hn]
  have hl : n = ts.length := by
   rcases hf with ⟨e, a', cap, e2⟩ | ⟨b, off, cap, e2, _⟩
   ·have e' : ts = [] := e
    have e3 : Value.slice a n c = .slice a' 0 cap := e2
    simp only [Value.slice.injEq] at e3
    omega
   ·have e3 : Value.slice a n c = .slice (some ⟨b, off, none⟩) ts.length cap := e2
    simp only [Value.slice.injEq] at e3
    exact e3.2.1
  obtain ⟨b, off, ha⟩ : ∃ b off, a = some ⟨b, off, none⟩ := by
   rcases hf with ⟨e, a', cap, e2⟩ | ⟨b, off, cap, e2, _⟩
   ·have e3 : Value.slice a n c = .slice a' 0 cap := e2
    simp only [Value.slice.injEq] at e3
    omega
   ·have e3 : Value.slice a n c = .slice (some ⟨b, off, none⟩) ts.length cap := e2
    simp only [Value.slice.injEq] at e3
    exact ⟨b, off, e3.1⟩
  subst ha
  exact implPlaceOf b off n c w hn
theorem key_rows {A : Nat → Prop} {w : World} {e : LE} (h : e.fits A w) : RowsOf w e.key.place ∧ ∀ a, e.key.place = some a → A a.block := by
 obtain ⟨a, c, hv, hop⟩ := LE.open h
 rcases Nat.eq_zero_or_pos e.ts.length with hn | hn
 ·rw [hn] at hv
  rw [LE.key_nil hv]
  exact ⟨(fun x hx => by cases hx), (fun x hx => by cases hx)⟩
 ·rw [LE.key_of hv hn]
  obtain ⟨m, b, off, vn, vk, _, ha, hA, hh, _⟩ := hop 0 hn
  refine ⟨fun x hx => ?_, fun x hx => ?_⟩
  ·rw [ha] at hx
   obtain rfl := Option.some.inj hx
   exact hh
  ·rw [ha] at hx
   obtain rfl := Option.some.inj hx
   exact hA
theorem few_len {A : Nat → Prop} {w : World} {e : LE} (h : e.fits A w) : e.ts.length ≤ e.cost := by
 obtain ⟨_, _, _, hop⟩ := LE.open h
 unfold LE.cost ndRow
 have : ∀ l : List Ty, (∃ m, e.n = m + 1) ∨ l = [] → l.length ≤ (l.map fun t => (Ty.nodes e.n t).length).sum := fun l hl => by
  induction l with
  | nil => simp
  | cons a r ih =>
   obtain ⟨m, hm⟩ : ∃ m, e.n = m + 1 := by rcases hl with q | q; exact q; cases q
   have := ih (.inl ⟨m, hm⟩)
   have h9 : 1 ≤ (Ty.nodes e.n a).length := by rw [hm, Ty.nodes, List.length_cons]; omega
   simp only [List.map_cons, List.sum_cons, List.length_cons]
   omega
 have := this e.ts (by
  cases hts : e.ts with
  | nil => exact .inr rfl
  | cons a r =>
   obtain ⟨m, _, _, _, _, hm, _⟩ := hop 0 (by rw [hts]; simp)
   exact .inl ⟨m, hm⟩)
 omega
structure LwM (A : Nat → Prop) (w wr : World) (M : Nat) (D : List (KeyP × Int)) (vS : Value) (S : List (LE × Nat)) (vO : Value) (O : List LE) : Prop where
 map : KMapP wr M D
 low : w.heap.size ≤ M
 lowD : ∀ p ∈ D, ∀ a, p.1.place = some a → a.block < w.heap.size
 stk : wr.ownsRow w.heap.size 28 1 vS S.length (S.map fun x => x.1.v)
 out : wr.ownsRow w.heap.size 28 1 vO O.length (O.map LE.v)
 apart : ∀ g, vS.ownBlock = some g → vO.ownBlock ≠ some g
 bel : Below w.heap.size w wr
theorem own_atW {X Y : World} {B e z : Nat} {v : Value} {n : Nat} {xs : List Value} (h : X.ownsRow B e z v n xs) (hs : ∀ g, v.ownBlock = some g → Y.heap[g]? = X.heap[g]?) : Y.ownsRow B e z v n xs := by
 refine ⟨h.1, ?_⟩
 rcases h.2 with q | ⟨g, cap, cur, hv, hg, hh, q⟩
 ·exact .inl q
 ·exact .inr ⟨g, cap, cur, hv, hg, (hs g (by rw [hv]; rfl)).trans hh, q⟩
theorem own_rowW {X : World} {B e z : Nat} {v : Value} {n : Nat} {xs : List Value} (h : X.ownsRow B e z v n xs) {g : Nat} (hg : v.ownBlock = some g) : B ≤ g ∧ ∃ c, X.heap[g]? = some (.cells c e (0, 0)) := by
 rcases h.2 with ⟨q, _⟩ | ⟨g', cap, cur, hv, hB, hh, _⟩
 ·rw [q] at hg; simp [Value.ownBlock] at hg
 ·rw [hv] at hg
  simp only [Value.ownBlock, Option.some.injEq] at hg
  subst hg
  exact ⟨hB, _, hh⟩
theorem LwM.below {A : Nat → Prop} {w wr w2 : World} {M : Nat} {D : List (KeyP × Int)} {vS vO : Value} {S : List (LE × Nat)} {O : List LE} (h : LwM A w wr M D vS S vO O) (hb : Below wr.heap.size wr w2) : LwM A w w2 M D vS S vO O :=
 ⟨h.map.kept (hb.block M h.map.lt) h.lowD (fun b hb' => hb.block b (Nat.lt_of_lt_of_le hb' h.bel.size)), h.low, h.lowD, own_atW h.stk fun g hg => hb.block g (h.stk.lt g hg).2, own_atW h.out fun g hg => hb.block g (h.out.lt g hg).2, h.apart, h.bel.trans (hb.mono h.bel.size)⟩
theorem LwM.put {A : Nat → Prop} {w wr w2 : World} {M : Nat} {D : List (KeyP × Int)} {vS vO : Value} {S : List (LE × Nat)} {O : List LE} (h : LwM A w wr M D vS S vO O) {k : KeyP} {v : Int} (hk : ∀ a, k.place = some a → a.block < w.heap.size) (hm : KMapP w2 M (setKP D k v)) (hb : But M wr w2) : LwM A w w2 M (setKP D k v) vS S vO O := by
 obtain ⟨es, ck, hM⟩ := h.map.obj
 have ne : ∀ {X : Value} {n : Nat} {xs : List Value}, wr.ownsRow w.heap.size 28 1 X n xs → ∀ g, X.ownBlock = some g → g ≠ M := fun hr g hg e => by
  obtain ⟨_, c, q⟩ := own_rowW hr hg
  subst e
  rw [hM] at q
  simp at q
 refine ⟨hm, h.low, fun p hp a ha => ?_, own_atW h.stk fun g hg => hb.2.2.2.2 g (ne h.stk g hg), own_atW h.out fun g hg => hb.2.2.2.2 g (ne h.out g hg), h.apart, h.bel.trans ⟨hb.1, hb.2.1, hb.2.2.1, Nat.le_of_eq hb.2.2.2.1.symm, fun b hb' => hb.2.2.2.2 b (by have := h.low; omega)⟩⟩
 rcases set_memP hp with q | q
 ·exact h.lowD p q a ha
 ·rw [q] at ha
  exact hk a ha
theorem LwM.push {A : Nat → Prop} {w wr w2 : World} {M : Nat} {D : List (KeyP × Int)} {vS vO v' : Value} {S : List (LE × Nat)} {O : List LE} {x : LE × Nat} {o : Obj} (h : LwM A w wr M D vS S vO O) (hown : w2.ownsRow w.heap.size 28 1 v' (S ++ [x]).length ((S ++ [x]).map fun x => x.1.v)) (hg : (wr.alloc o).grownBy w2 vS.ownBlock) (hloc : v'.ownBlock = vS.ownBlock ∨ v'.ownBlock = some (wr.alloc o).heap.size) : LwM A w w2 M D v' (S ++ [x]) vO O := by
 have h1 := h.below ((Below.refl wr.heap.size wr).alloc (Nat.le_refl _) o)
 obtain ⟨es, ck, hM⟩ := h1.map.obj
 have hMs : some M ≠ vS.ownBlock := fun e => by
  obtain ⟨_, c, q⟩ := own_rowW h1.stk e.symm
  rw [hM] at q
  simp at q
 refine ⟨h1.map.kept (hg.block M h1.map.lt hMs) h1.lowD (fun b hb' => hg.block b (Nat.lt_of_lt_of_le hb' h1.bel.size) fun e => ?_), h1.low, h1.lowD, hown, own_atW h1.out fun g hg' => hg.block g (h1.out.lt g hg').2 fun e => h1.apart g e.symm hg', fun g hg' => ?_, h1.bel.grown hg h1.bel.size fun g hg' => (h1.stk.lt g hg').1⟩
 ·have := (h1.stk.lt b e.symm).1
  omega
 ·rcases hloc with q | q
  ·exact h1.apart g (q ▸ hg')
  ·intro q2
   have := (h1.out.lt g q2).2
   rw [hg'] at q
   have := Option.some.inj q
   omega
theorem LwM.tell {A : Nat → Prop} {w wr w2 : World} {M : Nat} {D : List (KeyP × Int)} {vS vO v' : Value} {S : List (LE × Nat)} {O : List LE} {x : LE} {o : Obj} (h : LwM A w wr M D vS S vO O) (hown : w2.ownsRow w.heap.size 28 1 v' (O ++ [x]).length ((O ++ [x]).map LE.v)) (hg : (wr.alloc o).grownBy w2 vO.ownBlock) (hloc : v'.ownBlock = vO.ownBlock ∨ v'.ownBlock = some (wr.alloc o).heap.size) : LwM A w w2 M D vS S v' (O ++ [x]) := by
 have h1 := h.below ((Below.refl wr.heap.size wr).alloc (Nat.le_refl _) o)
 obtain ⟨es, ck, hM⟩ := h1.map.obj
 have hMs : some M ≠ vO.ownBlock := fun e => by
  obtain ⟨_, c, q⟩ := own_rowW h1.out e.symm
  rw [hM] at q
  simp at q
 refine ⟨h1.map.kept (hg.block M h1.map.lt hMs) h1.lowD (fun b hb' => hg.block b (Nat.lt_of_lt_of_le hb' h1.bel.size) fun e => ?_), h1.low, h1.lowD, own_atW h1.stk fun g hg' => hg.block g (h1.stk.lt g hg').2 fun e => h1.apart g hg' e.symm, hown, fun g hg' q2 => ?_, h1.bel.grown hg h1.bel.size fun g hg' => (h1.out.lt g hg').1⟩
 ·have := (h1.out.lt b e.symm).1
  omega
 ·rcases hloc with q | q
  ·exact h1.apart g hg' (q ▸ q2)
  ·have := (h1.stk.lt g hg').2
   rw [q2] at q
   have := Option.some.inj q
   omega
theorem LwM.pop {A : Nat → Prop} {w wr : World} {M gs cap : Nat} {D : List (KeyP × Int)} {vO : Value} {S : List (LE × Nat)} {O : List LE} {x : LE × Nat} (h : LwM A w wr M D (.slice (some ⟨gs, 0, none⟩) (S.length + 1) cap) (S ++ [x]) vO O) : LwM A w wr M D (.slice (some ⟨gs, 0, none⟩) S.length cap) S vO O := by
 have hr := h.stk
 rw [List.length_append, List.length_singleton, List.map_append, List.map_singleton] at hr
 exact ⟨h.map, h.low, h.lowD, own_cut1 hr (by omega) (by rw [List.take_left' (by simp)]), h.out, fun g hg => h.apart g hg, h.bel⟩
set_option maxHeartbeats 3200000 in
set_option maxRecDepth 100000 in
theorem implLists (A : Nat → Prop) (root : LE) (w : World) (hA : ∀ b, A b → b < w.heap.size) (hf : root.fits A w) (hn : root.ts ≠ []) (hc : root.cost ≤ 1000000000) :
  Calls Tryz.prog 68 #[root.v, .func (.func 44) #[] #[]] w fun e w' => ∃ (M : Nat) (D : List (KeyP × Int)) (vS vO : Value) (O : List LE), e = .returned (.tuple #[vO, .bool false]) ∧ Lw A w root D [] O ∧ LwM A w w' M D vS [] vO O ∧ O.length ≤ 2000000000 := by
 obtain ⟨i0, hi0, hz0, hz1, hz2⟩ := info_parts Tryz.infoRowT
 obtain ⟨a0, cap0, hv0, _⟩ := LE.open hf
 have hmm := @run_makeMap Tryz.prog
 obtain ⟨w1, hup, hm1, hb1⟩ := run_update_stopP (KMapP.made (MapKept.heap_alloc w (.map #[] 0)).1) ⟨none, 0⟩ (fun x hx => by cases hx) 2
 have hup' : (Instr.mapUpdate 102 (.map (some w.heap.size)) (.agg #[.pointer none, .int .i64 0]) (.int .i64 2)).run Tryz.prog (w.alloc (.map #[] 0)) = .ok () w1 := hup
 have hB1 : Below w.heap.size w w1 := ((Below.refl w.heap.size w).alloc (Nat.le_refl _) (.map #[] 0)).trans ⟨hb1.1, hb1.2.1, hb1.2.2.1, Nat.le_of_eq hb1.2.2.2.1.symm, fun b hb' => hb1.2.2.2.2 b (by omega)⟩
 have hz9 : w1.heap.size = w.heap.size + 1 := by have := hb1.2.2.2.1; simpa using this
 have hM0 : LwM A w (w1.alloc (.cells #[.slice a0 root.ts.length cap0] 28)) w.heap.size [(⟨none, 0⟩, 2)] (.slice (some ⟨w.heap.size + 1, 0, none⟩) 1 1) [(root, 0)] (.slice none 0 0) [] := by
  have hb2 : Below w1.heap.size w1 (w1.alloc (.cells #[.slice a0 root.ts.length cap0] 28)) := (Below.refl _ _).alloc (Nat.le_refl _) _
  refine ⟨hm1.kept (B := 0) (hb2.block _ hm1.lt) (fun p hp a ha => ?_) (fun b hb' => by omega), Nat.le_refl _, fun p hp a ha => ?_, ⟨rfl, .inr ⟨w.heap.size + 1, 1, #[.slice a0 root.ts.length cap0], rfl, by omega, ?_, Nat.le_refl _, by decide, rfl, ?_⟩⟩, World.ownsRow_nil _ _ _ _, fun g _ => by simp [Value.ownBlock], hB1.trans (hb2.mono hB1.size)⟩
  ·have hp' : p ∈ [((⟨none, 0⟩ : KeyP), (2 : Int))] := hp
   rw [List.mem_singleton] at hp'
   rw [hp'] at ha
   cases ha
  ·rw [List.mem_singleton] at hp
   rw [hp] at ha
   cases ha
  ·have := (MapKept.heap_alloc w1 (.cells #[.slice a0 root.ts.length cap0] 28)).1
   rw [hz9] at this
   exact this
  ·simp [hv0]
 have HLW : Hid (type_of% (Lw.start hf hn)) := Lw.start hf hn
 have HM0 : Hid (type_of% hM0) := hM0
 have HMS : Hid (mSum [(⟨none, 0⟩, 2)] [(root, 0)] ≤ root.cost) := by show _ ≤ _; rw [mSum_one]; exact mOf_le _ _
 obtain ⟨TC, hTC⟩ : ∃ TC, TC = root.cost := ⟨_, rfl⟩
 rw [← hTC] at hc HMS
 have HA : Hid (type_of% hA) := hA
 rw [hv0]
 clear hm1 hb1 hM0 hA hf hn hTC hB1 hup
 go_enter Tryz.func68, Tryz.ntmps68
 go_wp2_with fail
 clear hup' hmm hz9
 go_loopg [4, 5, 7] (mSum [(⟨none, 0⟩, 2)] [(root, 0)]) (fun k s4 s5 s7 wr => ∃ (D : List (KeyP × Int)) (S : List (LE × Nat)) (O : List LE), s5 = .bool false ∧ Lw A w root D S O ∧ LwM A w wr w.heap.size D s7 S s4 O ∧ mSum D S = k ∧ k ≤ TC ∧ O.length + k ≤ 2000000000 ∧ ∀ x ∈ S, x.2 ≠ 2)
 case atStart => exact ⟨_, _, [], rfl, HLW.out, HM0.out, rfl, HMS.out, by have := HMS.out; simp; omega, fun x hx => by rw [List.mem_singleton] at hx; rw [hx]; simp⟩
 case round =>
  clear HLW HM0 HMS
  obtain ⟨D, S, O, rfl, hL, hM, hk, hkT, hO, hfl⟩ := hrel
  obtain ⟨wo, rfl⟩ : ∃ wo, wo = wr := ⟨_, rfl⟩
  have HL : Hid (type_of% hL) := hL
  have HM : Hid (type_of% hM) := hM
  have HKK : Hid (type_of% hk) := hk
  have hSl := mSum_len D S
  obtain ⟨ao, co, hvo⟩ := own_sliceW hM.out
  subst hvo
  rcases List.eq_nil_or_concat S with hS | ⟨S', x, hS⟩
  ·subst hS
   obtain ⟨av, cv, hv⟩ := own_sliceW hM.stk
   subst hv
   clear hL hM hk hSl
   go_wp2_with fail
   go_ret2
   exact ⟨_, D, _, _, O, rfl, HL.out, HM.out, by omega⟩
  ·rw [List.concat_eq_append] at hS
   subst hS
   obtain ⟨e, b⟩ := x
   have hl1 : (S' ++ [(e, b)]).length = S'.length + 1 := by simp
   have hrow := hM.stk
   rw [hl1, List.map_append, List.map_singleton] at hrow
   obtain ⟨gs, cs, hv, hcap⟩ := own_posW hrow (by omega)
   subst hv
   obtain ⟨hfe, hne⟩ := hL.fitS (e, b) (by simp)
   obtain ⟨ae, ce, hve, hop⟩ := LE.open hfe
   have hve' : e.v = .slice ae e.ts.length ce := hve
   simp only at hrow
   rw [hve'] at hrow
   have ctop := own_topW hrow (by simp)
   have hep : 0 < e.ts.length := List.length_pos_iff.2 hne
   have hSl2 : S'.length ≤ 1000000000 := by omega
   have hli : (S'.length : Int) < ((S'.length + 1 : Nat) : Int) := by omega
   have h0i : (0 : Int) ≤ (S'.length : Int) := by omega
   have hcapi : (S'.length : Int) ≤ (cs : Int) := by omega
   have HPL : Hid (∀ wx : World, Calls Tryz.prog 69 #[.slice ae e.ts.length ce] wx fun e9 w' => e9 = .returned (.agg #[.pointer e.key.place, .int .i64 e.key.count]) ∧ Below wx.heap.size wx w') := fun wx => by
    obtain ⟨v, ts, n⟩ := e
    have hv9 : v = .slice ae ts.length ce := hve'
    subst hv9
    exact implPlaceKey hfe wx
   have hkey := key_rows hfe
   have hkA : ∀ a, e.key.place = some a → a.block < w.heap.size := fun a ha => HA.out _ (hkey.2 a ha)
   have HRW : Hid (∀ wx : World, Below w.heap.size w wx → RowsOf wx e.key.place) := fun wx hx a ha => by
    obtain ⟨cur, T, q⟩ := hkey.1 a ha
    exact ⟨cur, T, (hx.block _ (hkA a ha)).trans q⟩
   have HOP : Hid (type_of% hop) := hop
   have HFE : Hid (type_of% hfe) := hfe
   have HNE : Hid (type_of% hne) := hne
   have HKA : Hid (type_of% hkA) := hkA
   have HFL : Hid (type_of% hfl) := hfl
   have hbo := hM.bel
   clear hL hM hk hSl hrow hfe hne hop hkey hkA hfl hl1 hve
   go_wp2_with fail
   refine (HPL.out _).mono ?_
   rintro e9 w2 ⟨rfl, hb2⟩
   have hB2 : Below wo.heap.size wo (w2.alloc (.cells #[.pointer e.key.place, .int .i64 e.key.count] 105)) := hb2.alloc hb2.size _
   have hM2 := HM.out.below hB2
   have hR2 := HRW.out _ hM2.bel
   have hlk : (Instr.lookup 102 (.map (some w.heap.size)) (.agg #[.pointer e.key.place, .int .i64 e.key.count]) false).run Tryz.prog (w2.alloc (.cells #[.pointer e.key.place, .int .i64 e.key.count] 105)) = .ok (.int .i64 ((lookKP D e.key).getD 0)) (w2.alloc (.cells #[.pointer e.key.place, .int .i64 e.key.count] 105)) := run_lookup_stopP hM2.map e.key hR2
   have HM2 : Hid (type_of% hM2) := hM2
   have hbW := hM2.bel
   clear HPL HM hB2 hb2 ctop
   cases hlook : lookKP D e.key with
   | none =>
    rw [hlook] at hlk
    obtain ⟨w3, hup, hm3, hb3⟩ := run_update_stopP hM2.map e.key hR2 1
    have hup' : (Instr.mapUpdate 102 (.map (some w.heap.size)) (.agg #[.pointer e.key.place, .int .i64 e.key.count]) (.int .i64 1)).run Tryz.prog (w2.alloc (.cells #[.pointer e.key.place, .int .i64 e.key.count] 105)) = .ok () w3 := hup
    have hM3 := hM2.put HKA.out hm3 hb3
    obtain ⟨hb0, hL3⟩ := HL.out.enter hlook
    subst hb0
    have hM4 : LwM A w w3 w.heap.size (setKP D e.key 1) (.slice (some ⟨gs, 0, none⟩) (S'.length + 1) cs) (S' ++ (e, 2) :: []) (.slice ao O.length co) O := ⟨hM3.map, hM3.low, hM3.lowD, by have := hM3.stk; simpa using this, hM3.out, hM3.apart, hM3.bel⟩
    have HL4 : Hid (type_of% hL3) := hL3
    have HM4 : Hid (type_of% hM4) := hM4
    have HEN : Hid (∀ K : List (LE × Nat), (K.map fun y => y.1.cost).sum ≤ 3 * ndRow e.n e.ts → mSum (setKP D e.key 1) (S' ++ (e, 1) :: K) < gk) := fun K hK => by rw [← HKK.out]; exact m_enter hlook hK
    have HFL2 : Hid (∀ x ∈ S', x.2 ≠ 2) := fun x hx => HFL.out x (List.mem_append_left _ hx)
    have hel : e.ts.length ≤ 1000000000 := by
     have h1 := HKK.out
     rw [mSum_app, mSum_one] at h1
     have h2 : mOf D (e, 0) = e.cost := by
      unfold mOf
      simp only
      rw [hlook, if_neg (by simp), if_neg (by simp)]
     have h3 := few_len HFE.out
     omega
    have HCE : Hid (3 * ndRow e.n e.ts ≤ gk) := by
     have h1 := HKK.out
     rw [mSum_app, mSum_one] at h1
     have h2 : mOf D (e, 0) = e.cost := by
      unfold mOf
      simp only
      rw [hlook, if_neg (by simp), if_neg (by simp)]
     have h3 : e.cost = 3 * (1 + ndRow e.n e.ts) := rfl
     show _ ≤ _
     omega
    have hOl : O.length ≤ 2000000000 := by omega
    clear hM2 hM3 hM4 hm3 hup HRW HKA HFL hR2 hb3 HL HM2 hL3
    generalize hD1 : setKP D e.key 1 = D1 at *
    clear hD1
    go_wp2_with fail
    go_loopw [5, 7, 37] (fun s5 s7 i wr => ∃ (j : Nat) (K : List (LE × Nat)), j ≤ e.ts.length ∧ i = .int .i64 j ∧ s5 = .bool false ∧ Lw A w root D1 (S' ++ (e, 2) :: K) O ∧ LwM A w wr w.heap.size D1 s7 (S' ++ (e, 2) :: K) (.slice ao O.length co) O ∧ (∀ y ∈ K, y.2 = 0) ∧ (∀ k f, k < j → f.fits A w → KidAt w e k f → f.ts ≠ [] → lookKP D1 f.key = some 2 ∨ ∃ y ∈ K, y.1.key = f.key) ∧ (K.map fun y => y.1.cost).sum + 3 * ndRow e.n (e.ts.drop j) ≤ 3 * ndRow e.n e.ts) (fun _ _ i _ => e.ts.length - (intOf i).toNat)
    case atStart => exact ⟨0, [], Nat.zero_le _, rfl, rfl, HL4.out, HM4.out, fun y hy => by simp at hy, fun k f hk => absurd hk (by omega), by simp⟩
    case round =>
     clear HL4 HM4
     obtain ⟨j, K, hj, rfl, rfl, hLi, hMi, hK0, hkd, hcs⟩ := hrel
     obtain ⟨wi, rfl⟩ : ∃ wi, wi = wr := ⟨_, rfl⟩
     obtain ⟨SK, hSK⟩ : ∃ SK, SK = S' ++ (e, 2) :: K := ⟨_, rfl⟩
     have HSK : Hid (type_of% hSK) := hSK
     have HLI : Hid (type_of% hLi) := hLi
     have HK0 : Hid (type_of% hK0) := hK0
     have HKD : Hid (type_of% hkd) := hkd
     have HCS : Hid (type_of% hcs) := hcs
     rw [← hSK] at hMi
     have HMI : Hid (type_of% hMi) := hMi
     obtain ⟨av, cv, hv⟩ := own_sliceW hMi.stk
     subst hv
     have hSl9 : SK.length ≤ 4000000000 := by
      have h1 : SK.length = S'.length + 1 + K.length := by rw [hSK, List.length_append, List.length_cons]; omega
      have h2 : K.length ≤ (K.map fun y => y.1.cost).sum := by
       clear hcs HCS hkd HKD hK0 HK0 hLi HLI HMI hMi hSK HSK h1
       induction K with
       | nil => simp
       | cons y K ih =>
        have := cost_pos y.1
        simp only [List.map_cons, List.sum_cons, List.length_cons]
        omega
      have h3 := HCE.out
      omega
     obtain ⟨NK, hNK⟩ : ∃ NK, NK = SK.length := ⟨_, rfl⟩
     rw [← hNK] at HMI hSl9 ⊢
     have HNK : Hid (SK.length = NK) := hNK.symm
     have hrowK := hMi.stk
     rw [← hNK] at hrowK
     have hbi := hMi.bel
     clear hSK hLi hK0 hkd hcs hMi hNK
     by_cases hlt : j < e.ts.length
     ·obtain ⟨m, b, off, vn, vk, hm, rfl, hAb, hbc, c0, c1, c2, c3, hnm, htx, hkf⟩ := HOP.out j hlt
      have hbl : b < w.heap.size := HA.out b hAb
      obtain ⟨akk, ckk, hvk, _⟩ := LE.open hkf
      have hvk' : vk = .slice akk e.ts[j].kids.length ckk := hvk
      rw [hvk'] at c3 hkf
      have hkid : KidAt w e j ⟨.slice akk e.ts[j].kids.length ckk, e.ts[j].kids, m⟩ := ⟨hlt, b, off, ce, hve', c3, rfl, hm⟩
      have hco := cost_step (ts := e.ts) hm hlt
      have HKIDS : Hid (Calls Tryz.prog 44 #[.pointer (some ⟨b, off + j * 4, none⟩)] wi fun e9 w' => e9 = .returned (.slice akk e.ts[j].kids.length ckk) ∧ Below wi.heap.size wi w') := implTypeKids b (off + j * 4) _ wi ((hbi.cell (p := ⟨b, off + j * 4 + 3, none⟩) hbl).trans c3)
      have HPK : Hid (∀ wx : World, Calls Tryz.prog 69 #[.slice akk e.ts[j].kids.length ckk] wx fun e9 w' => e9 = .returned (keyVP (LE.key ⟨.slice akk e.ts[j].kids.length ckk, e.ts[j].kids, m⟩)) ∧ Below wx.heap.size wx w') := fun wx => implPlaceKey hkf wx
      have HCO : Hid (type_of% hco) := hco
      have hj0i : (0 : Int) ≤ (j : Int) := by omega
      have hj1i : (j : Int) < (e.ts.length : Int) := by omega
      have hkrow := key_rows hkf
      have HKF : Hid (type_of% hkf) := hkf
      have HKID : Hid (type_of% hkid) := hkid
      have hempty : e.ts[j].kids = [] → lookKP D1 (LE.key ⟨.slice akk e.ts[j].kids.length ckk, e.ts[j].kids, m⟩) = some 2 := fun q => by
       rw [LE.key_nil (e := ⟨.slice akk e.ts[j].kids.length ckk, e.ts[j].kids, m⟩) (a := akk) (c := ckk) (by rw [q]; rfl)]
       exact HLI.out.zero
      have hnot : lookKP D1 (LE.key ⟨.slice akk e.ts[j].kids.length ckk, e.ts[j].kids, m⟩) ≠ some 1 := HLI.out.notIn HK0.out hkid hkf
      have HNX : Hid (∀ K2 : List (LE × Nat), (∀ y ∈ K, y ∈ K2) → (e.ts[j].kids ≠ [] → lookKP D1 (LE.key ⟨.slice akk e.ts[j].kids.length ckk, e.ts[j].kids, m⟩) = some 2 ∨ ∃ y ∈ K2, y.1.key = LE.key ⟨.slice akk e.ts[j].kids.length ckk, e.ts[j].kids, m⟩) → ∀ k f, k < j + 1 → f.fits A w → KidAt w e k f → f.ts ≠ [] → lookKP D1 f.key = some 2 ∨ ∃ y ∈ K2, y.1.key = f.key) := fun K2 hsub hnew k f hk hf hkk hfn => by
       by_cases c : k = j
       ·subst c
        have hkey9 := hkk.key hkid
        have hts9 : f.ts = e.ts[k].kids := by obtain ⟨_, _, _, _, _, _, q, _⟩ := hkk; exact q
        rw [hkey9]
        exact hnew (by rw [← hts9]; exact hfn)
       ·rcases HKD.out k f (by omega) hf hkk hfn with q | ⟨y, hy, q⟩
        ·exact .inl q
        ·exact .inr ⟨y, hsub y hy, q⟩
      clear c0 c1 c2 c3 hnm htx hkf hvk hvk' hco HOP hbc hkid HKD
      generalize hTK : e.ts[j].kids = TK at *
      have HTK : Hid (type_of% hTK) := hTK
      clear hTK
      generalize hFE : (⟨.slice akk TK.length ckk, TK, m⟩ : LE) = f at *
      have HFF : Hid (type_of% hFE) := hFE
      clear hFE
      go_wp2_with fail
      refine HKIDS.out.mono ?_
      rintro e9 w4 ⟨rfl, hb4⟩
      clear HKIDS
      go_wp2_with fail
      refine (HPK.out _).mono ?_
      rintro e9 w5 ⟨rfl, hb5⟩
      have hM5 := HMI.out.below (hb4.trans (hb5.mono hb4.size))
      have hR5 : RowsOf w5 f.key.place := fun a ha => by
       obtain ⟨cur, T, q⟩ := hkrow.1 a ha
       exact ⟨cur, T, (hM5.bel.block _ (HA.out _ (hkrow.2 a ha))).trans q⟩
      have hlk : (Instr.lookup 102 (.map (some w.heap.size)) (keyVP f.key) false).run Tryz.prog w5 = .ok (.int .i64 ((lookKP D1 f.key).getD 0)) w5 := run_lookup_stopP hM5.map f.key hR5
      have HM5 : Hid (type_of% hM5) := hM5
      have hrow5 := own_belW hrowK (hb4.trans (hb5.mono hb4.size))
      have hz5 := hM5.bel.size
      clear HPK hb4 hb5 HMI hrowK hM5 hR5 hkrow
      cases hl5 : lookKP D1 f.key with
      | none =>
       rw [hl5] at hlk
       have hTKn : TK ≠ [] := fun q => by
        have := hempty q
        rw [hl5] at this
        cases this
       have hfts : f.ts = TK := by rw [← HFF.out]
       have hLn := HLI.out.push HK0.out HKID.out HKF.out (by rw [hfts]; exact hTKn)
       have HLN : Hid (type_of% hLn) := hLn
       have HK0N : Hid (∀ y ∈ K ++ [(f, 0)], y.2 = 0) := fun y hy => by
        rcases List.mem_append.1 hy with hy | hy
        ·exact HK0.out y hy
        ·rw [List.mem_singleton] at hy; rw [hy]
       have HKDN : Hid (type_of% (HNX.out (K ++ [(f, 0)]) (fun y hy => List.mem_append_left _ hy) (fun _ => .inr ⟨(f, 0), by simp, rfl⟩))) := HNX.out (K ++ [(f, 0)]) (fun y hy => List.mem_append_left _ hy) (fun _ => .inr ⟨(f, 0), by simp, rfl⟩)
       have HCN : Hid (((K ++ [(f, 0)] : List (LE × Nat)).map fun y => y.1.cost).sum + 3 * ndRow e.n (e.ts.drop (j + 1)) ≤ 3 * ndRow e.n e.ts) := by
        have h1 := HCS.out
        have h2 := HCO.out
        rw [h2] at h1
        have h3 : f.cost = 3 * (1 + ndRow m TK) := by rw [← HFF.out]; rfl
        show _ ≤ _
        rw [List.map_append, List.sum_append, List.map_singleton, List.sum_singleton]
        simp only
        have h4 := HTK.out
        omega
       clear hnot hempty hLn HNX hTKn hfts
       go_wp2_with (at_builtin; refine wpList_append_own_at _ rfl _ _ 99 rfl w.heap.size 28 i0 (.slice none 0 0) 1 24 Tryz.underlying99 hi0 hz0 hz1 hz2 rfl (by decide) _ _ _ rfl (hrow5.alloc _) ⟨w5.heap.size, 0, none⟩ 1 1 [.slice akk TK.length ckk] rfl rfl ?c1 ?c2 ?c3 ?c4 ?c5 ?_)
       case c1 => exact one_cellW (cellNew 0 rfl)
       case c2 => intro u hu; simp at hu; subst hu; rfl
       case c3 => unfold maxLen; omega
       case c4 => omega
       case c5 => simp; omega
       intro v6 w6 hown6 hgrow6 _ hloc6
       have HM6 : Hid (LwM A w w6 w.heap.size D1 v6 (S' ++ (e, 2) :: (K ++ [(f, 0)])) (.slice ao O.length co) O) := by
        have e1 : S' ++ (e, 2) :: (K ++ [(f, 0)]) = SK ++ [(f, 0)] := by rw [HSK.out]; simp
        rw [e1]
        refine HM5.out.push ?_ hgrow6 (by simpa using hloc6)
        have e2 : f.v = .slice akk TK.length ckk := by rw [← HFF.out]
        rw [List.length_append, List.length_singleton, HNK.out, List.map_append, List.map_singleton]
        simp only
        rw [e2]
        exact hown6
       obtain ⟨a6, c6, hv6⟩ := own_sliceW hown6
       subst hv6
       clear hown6 hgrow6 hrow5 HM5 hlk
       go_wp2_with fail
       go_roundw
       case rel => exact ⟨j + 1, K ++ [(f, 0)], by omega, by go_num, rfl, HLN.out, HM6.out, HK0N.out, HKDN.out, HCN.out⟩
       case measure => simp [intOf]; omega
      | some v5 =>
       rcases HLI.out.vals _ _ hl5 with hv5 | hv5
       ·exact absurd (by rw [hl5, hv5]) hnot
       ·rw [hl5, hv5] at hlk
        have HKDN : Hid (type_of% (HNX.out K (fun y hy => hy) (fun _ => .inl (by rw [hl5, hv5])))) := HNX.out K (fun y hy => hy) (fun _ => .inl (by rw [hl5, hv5]))
        have HCN : Hid ((K.map fun y => y.1.cost).sum + 3 * ndRow e.n (e.ts.drop (j + 1)) ≤ 3 * ndRow e.n e.ts) := by
         have h1 := HCS.out
         have h2 := HCO.out
         rw [h2] at h1
         show _ ≤ _
         omega
        have HM6 : Hid (LwM A w w5 w.heap.size D1 (.slice av NK cv) (S' ++ (e, 2) :: K) (.slice ao O.length co) O) := by rw [← HSK.out]; exact HM5.out
        clear hnot hempty HNX hl5 hv5 hrow5 HM5
        go_wp2_with fail
        go_roundw
        case rel => exact ⟨j + 1, K, by omega, by go_num, rfl, HLI.out, HM6.out, HK0.out, HKDN.out, HCN.out⟩
        case measure => simp [intOf]; omega
     ·have hje : j = e.ts.length := by omega
      have hLc : Lw A w root D1 (S' ++ (e, 1) :: K) O := HLI.out.close HK0.out fun k f hf hkk hfn => HKD.out k f (by obtain ⟨h9, _⟩ := hkk; omega) hf hkk hfn
      have HLC : Hid (type_of% hLc) := hLc
      have HMC : Hid (LwM A w wi w.heap.size D1 (.slice av NK cv) (S' ++ (e, 1) :: K) (.slice ao O.length co) O) := by
       have h1 := HMI.out
       rw [HSK.out] at h1
       exact ⟨h1.map, h1.low, h1.lowD, by have := h1.stk; simpa using this, h1.out, h1.apart, h1.bel⟩
      have HLT : Hid (mSum D1 (S' ++ (e, 1) :: K) < gk) := HEN.out K (by have := HCS.out; omega)
      have HFC : Hid (∀ x ∈ S' ++ (e, 1) :: K, x.2 ≠ 2) := fun x hx => by
       rcases List.mem_append.1 hx with hx | hx
       ·exact HFL2.out x hx
       ·rcases List.mem_cons.1 hx with hx | hx
        ·rw [hx]; simp
        ·rw [HK0.out x hx]; simp
      clear hLc hje HKD HCS HLI HMI HOP hrowK
      go_wp2_with fail
      go_roundg (mSum D1 (S' ++ (e, 1) :: K))
      case rel => exact ⟨_, _, _, rfl, HLC.out, HMC.out, rfl, by have := HLT.out; omega, by have := HLT.out; omega, HFC.out⟩
      case measure => exact HLT.out
   | some v =>
    rw [hlook] at hlk
    have hv := HL.out.vals _ _ hlook
    rcases hv with hv | hv
    ·subst hv
     obtain ⟨w3, hup, hm3, hb3⟩ := run_update_stopP hM2.map e.key hR2 2
     have hup' : (Instr.mapUpdate 102 (.map (some w.heap.size)) (.agg #[.pointer e.key.place, .int .i64 e.key.count]) (.int .i64 2)).run Tryz.prog (w2.alloc (.cells #[.pointer e.key.place, .int .i64 e.key.count] 105)) = .ok () w3 := hup
     have hM3 := hM2.put HKA.out hm3 hb3
     have hb2 : b ≠ 2 := HFL.out (e, b) (by simp)
     have HL3 : Hid (Lw A w root (setKP D e.key 2) (S' ++ [(e, 0)]) (O ++ [e])) := HL.out.finish hb2 hlook
     have HMS : Hid (mSum (setKP D e.key 2) (S' ++ [(e, 0)]) < gk) := by show _ < _; rw [← HKK.out]; exact m_finish hlook
     have HFL2 : Hid (∀ x ∈ S' ++ [(e, 0)], x.2 ≠ 2) := fun x hx => by
      rcases List.mem_append.1 hx with hx | hx
      ·exact HFL.out x (List.mem_append_left _ hx)
      ·rw [List.mem_singleton] at hx; rw [hx]; simp
     have hM4 : LwM A w w3 w.heap.size (setKP D e.key 2) (.slice (some ⟨gs, 0, none⟩) (S'.length + 1) cs) (S' ++ [(e, 0)]) (.slice ao O.length co) O := ⟨hM3.map, hM3.low, hM3.lowD, by have := hM3.stk; simpa using this, hM3.out, hM3.apart, hM3.bel⟩
     have hrowO := hM4.out
     have hO2 : O.length ≤ 2000000000 := by omega
     have hz3 := hM4.bel.size
     have HM4 : Hid (type_of% hM4) := hM4
     have hcell3 := hb3.2.2.2.2
     clear hM2 hM3 hM4 hm3 hup HRW HOP HFE HNE HKA HFL hR2 hb3 hcell3
     generalize hNO : O.length = NO at *
     have HNO : Hid (O.length = NO) := hNO
     clear hNO
     go_wp2_with (at_builtin; refine wpList_append_own_at _ rfl _ _ 99 rfl w.heap.size 28 i0 (.slice none 0 0) 1 24 Tryz.underlying99 hi0 hz0 hz1 hz2 rfl (by decide) _ _ _ rfl (hrowO.alloc _) ⟨w3.heap.size, 0, none⟩ 1 1 [.slice ae e.ts.length ce] rfl rfl ?c1 ?c2 ?c3 ?c4 ?c5 ?_)
     case c1 => exact one_cellW (cellNew 0 rfl)
     case c2 => intro u hu; simp at hu; subst hu; rfl
     case c3 => unfold maxLen; omega
     case c4 => omega
     case c5 => simp; omega
     intro v5 w5 hown5 hgrow5 _ hloc5
     have HM5 : Hid (LwM A w w5 w.heap.size (setKP D e.key 2) (.slice (some ⟨gs, 0, none⟩) (S'.length + 1) cs) (S' ++ [(e, 0)]) v5 (O ++ [e])) := by
      refine HM4.out.tell ?_ hgrow5 (by simpa using hloc5)
      rw [List.length_append, List.length_singleton, HNO.out, List.map_append, List.map_singleton, hve']
      exact hown5
     obtain ⟨a5, c5, hv5⟩ := own_sliceW hown5
     subst hv5
     clear hown5 hgrow5 hrowO HM4
     go_wp2_with fail
     go_roundg (mSum (setKP D e.key 2) (S' ++ [(e, 0)]))
     case rel => exact ⟨_, _, _, rfl, HL3.out, HM5.out, rfl, by have := HMS.out; omega, by have := HMS.out; rw [List.length_append, List.length_singleton, HNO.out]; omega, HFL2.out⟩
     case measure => exact HMS.out
    ·subst hv
     have HL3 : Hid (Lw A w root D S' O) := HL.out.pop hlook
     have HM3 : Hid (type_of% hM2.pop) := hM2.pop
     have HMS : Hid (mSum D S' < gk) := by show _ < _; rw [← HKK.out]; exact m_pop _ _ _
     have HFL2 : Hid (∀ x ∈ S', x.2 ≠ 2) := fun x hx => HFL.out x (List.mem_append_left _ hx)
     clear hM2 HRW HOP HFE HNE HKA HFL hR2
     go_wp2_with fail
     go_roundg (mSum D S')
     case rel => exact ⟨_, _, _, rfl, HL3.out, HM3.out, rfl, by have := HMS.out; omega, by have := HMS.out; omega, HFL2.out⟩
     case measure => exact HMS.out
end Go.Proofs.YtbojmbeopnlmiaaGreatDoor
