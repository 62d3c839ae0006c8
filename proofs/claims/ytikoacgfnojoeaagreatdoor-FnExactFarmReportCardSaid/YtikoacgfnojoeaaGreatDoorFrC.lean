/-
  The walks of spec.l08Copy and spec.l10Find, whatever the summary that they answer.
-/
import Derived.Test.YtikoacgfnojoeaaGreatDoorCopyS
import Derived.Test.YtikoacgfnojoeaaGreatDoorRegS
import Derived.Test.YtikoacgfnojoeaaGreatDoorFmR
namespace Go.Proofs.YtikoacgfnojoeaaGreatDoor
open Go.RowKit

/-- the state of the copy of a summary: the argument's box, the answer's, the one that is filled -/
structure SumC (w X : World) (A row : Array Value) : Prop where
  bel : Below w.heap.size w X
  arg : X.heap[w.heap.size]? = some (.cells A 55 (0, 0))
  res : X.heap[w.heap.size + 1]? = some (.cells #[.string ⟨#[]⟩, .bool false, .slice none 0 0, .slice none 0 0] 55 (0, 0))
  out : X.heap[w.heap.size + 1 + 1]? = some (.cells row 55 (0, 0))
theorem SumC.size {w X : World} {A row : Array Value} (h : SumC w X A row) : w.heap.size + 1 + 1 < X.heap.size := (Array.getElem?_eq_some_iff.1 h.out).1
theorem SumC.call {w X Y : World} {A row : Array Value} (h : SumC w X A row) (hb : Below X.heap.size X Y) : SumC w Y A row := by
  have := h.size
  exact ⟨h.bel.trans (hb.mono h.bel.size), (hb.block _ (by omega)).trans h.arg, (hb.block _ (by omega)).trans h.res, (hb.block _ (by omega)).trans h.out⟩
/-- an append onto a row that lies behind the boxes, stored in the filled one -/
theorem SumC.put {w X Z Y : World} {A row row' : Array Value} {v : Value} (h : SumC w X A row) (hb : Below X.heap.size X Z) (hv : ∀ g, v.ownBlock = some g → w.heap.size + 1 + 1 + 1 ≤ g) (hg : Z.grownBy Y v.ownBlock) (i : Nat) (u : Value) (hr : ∀ Q : World, Q.heap[w.heap.size + 1 + 1]? = some (.cells row 55 (0, 0)) → (Q.setCell ⟨w.heap.size + 1 + 1, i, none⟩ u).heap[w.heap.size + 1 + 1]? = some (.cells row' 55 (0, 0))) : SumC w Y A row ∧ SumC w (Y.setCell ⟨w.heap.size + 1 + 1, i, none⟩ u) A row' := by
  have hz := h.call hb
  have hsz := hz.size
  have hblk : ∀ k, k ≤ w.heap.size + 1 + 1 → Y.heap[k]? = Z.heap[k]? := fun k hk => hg.block k (by omega) fun e => by
    have := hv k e.symm
    omega
  have hY : SumC w Y A row := by
    refine ⟨⟨hg.os.trans hz.bel.os, hg.tape.trans hz.bel.tape, hg.output.trans hz.bel.output, Nat.le_trans hz.bel.size hg.size, fun k hk => (hblk k (by omega)).trans (hz.bel.block k hk)⟩, (hblk _ (by omega)).trans hz.arg, (hblk _ (by omega)).trans hz.res, (hblk _ (by omega)).trans hz.out⟩
  exact ⟨hY, hY.bel.setCell (by simp; omega) _, (Below.heap_setCell _ _ _ _ (by simp; omega)).trans hY.arg, (Below.heap_setCell _ _ _ _ (by simp)).trans hY.res, hr Y hY.out⟩

theorem ret_l08Copy {R : Ending → World → Prop} {W : World} {tmps : Array Value} {b : Nat} {x0 x1 x2 x3 : Value} (hp : tmps[2]?.getD undef = .pointer (some ⟨b, 0, none⟩))
    (h : W.cell? ⟨b, 0, none⟩ = some x0 ∧ W.cell? ⟨b, 1, none⟩ = some x1 ∧ W.cell? ⟨b, 2, none⟩ = some x2 ∧ W.cell? ⟨b, 3, none⟩ = some x3) (hR : R (.returned (.agg #[x0, x1, x2, x3])) W) :
    bodyPost Tryz.prog Tryz.f36 R .ret { tmps := tmps, defers := [] } W := by
  obtain ⟨h0, h1, h2, h3⟩ := h
  refine bodyPost_ret (v := .agg #[x0, x1, x2, x3]) ?_ rfl hR
  simp [results, Tryz.results36, go_sem, hp, h0, h1, h2, h3]

theorem news5 {w : World} {x0 x1 x2 x3 x4 : Value} {t : TypeId} : ∀ j u, [x0, x1, x2, x3, x4][j]? = some u → (w.alloc (.cells #[x0, x1, x2, x3, x4] t)).cell? ((⟨w.heap.size, 0, none⟩ : Addr).add j) = some u := fun j u hu => by
  rw [Addr.add_lit, Nat.zero_add]
  have : (w.alloc (.cells #[x0, x1, x2, x3, x4] t)).heap[w.heap.size]? = some (.cells #[x0, x1, x2, x3, x4] t (0, 0)) := (MapKept.heap_alloc w _).1
  rw [cell_of_row _ _ j _ _ (0, 0) this, ← Array.getElem?_toList]
  exact hu

set_option maxHeartbeats 3200000 in
set_option maxRecDepth 100000 in
theorem specCopySum (n : Nat) (nm : ByteArray) (bad : Bool) (vT vX : Value) (ts xs : List (ByteArray × Ty)) (w : World) (hT : EnvAt w n vT ts) (hX : EnvAt w n vX xs) (hbT : envBulk n ts ≤ 1048576) (hbX : envBulk n xs ≤ 1048576) :
    Calls Tryz.prog 36 #[.agg #[.string nm, .bool bad, vT, vX]] w fun e w' => ∃ (a2 : Option Addr) (n2 c2 : Nat) (a3 : Option Addr) (n3 c3 : Nat), e = .returned (.agg #[.string nm, .bool bad, .slice a2 n2 c2, .slice a3 n3 c3]) ∧ Below w.heap.size w w' := by
  obtain ⟨i0, hi0, hz0, hz1, hz2⟩ := info_parts Tryz.infoNamed
  obtain ⟨aT, cT, rfl, hTe⟩ := envOpen hT
  obtain ⟨aX, cX, rfl, hXe⟩ := envOpen hX
  have hlT : ts.length ≤ 1048576 := by unfold envBulk at hbT; omega
  have hlX : xs.length ≤ 1048576 := by unfold envBulk at hbX; omega
  have HTE : Hid (type_of% hTe) := hTe
  have HXE : Hid (type_of% hXe) := hXe
  have HCP : Hid (∀ (cs : List Value) (t : Ty) (X : World), Below w.heap.size w X → TyAt w n cs t → Ty.bulk n t ≤ 1048576 → _) := fun cs t X hX hf hb => (specCopyN n).told cs t X (hf.below hX) hb
  have HBT : Hid (∀ k (h : k < ts.length), Ty.bulk n ts[k].2 ≤ 1048576) := fun k h => by have := env_bulk n ts k h; omega
  have HBX : Hid (∀ k (h : k < xs.length), Ty.bulk n xs[k].2 ≤ 1048576) := fun k h => by have := env_bulk n xs k h; omega
  have hS0 : SumC w (((w.alloc (.cells #[.string nm, .bool bad, .slice aT ts.length cT, .slice aX xs.length cX] 55)).alloc (.cells #[.string ⟨#[]⟩, .bool false, .slice none 0 0, .slice none 0 0] 55)).alloc (.cells #[.string nm, .bool bad, .slice none 0 0, .slice none 0 0] 55)) #[.string nm, .bool bad, .slice aT ts.length cT, .slice aX xs.length cX] #[.string nm, .bool bad, .slice none 0 0, .slice none 0 0] := by
    refine ⟨(((Below.refl _ _).alloc (Nat.le_refl _) _).alloc (by simp) _).alloc (by simp; omega) _, ?_, ?_, ?_⟩
    · rw [Below.heap_alloc _ _ _ (by simp; omega), Below.heap_alloc _ _ _ (by simp)]
      exact (MapKept.heap_alloc w _).1
    · rw [Below.heap_alloc _ _ _ (by simp)]
      have := (MapKept.heap_alloc (w.alloc (.cells #[.string nm, .bool bad, .slice aT ts.length cT, .slice aX xs.length cX] 55)) (.cells #[.string ⟨#[]⟩, .bool false, .slice none 0 0, .slice none 0 0] 55)).1
      simpa using this
    · have := (MapKept.heap_alloc ((w.alloc (.cells #[.string nm, .bool bad, .slice aT ts.length cT, .slice aX xs.length cX] 55)).alloc (.cells #[.string ⟨#[]⟩, .bool false, .slice none 0 0, .slice none 0 0] 55)) (.cells #[.string nm, .bool bad, .slice none 0 0, .slice none 0 0] 55)).1
      simpa using this
  have HS0 : Hid (type_of% hS0) := hS0
  clear hT hX hTe hXe hbT hbX hS0
  go_enter Tryz.func36, Tryz.ntmps36
  go_wp2_with fail
  go_loopw [4] (fun i wr => ∃ (k : Nat) (av : Option Addr) (cv : Nat) (ys : List Value), k ≤ ts.length ∧ i = .int .i64 k ∧ SumC w wr #[.string nm, .bool bad, .slice aT ts.length cT, .slice aX xs.length cX] #[.string nm, .bool bad, .slice av k cv, .slice none 0 0] ∧ wr.ownsRow (w.heap.size + 1 + 1 + 1) 133 5 (.slice av k cv) k ys) (fun i _ => ts.length - (intOf i).toNat)
  case atStart => exact ⟨0, none, 0, [], Nat.zero_le _, rfl, HS0.out, World.ownsRow_nil _ _ _ _⟩
  case round =>
    obtain ⟨k, av, cv, ys, hk, rfl, hS, ho⟩ := hrel
    clear HS0
    have qa : wr.cell? ⟨w.heap.size, 2, none⟩ = some (.slice aT ts.length cT) := by rw [cell_of_row _ _ 2 _ _ (0, 0) hS.arg]; rfl
    have qo : wr.cell? ⟨w.heap.size + 1 + 1, 2, none⟩ = some (.slice av k cv) := by rw [cell_of_row _ _ 2 _ _ (0, 0) hS.out]; rfl
    have HS : Hid (type_of% hS) := hS
    have HO : Hid (type_of% ho) := ho
    by_cases hlt : k < ts.length
    · obtain ⟨b, off, x0, x1, x2, x3, rfl, hbl, hsz, hty, e0, e1, e2, e3, e4⟩ := HTE.out k hlt
      have HCC : Hid (∀ X, Below wr.heap.size wr X → _) := fun X hX => HCP.out [x0, x1, x2, x3] ts[k].2 X (hS.bel.trans (hX.mono hS.bel.size)) hty (HBT.out k hlt)
      obtain ⟨tan, tln, tcn, tak, tlk, tck, ee⟩ := hty.shape
      simp only [List.cons.injEq, and_true] at ee
      obtain ⟨rfl, rfl, rfl, rfl⟩ := ee
      have hbe := hS.bel
      have c0 := (hbe.cell (p := ⟨b, off + k * 5, none⟩) hbl).trans e0
      have c1 := (hbe.cell (p := ⟨b, off + k * 5 + 1, none⟩) hbl).trans e1
      have c2 := (hbe.cell (p := ⟨b, off + k * 5 + 2, none⟩) hbl).trans e2
      have c3 := (hbe.cell (p := ⟨b, off + k * 5 + 3, none⟩) hbl).trans e3
      have c4 := (hbe.cell (p := ⟨b, off + k * 5 + 4, none⟩) hbl).trans e4
      have hbw : b < wr.heap.size := Nat.lt_of_lt_of_le hbl hbe.size
      have hsz3 := hS.size
      clear e0 e1 e2 e3 e4 hty HTE HBT hS ho hbe HCP
      generalize ts[k].1 = en at *
      generalize ts[k].2.kind = kd at *
      generalize ts[k].2.name = tn at *
      have HQ : Hid (∀ X, Below wr.heap.size wr X → X.cell? ⟨w.heap.size + 1 + 1, 2, none⟩ = some (.slice av k cv) ∧ X.cell? ⟨w.heap.size, 2, none⟩ = some (.slice (some ⟨b, off, none⟩) ts.length cT) ∧ X.cell? ⟨b, off + k * 5, none⟩ = some (.string en) ∧ X.cell? ⟨b, off + k * 5 + 1, none⟩ = some (.int .i64 kd) ∧ X.cell? ⟨b, off + k * 5 + 2, none⟩ = some (.string tn) ∧ X.cell? ⟨b, off + k * 5 + 3, none⟩ = some (.slice tan tln tcn) ∧ X.cell? ⟨b, off + k * 5 + 4, none⟩ = some (.slice tak tlk tck)) := fun X hX => ⟨(hX.cell (p := ⟨w.heap.size + 1 + 1, 2, none⟩) hsz3).trans qo, (hX.cell (p := ⟨w.heap.size, 2, none⟩) (by show w.heap.size < _; omega)).trans qa, (hX.cell (p := ⟨b, off + k * 5, none⟩) hbw).trans c0, (hX.cell (p := ⟨b, off + k * 5 + 1, none⟩) hbw).trans c1, (hX.cell (p := ⟨b, off + k * 5 + 2, none⟩) hbw).trans c2, (hX.cell (p := ⟨b, off + k * 5 + 3, none⟩) hbw).trans c3, (hX.cell (p := ⟨b, off + k * 5 + 4, none⟩) hbw).trans c4⟩
      have hk0 : (0 : Int) ≤ k := by omega
      have hk1 : (k : Int) < ts.length := by omega
      go_wp2_with fail
      have hQ0 := HQ.out wr.drew (Below.refl _ _).drew
      refine wp_region_noPanic ?_
      refine wp_region_till (fun w' => w'.cell? ⟨w.heap.size + 1 + 1, 2, none⟩ = some (.slice av k cv) ∧ w'.cell? ⟨w.heap.size, 2, none⟩ = some (.slice (some ⟨b, off, none⟩) ts.length cT) ∧ w'.cell? ⟨b, off + k * 5, none⟩ = some (.string en) ∧ w'.cell? ⟨b, off + k * 5 + 1, none⟩ = some (.int .i64 kd) ∧ w'.cell? ⟨b, off + k * 5 + 2, none⟩ = some (.string tn) ∧ w'.cell? ⟨b, off + k * 5 + 3, none⟩ = some (.slice tan tln tcn) ∧ w'.cell? ⟨b, off + k * 5 + 4, none⟩ = some (.slice tak tlk tck)) 19 (by kernel_rfl) ?_
      refine wpTill.take (i := 0) (v := ?_) rfl rfl (by kernel_rfl) (by kernel_rfl) (by kernel_rfl) (by kernel_rfl) (fun _ _ _ h => h) (Or.inl ⟨by rfl, ?_⟩) hQ0 ?_
      rotate_left
      · intro w9 hs9
        obtain ⟨s0, s1, s2, s3, s4, s5, s6⟩ := hs9
        go_simp
        try rfl
      refine wpTill.take (i := 1) (v := ?_) rfl rfl (by kernel_rfl) (by kernel_rfl) (by kernel_rfl) (by kernel_rfl) (fun _ _ _ h => h) (Or.inl ⟨by rfl, ?_⟩) hQ0 ?_
      rotate_left
      · intro w9 hs9
        obtain ⟨s0, s1, s2, s3, s4, s5, s6⟩ := hs9
        go_simp
        try rfl
      refine wpTill.take (i := 2) (v := ?_) rfl rfl (by kernel_rfl) (by kernel_rfl) (by kernel_rfl) (by kernel_rfl) (fun _ _ _ h => h) (Or.inl ⟨by rfl, ?_⟩) hQ0 ?_
      rotate_left
      · intro w9 hs9
        obtain ⟨s0, s1, s2, s3, s4, s5, s6⟩ := hs9
        go_simp
        try rfl
      refine wpTill.take (i := 3) (v := ?_) rfl rfl (by kernel_rfl) (by kernel_rfl) (by kernel_rfl) (by kernel_rfl) (fun _ _ _ h => h) (Or.inl ⟨by rfl, ?_⟩) hQ0 ?_
      rotate_left
      · intro w9 hs9
        obtain ⟨s0, s1, s2, s3, s4, s5, s6⟩ := hs9
        go_simp
        try rfl
      refine wpTill.take (i := 4) (v := ?_) rfl rfl (by kernel_rfl) (by kernel_rfl) (by kernel_rfl) (by kernel_rfl) (fun _ _ _ h => h) (Or.inl ⟨by rfl, ?_⟩) hQ0 ?_
      rotate_left
      · intro w9 hs9
        obtain ⟨s0, s1, s2, s3, s4, s5, s6⟩ := hs9
        go_simp
        try rfl
      refine wpTill.take (i := 5) (v := ?_) rfl rfl (by kernel_rfl) (by kernel_rfl) (by kernel_rfl) (by kernel_rfl) (fun _ _ _ h => h) (Or.inl ⟨by rfl, ?_⟩) hQ0 ?_
      rotate_left
      · intro w9 hs9
        obtain ⟨s0, s1, s2, s3, s4, s5, s6⟩ := hs9
        go_simp
        try rfl
      refine wpTill.take (i := 6) (v := ?_) rfl rfl (by kernel_rfl) (by kernel_rfl) (by kernel_rfl) (by kernel_rfl) (fun _ _ _ h => h) (Or.inl ⟨by rfl, ?_⟩) hQ0 ?_
      rotate_left
      · intro w9 hs9
        obtain ⟨s0, s1, s2, s3, s4, s5, s6⟩ := hs9
        go_simp
        try rfl
      refine wpTill.take (i := 7) (v := ?_) rfl rfl (by kernel_rfl) (by kernel_rfl) (by kernel_rfl) (by kernel_rfl) (fun _ _ _ h => h) (Or.inl ⟨by rfl, ?_⟩) hQ0 ?_
      rotate_left
      · intro w9 hs9
        obtain ⟨s0, s1, s2, s3, s4, s5, s6⟩ := hs9
        go_simp
        try rfl
      refine wpTill.take (i := 8) (v := ?_) rfl rfl (by kernel_rfl) (by kernel_rfl) (by kernel_rfl) (by kernel_rfl) (fun _ _ _ h => h) (Or.inl ⟨by rfl, ?_⟩) hQ0 ?_
      rotate_left
      · intro w9 hs9
        obtain ⟨s0, s1, s2, s3, s4, s5, s6⟩ := hs9
        go_simp
        try rfl
      refine wpTill.take (i := 9) (v := ?_) rfl rfl (by kernel_rfl) (by kernel_rfl) (by kernel_rfl) (by kernel_rfl) (fun _ _ _ h => h) (Or.inl ⟨by rfl, ?_⟩) hQ0 ?_
      rotate_left
      · intro w9 hs9
        obtain ⟨s0, s1, s2, s3, s4, s5, s6⟩ := hs9
        go_simp
        try rfl
      refine wpTill.take (i := 10) (v := ?_) rfl rfl (by kernel_rfl) (by kernel_rfl) (by kernel_rfl) (by kernel_rfl) (fun _ _ _ h => h) (Or.inl ⟨by rfl, ?_⟩) hQ0 ?_
      rotate_left
      · intro w9 hs9
        obtain ⟨s0, s1, s2, s3, s4, s5, s6⟩ := hs9
        go_simp
        try rfl
      refine wpTill.take (i := 11) (v := ?_) rfl rfl (by kernel_rfl) (by kernel_rfl) (by kernel_rfl) (by kernel_rfl) (fun _ _ _ h => h) (Or.inl ⟨by rfl, ?_⟩) hQ0 ?_
      rotate_left
      · intro w9 hs9
        obtain ⟨s0, s1, s2, s3, s4, s5, s6⟩ := hs9
        go_simp
        try rfl
      refine wpTill.take (i := 12) (v := ?_) rfl rfl (by kernel_rfl) (by kernel_rfl) (by kernel_rfl) (by kernel_rfl) (fun _ _ _ h => h) (Or.inl ⟨by rfl, ?_⟩) hQ0 ?_
      rotate_left
      · intro w9 hs9
        obtain ⟨s0, s1, s2, s3, s4, s5, s6⟩ := hs9
        go_simp
        try rfl
      refine wpTill.take (i := 13) (v := ?_) rfl rfl (by kernel_rfl) (by kernel_rfl) (by kernel_rfl) (by kernel_rfl) (fun _ _ _ h => h) (Or.inl ⟨by rfl, ?_⟩) hQ0 ?_
      rotate_left
      · intro w9 hs9
        obtain ⟨s0, s1, s2, s3, s4, s5, s6⟩ := hs9
        go_simp
        try rfl
      refine wpTill.ready (rs := [14]) (by kernel_rfl) (by simp) ?_
      intro i9 hi9
      simp only [List.mem_cons, List.not_mem_nil, or_false] at hi9
      subst hi9
      refine wpOp_of rfl (step_openC (by rfl) ?_)
      go_simp
      go_at_call 57
      refine (HCC.out _ (Below.refl _ _).drew).mono ?_
      rintro e w6 ⟨an3, ln3, cn3, ak3, lk3, ck3, rfl, hl6, hb6'⟩
      have hb6 : Below wr.heap.size wr w6 := (Below.refl _ _).drew.trans hb6'
      clear hl6 hb6' HCC
      have hQ6 := HQ.out w6 hb6
      refine ⟨hQ6, ?_⟩
      refine wpTill.ready (rs := [15]) (by kernel_rfl) (by simp) ?_
      intro i9 hi9
      simp only [List.mem_cons, List.not_mem_nil, or_false] at hi9
      subst hi9
      refine wpOp_of rfl (step_openC (by rfl) ?_)
      go_simp
      first | refine ⟨(show _ ∧ _ from hQ6), ?_⟩ | skip
      refine wpTill.ready (rs := [16]) (by kernel_rfl) (by simp) ?_
      intro i9 hi9
      simp only [List.mem_cons, List.not_mem_nil, or_false] at hi9
      subst hi9
      refine wpOp_of rfl (step_openC (by rfl) ?_)
      go_simp
      have hb7 : Below wr.heap.size wr (w6.alloc (.cells #[.string en, .int .i64 kd, .string tn, .slice an3 ln3 cn3, .slice ak3 lk3 ck3] 133)) := hb6.alloc hb6.size _
      have hQ7 := HQ.out _ hb7
      first | refine ⟨(show _ ∧ _ from hQ7), ?_⟩ | skip
      have hs7 := hb7.size
      have ho7 := rowKeptA HO.out hb7
      refine wpTill.ready (rs := [17]) (by kernel_rfl) (by simp) ?_
      intro i9 hi9
      simp only [List.mem_cons, List.not_mem_nil, or_false] at hi9
      subst hi9
      refine wpOp_of rfl (step_append_own (by rfl) (.tmp 19) (.tmp 34) 53 rfl (w.heap.size + 1 + 1 + 1) 133 i0 (.agg #[.string ⟨#[]⟩, .int .i64 0, .string ⟨#[]⟩, .slice none 0 0, .slice none 0 0]) 5 88 Tryz.underlying53 hi0 hz0 hz1 hz2 rfl (by decide) (.slice av k cv) k ys (by rfl) ho7 ⟨w6.heap.size, 0, none⟩ 1 1 [.string en, .int .i64 kd, .string tn, .slice an3 ln3 cn3, .slice ak3 lk3 ck3] (by rfl) rfl news5 (by intro u hu; simp at hu; rcases hu with rfl | rfl | rfl | rfl | rfl <;> rfl) (by unfold maxLen; omega) (by omega) (by omega) ?_)
      intro v7 w7 o7 g7 n7
      obtain ⟨a7, c7, rfl⟩ : ∃ a7 c7, v7 = .slice a7 (k + 1) c7 := by
        rcases o7.2 with ⟨_, e⟩ | ⟨g, c, cur, e, _⟩
        · omega
        · exact ⟨_, c, e⟩
      obtain ⟨hS7, hS8⟩ := SumC.put (row' := #[.string nm, .bool bad, .slice a7 (k + 1) c7, .slice none 0 0]) HS.out hb7 (fun g hg => (HO.out.lt g hg).1) g7 2 (.slice a7 (k + 1) c7) (fun Q hQ => heap_setCell_same _ _ 2 _ _ _ hQ)
      have z0 : w7.cell? ⟨w.heap.size + 1 + 1, 2, none⟩ = some (.slice av k cv) := by rw [cell_of_row _ _ 2 _ _ (0, 0) hS7.out]; rfl
      have zf : w7.frozen? ⟨w.heap.size + 1 + 1, 2, none⟩ = false := frozen_of_row _ _ 2 _ _ hS7.out
      have hQ7' : w7.cell? ⟨w.heap.size + 1 + 1, 2, none⟩ = some (.slice av k cv) ∧ w7.cell? ⟨w.heap.size, 2, none⟩ = some (.slice (some ⟨b, off, none⟩) ts.length cT) ∧ w7.cell? ⟨b, off + k * 5, none⟩ = some (.string en) ∧ w7.cell? ⟨b, off + k * 5 + 1, none⟩ = some (.int .i64 kd) ∧ w7.cell? ⟨b, off + k * 5 + 2, none⟩ = some (.string tn) ∧ w7.cell? ⟨b, off + k * 5 + 3, none⟩ = some (.slice tan tln tcn) ∧ w7.cell? ⟨b, off + k * 5 + 4, none⟩ = some (.slice tak tlk tck) := by
        have hw7 := hS7.bel
        refine ⟨z0, by rw [cell_of_row _ _ 2 _ _ (0, 0) hS7.arg]; rfl, ?_, ?_, ?_, ?_, ?_⟩
        all_goals
          rw [hw7.cell (by exact hbl)]
          rw [← HS.out.bel.cell (by exact hbl)]
          assumption
      have HN : Hid (SumC w (w7.setCell ⟨w.heap.size + 1 + 1, 2, none⟩ (.slice a7 (k + 1) c7)) #[.string nm, .bool bad, .slice (some ⟨b, off, none⟩) ts.length cT, .slice aX xs.length cX] #[.string nm, .bool bad, .slice a7 (k + 1) c7, .slice none 0 0] ∧ (w7.setCell ⟨w.heap.size + 1 + 1, 2, none⟩ (.slice a7 (k + 1) c7)).ownsRow (w.heap.size + 1 + 1 + 1) 133 5 (.slice a7 (k + 1) c7) (k + 1) (ys ++ [.string en, .int .i64 kd, .string tn, .slice an3 ln3 cn3, .slice ak3 lk3 ck3])) := ⟨hS8, dgLow o7 (Nat.le_refl _) fun g hg => Below.heap_setCell _ _ _ _ (by have := (o7.lt g hg).1; simp; omega)⟩
      clear hS7 hS8 g7 n7 ho7 hb7 hb6 o7
      refine ⟨fun _ => hQ7', ?_⟩
      go_simp
      refine wpTill.ready (rs := [18]) (by kernel_rfl) (by simp) ?_
      intro i9 hi9
      simp only [List.mem_cons, List.not_mem_nil, or_false] at hi9
      subst hi9
      refine wpOp_of rfl (step_openC (by rfl) ?_)
      go_simp
      first | refine ⟨(show _ ∧ _ from hQ7'), ?_⟩ | skip
      refine wpTill.ready (rs := [19]) (by kernel_rfl) (by simp) ?_
      intro i9 hi9
      simp only [List.mem_cons, List.not_mem_nil, or_false] at hi9
      subst hi9
      refine wpOp_of rfl (step_openC (by rfl) ?_)
      go_simp
      refine wpTill.done (by kernel_rfl) ?_ _
      refine NoPanic.normal ?_
      clear hQ0 hQ6 hQ7 hQ7' HQ HO HS qa qo c0 c1 c2 c3 c4 z0 zf
      go_wp2_with fail
      go_roundw
      case rel => exact ⟨k + 1, a7, c7, _, by omega, by go_num, HN.out.1, HN.out.2⟩
      case measure => simp [intOf]; omega
    · obtain rfl : k = ts.length := by omega
      obtain ⟨aa, ha2⟩ : ∃ aa, aa = av := ⟨_, rfl⟩
      obtain ⟨ca, hc2⟩ : ∃ ca, ca = cv := ⟨_, rfl⟩
      rw [← ha2, ← hc2] at HS qo
      obtain ⟨n2, hn2⟩ : ∃ n2, n2 = ts.length := ⟨_, rfl⟩
      have HS1 : Hid (type_of% HS.out) := HS.out
      clear HO HS hS ho HTE HBT ha2 hc2
      go_wp2_with fail
      go_loopw [5] (fun i wr => ∃ (k : Nat) (av : Option Addr) (cv : Nat) (ys : List Value), k ≤ xs.length ∧ i = .int .i64 k ∧ SumC w wr #[.string nm, .bool bad, .slice aT ts.length cT, .slice aX xs.length cX] #[.string nm, .bool bad, .slice aa ts.length ca, .slice av k cv] ∧ wr.ownsRow (w.heap.size + 1 + 1 + 1) 133 5 (.slice av k cv) k ys) (fun i _ => xs.length - (intOf i).toNat)
      case atStart => exact ⟨0, none, 0, [], Nat.zero_le _, rfl, HS1.out, World.ownsRow_nil _ _ _ _⟩
      case round =>
        obtain ⟨k, av, cv, ys, hk, rfl, hS, ho⟩ := hrel
        clear HS1
        have qa : wr.cell? ⟨w.heap.size, 3, none⟩ = some (.slice aX xs.length cX) := by rw [cell_of_row _ _ 3 _ _ (0, 0) hS.arg]; rfl
        have qo : wr.cell? ⟨w.heap.size + 1 + 1, 3, none⟩ = some (.slice av k cv) := by rw [cell_of_row _ _ 3 _ _ (0, 0) hS.out]; rfl
        have HS : Hid (type_of% hS) := hS
        have HO : Hid (type_of% ho) := ho
        by_cases hlt : k < xs.length
        · obtain ⟨b, off, x0, x1, x2, x3, rfl, hbl, hsz, hty, e0, e1, e2, e3, e4⟩ := HXE.out k hlt
          have HCC : Hid (∀ X, Below wr.heap.size wr X → _) := fun X hX => HCP.out [x0, x1, x2, x3] xs[k].2 X (hS.bel.trans (hX.mono hS.bel.size)) hty (HBX.out k hlt)
          obtain ⟨tan, tln, tcn, tak, tlk, tck, ee⟩ := hty.shape
          simp only [List.cons.injEq, and_true] at ee
          obtain ⟨rfl, rfl, rfl, rfl⟩ := ee
          have hbe := hS.bel
          have c0 := (hbe.cell (p := ⟨b, off + k * 5, none⟩) hbl).trans e0
          have c1 := (hbe.cell (p := ⟨b, off + k * 5 + 1, none⟩) hbl).trans e1
          have c2 := (hbe.cell (p := ⟨b, off + k * 5 + 2, none⟩) hbl).trans e2
          have c3 := (hbe.cell (p := ⟨b, off + k * 5 + 3, none⟩) hbl).trans e3
          have c4 := (hbe.cell (p := ⟨b, off + k * 5 + 4, none⟩) hbl).trans e4
          have hbw : b < wr.heap.size := Nat.lt_of_lt_of_le hbl hbe.size
          have hsz3 := hS.size
          clear e0 e1 e2 e3 e4 hty HXE HBX hS ho hbe HCP
          generalize xs[k].1 = en at *
          generalize xs[k].2.kind = kd at *
          generalize xs[k].2.name = tn at *
          have HQ : Hid (∀ X, Below wr.heap.size wr X → X.cell? ⟨w.heap.size + 1 + 1, 3, none⟩ = some (.slice av k cv) ∧ X.cell? ⟨w.heap.size, 3, none⟩ = some (.slice (some ⟨b, off, none⟩) xs.length cX) ∧ X.cell? ⟨b, off + k * 5, none⟩ = some (.string en) ∧ X.cell? ⟨b, off + k * 5 + 1, none⟩ = some (.int .i64 kd) ∧ X.cell? ⟨b, off + k * 5 + 2, none⟩ = some (.string tn) ∧ X.cell? ⟨b, off + k * 5 + 3, none⟩ = some (.slice tan tln tcn) ∧ X.cell? ⟨b, off + k * 5 + 4, none⟩ = some (.slice tak tlk tck)) := fun X hX => ⟨(hX.cell (p := ⟨w.heap.size + 1 + 1, 3, none⟩) hsz3).trans qo, (hX.cell (p := ⟨w.heap.size, 3, none⟩) (by show w.heap.size < _; omega)).trans qa, (hX.cell (p := ⟨b, off + k * 5, none⟩) hbw).trans c0, (hX.cell (p := ⟨b, off + k * 5 + 1, none⟩) hbw).trans c1, (hX.cell (p := ⟨b, off + k * 5 + 2, none⟩) hbw).trans c2, (hX.cell (p := ⟨b, off + k * 5 + 3, none⟩) hbw).trans c3, (hX.cell (p := ⟨b, off + k * 5 + 4, none⟩) hbw).trans c4⟩
          have hk0 : (0 : Int) ≤ k := by omega
          have hk1 : (k : Int) < xs.length := by omega
          go_wp2_with fail
          have hQ0 := HQ.out wr.drew (Below.refl _ _).drew
          refine wp_region_noPanic ?_
          refine wp_region_till (fun w' => w'.cell? ⟨w.heap.size + 1 + 1, 3, none⟩ = some (.slice av k cv) ∧ w'.cell? ⟨w.heap.size, 3, none⟩ = some (.slice (some ⟨b, off, none⟩) xs.length cX) ∧ w'.cell? ⟨b, off + k * 5, none⟩ = some (.string en) ∧ w'.cell? ⟨b, off + k * 5 + 1, none⟩ = some (.int .i64 kd) ∧ w'.cell? ⟨b, off + k * 5 + 2, none⟩ = some (.string tn) ∧ w'.cell? ⟨b, off + k * 5 + 3, none⟩ = some (.slice tan tln tcn) ∧ w'.cell? ⟨b, off + k * 5 + 4, none⟩ = some (.slice tak tlk tck)) 19 (by kernel_rfl) ?_
          refine wpTill.take (i := 0) (v := ?_) rfl rfl (by kernel_rfl) (by kernel_rfl) (by kernel_rfl) (by kernel_rfl) (fun _ _ _ h => h) (Or.inl ⟨by rfl, ?_⟩) hQ0 ?_
          rotate_left
          · intro w9 hs9
            obtain ⟨s0, s1, s2, s3, s4, s5, s6⟩ := hs9
            go_simp
            try rfl
          refine wpTill.take (i := 1) (v := ?_) rfl rfl (by kernel_rfl) (by kernel_rfl) (by kernel_rfl) (by kernel_rfl) (fun _ _ _ h => h) (Or.inl ⟨by rfl, ?_⟩) hQ0 ?_
          rotate_left
          · intro w9 hs9
            obtain ⟨s0, s1, s2, s3, s4, s5, s6⟩ := hs9
            go_simp
            try rfl
          refine wpTill.take (i := 2) (v := ?_) rfl rfl (by kernel_rfl) (by kernel_rfl) (by kernel_rfl) (by kernel_rfl) (fun _ _ _ h => h) (Or.inl ⟨by rfl, ?_⟩) hQ0 ?_
          rotate_left
          · intro w9 hs9
            obtain ⟨s0, s1, s2, s3, s4, s5, s6⟩ := hs9
            go_simp
            try rfl
          refine wpTill.take (i := 3) (v := ?_) rfl rfl (by kernel_rfl) (by kernel_rfl) (by kernel_rfl) (by kernel_rfl) (fun _ _ _ h => h) (Or.inl ⟨by rfl, ?_⟩) hQ0 ?_
          rotate_left
          · intro w9 hs9
            obtain ⟨s0, s1, s2, s3, s4, s5, s6⟩ := hs9
            go_simp
            try rfl
          refine wpTill.take (i := 4) (v := ?_) rfl rfl (by kernel_rfl) (by kernel_rfl) (by kernel_rfl) (by kernel_rfl) (fun _ _ _ h => h) (Or.inl ⟨by rfl, ?_⟩) hQ0 ?_
          rotate_left
          · intro w9 hs9
            obtain ⟨s0, s1, s2, s3, s4, s5, s6⟩ := hs9
            go_simp
            try rfl
          refine wpTill.take (i := 5) (v := ?_) rfl rfl (by kernel_rfl) (by kernel_rfl) (by kernel_rfl) (by kernel_rfl) (fun _ _ _ h => h) (Or.inl ⟨by rfl, ?_⟩) hQ0 ?_
          rotate_left
          · intro w9 hs9
            obtain ⟨s0, s1, s2, s3, s4, s5, s6⟩ := hs9
            go_simp
            try rfl
          refine wpTill.take (i := 6) (v := ?_) rfl rfl (by kernel_rfl) (by kernel_rfl) (by kernel_rfl) (by kernel_rfl) (fun _ _ _ h => h) (Or.inl ⟨by rfl, ?_⟩) hQ0 ?_
          rotate_left
          · intro w9 hs9
            obtain ⟨s0, s1, s2, s3, s4, s5, s6⟩ := hs9
            go_simp
            try rfl
          refine wpTill.take (i := 7) (v := ?_) rfl rfl (by kernel_rfl) (by kernel_rfl) (by kernel_rfl) (by kernel_rfl) (fun _ _ _ h => h) (Or.inl ⟨by rfl, ?_⟩) hQ0 ?_
          rotate_left
          · intro w9 hs9
            obtain ⟨s0, s1, s2, s3, s4, s5, s6⟩ := hs9
            go_simp
            try rfl
          refine wpTill.take (i := 8) (v := ?_) rfl rfl (by kernel_rfl) (by kernel_rfl) (by kernel_rfl) (by kernel_rfl) (fun _ _ _ h => h) (Or.inl ⟨by rfl, ?_⟩) hQ0 ?_
          rotate_left
          · intro w9 hs9
            obtain ⟨s0, s1, s2, s3, s4, s5, s6⟩ := hs9
            go_simp
            try rfl
          refine wpTill.take (i := 9) (v := ?_) rfl rfl (by kernel_rfl) (by kernel_rfl) (by kernel_rfl) (by kernel_rfl) (fun _ _ _ h => h) (Or.inl ⟨by rfl, ?_⟩) hQ0 ?_
          rotate_left
          · intro w9 hs9
            obtain ⟨s0, s1, s2, s3, s4, s5, s6⟩ := hs9
            go_simp
            try rfl
          refine wpTill.take (i := 10) (v := ?_) rfl rfl (by kernel_rfl) (by kernel_rfl) (by kernel_rfl) (by kernel_rfl) (fun _ _ _ h => h) (Or.inl ⟨by rfl, ?_⟩) hQ0 ?_
          rotate_left
          · intro w9 hs9
            obtain ⟨s0, s1, s2, s3, s4, s5, s6⟩ := hs9
            go_simp
            try rfl
          refine wpTill.take (i := 11) (v := ?_) rfl rfl (by kernel_rfl) (by kernel_rfl) (by kernel_rfl) (by kernel_rfl) (fun _ _ _ h => h) (Or.inl ⟨by rfl, ?_⟩) hQ0 ?_
          rotate_left
          · intro w9 hs9
            obtain ⟨s0, s1, s2, s3, s4, s5, s6⟩ := hs9
            go_simp
            try rfl
          refine wpTill.take (i := 12) (v := ?_) rfl rfl (by kernel_rfl) (by kernel_rfl) (by kernel_rfl) (by kernel_rfl) (fun _ _ _ h => h) (Or.inl ⟨by rfl, ?_⟩) hQ0 ?_
          rotate_left
          · intro w9 hs9
            obtain ⟨s0, s1, s2, s3, s4, s5, s6⟩ := hs9
            go_simp
            try rfl
          refine wpTill.take (i := 13) (v := ?_) rfl rfl (by kernel_rfl) (by kernel_rfl) (by kernel_rfl) (by kernel_rfl) (fun _ _ _ h => h) (Or.inl ⟨by rfl, ?_⟩) hQ0 ?_
          rotate_left
          · intro w9 hs9
            obtain ⟨s0, s1, s2, s3, s4, s5, s6⟩ := hs9
            go_simp
            try rfl
          refine wpTill.ready (rs := [14]) (by kernel_rfl) (by simp) ?_
          intro i9 hi9
          simp only [List.mem_cons, List.not_mem_nil, or_false] at hi9
          subst hi9
          refine wpOp_of rfl (step_openC (by rfl) ?_)
          go_simp
          go_at_call 57
          refine (HCC.out _ (Below.refl _ _).drew).mono ?_
          rintro e w6 ⟨an3, ln3, cn3, ak3, lk3, ck3, rfl, hl6, hb6'⟩
          have hb6 : Below wr.heap.size wr w6 := (Below.refl _ _).drew.trans hb6'
          clear hl6 hb6' HCC
          have hQ6 := HQ.out w6 hb6
          refine ⟨hQ6, ?_⟩
          refine wpTill.ready (rs := [15]) (by kernel_rfl) (by simp) ?_
          intro i9 hi9
          simp only [List.mem_cons, List.not_mem_nil, or_false] at hi9
          subst hi9
          refine wpOp_of rfl (step_openC (by rfl) ?_)
          go_simp
          first | refine ⟨(show _ ∧ _ from hQ6), ?_⟩ | skip
          refine wpTill.ready (rs := [16]) (by kernel_rfl) (by simp) ?_
          intro i9 hi9
          simp only [List.mem_cons, List.not_mem_nil, or_false] at hi9
          subst hi9
          refine wpOp_of rfl (step_openC (by rfl) ?_)
          go_simp
          have hb7 : Below wr.heap.size wr (w6.alloc (.cells #[.string en, .int .i64 kd, .string tn, .slice an3 ln3 cn3, .slice ak3 lk3 ck3] 133)) := hb6.alloc hb6.size _
          have hQ7 := HQ.out _ hb7
          first | refine ⟨(show _ ∧ _ from hQ7), ?_⟩ | skip
          have hs7 := hb7.size
          have ho7 := rowKeptA HO.out hb7
          refine wpTill.ready (rs := [17]) (by kernel_rfl) (by simp) ?_
          intro i9 hi9
          simp only [List.mem_cons, List.not_mem_nil, or_false] at hi9
          subst hi9
          refine wpOp_of rfl (step_append_own (by rfl) (.tmp 45) (.tmp 60) 53 rfl (w.heap.size + 1 + 1 + 1) 133 i0 (.agg #[.string ⟨#[]⟩, .int .i64 0, .string ⟨#[]⟩, .slice none 0 0, .slice none 0 0]) 5 88 Tryz.underlying53 hi0 hz0 hz1 hz2 rfl (by decide) (.slice av k cv) k ys (by rfl) ho7 ⟨w6.heap.size, 0, none⟩ 1 1 [.string en, .int .i64 kd, .string tn, .slice an3 ln3 cn3, .slice ak3 lk3 ck3] (by rfl) rfl news5 (by intro u hu; simp at hu; rcases hu with rfl | rfl | rfl | rfl | rfl <;> rfl) (by unfold maxLen; omega) (by omega) (by omega) ?_)
          intro v7 w7 o7 g7 n7
          obtain ⟨a7, c7, rfl⟩ : ∃ a7 c7, v7 = .slice a7 (k + 1) c7 := by
            rcases o7.2 with ⟨_, e⟩ | ⟨g, c, cur, e, _⟩
            · omega
            · exact ⟨_, c, e⟩
          obtain ⟨hS7, hS8⟩ := SumC.put (row' := #[.string nm, .bool bad, .slice aa ts.length ca, .slice a7 (k + 1) c7]) HS.out hb7 (fun g hg => (HO.out.lt g hg).1) g7 3 (.slice a7 (k + 1) c7) (fun Q hQ => heap_setCell_same _ _ 3 _ _ _ hQ)
          have z0 : w7.cell? ⟨w.heap.size + 1 + 1, 3, none⟩ = some (.slice av k cv) := by rw [cell_of_row _ _ 3 _ _ (0, 0) hS7.out]; rfl
          have zf : w7.frozen? ⟨w.heap.size + 1 + 1, 3, none⟩ = false := frozen_of_row _ _ 3 _ _ hS7.out
          have hQ7' : w7.cell? ⟨w.heap.size + 1 + 1, 3, none⟩ = some (.slice av k cv) ∧ w7.cell? ⟨w.heap.size, 3, none⟩ = some (.slice (some ⟨b, off, none⟩) xs.length cX) ∧ w7.cell? ⟨b, off + k * 5, none⟩ = some (.string en) ∧ w7.cell? ⟨b, off + k * 5 + 1, none⟩ = some (.int .i64 kd) ∧ w7.cell? ⟨b, off + k * 5 + 2, none⟩ = some (.string tn) ∧ w7.cell? ⟨b, off + k * 5 + 3, none⟩ = some (.slice tan tln tcn) ∧ w7.cell? ⟨b, off + k * 5 + 4, none⟩ = some (.slice tak tlk tck) := by
            have hw7 := hS7.bel
            refine ⟨z0, by rw [cell_of_row _ _ 3 _ _ (0, 0) hS7.arg]; rfl, ?_, ?_, ?_, ?_, ?_⟩
            all_goals
              rw [hw7.cell (by exact hbl)]
              rw [← HS.out.bel.cell (by exact hbl)]
              assumption
          have HN : Hid (SumC w (w7.setCell ⟨w.heap.size + 1 + 1, 3, none⟩ (.slice a7 (k + 1) c7)) #[.string nm, .bool bad, .slice aT ts.length cT, .slice (some ⟨b, off, none⟩) xs.length cX] #[.string nm, .bool bad, .slice aa ts.length ca, .slice a7 (k + 1) c7] ∧ (w7.setCell ⟨w.heap.size + 1 + 1, 3, none⟩ (.slice a7 (k + 1) c7)).ownsRow (w.heap.size + 1 + 1 + 1) 133 5 (.slice a7 (k + 1) c7) (k + 1) (ys ++ [.string en, .int .i64 kd, .string tn, .slice an3 ln3 cn3, .slice ak3 lk3 ck3])) := ⟨hS8, dgLow o7 (Nat.le_refl _) fun g hg => Below.heap_setCell _ _ _ _ (by have := (o7.lt g hg).1; simp; omega)⟩
          clear hS7 hS8 g7 n7 ho7 hb7 hb6 o7
          refine ⟨fun _ => hQ7', ?_⟩
          go_simp
          refine wpTill.ready (rs := [18]) (by kernel_rfl) (by simp) ?_
          intro i9 hi9
          simp only [List.mem_cons, List.not_mem_nil, or_false] at hi9
          subst hi9
          refine wpOp_of rfl (step_openC (by rfl) ?_)
          go_simp
          first | refine ⟨(show _ ∧ _ from hQ7'), ?_⟩ | skip
          refine wpTill.ready (rs := [19]) (by kernel_rfl) (by simp) ?_
          intro i9 hi9
          simp only [List.mem_cons, List.not_mem_nil, or_false] at hi9
          subst hi9
          refine wpOp_of rfl (step_openC (by rfl) ?_)
          go_simp
          refine wpTill.done (by kernel_rfl) ?_ _
          refine NoPanic.normal ?_
          clear hQ0 hQ6 hQ7 hQ7' HQ HO HS qa qo c0 c1 c2 c3 c4 z0 zf
          go_wp2_with fail
          go_roundw
          case rel => exact ⟨k + 1, a7, c7, _, by omega, by go_num, HN.out.1, HN.out.2⟩
          case measure => simp [intOf]; omega
        · obtain rfl : k = xs.length := by omega
          have r0 : wr.cell? ⟨w.heap.size + 1 + 1, 0, none⟩ = some (.string nm) := by rw [cell_of_row _ _ 0 _ _ (0, 0) hS.out]; rfl
          have r1 : wr.cell? ⟨w.heap.size + 1 + 1, 1, none⟩ = some (.bool bad) := by rw [cell_of_row _ _ 1 _ _ (0, 0) hS.out]; rfl
          have r2 : wr.cell? ⟨w.heap.size + 1 + 1, 2, none⟩ = some (.slice aa ts.length ca) := by rw [cell_of_row _ _ 2 _ _ (0, 0) hS.out]; rfl
          have d0 : wr.cell? ⟨w.heap.size + 1, 0, none⟩ = some (.string ⟨#[]⟩) := by rw [cell_of_row _ _ 0 _ _ (0, 0) hS.res]; rfl
          have d1 : wr.cell? ⟨w.heap.size + 1, 1, none⟩ = some (.bool false) := by rw [cell_of_row _ _ 1 _ _ (0, 0) hS.res]; rfl
          have d2 : wr.cell? ⟨w.heap.size + 1, 2, none⟩ = some (.slice none 0 0) := by rw [cell_of_row _ _ 2 _ _ (0, 0) hS.res]; rfl
          have d3 : wr.cell? ⟨w.heap.size + 1, 3, none⟩ = some (.slice none 0 0) := by rw [cell_of_row _ _ 3 _ _ (0, 0) hS.res]; rfl
          have f0 := frozen_of_row _ _ 0 _ _ hS.res
          have f1 := frozen_of_row _ _ 1 _ _ hS.res
          have f2 := frozen_of_row _ _ 2 _ _ hS.res
          have f3 := frozen_of_row _ _ 3 _ _ hS.res
          have HF : Hid (((((wr.setCell ⟨w.heap.size + 1, 0, none⟩ (.string nm)).setCell ⟨w.heap.size + 1, 1, none⟩ (.bool bad)).setCell ⟨w.heap.size + 1, 2, none⟩ (.slice aa ts.length ca)).setCell ⟨w.heap.size + 1, 3, none⟩ (.slice av xs.length cv)).heap[w.heap.size + 1]? = some (.cells #[.string nm, .bool bad, .slice aa ts.length ca, .slice av xs.length cv] 55 (0, 0)) ∧ Below w.heap.size w ((((wr.setCell ⟨w.heap.size + 1, 0, none⟩ (.string nm)).setCell ⟨w.heap.size + 1, 1, none⟩ (.bool bad)).setCell ⟨w.heap.size + 1, 2, none⟩ (.slice aa ts.length ca)).setCell ⟨w.heap.size + 1, 3, none⟩ (.slice av xs.length cv))) := ⟨put4R hS.res, (((hS.bel.setCell (by simp) _).setCell (by simp) _).setCell (by simp) _).setCell (by simp) _⟩
          clear HO HS hS ho HXE HBX HCP
          go_wp2_with fail
          obtain ⟨y1, y2⟩ := HF.out
          refine ret_l08Copy (b := w.heap.size + 1) rfl ⟨?_, ?_, ?_, ?_⟩ ⟨aa, ts.length, ca, av, xs.length, cv, rfl, y2⟩
          · rw [cell_of_row _ _ 0 _ _ (0, 0) y1]; rfl
          · rw [cell_of_row _ _ 1 _ _ (0, 0) y1]; rfl
          · rw [cell_of_row _ _ 2 _ _ (0, 0) y1]; rfl
          · rw [cell_of_row _ _ 3 _ _ (0, 0) y1]; rfl

end Go.Proofs.YtikoacgfnojoeaaGreatDoor
