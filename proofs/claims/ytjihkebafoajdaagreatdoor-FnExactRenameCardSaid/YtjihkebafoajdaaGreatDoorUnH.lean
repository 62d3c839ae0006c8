/-
  The walks of a form's height and of impl.wordedForms.
-/
import Derived.Test.YtjihkebafoajdaaGreatDoorUnC
import Derived.Test.YtjihkebafoajdaaGreatDoorFormU
import Derived.Test.YtjihkebafoajdaaGreatDoorStepA
import Derived.Deep.AppendLies
namespace Go.Proofs.YtjihkebafoajdaaGreatDoor
open Go.RowKit

theorem form_height {w : World} {n : Nat} {v : Value} {t : Ty} (h : FormAt w (n + 1) v t) : ∃ T x a c, v = .iface T x ∧ PartsAt w (FormAt w n) (.slice a t.kids.length c) t.kids ∧
    ∀ wx : World, Sem.run Tryz.prog (method 273 T x "loop.example/g00276/impl.height") wx = .ok (128, .agg #[.slice a t.kids.length c]) wx := by
  obtain ⟨a, c, an, cn, hP, _, hc⟩ := h.cases
  generalize t.names.length = l' at *
  generalize t.name = nm at *
  rcases hc with ⟨k, rfl⟩ | ⟨k, rfl⟩ | ⟨k, rfl⟩ | ⟨k, rfl⟩ | ⟨k, rfl⟩ | ⟨k, rfl⟩ | ⟨k, rfl⟩ | ⟨k, rfl⟩
  · exact ⟨_, _, a, c, rfl, hP, fun wx => by generalize t.kids.length = l at *; kernel_rfl⟩
  · exact ⟨_, _, a, c, rfl, hP, fun wx => by generalize t.kids.length = l at *; kernel_rfl⟩
  · exact ⟨_, _, a, c, rfl, hP, fun wx => by generalize t.kids.length = l at *; kernel_rfl⟩
  · exact ⟨_, _, a, c, rfl, hP, fun wx => by generalize t.kids.length = l at *; kernel_rfl⟩
  · exact ⟨_, _, a, c, rfl, hP, fun wx => by generalize t.kids.length = l at *; kernel_rfl⟩
  · exact ⟨_, _, a, c, rfl, hP, fun wx => by generalize t.kids.length = l at *; kernel_rfl⟩
  · exact ⟨_, _, a, c, rfl, hP, fun wx => by generalize t.kids.length = l at *; kernel_rfl⟩
  · exact ⟨_, _, a, c, rfl, hP, fun wx => by generalize t.kids.length = l at *; kernel_rfl⟩

/-- how deep these are at most, and one more -/
def hgts (n : Nat) (ks : List Ty) : Nat := ks.foldl (fun m k => max m (Ty.hgt n k + 1)) 0
theorem hgts_more (n : Nat) (ks : List Ty) (k : Nat) (h : k < ks.length) : hgts n (ks.take (k + 1)) = max (hgts n (ks.take k)) (Ty.hgt n ks[k] + 1) := by
  unfold hgts
  rw [List.take_succ_eq_append_getElem h, List.foldl_append]
  rfl
theorem hgts_le {n : Nat} {ks : List Ty} {b : Nat} (h : ∀ k ∈ ks, Ty.hgt n k ≤ b) (j : Nat) : hgts n (ks.take j) ≤ b + 1 := by
  have := (fold_max (Ty.hgt n) (ks.take j) 0 ((b : Int) + 1)).2 ⟨by omega, fun k hk => by have := h k (List.mem_of_mem_take hk); omega⟩
  unfold hgts
  omega
/-- what height does at that depth -/
def HeightAt (n : Nat) : Prop := ∀ (a : Option Addr) (c : Nat) (ks : List Ty) (w : World), PartsAt w (FormAt w n) (.slice a ks.length c) ks → rowBulk n ks ≤ 274877906944 → (∀ k ∈ ks, Ty.hgt n k ≤ 1000) →
  Calls Tryz.prog 128 #[.agg #[.slice a ks.length c]] w fun e w' => e = .returned (.int .i64 (hgts n ks)) ∧ Below w.heap.size w w'

set_option maxHeartbeats 3200000 in
set_option maxRecDepth 100000 in
theorem heightStep (n : Nat) (ih : ∀ m, n = m + 1 → HeightAt m) : HeightAt n := by
  intro a c ks w hP hbk hh
  have hlen : ks.length ≤ 274877906944 := by unfold rowBulk at hbk; omega
  obtain ⟨a', c', e', hel⟩ := partsOpen hP
  simp only [Value.slice.injEq, true_and] at e'
  obtain ⟨rfl, rfl⟩ := e'
  have HEL : Hid (∀ k (hk : k < ks.length), ∃ b off T x, a = some ⟨b, off, none⟩ ∧ b < w.heap.size ∧ w.cell? ⟨b, off + k, none⟩ = some (.iface T x) ∧ ∃ a2 c2, (∀ wx : World, Sem.run Tryz.prog (method 273 T x "loop.example/g00276/impl.height") wx = .ok (128, .agg #[.slice a2 ks[k].kids.length c2]) wx) ∧ ∀ wx, Below w.heap.size w wx → Calls Tryz.prog 128 #[.agg #[.slice a2 ks[k].kids.length c2]] wx fun e w' => e = .returned (.int .i64 (Ty.hgt n ks[k])) ∧ Below wx.heap.size wx w') := fun k hk => by
    obtain ⟨b, off, u, h1, h2, h3⟩ := hel k hk
    cases n with
    | zero => exact h3.elim
    | succ m =>
      obtain ⟨T, x, a2, c2, rfl, hP2, hm⟩ := form_height h3
      refine ⟨b, off, T, x, h1, World.block_lt_of_cell? w ⟨b, off + k, none⟩ h2, h2, a2, c2, hm, fun wx hx => ?_⟩
      have hkb := kid_bulk (m + 1) ks k hk
      have hkk : Ty.bulk (m + 1) ks[k] = ks[k].name.size + (ks[k].names.length + Ty.textsBulk ks[k].names) + (ks[k].kids.length + (ks[k].kids.map (Ty.bulk m)).sum) := rfl
      have hle := hh _ (List.getElem_mem hk)
      refine ih m rfl a2 c2 ks[k].kids wx (hP2.below hx fun u t _ h => h.below hx) (by unfold rowBulk at hbk ⊢; omega) fun q hq => ?_
      have h9 := (fold_max (Ty.hgt m) ks[k].kids 0 1000).1 (by
        have : Ty.hgt (m + 1) ks[k] = ks[k].kids.foldl (fun m' k' => max m' (Ty.hgt m k' + 1)) 0 := rfl
        rw [← this]
        omega)
      have := h9.2 q hq
      omega
  have HLE : Hid (∀ j, hgts n (ks.take j) ≤ 1001) := fun j => hgts_le hh j
  have HMO : Hid (type_of% (hgts_more n ks)) := hgts_more n ks
  clear hP hel hh ih hbk
  go_enter Tryz.func128, Tryz.ntmps128
  go_wp2_with fail
  go_loopw [3, 9] (fun v i wr => ∃ k : Nat, k ≤ ks.length ∧ i = .int .i64 k ∧ v = .int .i64 (hgts n (ks.take k)) ∧ Below w.heap.size w wr) (fun _ i _ => ks.length - (intOf i).toNat)
  case atStart => exact ⟨0, Nat.zero_le _, rfl, rfl, (Below.refl _ _).alloc (Nat.le_refl _) _⟩
  case round =>
    obtain ⟨k, hk, rfl, rfl, hbe⟩ := hrel
    have hl0 := HLE.out k
    by_cases hlt : k < ks.length
    · obtain ⟨b, off, T, x, rfl, hbl, q0, a2, c2, hm, hcal⟩ := HEL.out k hlt
      have C0 := (hbe.cell (p := ⟨b, off + k, none⟩) hbl).trans q0
      have HC : Hid (type_of% (hcal wr hbe)) := hcal wr hbe
      have hl1 := HLE.out (k + 1)
      have hmx := HMO.out k hlt
      have HMX : Hid (Value.int .i64 (max (hgts n (ks.take k) : Int) ((Ty.hgt n ks[k] : Int) + 1)) = Value.int .i64 (hgts n (ks.take (k + 1)))) := by
        show _ = _
        rw [hmx]
        congr 1
        omega
      have hkd : Ty.hgt n ks[k] ≤ 1001 := by omega
      have hk0 : (0 : Int) ≤ (k : Int) := by omega
      have hk1 : (k : Int) < (ks.length : Int) := by omega
      clear q0 hcal hmx HMO HLE hl1
      generalize hgts n (ks.take k) = p at *
      generalize Ty.hgt n ks[k] = h at *
      generalize ks[k].kids.length = l2 at *
      go_wp2_with fail
      refine HC.out.mono ?_
      rintro e w2 ⟨rfl, hb2⟩
      have D2 := hbe.trans (hb2.mono hbe.size)
      clear HC hb2
      go_wp2_with fail
      exact ⟨⟨k + 1, by omega, by go_num, HMX.out, D2⟩, by simp [intOf]; omega⟩
    · have hke : ks.take k = ks := List.take_of_length_le (by omega)
      rw [hke]
      go_wp2_with fail
      go_ret
      exact ⟨rfl, hbe⟩

theorem implHeight (n : Nat) : HeightAt n := by
  induction n with
  | zero => exact heightStep 0 fun m h => by omega
  | succ n ih =>
    refine heightStep (n + 1) fun m h => ?_
    obtain rfl : n = m := by omega
    exact ih

theorem Tryz.infoWorded : (Tryz.prog.info? 73).map (fun i => (i.zero, i.size, i.bytes)) = some (some (.agg #[.string ⟨#[]⟩, .nilIface]), 2, 32) := by kernel_rfl

theorem slice_ownW {w : World} {B e z : Nat} {v : Value} {n : Nat} {xs : List Value} (h : w.ownsRow B e z v n xs) : ∃ a cap, v = .slice a n cap := by
  rcases h.2 with ⟨e, h0⟩ | ⟨g, c, cur, e, _⟩
  · exact ⟨none, 0, by rw [e, h0]⟩
  · exact ⟨_, c, e⟩
/-- the interface value holds the type; its memory is within those blocks -/
def InQ (w : World) (B lo hi n : Nat) (v : Value) (t : Ty) : Prop := ∃ l' h', lo ≤ l' ∧ h' ≤ hi ∧ FormIn w B n l' h' v t
theorem InQ.at {w : World} {B lo hi n : Nat} {v : Value} {t : Ty} (h : InQ w B lo hi n v t) : FormAt w n v t := by
  obtain ⟨_, _, _, _, h⟩ := h
  exact h.at
/-- these hold the types -/
def HoldW (w : World) (B lo hi n : Nat) (l : List WE) : Prop := ∀ e ∈ l, InQ w B lo hi n (.iface e.T e.x) e.t

set_option maxHeartbeats 3200000 in
set_option maxRecDepth 100000 in
theorem implWorded (n : Nat) (a : Option Addr) (c : Nat) (ks : List Ty) (d : Int) (B lo hi : Nat) (W w : World) (hWw : Below W.heap.size W w) (hP : PartsAt w (InQ W B lo hi n) (.slice a ks.length c) ks) (hr : ∀ q ∈ ks, Right n q d) (hbk : rowBulk n ks ≤ 274877906944) :
    Calls Tryz.prog 39 #[.slice a ks.length c] w fun e w' => ∃ (v : Value) (l : List WE), e = .returned v ∧ l.map (·.t) = ks ∧ HoldW W B lo hi n l ∧ w'.ownsRow w.heap.size 73 2 v l.length (flatW n l) ∧ Below w.heap.size w w' := by
  obtain ⟨i0, hi0, hz0, hz1, hz2⟩ := info_parts Tryz.infoWorded
  have hlen : ks.length ≤ 274877906944 := by unfold rowBulk at hbk; omega
  obtain ⟨a', c', e', hel⟩ := partsOpen hP
  simp only [Value.slice.injEq, true_and] at e'
  obtain ⟨rfl, rfl⟩ := e'
  have HEL : Hid (∀ k (hk : k < ks.length), ∃ b off T x, a = some ⟨b, off, none⟩ ∧ b < w.heap.size ∧ w.cell? ⟨b, off + k, none⟩ = some (.iface T x) ∧ InQ W B lo hi n (.iface T x) ks[k] ∧ ∀ wx, Below w.heap.size w wx → Calls Tryz.prog 65 #[.iface T x] wx fun e w' => e = .returned (.string (Ty.text n ks[k])) ∧ Below wx.heap.size wx w') := fun k hk => by
    obtain ⟨b, off, u, h1, h2, h3⟩ := hel k hk
    obtain ⟨T, x, rfl⟩ := form_iface h3.at
    refine ⟨b, off, T, x, h1, World.block_lt_of_cell? w ⟨b, off + k, none⟩ h2, h2, h3, fun wx hx => implTextOf n _ _ d wx (h3.at.below (hWw.trans (hx.mono hWw.size))) (hr _ (List.getElem_mem hk)) ?_⟩
    have := kid_bulk n ks k hk
    unfold rowBulk at hbk
    omega
  clear hP hel hr hbk
  go_enter Tryz.func39, Tryz.ntmps39
  go_wp2_with fail
  go_loopw [3, 8] (fun v i wr => ∃ (k : Nat) (l : List WE), k ≤ ks.length ∧ i = .int .i64 k ∧ l.length = k ∧ l.map (·.t) = ks.take k ∧ HoldW W B lo hi n l ∧ wr.ownsRow w.heap.size 73 2 v l.length (flatW n l) ∧ Below w.heap.size w wr) (fun _ i _ => ks.length - (intOf i).toNat)
  case atStart => exact ⟨0, [], Nat.zero_le _, rfl, rfl, by simp, fun e he => absurd he (by simp), World.ownsRow_nil _ _ _ _, Below.refl _ _⟩
  case round =>
    obtain ⟨k, l, hk, rfl, hll, hlt, hW, ho, hbe⟩ := hrel
    obtain ⟨av, cv, hv⟩ := slice_ownW ho
    subst hv
    have HW : Hid (type_of% hW) := hW
    have HLT : Hid (type_of% hlt) := hlt
    have hlb : l.length ≤ 274877906944 := by omega
    have HLL : Hid (type_of% hll) := hll
    have HO : Hid (type_of% ho) := ho
    by_cases hkl : k < ks.length
    · obtain ⟨b, off, T, x, rfl, hbl, q0, hfm, hcal⟩ := HEL.out k hkl
      have C0 := (hbe.cell (p := ⟨b, off + k, none⟩) hbl).trans q0
      have HC : Hid (type_of% (hcal wr hbe)) := hcal wr hbe
      have HW2 : Hid (HoldW W B lo hi n (l ++ [⟨T, x, ks[k]⟩])) := fun e he => by
        rcases List.mem_append.1 he with he | he
        · exact HW.out e he
        · simp only [List.mem_singleton] at he
          subst he
          exact hfm
      have HLT2 : Hid ((l ++ [(⟨T, x, ks[k]⟩ : WE)]).map (·.t) = ks.take (k + 1)) := by
        show _ = _
        rw [List.map_append, HLT.out, List.take_succ_eq_append_getElem hkl]
        rfl
      have HFL : Hid (flatW n l ++ [.string (Ty.text n ks[k]), .iface T x] = flatW n (l ++ [⟨T, x, ks[k]⟩])) := by
        show _ = _
        rw [flatW_app]
        rfl
      have hk0 : (0 : Int) ≤ (k : Int) := by omega
      have hk1 : (k : Int) < (ks.length : Int) := by omega
      obtain ⟨L, hL⟩ : ∃ L : List WE, L = l ++ [⟨T, x, ks[k]⟩] := ⟨_, rfl⟩
      have hLl : L.length = l.length + 1 := by rw [hL]; simp
      have HLL2 : Hid (L.length = k + 1 ∧ L.length = l.length + 1) := ⟨by omega, hLl⟩
      rw [← hL] at HW2 HLT2 HFL
      clear q0 hcal hW hlt hfm hll hL hLl ho HW HLT HLL
      generalize Ty.text n ks[k] = tx at *
      go_wp2_with fail
      refine HC.out.mono ?_
      rintro e w2 ⟨rfl, hb2⟩
      have D2 := hbe.trans (hb2.mono hbe.size)
      have hA : Below w2.heap.size w2 (w2.alloc (.cells #[.string tx, .iface T x] 73)) := (Below.refl _ _).alloc (Nat.le_refl _) _
      have how := kept_belowT (kept_belowT HO.out hb2) hA
      have D3 := D2.trans (hA.mono D2.size)
      have hz2' : w.heap.size ≤ w2.heap.size := D2.size
      clear HC hb2 HO hA
      go_wp2_with (at_builtin; refine wpList_append_lies _ rfl _ _ 63 rfl w.heap.size 73 i0 _ 2 32 Tryz.underlying63 hi0 hz0 hz1 hz2 rfl (by decide) _ _ _ rfl how ⟨w2.heap.size, 0, none⟩ 1 1 [.string tx, .iface T x] rfl rfl ?d1 ?d2 (by decide) ?d3 ?d4 ?d5 (w2.heap.size + 1) (by simp) ?_)
      case d1 => exact World.news_of_block (cs := #[.string tx, .iface T x]) (t := 73) (fr := (0, 0)) (MapKept.heap_alloc w2 _).1
      case d2 => simp [Value.oneCell']
      case d3 => unfold maxLen; omega
      case d4 => omega
      case d5 => simp; omega
      intro gl cl w3 hown hgrow _ _
      have HON : Hid (w3.ownsRow w.heap.size 73 2 (.slice (some ⟨gl, 0, none⟩) (l.length + 1) cl) L.length (flatW n L)) := by
        rw [HLL2.out.2, ← HFL.out]
        exact hown
      have HB3 : Hid (type_of% (D3.grown hgrow (by simp; omega) (fun j hj => (how.lt j hj).1))) := D3.grown hgrow (by simp; omega) (fun j hj => (how.lt j hj).1)
      clear hown hgrow how D2 D3 HFL
      go_wp2_with fail
      go_roundw
      case rel => exact ⟨k + 1, L, by omega, by go_num, HLL2.out.1, HLT2.out, HW2.out, HON.out, HB3.out⟩
      case measure => simp [intOf]; omega
    · have HLT2 : Hid (l.map (·.t) = ks) := by
        show _ = _
        rw [HLT.out]
        exact List.take_of_length_le (by omega)
      clear ho hW hlt
      go_wp2_with fail
      go_ret
      exact ⟨_, l, rfl, HLT2.out, HW.out, HO.out, hbe⟩

end Go.Proofs.YtjihkebafoajdaaGreatDoor
