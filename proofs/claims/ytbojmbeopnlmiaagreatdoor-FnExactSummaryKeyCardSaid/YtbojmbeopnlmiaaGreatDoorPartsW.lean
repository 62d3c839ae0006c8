/-
 The walk of impl.partsOf: all that a type is made of, in new memory, in some order.
-/
import Derived.Test.YtbojmbeopnlmiaaGreatDoorNmEq
import Derived.Sort.OwnSorted
import Derived.Sort.Grow
import Derived.Lib.OwnBridge
namespace Go.Proofs.YtbojmbeopnlmiaaGreatDoor
open Go.RowKit
theorem Tryz.zeroInt (w : World) : (zeroValue 3).run Tryz.prog w = .ok (.int .i64 0) w := by kernel_rfl
theorem cell_four_newT (w : World) (a b c d : Value) (t : TypeId) : ∀ j u, [a, b, c, d][j]? = some u → (w.alloc (.cells #[a, b, c, d] t)).cell? ((⟨w.heap.size, 0, none⟩ : Addr).add j) = some u := by
 intro j u hj
 match j, hj with
 | 0, hj => simp at hj; subst hj; simp [Addr.add]
 | 1, hj => simp at hj; subst hj; simp [Addr.add]
 | 2, hj => simp at hj; subst hj; simp [Addr.add]
 | 3, hj => simp at hj; subst hj; simp [Addr.add]
 | j + 4, hj => simp at hj
theorem slice_ownT {w : World} {B e z : Nat} {v : Value} {n : Nat} {xs : List Value} (h : w.ownsRow B e z v n xs) : ∃ a cap, v = .slice a n cap := by
 rcases h.2 with ⟨rfl, h0⟩ | ⟨g, cap, cur, hv, _⟩
 ·exact ⟨none, 0, by rw [h0]⟩
 ·exact ⟨_, cap, hv⟩
theorem TyIn.shape {w : World} {n lo hi : Nat} {cs : List Value} {t : Ty} (h : TyIn w n lo hi cs t) : ∃ an ln cn ak lk ck, cs = [.int .i64 t.kind, .string t.name, .slice an ln cn, .slice ak lk ck] := by
 cases n with
 | zero => exact h.elim
 | succ n =>
  obtain ⟨vn, vk, _, h1, _, _, ⟨h4, _, _⟩, _, _, b, cap, e, _⟩ := h
  obtain ⟨a, c, q⟩ := slice_ownT h4.1
  exact ⟨a, _, c, _, _, cap, by rw [h1, q, e]⟩
theorem row_cells {w w0 : World} {B : Nat} {v : Value} {l : List Ent} (h : w.ownsRow B 30 4 v l.length (flatE l)) (hf : ∀ p ∈ l, p.up w0) (j : Nat) (hj : j < l.length) :
  ∃ g cap, v = .slice (some ⟨g, 0, none⟩) l.length cap ∧ ∀ c u, l[j].cs[c]? = some u → w.cell? ⟨g, j * 4 + c, none⟩ = some u := by
 rcases h.2 with ⟨_, h0⟩ | ⟨g, cap, cur, hv, _, hg, _⟩
 ·omega
 ·subst hv
  refine ⟨g, cap, rfl, fun c u hu => ?_⟩
  have hc : c < 4 := by
   have h1 := (List.getElem?_eq_some_iff.1 hu).1
   have h2 := (hf _ (List.getElem_mem hj)).len
   omega
  rw [h.cellAt (j * 4 + c) (by omega), flatE_at hf j c hj hc, hu]
theorem own_oneT {w : World} {B g : Nat} (hg : g = w.heap.size) (hB : B ≤ g) (a b c d : Value) : (w.alloc (.cells #[a, b, c, d] 30)).ownsRow B 30 4 (.slice (some ⟨g, 0, none⟩) 1 1) 1 [a, b, c, d] := by
 subst hg
 exact ⟨rfl, .inr ⟨w.heap.size, 1, #[a, b, c, d], rfl, hB, (MapKept.heap_alloc w _).1, Nat.le_refl _, by unfold maxLen; omega, rfl, rfl⟩⟩
theorem flatE_snoc (l : List Ent) (p : Ent) : flatE (l ++ [p]) = flatE l ++ p.cs := by simp [flatE]
theorem step_ent {B : Nat} {w wr w1 : World} {v v' : Value} {o : Obj} {acc : List Ent} {p : Ent} (hBw : B ≤ wr.heap.size)
  (hown : wr.ownsRow B 30 4 v acc.length (flatE acc)) (hnx : Below B w wr)
  (hown' : w1.ownsRow B 30 4 v' (acc.length + 1) (flatE acc ++ p.cs)) (hgrow : (wr.alloc o).grownBy w1 v.ownBlock) :
  w1.ownsRow B 30 4 v' (acc ++ [p]).length (flatE (acc ++ [p])) ∧ Below B w w1 ∧ wr.heap.size ≤ w1.heap.size := by
 have hB1 : Below B w w1 := (hnx.alloc (by omega) o).grown hgrow (by simp; omega) (fun j hj => (hown.lt j hj).1)
 refine ⟨by simpa [flatE_snoc] using hown', hB1, ?_⟩
 have := hgrow.size
 simp at this
 omega
theorem far_map {w : World} {B e z n M : Nat} {v : Value} {xs : List Value} (h : w.ownsRow B e z v n xs) {es : Array MapEntry} {clock : Nat} (hM : w.heap[M]? = some (.map es clock)) : v.ownBlock ≠ some M := by
 intro e
 rcases h.2 with ⟨rfl, _⟩ | ⟨g, cap, cur, rfl, _, hg, _⟩
 ·simp [Value.ownBlock] at e
 ·simp only [Value.ownBlock, Option.some.injEq] at e
  subst e
  rw [hg] at hM
  simp at hM
set_option maxHeartbeats 1600000 in
set_option maxRecDepth 100000 in
theorem implPartsOf (n lo hi : Nat) (cs : List Value) (t : Ty) (w : World) (h : TyUp w n lo hi cs t) (hbk : Ty.bulk n t ≤ 1048576) :
  Calls Tryz.prog 144 #[.agg cs.toArray] w fun e w' => ∃ (v : Value) (l : List Ent), e = .returned v ∧ w'.ownsRow w.heap.size 30 4 v l.length (flatE l) ∧ (Ty.nodes n t).Perm (l.map (·.t)) ∧ (∀ p ∈ l, p.up w) ∧ Below w.heap.size w w' := by
 have hlen := h.len
 have hN : (Ty.nodes n t).length ≤ 1048577 := by have := nodes_len n t; omega
 have HQ : Hid (Queue w (Ty.nodes n t) [] [⟨n, lo, hi, cs, t⟩] []) := Queue.start h
 obtain ⟨i0, hi0, hz0, hz1, hz2⟩ := info_parts Tryz.infoType
 have hsz4 : i0.size ≠ 0 := by rw [hz1]; decide
 clear h hbk
 generalize Ty.nodes n t = N at *
 match cs, hlen with
 | [x0, x1, x2, x3], _ =>
  have hmm := @run_makeMap Tryz.prog
  go_enter Tryz.func144, Tryz.ntmps144
  go_wp2_with fail
  go_loopw [3, 5] (fun v a wr => ∃ (V P : List Ent) (S : List Nat), Queue w N V P S ∧ a = .int .i64 (V.length : Nat) ∧ wr.ownsRow w.heap.size 30 4 v (V ++ P).length (flatE (V ++ P)) ∧ Places wr (w.heap.size + 1 + 1) (fun a => a.block ∈ S) ∧ (∀ s ∈ S, s < w.heap.size) ∧ Below w.heap.size w wr ∧ w.heap.size + 3 ≤ wr.heap.size) (fun _ a _ => N.length - (intOf a).toNat)
  case atStart =>
   refine ⟨[], _, [], HQ.out, rfl, ?_, ?_, fun s hs => by simp at hs, ?_, ?_⟩
   ·exact (own_oneT (by simp) (by omega) x0 x1 x2 x3).alloc _
   ·exact Places.made (by have := (MapKept.heap_alloc ((w.alloc (.cells #[x0, x1, x2, x3] 30)).alloc (.cells #[x0, x1, x2, x3] 30)) (.map #[] 0)).1; simpa using this) _
   ·exact (((Below.refl _ _).alloc (Nat.le_refl _) _).alloc (by simp) _).alloc (by simp; omega) _
   ·simp
  case round =>
   obtain ⟨V, P, S, hq, rfl, ho, hpl, hSl, hbe, hsz⟩ := hrel
   clear HQ
   cases P with
   | nil =>
    rw [List.append_nil] at ho
    have HF : Hid (N.Perm (V.map (·.t)) ∧ ∀ p ∈ V, p.up w) := ⟨by have := hq.all; simpa [nodesE] using this, fun p hp => hq.fits p (by simp [hp])⟩
    obtain ⟨ao, cap, rfl⟩ := slice_ownT ho
    clear hq hpl
    go_wp2_with fail
    go_ret
    exact ⟨_, V, rfl, ho, HF.out.1, HF.out.2, hbe⟩
   | cons p R =>
    have hNV := hq.lenV
    have hfA : ∀ x ∈ V ++ p :: R, x.up w := hq.fits
    obtain ⟨vn, av, b, cap, K, S1, hpc, hbS, hS1l, hKl, hK, hq2⟩ := hq.head
    obtain ⟨g, capg, rfl, hcells⟩ := row_cells ho hfA V.length (by simp)
    have e1 : (V ++ p :: R)[V.length]'(by simp) = p := by simp
    rw [e1] at hcells
    have c3 := hcells 3 (.slice av K.length cap) (by rw [hpc]; rfl)
    have hlt : V.length < (V ++ p :: R).length := by simp
    have hNK := hq2.lenV
    have hAK : (V ++ p :: R).length + K.length ≤ 1048577 := by simp at hNK ⊢; omega
    have HA2 : Hid ((V ++ [p]) ++ (R ++ K) = (V ++ p :: R) ++ K) := by show _ = _; simp
    clear e1
    generalize V ++ p :: R = A at *
    unfold maxLen at hKl
    have HK : Hid (type_of% hK) := hK
    have HQ2 : Hid (type_of% hq2) := hq2
    have HFA : Hid (type_of% hfA) := hfA
    clear hK hq2 hq hfA hcells hpc
    go_wp2_with fail
    go_loopw [3, 25] (fun v i wr => ∃ k m : Nat, m = (A ++ K.take k).length ∧ k ≤ K.length ∧ i = .int .i64 k ∧ wr.ownsRow w.heap.size 30 4 v m (flatE (A ++ K.take k)) ∧ Places wr (w.heap.size + 1 + 1) (fun a => a.block ∈ S ∨ ∃ j, j < k ∧ a = ⟨b, j * 4, none⟩) ∧ Below w.heap.size w wr ∧ w.heap.size + 3 ≤ wr.heap.size) (fun _ i _ => K.length - (intOf i).toNat)
    case atStart => exact ⟨0, _, rfl, Nat.zero_le _, rfl, by simpa using ho, hpl.mono fun a h => .inl h, hbe, hsz⟩
    case round =>
     obtain ⟨k, m, hm, hk, rfl, ho1, hpl1, hbe1, hsz1⟩ := hrel
     have hAk : m ≤ A.length + k := by rw [hm]; simp; omega
     have HM : Hid (m = (A ++ K.take k).length) := hm
     clear hm
     clear ho hpl hbe hsz c3
     by_cases hlk : k < K.length
     ·obtain ⟨rfl, hbN, hbI, hbc⟩ := hbS (by omega)
      have hbw : b < w.heap.size := by obtain ⟨_, _, e⟩ := hbc; exact (Array.getElem?_eq_some_iff.1 e).1
      obtain ⟨hfk, hck⟩ := HK.out k hlk
      obtain ⟨an, ln, cn, ak, lk, ck, hcs⟩ := hfk.shape
      have HCS : Hid (K[k].cs = [.int .i64 K[k].t.kind, .string K[k].t.name, .slice an ln cn, .slice ak lk ck]) := hcs
      rw [hcs] at hck
      generalize K[k].t.kind = yk at *
      generalize K[k].t.name = yn at *
      have k0 := hck 0 _ rfl
      have k1 := hck 1 _ rfl
      have k2 := hck 2 _ rfl
      have k3 := hck 3 _ rfl
      rw [Nat.add_zero] at k0
      have HNS : Hid (¬ ((⟨b, k * 4, none⟩ : Addr).block ∈ S ∨ ∃ j, j < k ∧ (⟨b, k * 4, none⟩ : Addr) = ⟨b, j * 4, none⟩)) := by
       rintro (h | ⟨j, hj, e⟩)
       ·exact hbN h
       ·have := congrArg Addr.off e
        simp only [] at this
        omega
      have hcl : ∃ cur e, wr.heap[(⟨b, k * 4, none⟩ : Addr).block]? = some (.cells cur e (0, 0)) := by
       obtain ⟨cur, e, h⟩ := hbc
       exact ⟨cur, e, (hbe1.block b hbw).trans h⟩
      obtain ⟨es, clock, hM⟩ := hpl1.map
      obtain ⟨ao, capo, rfl⟩ := slice_ownT ho1
      clear hck hcs hfk
      go_wp2_with (first | (at_lookup; refine wpList_lookup_place _ rfl _ _ 219 rfl 103 3 30 Tryz.underlying219 Tryz.underlying103 i0 hi0 hsz4 (Tryz.zeroInt _) (w.heap.size + 1 + 1) _ hpl1 ⟨b, k * 4, none⟩ HNS.out hcl rfl rfl ?_) | (at_mapUpdate; refine wpList_mapUpdate_place _ rfl _ _ _ 219 rfl 103 3 30 Tryz.underlying219 Tryz.underlying103 i0 hi0 hsz4 (w.heap.size + 1 + 1) _ hpl1 ⟨b, k * 4, none⟩ HNS.out hcl rfl rfl ?_))
      intro w1 hpl2 hbut
      have hbe2 : Below w.heap.size w w1 := hbe1.trans (hbut.below (by omega))
      have ho2 := hbut.owns hM ho1
      have hsz2 : w.heap.size + 3 ≤ w1.heap.size := by rw [hbut.2.2.2.1]; exact hsz1
      have K0 := (hbe2.cell (p := ⟨b, k * 4, none⟩) hbw).trans k0
      have K1 := (hbe2.cell (p := ⟨b, k * 4 + 1, none⟩) hbw).trans k1
      have K2 := (hbe2.cell (p := ⟨b, k * 4 + 2, none⟩) hbw).trans k2
      have K3 := (hbe2.cell (p := ⟨b, k * 4 + 3, none⟩) hbw).trans k3
      obtain ⟨es2, clock2, hM2⟩ := hpl2.map
      have hfar := far_map ho2 hM2
      clear hpl1 ho1 hbe1 hsz1 hM hbut k0 k1 k2 k3 hcl HNS
      go_wp2_with (at_builtin; refine wpList_append_own _ rfl _ _ 28 rfl w.heap.size 30 i0 (.agg #[.int .i64 0, .string ⟨#[]⟩, .slice none 0 0, .slice none 0 0]) 4 72 Tryz.underlying28 hi0 hz0 hz1 hz2 rfl (by decide) _ _ _ rfl (ho2.alloc _) ⟨w1.heap.size, 0, none⟩ 1 1 [.int .i64 yk, .string yn, .slice an ln cn, .slice ak lk ck] rfl rfl ?c1 ?c2 ?c3 ?c4 ?c5 ?_)
      case c1 => exact cell_four_newT w1 _ _ _ _ 30
      case c2 => intro u hu; simp at hu; rcases hu with rfl | rfl | rfl | rfl <;> rfl
      case c3 => unfold maxLen; omega
      case c4 => omega
      case c5 => simp; omega
      intro v' w3 hown' hgrow _
      rw [← HCS.out] at hown'
      rw [HM.out] at ho2 hown' hgrow hfar
      obtain ⟨R1, R2, R3⟩ := step_ent (by omega) ho2 hbe2 hown' hgrow
      have hM3 : w3.heap[w.heap.size + 1 + 1]? = w1.heap[w.heap.size + 1 + 1]? := (hgrow.block _ (by simp; omega) (fun e => hfar e.symm)).trans ((MapKept.heap_alloc w1 _).2 _ (by omega))
      have hpl3 : Places w3 (w.heap.size + 1 + 1) (fun a => a.block ∈ S ∨ ∃ j, j < k + 1 ∧ a = ⟨b, j * 4, none⟩) := (hpl2.kept (B := w.heap.size) hM3 (fun a ha => by
       rcases ha with (h | ⟨j, _, rfl⟩) | rfl
       ·exact hSl _ h
       ·exact hbw
       ·exact hbw) (fun x hx => (R2.block x hx).trans (hbe2.block x hx).symm)).mono (fun a ha => by
       rcases ha with (h | ⟨j, hj, e⟩) | e
       ·exact .inl h
       ·exact .inr ⟨j, by omega, e⟩
       ·exact .inr ⟨k, by omega, e⟩)
      have hsz3 : w.heap.size + 3 ≤ w3.heap.size := by omega
      have HR1 : Hid (w3.ownsRow w.heap.size 30 4 v' (A ++ K.take (k + 1)).length (flatE (A ++ K.take (k + 1)))) := by
       show w3.ownsRow _ _ _ _ _ _
       rw [List.take_succ_eq_append_getElem hlk, ← List.append_assoc]
       exact R1
      clear hown' hgrow ho2 hbe2 hsz2 hpl2 R1 hM2 hM3 hfar K0 K1 K2 K3
      go_wp2_with fail
      go_roundw
      case rel => exact ⟨k + 1, _, rfl, by omega, by go_num, HR1.out, hpl3, R2, hsz3⟩
      case measure => simp [intOf]; omega
     ·have hke : k = K.length := by omega
      subst hke
      rw [HM.out, List.take_of_length_le (Nat.le_refl _), ← HA2.out] at ho1
      have hpl2 : Places wr (w.heap.size + 1 + 1) (fun a => a.block ∈ S1 ++ S) := hpl1.mono fun a ha => by
       rcases ha with h | ⟨j, hj, rfl⟩
       ·exact List.mem_append_right _ h
       ·exact List.mem_append_left _ (hbS (by omega)).2.2.1
      have hSl2 : ∀ s ∈ S1 ++ S, s < w.heap.size := fun s hs => by
       rcases List.mem_append.1 hs with h | h
       ·exact hS1l s h
       ·exact hSl s h
      have hNV2 : V.length < N.length := by simp at hNV; omega
      clear hpl1 hSl hbS hS1l HK HFA
      go_wp2_with fail
      go_roundw
      case rel => exact ⟨V ++ [p], R ++ K, S1 ++ S, HQ2.out, by simp, ho1, hpl2, hSl2, hbe1, hsz1⟩
      case measure => simp [intOf]; omega
end Go.Proofs.YtbojmbeopnlmiaaGreatDoor
namespace Go.Proofs.YtbojmbeopnlmiaaGreatDoor
open Go.Shelf Go.RowKit
def Tryz.cloneRen : Go.Shelf.Ren := ⟨fun | 316 => 162 | n => n, fun | 0 => 0 | 3 => 3 | 4 => 4 | 5 => 5 | 9 => 9 | 37 => 51 | 127 => 153 | n => n, fun | n => n⟩
theorem Tryz.laysClone : Go.Proofs.LaysM.n316 Tryz.prog Tryz.cloneRen := {
 mixed := by kernel_rfl
 f316 := Tryz.func162.trans (congrArg some (by kernel_rfl))
 t0 := Tryz.underlying0
 a0 := Tryz.isAgg0
 z0 := Tryz.sizeOf0
 v0 := Tryz.zeroValue0
 t3 := Tryz.underlying3
 a3 := Tryz.isAgg3
 z3 := Tryz.sizeOf3
 v3 := Tryz.zeroValue3
 t4 := Tryz.underlying4
 a4 := Tryz.isAgg4
 z4 := Tryz.sizeOf4
 v4 := Tryz.zeroValue4
 t9 := Tryz.underlying9
 a9 := Tryz.isAgg9
 z9 := Tryz.sizeOf9
 v9 := Tryz.zeroValue9
 t37 := Tryz.underlying51
 a37 := Tryz.isAgg51
 z37 := Tryz.sizeOf51
 v37 := Tryz.zeroValue51
 t127 := Tryz.underlying153
 a127 := Tryz.isAgg153
 z127 := Tryz.sizeOf153
 v127 := Tryz.zeroValue153
 t5 := Tryz.underlying5
 a5 := Tryz.isAgg5
 z5 := Tryz.sizeOf5
 v5 := Tryz.zeroValue5
 i0 := by kernel_rfl
 i3 := by kernel_rfl
 i4 := by kernel_rfl
 i5 := by kernel_rfl
 i9 := by kernel_rfl
 i37 := by kernel_rfl
 i127 := by kernel_rfl }
theorem innerClone (s : ByteArray) (w : World) (hlim : s.size ≤ 281474976710656) :
  Calls Tryz.prog 162 #[.string s] w fun e w' => e = .returned (.string s) ∧ Below w.heap.size w w' :=
 Any.stringslite_Clone Tryz.laysClone s w hlim
theorem stringsClone (s : ByteArray) (w : World) (hlim : s.size ≤ 281474976710656) :
  Calls Tryz.prog 145 #[.string s] w fun e w' => e = .returned (.string s) ∧ Below w.heap.size w w' := by
 go_enter Tryz.func145, Tryz.ntmps145
 go_wp2_with (go_at_call 162; refine (innerClone s _ hlim).mono ?_; rintro e w1 ⟨rfl, hb⟩)
 go_ret
 exact ⟨rfl, hb⟩
end Go.Proofs.YtbojmbeopnlmiaaGreatDoor
namespace Go.Proofs
open Go.Shelf
def Tryz.lays190_ren : Go.Shelf.Ren := ⟨fun | 190 => 132 | 125 => 148 | 258 => 147 | 128 => 172 | 129 => 134 | 302 => 163 | 303 => 164 | 304 => 165 | 305 => 166 | 306 => 167 | 307 => 168 | 308 => 169 | 309 => 170 | 310 => 171 | 333 => 179 | 329 => 180 | 330 => 181 | 334 => 182 | 335 => 183 | 336 => 184 | 344 => 188 | n => n, fun | 31 => 22 | 9 => 9 | 3 => 3 | 46 => 125 | 0 => 0 | 51 => 154 | 53 => 82 | 4 => 4 | 183 => 222 | 182 => 221 | 131 => 97 | 5 => 5 | 218 => 234 | 222 => 238 | 228 => 241 | 229 => 242 | n => n, fun | n => n⟩
theorem Tryz.lays190 : Go.Proofs.Lays.n190 Tryz.prog Tryz.lays190_ren := {
 mixed := by kernel_rfl
 f125 := Tryz.func148.trans (congrArg some (by kernel_rfl))
 f128 := Tryz.func172.trans (congrArg some (by kernel_rfl))
 f129 := Tryz.func134.trans (congrArg some (by kernel_rfl))
 f190 := Tryz.func132.trans (congrArg some (by kernel_rfl))
 f258 := Tryz.func147.trans (congrArg some (by kernel_rfl))
 f302 := Tryz.func163.trans (congrArg some (by kernel_rfl))
 f303 := Tryz.func164.trans (congrArg some (by kernel_rfl))
 f304 := Tryz.func165.trans (congrArg some (by kernel_rfl))
 f305 := Tryz.func166.trans (congrArg some (by kernel_rfl))
 f306 := Tryz.func167.trans (congrArg some (by kernel_rfl))
 f307 := Tryz.func168.trans (congrArg some (by kernel_rfl))
 f308 := Tryz.func169.trans (congrArg some (by kernel_rfl))
 f309 := Tryz.func170.trans (congrArg some (by kernel_rfl))
 f310 := Tryz.func171.trans (congrArg some (by kernel_rfl))
 f329 := Tryz.func180.trans (congrArg some (by kernel_rfl))
 f330 := Tryz.func181.trans (congrArg some (by kernel_rfl))
 f333 := Tryz.func179.trans (congrArg some (by kernel_rfl))
 f334 := Tryz.func182.trans (congrArg some (by kernel_rfl))
 f335 := Tryz.func183.trans (congrArg some (by kernel_rfl))
 f336 := Tryz.func184.trans (congrArg some (by kernel_rfl))
 f344 := Tryz.func188.trans (congrArg some (by kernel_rfl))
 t0 := Tryz.underlying0
 a0 := Tryz.isAgg0
 z0 := Tryz.sizeOf0
 v0 := Tryz.zeroValue0
 t3 := Tryz.underlying3
 a3 := Tryz.isAgg3
 z3 := Tryz.sizeOf3
 v3 := Tryz.zeroValue3
 t4 := Tryz.underlying4
 a4 := Tryz.isAgg4
 z4 := Tryz.sizeOf4
 v4 := Tryz.zeroValue4
 t5 := Tryz.underlying5
 a5 := Tryz.isAgg5
 z5 := Tryz.sizeOf5
 v5 := Tryz.zeroValue5
 t9 := Tryz.underlying9
 a9 := Tryz.isAgg9
 z9 := Tryz.sizeOf9
 v9 := Tryz.zeroValue9
 t31 := Tryz.underlying22
 a31 := Tryz.isAgg22
 z31 := Tryz.sizeOf22
 v31 := Tryz.zeroValue22
 t46 := Tryz.underlying125
 a46 := Tryz.isAgg125
 z46 := Tryz.sizeOf125
 v46 := Tryz.zeroValue125
 t51 := Tryz.underlying154
 a51 := Tryz.isAgg154
 z51 := Tryz.sizeOf154
 v51 := Tryz.zeroValue154
 t53 := Tryz.underlying82
 a53 := Tryz.isAgg82
 z53 := Tryz.sizeOf82
 v53 := Tryz.zeroValue82
 t131 := Tryz.underlying97
 a131 := Tryz.isAgg97
 z131 := Tryz.sizeOf97
 v131 := Tryz.zeroValue97
 t182 := Tryz.underlying221
 a182 := Tryz.isAgg221
 z182 := Tryz.sizeOf221
 v182 := Tryz.zeroValue221
 t183 := Tryz.underlying222
 a183 := Tryz.isAgg222
 z183 := Tryz.sizeOf222
 v183 := Tryz.zeroValue222
 t218 := Tryz.underlying234
 a218 := Tryz.isAgg234
 z218 := Tryz.sizeOf234
 v218 := Tryz.zeroValue234
 t222 := Tryz.underlying238
 a222 := Tryz.isAgg238
 z222 := Tryz.sizeOf238
 v222 := Tryz.zeroValue238
 t228 := Tryz.underlying241
 a228 := Tryz.isAgg241
 z228 := Tryz.sizeOf241
 v228 := Tryz.zeroValue241
 t229 := Tryz.underlying242
 a229 := Tryz.isAgg242
 z229 := Tryz.sizeOf242
 v229 := Tryz.zeroValue242 }
open Go.Sort Go.RowKit in
theorem Tryz.slices_Sort_string (blk off cap : Nat) (ss : List (List UInt8)) (w : World) (hH : Holds encStr w blk off ss.toArray) (hblk : blk < w.heap.size) (hsz : ss.length < 4611686018427387904) :
  Calls Tryz.prog 132 #[.slice (some ⟨blk, off, none⟩) ss.length cap] w fun e w' =>
   e = .returned (.tuple #[]) ∧ ∃ n os, w' = grow (putRow encStr (Sort.ahead w n) blk off (ss.mergeSort fun x y => decide (x ≤ y)).toArray) os := Any.slices_Sort_string Tryz.lays190 blk off cap ss w hH hblk hsz
def Tryz.lays194_ren : Go.Shelf.Ren := ⟨fun | 194 => 146 | n => n, fun | 31 => 22 | 9 => 9 | 3 => 3 | 4 => 4 | 0 => 0 | n => n, fun | n => n⟩
theorem Tryz.lays194 : Go.Proofs.Lays.n194 Tryz.prog Tryz.lays194_ren := {
 mixed := by kernel_rfl
 f194 := Tryz.func146.trans (congrArg some (by kernel_rfl))
 t0 := Tryz.underlying0
 a0 := Tryz.isAgg0
 z0 := Tryz.sizeOf0
 v0 := Tryz.zeroValue0
 t3 := Tryz.underlying3
 a3 := Tryz.isAgg3
 z3 := Tryz.sizeOf3
 v3 := Tryz.zeroValue3
 t4 := Tryz.underlying4
 a4 := Tryz.isAgg4
 z4 := Tryz.sizeOf4
 v4 := Tryz.zeroValue4
 t9 := Tryz.underlying9
 a9 := Tryz.isAgg9
 z9 := Tryz.sizeOf9
 v9 := Tryz.zeroValue9
 t31 := Tryz.underlying22
 a31 := Tryz.isAgg22
 z31 := Tryz.sizeOf22
 v31 := Tryz.zeroValue22 }
open Go.RowKit Go.Lib Go.Sort in
theorem Tryz.slices_Compact_string (blk off cap : Nat) (zs : List (List UInt8)) (w : World) (hH : Holds encStr w blk off zs.toArray) (hsz : zs.length ≤ 9223372036854775807) (hcap : zs.length ≤ cap) :
  Calls Tryz.prog 146 #[.slice (some ⟨blk, off, none⟩) zs.length cap] w fun e w' => e = .returned (.slice (some ⟨blk, off, none⟩) (Lib.compact zs).length cap) ∧ ∃ q, w' = putRow encStr (Sort.ahead w q) blk off (Lib.compact zs ++ List.replicate (zs.length - (Lib.compact zs).length) []).toArray := Any.slices_Compact_string Tryz.lays194 blk off cap zs w hH hsz hcap
open Go.RowKit Go.Lib Go.Sort in
theorem Tryz.slices_Compact_string_empty (a : Option Addr) (cap : Nat) (w : World) :
  Calls Tryz.prog 146 #[.slice a 0 cap] w fun e w' => e = .returned (.slice a 0 cap) ∧ w' = w := Any.slices_Compact_string_empty Tryz.lays194 a cap w
open Go.RowKit Go.Sort in
theorem Tryz.slices_Sort_string_none (p : Option Addr) (cap : Nat) (w : World) :
  Calls Tryz.prog 132 #[.slice p 0 cap] w fun e w' => e = .returned (.tuple #[]) ∧ w' = w := Any.slices_Sort_string_none Tryz.lays190 p cap w
end Go.Proofs
namespace Go.Proofs.YtbojmbeopnlmiaaGreatDoor
open Go.RowKit Go.Sort Go.Shelf
def keysOf (zs : List ByteArray) : List (List UInt8) := zs.map (·.data.toList)
def ofKeys (ss : List (List UInt8)) : List ByteArray := ss.map fun l => ⟨l.toArray⟩
theorem keys_enc (zs : List ByteArray) : (keysOf zs).map encStr = strV zs := by
 have := Lib.map_encStr zs
 unfold keysOf strV
 rw [this]
theorem enc_keys (ss : List (List UInt8)) : ss.map encStr = strV (ofKeys ss) := by
 unfold ofKeys strV
 rw [List.map_map]
 rfl
theorem asc_ofKeys {ss : List (List UInt8)} (h : ss.Pairwise (· < ·)) : Asc (ofKeys ss) := by
 unfold Asc ofKeys
 rw [List.pairwise_map]
 exact h.imp fun hab => by unfold bl; simpa using hab
theorem mem_ofKeys {ss : List (List UInt8)} {x : ByteArray} : x ∈ ofKeys ss ↔ x.data.toList ∈ ss := by
 unfold ofKeys
 rw [List.mem_map]
 constructor
 ·rintro ⟨l, hl, rfl⟩; simpa using hl
 ·intro h; exact ⟨_, h, ba_inj (by simp)⟩
theorem mem_keysOf {zs : List ByteArray} {x : ByteArray} : x.data.toList ∈ keysOf zs ↔ x ∈ zs := by
 unfold keysOf
 rw [List.mem_map]
 constructor
 ·rintro ⟨y, hy, e⟩; rw [← ba_inj e]; exact hy
 ·intro h; exact ⟨x, h, rfl⟩
def uniq (zs : List ByteArray) : List ByteArray := ofKeys (Lib.compact ((keysOf zs).mergeSort fun x y => decide (x ≤ y)))
theorem uniq_asc (zs : List ByteArray) : Asc (uniq zs) := asc_ofKeys (compact_sorted _).1
theorem uniq_mem (zs : List ByteArray) (x : ByteArray) : x ∈ uniq zs ↔ x ∈ zs := by
 unfold uniq
 rw [mem_ofKeys, (compact_sorted _).2, mem_keysOf]
theorem uniq_len (zs : List ByteArray) : (uniq zs).length ≤ zs.length := by
 unfold uniq ofKeys
 rw [List.length_map]
 have h1 := Lib.compact_length_le ((keysOf zs).mergeSort fun x y => decide (x ≤ y))
 have h2 : ((keysOf zs).mergeSort fun x y => decide (x ≤ y)).length = (keysOf zs).length := List.length_mergeSort _
 have h3 : (keysOf zs).length = zs.length := List.length_map ..
 omega
theorem uniq_end {B g cap nn q : Nat} {w w1 : World} {os : Array Obj} {zs : List ByteArray} (hown : w1.ownsRow B 9 1 (.slice (some ⟨g, 0, none⟩) zs.length cap) zs.length (strV zs)) (hbel : Below B w w1) (hB : B ≤ w1.heap.size) :
  (putRow encStr (Sort.ahead (grow (putRow encStr (Sort.ahead w1 nn) g 0 ((keysOf zs).mergeSort fun x y => decide (x ≤ y)).toArray) os) q) g 0 (Lib.compact ((keysOf zs).mergeSort fun x y => decide (x ≤ y)) ++ List.replicate (zs.length - (Lib.compact ((keysOf zs).mergeSort fun x y => decide (x ≤ y))).length) []).toArray).ownsRow B 9 1 (.slice (some ⟨g, 0, none⟩) (uniq zs).length cap) (uniq zs).length (strV (uniq zs)) ∧
  Below B w (putRow encStr (Sort.ahead (grow (putRow encStr (Sort.ahead w1 nn) g 0 ((keysOf zs).mergeSort fun x y => decide (x ≤ y)).toArray) os) q) g 0 (Lib.compact ((keysOf zs).mergeSort fun x y => decide (x ≤ y)) ++ List.replicate (zs.length - (Lib.compact ((keysOf zs).mergeSort fun x y => decide (x ≤ y))).length) []).toArray) := by
 have hl3 : (keysOf zs).length = zs.length := List.length_map ..
 have hu : (uniq zs).length = (Lib.compact ((keysOf zs).mergeSort fun x y => decide (x ≤ y))).length := by unfold uniq ofKeys; rw [List.length_map]
 have hs2 : strV (uniq zs) = (Lib.compact ((keysOf zs).mergeSort fun x y => decide (x ≤ y))).map encStr := (enc_keys _).symm
 have hl2 : ((keysOf zs).mergeSort fun x y => decide (x ≤ y)).length = (keysOf zs).length := List.length_mergeSort _
 have hle := Lib.compact_length_le ((keysOf zs).mergeSort fun x y => decide (x ≤ y))
 rw [hs2, hu]
 rw [← keys_enc, ← hl3] at hown
 rw [← hl3]
 generalize keysOf zs = ss at *
 rcases hown.2 with ⟨h0, _⟩ | ⟨g', cap', cur, hv, hbase, hb, h1, h2, h3, h4⟩
 ·cases h0
 cases hv
 have hs := ownsRow_sorted (n := nn) (os := os) (ts := ss.mergeSort fun x y => decide (x ≤ y)) hl2 hbase hb h1 h2 h3
 have hc := Lib.ownsRow_putRow (q := q) (k := (Lib.compact (ss.mergeSort fun x y => decide (x ≤ y))).length) (ys := Lib.compact (ss.mergeSort fun x y => decide (x ≤ y)) ++ List.replicate (ss.length - (Lib.compact (ss.mergeSort fun x y => decide (x ≤ y))).length) []) hs (by simp; omega) (by omega)
 rw [List.take_left] at hc
 exact ⟨hc, Lib.below_putRow (hbel.grown (grownBy_sorted _) hB (fun j hj => by cases hj; exact hbase)) hbase⟩
def Has (es : List (ByteArray × Ty)) (t : Ty) (zs : List ByteArray) (T : Ty) : Prop := T = t ∨ ∃ x, x ∈ zs ∧ ∃ j, ∃ h : First es x j, T = (es[j]'h.1).2
theorem Has.more {es : List (ByteArray × Ty)} {t T : Ty} {zs : List ByteArray} (h : Has es t zs T) (y : ByteArray) : Has es t (zs ++ [y]) T := by
 rcases h with h | ⟨x, hx, h⟩
 ·exact .inl h
 ·exact .inr ⟨x, List.mem_append_left _ hx, h⟩
structure RP (n : Nat) (es : List (ByteArray × Ty)) (t : Ty) (zs : List ByteArray) (Ws : List Ty) (cur : Option Ty) : Prop where
 nd : zs.Nodup
 rc : ∀ x, x ∈ zs → Rch n es t x
 ws : ∀ T, T ∈ Ws → Has es t zs T
 cu : ∀ T, cur = some T → Has es t zs T
 cl : ∀ T, Has es t zs T → T ∈ Ws ∨ cur = some T ∨ ∀ y, namesIn n T y → y ∈ zs
theorem RP.start (n : Nat) (es : List (ByteArray × Ty)) (t : Ty) : RP n es t [] [t] none where
 nd := List.nodup_nil
 rc := fun x h => absurd h (by simp)
 ws := fun T h => .inl (by simpa using h)
 cu := fun T h => by cases h
 cl := fun T h => by
  rcases h with h | ⟨x, hx, _⟩
  ·exact .inl (by simp [h])
  ·exact absurd hx (by simp)
theorem RP.pop {n : Nat} {es : List (ByteArray × Ty)} {t T : Ty} {zs : List ByteArray} {Ws : List Ty} (h : RP n es t zs (Ws ++ [T]) none) : RP n es t zs Ws (some T) where
 nd := h.nd
 rc := h.rc
 ws := fun U hU => h.ws U (List.mem_append_left _ hU)
 cu := fun U hU => by cases hU; exact h.ws _ (by simp)
 cl := fun U hU => by
  rcases h.cl U hU with q | q | q
  ·rcases List.mem_append.1 q with q | q
   ·exact .inl q
   ·exact .inr (.inl (by simp at q; rw [q]))
  ·cases q
  ·exact .inr (.inr q)
theorem RP.done {n : Nat} {es : List (ByteArray × Ty)} {t T : Ty} {zs : List ByteArray} {Ws : List Ty} (h : RP n es t zs Ws (some T)) (hT : ∀ y, namesIn n T y → y ∈ zs) : RP n es t zs Ws none where
 nd := h.nd
 rc := h.rc
 ws := h.ws
 cu := fun U hU => by cases hU
 cl := fun U hU => by
  rcases h.cl U hU with q | q | q
  ·exact .inl q
  ·cases q; exact .inr (.inr hT)
  ·exact .inr (.inr q)
theorem RP.reach {n : Nat} {es : List (ByteArray × Ty)} {t T : Ty} {zs : List ByteArray} {Ws : List Ty} (h : RP n es t zs Ws (some T)) {x : ByteArray} (hx : namesIn n T x) : Rch n es t x := by
 rcases h.cu T rfl with rfl | ⟨y, hy, j, hj, rfl⟩
 ·exact .base hx
 ·exact .step (h.rc y hy) ⟨j, hj, hx⟩
theorem RP.put {n : Nat} {es : List (ByteArray × Ty)} {t T : Ty} {zs : List ByteArray} {Ws : List Ty} (h : RP n es t zs Ws (some T)) {x : ByteArray} (hx : namesIn n T x) (hz : x ∉ zs) (hno : ∀ j (h : j < es.length), es[j].1 ≠ x) : RP n es t (zs ++ [x]) Ws (some T) where
 nd := List.nodup_append.2 ⟨h.nd, by simp, fun a ha b hb e => by simp at hb; subst hb; subst e; exact hz ha⟩
 rc := fun y hy => by
  rcases List.mem_append.1 hy with q | q
  ·exact h.rc y q
  ·simp at q; subst q; exact h.reach hx
 ws := fun U hU => (h.ws U hU).more x
 cu := fun U hU => (h.cu U hU).more x
 cl := fun U hU => by
  have hU' : Has es t zs U := by
   rcases hU with q | ⟨y, hy, j, hj, e⟩
   ·exact .inl q
   ·rcases List.mem_append.1 hy with q | q
    ·exact .inr ⟨y, q, j, hj, e⟩
    ·simp at q; subst q; exact absurd hj.2.1 (hno j hj.1)
  rcases h.cl U hU' with q | q | q
  ·exact .inl q
  ·exact .inr (.inl q)
  ·exact .inr (.inr fun y hy => List.mem_append_left _ (q y hy))
theorem RP.put2 {n : Nat} {es : List (ByteArray × Ty)} {t T : Ty} {zs : List ByteArray} {Ws : List Ty} (h : RP n es t zs Ws (some T)) {x : ByteArray} (hx : namesIn n T x) (hz : x ∉ zs) {j : Nat} (hj : First es x j) : RP n es t (zs ++ [x]) (Ws ++ [(es[j]'hj.1).2]) (some T) where
 nd := List.nodup_append.2 ⟨h.nd, by simp, fun a ha b hb e => by simp at hb; subst hb; subst e; exact hz ha⟩
 rc := fun y hy => by
  rcases List.mem_append.1 hy with q | q
  ·exact h.rc y q
  ·simp at q; subst q; exact h.reach hx
 ws := fun U hU => by
  rcases List.mem_append.1 hU with q | q
  ·exact (h.ws U q).more x
  ·simp at q; exact .inr ⟨x, by simp, j, hj, q⟩
 cu := fun U hU => (h.cu U hU).more x
 cl := fun U hU => by
  rcases hU with q | ⟨y, hy, i, hi, e⟩
  ·rcases h.cl U (.inl q) with q | q | q
   ·exact .inl (List.mem_append_left _ q)
   ·exact .inr (.inl q)
   ·exact .inr (.inr fun y hy => List.mem_append_left _ (q y hy))
  ·rcases List.mem_append.1 hy with q | q
   ·rcases h.cl U (.inr ⟨y, q, i, hi, e⟩) with q | q | q
    ·exact .inl (List.mem_append_left _ q)
    ·exact .inr (.inl q)
    ·exact .inr (.inr fun y hy => List.mem_append_left _ (q y hy))
   ·simp at q
    subst q
    obtain rfl := hi.one hj
    exact .inl (List.mem_append_right _ (by simp [e]))
theorem RP.all {n : Nat} {es : List (ByteArray × Ty)} {t : Ty} {zs : List ByteArray} (h : RP n es t zs [] none) (x : ByteArray) : x ∈ zs ↔ Rch n es t x := by
 refine ⟨h.rc x, fun hr => ?_⟩
 obtain ⟨i, hr⟩ := hr
 induction i generalizing x with
 | zero =>
  rcases h.cl t (.inl rfl) with q | q | q
  ·simp at q
  ·cases q
  ·exact q _ hr
 | succ i ih =>
  rcases hr with hr | ⟨y, hy, j, hj, hn⟩
  ·exact ih x hr
  ·rcases h.cl _ (.inr ⟨_, ih y hy, j, hj, rfl⟩) with q | q | q
   ·simp at q
   ·cases q
   ·exact q _ hn
theorem RP.few {n : Nat} {es : List (ByteArray × Ty)} {t : Ty} {zs : List ByteArray} {Ws : List Ty} {cur : Option Ty} (h : RP n es t zs Ws cur) : zs.length ≤ (allNames n es t).length := nodup_len h.nd fun x hx => rch_all (h.rc x hx)
theorem env_nodes (n : Nat) (es : List (ByteArray × Ty)) : (es.flatMap fun e => (Ty.nodes n e.2).map (·.name)).length ≤ envBulk n es := by
 induction es with
 | nil => exact Nat.zero_le _
 | cons e r ih =>
  rw [List.flatMap_cons, List.length_append, List.length_map]
  have := nodes_len n e.2
  unfold envBulk nmBulk at ih ⊢
  rw [List.map_cons, List.sum_cons, List.length_cons]
  omega
theorem all_few (n : Nat) (es : List (ByteArray × Ty)) (t : Ty) : (allNames n es t).length ≤ 1 + Ty.bulk n t + envBulk n es := by
 unfold allNames
 rw [List.length_append, List.length_map]
 have h1 := nodes_len n t
 have h2 := env_nodes n es
 omega
def sorted (zs : List ByteArray) : List ByteArray := ofKeys ((keysOf zs).mergeSort fun x y => decide (x ≤ y))
theorem sorted_mem (zs : List ByteArray) (x : ByteArray) : x ∈ sorted zs ↔ x ∈ zs := by
 unfold sorted
 rw [mem_ofKeys, (List.mergeSort_perm _ _).mem_iff, mem_keysOf]
theorem sorted_len (zs : List ByteArray) : (sorted zs).length = zs.length := by
 unfold sorted ofKeys keysOf
 rw [List.length_map, List.length_mergeSort, List.length_map]
theorem keys_nodup {zs : List ByteArray} (h : zs.Nodup) : (keysOf zs).Nodup := by
 unfold keysOf
 exact List.Pairwise.map _ (fun a b (hab : a ≠ b) e => hab (ba_inj e)) h
theorem sorted_asc {zs : List ByteArray} (h : zs.Nodup) : Asc (sorted zs) := by
 refine asc_ofKeys ?_
 have hp : ((keysOf zs).mergeSort fun x y => decide (x ≤ y)).Pairwise (fun a b => decide (a ≤ b) = true) := List.pairwise_mergeSort (fun a b c h k => by
  simp only [decide_eq_true_eq] at h k ⊢
  exact List.le_trans h k) (fun a b => by
  simp only [Bool.or_eq_true, decide_eq_true_eq]
  exact List.le_total a b) _
 have hn : ((keysOf zs).mergeSort fun x y => decide (x ≤ y)).Nodup := (List.mergeSort_perm _ _).nodup_iff.2 (keys_nodup h)
 refine (hp.and hn).imp ?_
 rintro a b ⟨h1, h2⟩
 simp only [decide_eq_true_eq] at h1
 by_cases c : a < b
 ·exact c
 ·exact absurd (List.le_antisymm h1 c) h2
theorem own_keepR {w w' : World} {B e z n : Nat} {v : Value} {xs : List Value} (h : w.ownsRow B e z v n xs) (hs : ∀ x cur, v.ownBlock = some x → w.heap[x]? = some (.cells cur e (0, 0)) → w'.heap[x]? = w.heap[x]?) : w'.ownsRow B e z v n xs := by
 refine ⟨h.1, ?_⟩
 rcases h.2 with h' | ⟨g, cap, cur, h1, h2, h3, h4⟩
 ·exact .inl h'
 ·exact .inr ⟨g, cap, cur, h1, h2, by rw [hs g cur (by rw [h1]; rfl) h3]; exact h3, h4⟩
theorem own_objR {w : World} {B e z n x : Nat} {v : Value} {xs : List Value} (h : w.ownsRow B e z v n xs) (hx : v.ownBlock = some x) : B ≤ x ∧ ∃ cur, w.heap[x]? = some (.cells cur e (0, 0)) := by
 rcases h.2 with ⟨h', _⟩ | ⟨g, cap, cur, h1, h2, h3, h4⟩
 ·rw [h'] at hx; cases hx
 ·rw [h1] at hx
  simp only [Value.ownBlock, Option.some.injEq] at hx
  subst hx
  exact ⟨h2, cur, h3⟩
theorem obj_lt {w : World} {b : Nat} {o : Obj} (h : w.heap[b]? = some o) : b < w.heap.size := (Array.getElem?_eq_some_iff.1 h).1
def seenD (ss : List ByteArray) : List (ByteArray × Value) := ss.map fun z => (z, Value.int .i64 1)
theorem seen_look (ss : List ByteArray) (x : ByteArray) : (x ∈ ss → lookD (seenD ss) x = some (.int .i64 1)) ∧ (x ∉ ss → lookD (seenD ss) x = none) := by
 induction ss with
 | nil => exact ⟨fun h => absurd h (by simp), fun _ => rfl⟩
 | cons a r ih =>
  show (_ → (if a = x then some (Value.int .i64 1) else lookD (seenD r) x) = _) ∧ (_ → (if a = x then some (Value.int .i64 1) else lookD (seenD r) x) = _)
  by_cases c : a = x
  ·rw [if_pos c]
   exact ⟨fun _ => rfl, fun h => absurd (by simp [c]) h⟩
  ·rw [if_neg c]
   exact ⟨fun h => ih.1 (by rcases List.mem_cons.1 h with e | e; exact absurd e.symm c; exact e), fun h => ih.2 fun q => h (List.mem_cons_of_mem _ q)⟩
structure RMem (w wr : World) (Mb : Nat) (pm : Option Addr) (D : List (ByteArray × Value)) (bb Ms : Nat) (vE vn vw : Value) (zs ss : List ByteArray) (W : List Ent) : Prop where
 nm : wr.ownsRow w.heap.size 9 1 vn zs.length (strV zs)
 wk : wr.ownsRow w.heap.size 30 4 vw W.length (flatE W)
 seen : SMap wr Ms (seenD ss)
 book : SMap wr Mb D
 box : wr.heap[bb]? = some (.cells #[vE, .map (some Mb), .pointer pm] 144 (0, 0))
 bel : Below w.heap.size w wr
theorem SMap.obj {w : World} {M : Nat} {D : List (ByteArray × Value)} (h : SMap w M D) : ∃ es clock, w.heap[M]? = some (.map es clock) := by
 obtain ⟨es, clock, hb, _⟩ := h
 exact ⟨es, clock, hb⟩
theorem RMem.below {w wr w' : World} {Mb : Nat} {pm : Option Addr} {D : List (ByteArray × Value)} {bb Ms : Nat} {vE vn vw : Value} {zs ss : List ByteArray} {W : List Ent} (h : RMem w wr Mb pm D bb Ms vE vn vw zs ss W) (hb : Below wr.heap.size wr w') : RMem w w' Mb pm D bb Ms vE vn vw zs ss W where
 nm := kept_belowT h.nm hb
 wk := kept_belowT h.wk hb
 seen := h.seen.same (hb.block _ h.seen.lt)
 book := h.book.same (hb.block _ h.book.lt)
 box := (hb.block _ (obj_lt h.box)).trans h.box
 bel := h.bel.trans (hb.mono h.bel.size)
theorem RMem.mark {w wr w' : World} {Mb : Nat} {pm : Option Addr} {D : List (ByteArray × Value)} {bb Ms : Nat} {vE vn vw : Value} {zs ss : List ByteArray} {W : List Ent} (h : RMem w wr Mb pm D bb Ms vE vn vw zs ss W) (hne : Mb ≠ Ms) (hMs : w.heap.size ≤ Ms) {x : ByteArray} (hs : SMap w' Ms (seenD ss ++ [(x, .int .i64 1)])) (hb : But Ms wr w') : RMem w w' Mb pm D bb Ms vE vn vw zs (ss ++ [x]) W where
 nm := by obtain ⟨es, clock, hM⟩ := h.seen.obj; exact hb.owns hM h.nm
 wk := by obtain ⟨es, clock, hM⟩ := h.seen.obj; exact hb.owns hM h.wk
 seen := by unfold seenD at hs ⊢; rw [List.map_append]; exact hs
 book := h.book.same (hb.2.2.2.2 _ hne)
 box := (hb.2.2.2.2 _ fun e => by obtain ⟨es, clock, hM⟩ := h.seen.obj; subst e; rw [h.box] at hM; simp at hM).trans h.box
 bel := h.bel.trans (hb.below hMs)
theorem RMem.name {w wr w' : World} {Mb : Nat} {pm : Option Addr} {D : List (ByteArray × Value)} {bb Ms : Nat} {vE vn vn' vw : Value} {zs ss : List ByteArray} {W : List Ent} (h : RMem w wr Mb pm D bb Ms vE vn vw zs ss W) {x : ByteArray} (ho : w'.ownsRow w.heap.size 9 1 vn' (zs.length + 1) (strV zs ++ [.string x])) (hg : wr.grownBy w' vn.ownBlock) : RMem w w' Mb pm D bb Ms vE vn' vw (zs ++ [x]) ss W where
 nm := by simpa [strV] using ho
 wk := own_keepR h.wk fun y cur hy hc => hg.block y (obj_lt hc) fun e => by
  obtain ⟨_, cur', hc'⟩ := own_objR h.nm e.symm
  rw [hc] at hc'
  simp at hc'
 seen := by obtain ⟨es, clock, hM⟩ := h.seen.obj; exact h.seen.same (hg.block _ h.seen.lt (far_map h.nm hM).symm)
 book := by obtain ⟨es, clock, hM⟩ := h.book.obj; exact h.book.same (hg.block _ h.book.lt (far_map h.nm hM).symm)
 box := (hg.block _ (obj_lt h.box) fun e => by
  obtain ⟨_, cur', hc'⟩ := own_objR h.nm e.symm
  rw [h.box] at hc'
  simp at hc').trans h.box
 bel := h.bel.grown hg h.bel.size (fun j hj => (h.nm.lt j hj).1)
theorem RMem.work {w wr w' : World} {Mb : Nat} {pm : Option Addr} {D : List (ByteArray × Value)} {bb Ms : Nat} {vE vn vw vw' : Value} {zs ss : List ByteArray} {W : List Ent} (h : RMem w wr Mb pm D bb Ms vE vn vw zs ss W) {p : Ent} (ho : w'.ownsRow w.heap.size 30 4 vw' (W.length + 1) (flatE W ++ p.cs)) (hg : wr.grownBy w' vw.ownBlock) : RMem w w' Mb pm D bb Ms vE vn vw' zs ss (W ++ [p]) where
 nm := own_keepR h.nm fun y cur hy hc => hg.block y (obj_lt hc) fun e => by
  obtain ⟨_, cur', hc'⟩ := own_objR h.wk e.symm
  rw [hc] at hc'
  simp at hc'
 wk := by simpa [flatE_snoc] using ho
 seen := by obtain ⟨es, clock, hM⟩ := h.seen.obj; exact h.seen.same (hg.block _ h.seen.lt (far_map h.wk hM).symm)
 book := by obtain ⟨es, clock, hM⟩ := h.book.obj; exact h.book.same (hg.block _ h.book.lt (far_map h.wk hM).symm)
 box := (hg.block _ (obj_lt h.box) fun e => by
  obtain ⟨_, cur', hc'⟩ := own_objR h.wk e.symm
  rw [h.box] at hc'
  simp at hc').trans h.box
 bel := h.bel.grown hg h.bel.size (fun j hj => (h.wk.lt j hj).1)
theorem sort_end {B g cap nn : Nat} {w w1 : World} {os : Array Obj} {zs : List ByteArray} (hown : w1.ownsRow B 9 1 (.slice (some ⟨g, 0, none⟩) zs.length cap) zs.length (strV zs)) (hbel : Below B w w1) (hB : B ≤ w1.heap.size) :
  (grow (putRow encStr (Sort.ahead w1 nn) g 0 ((keysOf zs).mergeSort fun x y => decide (x ≤ y)).toArray) os).ownsRow B 9 1 (.slice (some ⟨g, 0, none⟩) (sorted zs).length cap) (sorted zs).length (strV (sorted zs)) ∧
  Below B w (grow (putRow encStr (Sort.ahead w1 nn) g 0 ((keysOf zs).mergeSort fun x y => decide (x ≤ y)).toArray) os) := by
 have hl3 : (keysOf zs).length = zs.length := List.length_map ..
 have hs2 : strV (sorted zs) = ((keysOf zs).mergeSort fun x y => decide (x ≤ y)).map encStr := (enc_keys _).symm
 have hl2 : ((keysOf zs).mergeSort fun x y => decide (x ≤ y)).length = (keysOf zs).length := List.length_mergeSort _
 rw [hs2, sorted_len]
 rw [← keys_enc, ← hl3] at hown
 rw [← hl3]
 generalize keysOf zs = ss at *
 rcases hown.2 with ⟨h0, _⟩ | ⟨g', cap', cur, hv, hbase, hb, h1, h2, h3, h4⟩
 ·cases h0
 cases hv
 exact ⟨ownsRow_sorted (n := nn) (os := os) (ts := ss.mergeSort fun x y => decide (x ≤ y)) hl2 hbase hb h1 h2 h3, hbel.grown (grownBy_sorted _) hB (fun j hj => by cases hj; exact hbase)⟩
end Go.Proofs.YtbojmbeopnlmiaaGreatDoor
