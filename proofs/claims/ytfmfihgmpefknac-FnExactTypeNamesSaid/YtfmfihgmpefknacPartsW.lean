/-
  The walk of impl.partsOf: all that a type is made of, in new memory, in some order.
-/
import Derived.Test.YtfmfihgmpefknacPlaceM
namespace Go.Proofs.Ytfmfihgmpefknac
open Go.RowKit

theorem Try.zeroInt (w : World) : (zeroValue 3).run Try.prog w = .ok (.int .i64 0) w := by kernel_rfl

theorem cell_four_newT (w : World) (a b c d : Value) (t : TypeId) : ∀ j u, [a, b, c, d][j]? = some u → (w.alloc (.cells #[a, b, c, d] t)).cell? ((⟨w.heap.size, 0, none⟩ : Addr).add j) = some u := by
  intro j u hj
  match j, hj with
  | 0, hj => simp at hj; subst hj; simp [Addr.add]
  | 1, hj => simp at hj; subst hj; simp [Addr.add]
  | 2, hj => simp at hj; subst hj; simp [Addr.add]
  | 3, hj => simp at hj; subst hj; simp [Addr.add]
  | j + 4, hj => simp at hj

theorem slice_ownT {w : World} {B e z : Nat} {v : Value} {n : Nat} {xs : List Value} (h : w.ownsRow B e z v n xs) : ∃ a cap, v = .slice a n cap := by
  rcases h.2 with ⟨rfl, h0⟩ | ⟨g, cap, cur, hv, _⟩
  · exact ⟨none, 0, by rw [h0]⟩
  · exact ⟨_, cap, hv⟩

theorem TyIn.shape {w : World} {n lo hi : Nat} {cs : List Value} {t : Ty} (h : TyIn w n lo hi cs t) : ∃ an ln cn ak lk ck, cs = [.int .i64 t.kind, .string t.name, .slice an ln cn, .slice ak lk ck] := by
  cases n with
  | zero => exact h.elim
  | succ n =>
    obtain ⟨vn, vk, _, h1, _, _, ⟨h4, _, _⟩, _, _, b, cap, e, _⟩ := h
    obtain ⟨a, c, q⟩ := slice_ownT h4.1
    exact ⟨a, _, c, _, _, cap, by rw [h1, q, e]⟩

/-- a row's cells, where it has an element -/
theorem row_cells {w w0 : World} {B : Nat} {v : Value} {l : List Ent} (h : w.ownsRow B 30 4 v l.length (flatE l)) (hf : ∀ p ∈ l, p.up w0) (j : Nat) (hj : j < l.length) :
    ∃ g cap, v = .slice (some ⟨g, 0, none⟩) l.length cap ∧ ∀ c u, l[j].cs[c]? = some u → w.cell? ⟨g, j * 4 + c, none⟩ = some u := by
  rcases h.2 with ⟨_, h0⟩ | ⟨g, cap, cur, hv, _, hg, _⟩
  · omega
  · subst hv
    refine ⟨g, cap, rfl, fun c u hu => ?_⟩
    have hc : c < 4 := by
      have h1 := (List.getElem?_eq_some_iff.1 hu).1
      have h2 := (hf _ (List.getElem_mem hj)).len
      omega
    rw [h.cellAt (j * 4 + c) (by omega), flatE_at hf j c hj hc, hu]

theorem own_oneT {w : World} {B g : Nat} (hg : g = w.heap.size) (hB : B ≤ g) (a b c d : Value) : (w.alloc (.cells #[a, b, c, d] 30)).ownsRow B 30 4 (.slice (some ⟨g, 0, none⟩) 1 1) 1 [a, b, c, d] := by
  subst hg
  exact ⟨rfl, .inr ⟨w.heap.size, 1, #[a, b, c, d], rfl, hB, (MapKept.heap_alloc w _).1, Nat.le_refl _, by unfold maxLen; omega, rfl, rfl⟩⟩

theorem flatE_snoc (l : List Ent) (p : Ent) : flatE (l ++ [p]) = flatE l ++ p.cs := by simp [flatE]

theorem step_ent {B : Nat} {w wr w1 : World} {v v' : Value} {o : Obj} {acc : List Ent} {p : Ent} (hBw : B ≤ wr.heap.size)
    (hown : wr.ownsRow B 30 4 v acc.length (flatE acc)) (hnx : Below B w wr)
    (hown' : w1.ownsRow B 30 4 v' (acc.length + 1) (flatE acc ++ p.cs)) (hgrow : (wr.alloc o).grownBy w1 v.ownBlock) :
    w1.ownsRow B 30 4 v' (acc ++ [p]).length (flatE (acc ++ [p])) ∧ Below B w w1 ∧ wr.heap.size ≤ w1.heap.size := by
  have hB1 : Below B w w1 := (hnx.alloc (by omega) o).grown hgrow (by simp; omega) (fun j hj => (hown.lt j hj).1)
  refine ⟨by simpa [flatE_snoc] using hown', hB1, ?_⟩
  have := hgrow.size
  simp at this
  omega

/-- the map is none of the row -/
theorem far_map {w : World} {B e z n M : Nat} {v : Value} {xs : List Value} (h : w.ownsRow B e z v n xs) {es : Array MapEntry} {clock : Nat} (hM : w.heap[M]? = some (.map es clock)) : v.ownBlock ≠ some M := by
  intro e
  rcases h.2 with ⟨rfl, _⟩ | ⟨g, cap, cur, rfl, _, hg, _⟩
  · simp [Value.ownBlock] at e
  · simp only [Value.ownBlock, Option.some.injEq] at e
    subst e
    rw [hg] at hM
    simp at hM

set_option maxHeartbeats 1600000 in
set_option maxRecDepth 100000 in
theorem implPartsOf (n lo hi : Nat) (cs : List Value) (t : Ty) (w : World) (h : TyUp w n lo hi cs t) (hbk : Ty.bulk n t ≤ 1048576) :
    Calls Try.prog 20 #[.agg cs.toArray] w fun e w' => ∃ (v : Value) (l : List Ent), e = .returned v ∧ w'.ownsRow w.heap.size 30 4 v l.length (flatE l) ∧ (Ty.nodes n t).Perm (l.map (·.t)) ∧ (∀ p ∈ l, p.up w) ∧ Below w.heap.size w w' := by
  have hlen := h.len
  have hN : (Ty.nodes n t).length ≤ 1048577 := by have := nodes_len n t; omega
  have HQ : Hid (Queue w (Ty.nodes n t) [] [⟨n, lo, hi, cs, t⟩] []) := Queue.start h
  obtain ⟨i0, hi0, hz0, hz1, hz2⟩ := info_parts Try.infoType
  have hsz4 : i0.size ≠ 0 := by rw [hz1]; decide
  clear h hbk
  generalize Ty.nodes n t = N at *
  match cs, hlen with
  | [x0, x1, x2, x3], _ =>
    have hmm := @run_makeMap Try.prog
    go_enter Try.func20, Try.ntmps20
    go_wp2_with fail
    go_loopw [3, 5] (fun v a wr => ∃ (V P : List Ent) (S : List Nat), Queue w N V P S ∧ a = .int .i64 (V.length : Nat) ∧ wr.ownsRow w.heap.size 30 4 v (V ++ P).length (flatE (V ++ P)) ∧ Places wr (w.heap.size + 1 + 1) (fun a => a.block ∈ S) ∧ (∀ s ∈ S, s < w.heap.size) ∧ Below w.heap.size w wr ∧ w.heap.size + 3 ≤ wr.heap.size) (fun _ a _ => N.length - (intOf a).toNat)
    case atStart =>
      refine ⟨[], _, [], HQ.out, rfl, ?_, ?_, fun s hs => by simp at hs, ?_, ?_⟩
      · exact (own_oneT (by simp) (by omega) x0 x1 x2 x3).alloc _
      · exact Places.made (by have := (MapKept.heap_alloc ((w.alloc (.cells #[x0, x1, x2, x3] 30)).alloc (.cells #[x0, x1, x2, x3] 30)) (.map #[] 0)).1; simpa using this) _
      · exact (((Below.refl _ _).alloc (Nat.le_refl _) _).alloc (by simp) _).alloc (by simp; omega) _
      · simp
    case round =>
      obtain ⟨V, P, S, hq, rfl, ho, hpl, hSl, hbe, hsz⟩ := hrel
      clear HQ
      cases P with
      | nil =>
        rw [List.append_nil] at ho
        have HF : Hid (N.Perm (V.map (·.t)) ∧ ∀ p ∈ V, p.up w) := ⟨by have := hq.all; simpa [nodesE] using this, fun p hp => hq.fits p (by simp [hp])⟩
        obtain ⟨ao, cap, rfl⟩ := slice_ownT ho
        clear hq hpl
        go_wp2_with fail
        go_ret
        exact ⟨_, V, rfl, ho, HF.out.1, HF.out.2, hbe⟩
      | cons p R =>
        have hNV := hq.lenV
        have hfA : ∀ x ∈ V ++ p :: R, x.up w := hq.fits
        obtain ⟨vn, av, b, cap, K, S1, hpc, hbS, hS1l, hKl, hK, hq2⟩ := hq.head
        obtain ⟨g, capg, rfl, hcells⟩ := row_cells ho hfA V.length (by simp)
        have e1 : (V ++ p :: R)[V.length]'(by simp) = p := by simp
        rw [e1] at hcells
        have c3 := hcells 3 (.slice av K.length cap) (by rw [hpc]; rfl)
        have hlt : V.length < (V ++ p :: R).length := by simp
        have hNK := hq2.lenV
        have hAK : (V ++ p :: R).length + K.length ≤ 1048577 := by simp at hNK ⊢; omega
        have HA2 : Hid ((V ++ [p]) ++ (R ++ K) = (V ++ p :: R) ++ K) := by show _ = _; simp
        clear e1
        generalize V ++ p :: R = A at *
        unfold maxLen at hKl
        have HK : Hid (type_of% hK) := hK
        have HQ2 : Hid (type_of% hq2) := hq2
        have HFA : Hid (type_of% hfA) := hfA
        clear hK hq2 hq hfA hcells hpc
        go_wp2_with fail
        go_loopw [3, 25] (fun v i wr => ∃ k m : Nat, m = (A ++ K.take k).length ∧ k ≤ K.length ∧ i = .int .i64 k ∧ wr.ownsRow w.heap.size 30 4 v m (flatE (A ++ K.take k)) ∧ Places wr (w.heap.size + 1 + 1) (fun a => a.block ∈ S ∨ ∃ j, j < k ∧ a = ⟨b, j * 4, none⟩) ∧ Below w.heap.size w wr ∧ w.heap.size + 3 ≤ wr.heap.size) (fun _ i _ => K.length - (intOf i).toNat)
        case atStart => exact ⟨0, _, rfl, Nat.zero_le _, rfl, by simpa using ho, hpl.mono fun a h => .inl h, hbe, hsz⟩
        case round =>
          obtain ⟨k, m, hm, hk, rfl, ho1, hpl1, hbe1, hsz1⟩ := hrel
          have hAk : m ≤ A.length + k := by rw [hm]; simp; omega
          have HM : Hid (m = (A ++ K.take k).length) := hm
          clear hm
          clear ho hpl hbe hsz c3
          by_cases hlk : k < K.length
          · obtain ⟨rfl, hbN, hbI, hbc⟩ := hbS (by omega)
            have hbw : b < w.heap.size := by obtain ⟨_, _, e⟩ := hbc; exact (Array.getElem?_eq_some_iff.1 e).1
            obtain ⟨hfk, hck⟩ := HK.out k hlk
            obtain ⟨an, ln, cn, ak, lk, ck, hcs⟩ := hfk.shape
            have HCS : Hid (K[k].cs = [.int .i64 K[k].t.kind, .string K[k].t.name, .slice an ln cn, .slice ak lk ck]) := hcs
            rw [hcs] at hck
            generalize K[k].t.kind = yk at *
            generalize K[k].t.name = yn at *
            have k0 := hck 0 _ rfl
            have k1 := hck 1 _ rfl
            have k2 := hck 2 _ rfl
            have k3 := hck 3 _ rfl
            rw [Nat.add_zero] at k0
            have HNS : Hid (¬ ((⟨b, k * 4, none⟩ : Addr).block ∈ S ∨ ∃ j, j < k ∧ (⟨b, k * 4, none⟩ : Addr) = ⟨b, j * 4, none⟩)) := by
              rintro (h | ⟨j, hj, e⟩)
              · exact hbN h
              · have := congrArg Addr.off e
                simp only [] at this
                omega
            have hcl : ∃ cur e, wr.heap[(⟨b, k * 4, none⟩ : Addr).block]? = some (.cells cur e (0, 0)) := by
              obtain ⟨cur, e, h⟩ := hbc
              exact ⟨cur, e, (hbe1.block b hbw).trans h⟩
            obtain ⟨es, clock, hM⟩ := hpl1.map
            obtain ⟨ao, capo, rfl⟩ := slice_ownT ho1
            clear hck hcs hfk
            go_wp2_with (first | (at_lookup; refine wpList_lookup_place _ rfl _ _ 48 rfl 49 3 30 Try.underlying48 Try.underlying49 i0 hi0 hsz4 (Try.zeroInt _) (w.heap.size + 1 + 1) _ hpl1 ⟨b, k * 4, none⟩ HNS.out hcl rfl rfl ?_) | (at_mapUpdate; refine wpList_mapUpdate_place _ rfl _ _ _ 48 rfl 49 3 30 Try.underlying48 Try.underlying49 i0 hi0 hsz4 (w.heap.size + 1 + 1) _ hpl1 ⟨b, k * 4, none⟩ HNS.out hcl rfl rfl ?_))
            intro w1 hpl2 hbut
            have hbe2 : Below w.heap.size w w1 := hbe1.trans (hbut.below (by omega))
            have ho2 := hbut.owns hM ho1
            have hsz2 : w.heap.size + 3 ≤ w1.heap.size := by rw [hbut.2.2.2.1]; exact hsz1
            have K0 := (hbe2.cell (p := ⟨b, k * 4, none⟩) hbw).trans k0
            have K1 := (hbe2.cell (p := ⟨b, k * 4 + 1, none⟩) hbw).trans k1
            have K2 := (hbe2.cell (p := ⟨b, k * 4 + 2, none⟩) hbw).trans k2
            have K3 := (hbe2.cell (p := ⟨b, k * 4 + 3, none⟩) hbw).trans k3
            obtain ⟨es2, clock2, hM2⟩ := hpl2.map
            have hfar := far_map ho2 hM2
            clear hpl1 ho1 hbe1 hsz1 hM hbut k0 k1 k2 k3 hcl HNS
            go_wp2_with (at_builtin; refine wpList_append_own _ rfl _ _ 28 rfl w.heap.size 30 i0 (.agg #[.int .i64 0, .string ⟨#[]⟩, .slice none 0 0, .slice none 0 0]) 4 72 Try.underlying28 hi0 hz0 hz1 hz2 rfl (by decide) _ _ _ rfl (ho2.alloc _) ⟨w1.heap.size, 0, none⟩ 1 1 [.int .i64 yk, .string yn, .slice an ln cn, .slice ak lk ck] rfl rfl ?c1 ?c2 ?c3 ?c4 ?c5 ?_)
            case c1 => exact cell_four_newT w1 _ _ _ _ 30
            case c2 => intro u hu; simp at hu; rcases hu with rfl | rfl | rfl | rfl <;> rfl
            case c3 => unfold maxLen; omega
            case c4 => omega
            case c5 => simp; omega
            intro v' w3 hown' hgrow _
            rw [← HCS.out] at hown'
            rw [HM.out] at ho2 hown' hgrow hfar
            obtain ⟨R1, R2, R3⟩ := step_ent (by omega) ho2 hbe2 hown' hgrow
            have hM3 : w3.heap[w.heap.size + 1 + 1]? = w1.heap[w.heap.size + 1 + 1]? := (hgrow.block _ (by simp; omega) (fun e => hfar e.symm)).trans ((MapKept.heap_alloc w1 _).2 _ (by omega))
            have hpl3 : Places w3 (w.heap.size + 1 + 1) (fun a => a.block ∈ S ∨ ∃ j, j < k + 1 ∧ a = ⟨b, j * 4, none⟩) := (hpl2.kept (B := w.heap.size) hM3 (fun a ha => by
              rcases ha with (h | ⟨j, _, rfl⟩) | rfl
              · exact hSl _ h
              · exact hbw
              · exact hbw) (fun x hx => (R2.block x hx).trans (hbe2.block x hx).symm)).mono (fun a ha => by
              rcases ha with (h | ⟨j, hj, e⟩) | e
              · exact .inl h
              · exact .inr ⟨j, by omega, e⟩
              · exact .inr ⟨k, by omega, e⟩)
            have hsz3 : w.heap.size + 3 ≤ w3.heap.size := by omega
            have HR1 : Hid (w3.ownsRow w.heap.size 30 4 v' (A ++ K.take (k + 1)).length (flatE (A ++ K.take (k + 1)))) := by
              show w3.ownsRow _ _ _ _ _ _
              rw [List.take_succ_eq_append_getElem hlk, ← List.append_assoc]
              exact R1
            clear hown' hgrow ho2 hbe2 hsz2 hpl2 R1 hM2 hM3 hfar K0 K1 K2 K3
            go_wp2_with fail
            go_roundw
            case rel => exact ⟨k + 1, _, rfl, by omega, by go_num, HR1.out, hpl3, R2, hsz3⟩
            case measure => simp [intOf]; omega
          · have hke : k = K.length := by omega
            subst hke
            rw [HM.out, List.take_of_length_le (Nat.le_refl _), ← HA2.out] at ho1
            have hpl2 : Places wr (w.heap.size + 1 + 1) (fun a => a.block ∈ S1 ++ S) := hpl1.mono fun a ha => by
              rcases ha with h | ⟨j, hj, rfl⟩
              · exact List.mem_append_right _ h
              · exact List.mem_append_left _ (hbS (by omega)).2.2.1
            have hSl2 : ∀ s ∈ S1 ++ S, s < w.heap.size := fun s hs => by
              rcases List.mem_append.1 hs with h | h
              · exact hS1l s h
              · exact hSl s h
            have hNV2 : V.length < N.length := by simp at hNV; omega
            clear hpl1 hSl hbS hS1l HK HFA
            go_wp2_with fail
            go_roundw
            case rel => exact ⟨V ++ [p], R ++ K, S1 ++ S, HQ2.out, by simp, ho1, hpl2, hSl2, hbe1, hsz1⟩
            case measure => simp [intOf]; omega

end Go.Proofs.Ytfmfihgmpefknac
