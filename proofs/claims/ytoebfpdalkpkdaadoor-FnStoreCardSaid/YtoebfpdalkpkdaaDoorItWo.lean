/-
  The walk of spec.l11Without.
-/
import Derived.Test.YtoebfpdalkpkdaaDoorItE
import Derived.Test.YtoebfpdalkpkdaaDoorItV
namespace Go.Proofs.YtoebfpdalkpkdaaDoor
open Go.RowKit

theorem oneItem {w : World} {G : Nat} {e : Itm} (h0 : w.cell? ⟨G, 0, none⟩ = some (.string e.1)) (h1 : w.cell? ⟨G, 1, none⟩ = some (.string e.2.1)) (h2 : w.cell? ⟨G, 2, none⟩ = some (.string e.2.2)) : ∀ j u, (itV [e])[j]? = some u → w.cell? ((⟨G, 0, none⟩ : Addr).add j) = some u := by
  intro j u hj
  have hv : itV [e] = [.string e.1, .string e.2.1, .string e.2.2] := rfl
  rw [hv] at hj
  match j, hj with
  | 0, hj => simp at hj; subst hj; simpa [Addr.add] using h0
  | 1, hj => simp at hj; subst hj; simpa [Addr.add] using h1
  | 2, hj => simp at hj; subst hj; simpa [Addr.add] using h2
  | j + 3, hj => simp at hj

set_option maxHeartbeats 1600000 in
set_option maxRecDepth 100000 in
theorem specWithout (v : Value) (es : List Itm) (s : ByteArray) (w : World) (hrow : ItAt w v es) (hlen : es.length ≤ 4194304) :
    Calls Tryd.prog 33 #[v, .string s] w fun e w' => ∃ g c, e = .returned (.slice (some ⟨g, 0, none⟩) (withoutI es s).length c) ∧ w'.ownsRow w.heap.size 50 3 (.slice (some ⟨g, 0, none⟩) (withoutI es s).length c) (withoutI es s).length (itV (withoutI es s)) ∧ Below w.heap.size w w' := by
  obtain ⟨i0, hi0, hz0, hz1, hz2⟩ := info_parts Tryd.infoItem
  obtain ⟨av, capv, rfl, hel⟩ := itOpen hrow
  have HEL : Hid (type_of% hel) := hel
  have bE : Below w.heap.size w (w.alloc (.cells #[] 50)) := (Below.refl _ _).alloc (Nat.le_refl _) _
  have hE : (w.alloc (.cells #[] 50)).ownsRow w.heap.size 50 3 (.slice (some ⟨w.heap.size, 0, none⟩) 0 0) 0 [] := own_emptyI (MapKept.heap_alloc w _).1 (Nat.le_refl _)
  clear hrow hel
  go_enter Tryd.func33, Tryd.ntmps33
  go_wp2_with fail
  go_loopw [5, 6] (fun o i wr => ∃ (k g c : Nat), k ≤ es.length ∧ i = .int .i64 k ∧ o = .slice (some ⟨g, 0, none⟩) (withoutI (es.take k) s).length c ∧ wr.ownsRow w.heap.size 50 3 (.slice (some ⟨g, 0, none⟩) (withoutI (es.take k) s).length c) (withoutI (es.take k) s).length (itV (withoutI (es.take k) s)) ∧ Below w.heap.size w wr) (fun _ i _ => es.length - (intOf i).toNat)
  case atStart => exact ⟨0, w.heap.size, 0, Nat.zero_le _, rfl, rfl, hE, bE⟩
  case round =>
    obtain ⟨k, g, c, hk, rfl, rfl, ho, hbe⟩ := hrel
    clear hE bE
    by_cases hlt : k < es.length
    · obtain ⟨b, off, rfl, hbl, q0, q1, q2⟩ := HEL.out k hlt
      have c0 := (hbe.cell (p := ⟨b, off + k * 3, none⟩) hbl).trans q0
      have c1 := (hbe.cell (p := ⟨b, off + k * 3 + 1, none⟩) hbl).trans q1
      have c2 := (hbe.cell (p := ⟨b, off + k * 3 + 2, none⟩) hbl).trans q2
      have HM := withoutI_more es s k hlt
      have hwl : (withoutI (es.take k) s).length ≤ 4194304 := by
        have h1 := withoutI_length (es.take k) s
        have h2 : (es.take k).length ≤ es.length := by simp; omega
        omega
      have hk0 : (0 : Int) ≤ k := by omega
      have hk1 : (k : Int) < es.length := by omega
      clear q0 q1 q2 HEL
      by_cases he : es[k].2.1 = s
      · rw [if_pos he, List.append_nil] at HM
        have HM2 : Hid (type_of% HM) := HM
        have hcm := it_same he
        have HO : Hid (type_of% ho) := ho
        clear HM he ho
        generalize es[k].1 = x0 at *
        generalize es[k].2.1 = x1 at *
        generalize es[k].2.2 = x2 at *
        generalize hn : (withoutI (es.take k) s).length = n at *
        have HN : Hid (type_of% hn) := hn
        clear hn
        go_wp2_with fail
        go_roundw
        case rel => exact ⟨k + 1, g, c, by omega, by go_num, by rw [HM2.out, HN.out], by rw [HM2.out, HN.out]; exact HO.out, hbe⟩
        case measure => simp [intOf]; omega
      · rw [if_neg he] at HM
        have HM2 : Hid (type_of% HM) := HM
        have hcm := it_other he
        obtain ⟨x, hx⟩ : ∃ x, x = es[k] := ⟨_, rfl⟩
        rw [← hx] at c0 c1 c2 hcm HM2
        clear HM he hx
        obtain ⟨x0, x1, x2⟩ := x
        simp only at c0 c1 c2 hcm
        generalize hL : withoutI (es.take k) s = L at *
        have HL : Hid (type_of% hL) := hL
        clear hL
        have bA : Below wr.heap.size wr (wr.alloc (.cells #[.string x0, .string x1, .string x2] 50)) := (Below.refl _ _).alloc (Nat.le_refl _) _
        have ho2 := itKept ho bA
        have HCE : Hid (∀ j u, (itV [(x0, x1, x2)])[j]? = some u → (wr.alloc (.cells #[.string x0, .string x1, .string x2] 50)).cell? ((⟨wr.heap.size, 0, none⟩ : Addr).add j) = some u) := oneItem (e := (x0, x1, x2)) (itNew 0 rfl) (itNew 1 rfl) (itNew 2 rfl)
        have hbA := hbe.trans (bA.mono hbe.size)
        have hzr := hbe.size
        have hgl : w.heap.size ≤ g := (ho.lt g rfl).1
        clear ho bA
        go_wp2_with (at_builtin; refine wpList_append_own _ rfl _ _ 27 rfl w.heap.size 50 i0 (.agg #[.string ⟨#[]⟩, .string ⟨#[]⟩, .string ⟨#[]⟩]) 3 48 Tryd.underlying27 hi0 hz0 hz1 hz2 rfl (by decide) _ _ _ rfl ho2 ⟨wr.heap.size, 0, none⟩ 1 1 (itV [(x0, x1, x2)]) rfl rfl HCE.out (itV_one _) (by unfold maxLen; omega) (by omega) (by simp; omega) ?_)
        intro v5 w5 o5 g5 n5
        obtain ⟨g6, c6, rfl⟩ := own_someI o5 n5
        have b5 : Below w.heap.size w w5 := hbA.grown g5 (by simp; omega) (fun j hj => by simp [Value.ownBlock] at hj; omega)
        rw [← itV_app] at o5
        have HO : Hid (type_of% o5) := o5
        clear o5 g5 n5 ho2 HCE hbA
        go_wp2_with fail
        go_roundw
        case rel => exact ⟨k + 1, g6, c6, by omega, by go_num, by rw [HM2.out, List.length_append]; rfl, by rw [HM2.out, List.length_append]; exact HO.out, b5⟩
        case measure => simp [intOf]; omega
    · obtain rfl : k = es.length := by omega
      rw [List.take_of_length_le (Nat.le_refl _)] at ho ⊢
      have HO : Hid (type_of% ho) := ho
      clear ho HEL
      go_wp2_with fail
      go_ret
      exact ⟨g, c, rfl, HO.out, hbe⟩

end Go.Proofs.YtoebfpdalkpkdaaDoor
