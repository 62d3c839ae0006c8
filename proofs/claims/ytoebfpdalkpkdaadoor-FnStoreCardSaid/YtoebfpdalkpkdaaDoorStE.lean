/-
  The walk of the draw l11Store.
-/
import Derived.Test.YtoebfpdalkpkdaaDoorStD
namespace Go.Proofs.YtoebfpdalkpkdaaDoor
open Go.RowKit

/-- a pick out of a literal of numbers: it is laid, and picked from -/
theorem pickNums (B cb : Nat) (a : Option Addr) (len cap : Nat) (w : World) (zs : List Int) (hC : Cur B w cb a len cap) (h0 : 1 ≤ zs.length) (h1 : zs.length ≤ 256) :
    Calls Tryd.prog 46 #[.pointer (some ⟨cb, 0, none⟩), .slice (some ⟨w.heap.size, 0, none⟩) zs.length zs.length] (w.alloc (.cells (zs.map (Value.int .i64)).toArray 3)) fun e w' => ∃ z : Int, e = .returned (.int .i64 z) ∧ Cur B w' cb a len cap ∧ w.grownBy w' (some cb) := by
  have hlt := hC.lt
  refine (drawPick B cb w.heap.size a len cap _ zs (hC.alloc _) (by omega) h0 h1 (cells_lit w zs _)).mono ?_
  rintro e w' ⟨z, he, _, hC', hg⟩
  exact ⟨z, he, hC', grown_trans (World.grownBy_alloc _ _ _) hg⟩
/-- a pick out of a literal of texts, wherever the order's draw stands -/
theorem pickStrs (B cb : Nat) (a : Option Addr) (len cap : Nat) (w X : World) (ts : List ByteArray) (m : Nat) (hC : Cur B w cb a len cap) (h0 : 1 ≤ ts.length) (h1 : ts.length ≤ 256) (hm : ∀ t ∈ ts, t.size ≤ m) (hX : X = (w.alloc (.cells (strV ts).toArray 9)).drew ∨ X = w.drew.alloc (.cells (strV ts).toArray 9) ∨ X = w.alloc (.cells (strV ts).toArray 9)) :
    Calls Tryd.prog 45 #[.pointer (some ⟨cb, 0, none⟩), .slice (some ⟨w.heap.size, 0, none⟩) ts.length ts.length] X fun e w' => ∃ t : ByteArray, e = .returned (.string t) ∧ t.size ≤ m ∧ Cur B w' cb a len cap ∧ w.grownBy w' (some cb) := by
  have hlt := hC.ltC
  have h : Cur B X cb a len cap ∧ w.grownBy X (some cb) ∧ (∀ j (h : j < ts.length), X.cell? ⟨w.heap.size, j, none⟩ = some (.string ts[j])) := by
    rcases hX with rfl | rfl | rfl
    · exact ⟨(hC.allocC _).drewN 1, grown_drewN (World.grownBy_alloc _ _ _) 1, str_cells w ts _⟩
    · exact ⟨(hC.drewN 1).allocC _, grown_trans (grown_drewN (World.grownBy.refl _ _) 1) (World.grownBy_alloc _ _ _), str_cells w.drew ts _⟩
    · exact ⟨hC.allocC _, World.grownBy_alloc _ _ _, str_cells w ts _⟩
  obtain ⟨h2, h3, h4⟩ := h
  refine (drawPickS B cb w.heap.size a len cap X ts h2 (by omega) h0 h1 h4).mono ?_
  rintro e w' ⟨t, he, ht, hC', hg⟩
  exact ⟨t, he, hm t ht, hC', grown_trans h3 hg⟩

def abcdL : List ByteArray := [⟨#[97]⟩, ⟨#[98]⟩, ⟨#[99]⟩, ⟨#[100]⟩]

set_option maxHeartbeats 800000 in
set_option maxRecDepth 100000 in
theorem drawStore (B cb : Nat) (a : Option Addr) (len cap : Nat) (w : World) (hC : Cur B w cb a len cap) :
    Calls Tryd.prog 44 #[.pointer (some ⟨cb, 0, none⟩)] w (DrStore B cb a len cap w) := by
  obtain ⟨i0, hi0, hz0, hz1, hz2⟩ := info_parts Tryd.infoItem
  have hlt0 := hC.ltC
  have hP := pickNums B cb a len cap _ [0, 2, 3, 100] (hC.allocC (.cells #[.int .i64 0, .slice none 0 0] 29)) (by decide) (by decide)
  simp only [List.map_cons, List.map_nil, List.length_cons, List.length_nil] at hP
  have hz1' : (w.alloc (.cells #[.int .i64 0, .slice none 0 0] 29)).heap.size = w.heap.size + 1 := by simp
  rw [hz1'] at hP
  have HP : Hid (type_of% hP) := hP
  clear hz1'
  have hbx : (w.alloc (.cells #[.int .i64 0, .slice none 0 0] 29)).heap[w.heap.size]? = some (.cells #[.int .i64 0, .slice none 0 0] 29 (0, 0)) := heap_alloc_new w _
  have HBX : Hid (type_of% hbx) := hbx
  clear hP hbx hC
  go_enter Tryd.func44, Tryd.ntmps44
  go_wp2_with fail
  refine HP.out.mono ?_
  rintro e w2 ⟨room, rfl, hC2, hg2⟩
  have hs2 : w.heap.size + 1 ≤ w2.heap.size := by have := hg2.size; simpa using this
  have hD3 : DrSt B cb w.heap.size w2.heap.size a len cap w (w2.alloc (.cells #[.int .i64 room, .slice none 0 0] 29)) room (.slice none 0 0) [] := by
    refine ⟨heap_alloc_new w2 _, ?_, World.ownsRow_nil _ _ _ _, hC2.allocC _, ?_, hlt0, Nat.le_refl _, by omega⟩
    · rw [Below.heap_alloc w2 _ _ (by omega)]
      exact (hg2.block w.heap.size (by simp) (by simp; omega)).trans HBX.out
    · exact grown_trans (grown_trans (World.grownBy_alloc _ _ _) hg2) (World.grownBy_alloc _ _ _)
  have H3 : Hid (type_of% hD3) := hD3
  clear hD3 HP HBX hC2 hg2 hs2
  go_wp2_with fail
  generalize w2.alloc (.cells #[.int .i64 room, .slice none 0 0] 29) = X3 at *
  generalize w2.heap.size = sb at *
  generalize w.heap.size = r at *
  refine (drawBelow B cb a len cap X3 7 H3.out.cur (by omega)).mono ?_
  rintro e w4 ⟨y, rfl, hy0, hy1, _, hC4, hg4⟩
  have hy2 := hy1 (by omega)
  obtain ⟨N, rfl⟩ := Int.eq_ofNat_of_zero_le hy0
  have hN6 : N ≤ 6 := by omega
  have H4 : Hid (type_of% (H3.out.grown hg4 hC4)) := H3.out.grown hg4 hC4
  clear hC4 hg4 hy1 hy0 hy2 H3
  go_wp2_with fail
  go_loopw [5] (fun i wr => ∃ (k : Nat) (rm : Int) (v : Value) (es : List Itm), k ≤ N ∧ i = .int .i64 k ∧ SmallI es k 100 ∧ DrSt B cb r sb a len cap w wr rm v es) (fun i _ => N - (intOf i).toNat)
  case atStart => exact ⟨0, room, _, [], Nat.zero_le _, rfl, ⟨Nat.le_refl _, fun e he => by simp at he⟩, H4.out⟩
  case round =>
    obtain ⟨k, rm, v, es, hk, rfl, hsm, hD⟩ := hrel
    have HD : Hid (type_of% hD) := hD
    have HSM : Hid (type_of% hsm) := hsm
    obtain ⟨⟨c0, c1⟩, f0, f1⟩ := hD.cells
    clear H4 hD hsm
    by_cases hlt : k < N
    · have HPK : Hid (∀ X, (X = (wr.alloc (.cells (strV abcdL).toArray 9)).drew ∨ X = wr.drew.alloc (.cells (strV abcdL).toArray 9) ∨ X = wr.alloc (.cells (strV abcdL).toArray 9)) → Calls Tryd.prog 45 #[.pointer (some ⟨cb, 0, none⟩), .slice (some ⟨wr.heap.size, 0, none⟩) 4 4] X fun e w' => ∃ t : ByteArray, e = .returned (.string t) ∧ t.size ≤ 1 ∧ Cur B w' cb a len cap ∧ wr.grownBy w' (some cb)) := fun X hX => pickStrs B cb a len cap wr X abcdL 1 HD.out.cur (by decide) (by decide) (sizeB _ _ (by decide)) hX
      simp only [strV, abcdL, List.map_cons, List.map_nil] at HPK
      have HBY : Hid (∀ X, Cur B X cb a len cap → Calls Tryd.prog 66 #[.pointer (some ⟨cb, 0, none⟩), .int .i64 1] X fun e w' => ∃ s : ByteArray, e = .returned (.string s) ∧ s.size = 1 ∧ Cur B w' cb a len cap ∧ X.grownBy w' (some cb)) := fun X hX => drawBytes B cb a len cap X 1 hX (by omega)
      have HSP : Hid (∀ (X : World) (t u : ByteArray), wr.grownBy X (some cb) → Cur B X cb a len cap → t.size ≤ 1 → u.size = 1 → (X.cell? ⟨sb, 0, none⟩ = some (.int .i64 rm) ∧ X.cell? ⟨sb, 1, none⟩ = some v) ∧ Calls Tryd.prog 13 #[.agg #[.int .i64 rm, v], .string t, .string u] X fun e w' => ∃ (a' : Option Addr) (c' : Nat) (L : List Itm), e = .returned (.agg #[.int .i64 rm, .slice a' L.length c']) ∧ w'.frozen? ⟨sb, 0, none⟩ = false ∧ w'.frozen? ⟨sb, 1, none⟩ = false ∧ (w'.cell? ⟨sb, 0, none⟩ = some (.int .i64 rm) ∧ w'.cell? ⟨sb, 1, none⟩ = some v) ∧ Hid (SmallI L (k + 1) 100 ∧ DrSt B cb r sb a len cap w ((w'.setCell ⟨sb, 0, none⟩ (.int .i64 rm)).setCell ⟨sb, 1, none⟩ (.slice a' L.length c')) rm (.slice a' L.length c') L)) := fun X t u hg hC ht hu => by
        have hX := HD.out.grown hg hC
        refine ⟨hX.cells.1, ?_⟩
        obtain ⟨av, cv, e⟩ := slice_ownI hX.row
        have hnil : av = none → cv = 0 := fun e0 => by
          rcases hX.row.2 with ⟨e1, h0⟩ | ⟨g, c, cur, e1, _⟩
          · rw [e] at e1
            simp only [Value.slice.injEq] at e1
            exact e1.2.2
          · rw [e, e0] at e1
            cases e1
        obtain ⟨L, hL⟩ := storePuts_some rm es t u
        have hbk := HSM.out.bulk
        have hk6 : k * 100 ≤ 600 := by omega
        have hat := itRow hX.row
        rw [e] at hat ⊢
        have hky := keyB_size t
        refine (specStorePut rm av cv es t u L X hnil hat (by omega) (by omega) hL).mono ?_
        rintro e' w' ⟨a', c', he, ho, hb⟩
        have h2 := hX.below hb
        rw [e] at h2
        refine ⟨a', c', L, he, h2.cells.2.1, h2.cells.2.2, h2.cells.1, put_small hL HSM.out ?_, hX.put hb ho⟩
        show (keyB t).size + t.size + u.size ≤ 100
        omega
      have HQB : Hid (∀ Y, Below wr.heap.size wr Y → Y.cell? ⟨sb, 0, none⟩ = some (.int .i64 rm) ∧ Y.cell? ⟨sb, 1, none⟩ = some v) := fun Y hY => (HD.out.below hY).cells.1
      clear HD HSM
      go_wp2_with fail
      have hQ0 : wr.drew.cell? ⟨sb, 0, none⟩ = some (.int .i64 rm) ∧ wr.drew.cell? ⟨sb, 1, none⟩ = some v := ⟨c0, c1⟩
      refine wp_region_noPanic ?_
      refine wp_region_till (fun w' => w'.cell? ⟨sb, 0, none⟩ = some (.int .i64 rm) ∧ w'.cell? ⟨sb, 1, none⟩ = some v) 7 (by kernel_rfl) ?_
      refine wpTill.take (i := 0) (v := ?_) rfl rfl (by kernel_rfl) (by kernel_rfl) (by kernel_rfl) (by kernel_rfl) (fun _ _ _ h => h) (Or.inl ⟨by rfl, ?_⟩) hQ0 ?_
      rotate_left
      · intro w9 hs9
        obtain ⟨s0, s1⟩ := hs9
        go_simp
        try rfl
      refine wpTill.take (i := 1) (v := ?_) rfl rfl (by kernel_rfl) (by kernel_rfl) (by kernel_rfl) (by kernel_rfl) (fun _ _ _ h => h) (Or.inl ⟨by rfl, ?_⟩) hQ0 ?_
      rotate_left
      · intro w9 hs9
        obtain ⟨s0, s1⟩ := hs9
        go_simp
        try rfl
      refine wpTill.take (i := 4) (v := ?_) rfl rfl (by kernel_rfl) (by kernel_rfl) (by kernel_rfl) (by kernel_rfl) (fun _ _ _ h => h) (Or.inl ⟨by rfl, ?_⟩) hQ0 ?_
      rotate_left
      · intro w9 hs9
        obtain ⟨s0, s1⟩ := hs9
        go_simp
        try rfl
      refine wpTill.ready (rs := [2]) (by kernel_rfl) (by simp) ?_
      intro i9 hi9
      simp only [List.mem_cons, List.not_mem_nil, or_false] at hi9
      subst hi9
      refine wpOp_of rfl (step_openI (by rfl) ?_)
      go_simp
      refine ⟨HQB.out _ ((Below.refl _ _).alloc (Nat.le_refl _) _), ?_⟩
      refine wpTill.ready (rs := [3]) (by kernel_rfl) (by simp) ?_
      intro i9 hi9
      simp only [List.mem_cons, List.not_mem_nil, or_false] at hi9
      subst hi9
      refine wpOp_of rfl (step_openI (by rfl) ?_)
      go_simp
      go_at_call 45
      refine (HPK.out _ (by first | exact .inl rfl | exact .inr (.inl rfl) | exact .inr (.inr rfl))).mono ?_
      rintro e w3 ⟨t, rfl, ht, hC3, hg3⟩
      refine ⟨(HSP.out w3 ⟨#[]⟩ ⟨#[0]⟩ hg3 hC3 (by decide) (by decide)).1, ?_⟩
      refine wpTill.ready (rs := [5]) (by kernel_rfl) (by simp) ?_
      intro i9 hi9
      simp only [List.mem_cons, List.not_mem_nil, or_false] at hi9
      subst hi9
      refine wpOp_of rfl (step_openI (by rfl) ?_)
      go_simp
      go_at_call 66
      refine (HBY.out w3 hC3).mono ?_
      rintro e w4 ⟨u, rfl, hu, hC4, hg4⟩
      have hg34 := grown_trans hg3 hg4
      obtain ⟨hQ4, hS4⟩ := HSP.out w4 t u hg34 hC4 ht hu
      refine ⟨hQ4, ?_⟩
      refine wpTill.ready (rs := [6]) (by kernel_rfl) (by simp) ?_
      intro i9 hi9
      simp only [List.mem_cons, List.not_mem_nil, or_false] at hi9
      subst hi9
      refine wpOp_of rfl (step_openI (by rfl) ?_)
      go_simp
      go_at_call 13
      refine hS4.mono ?_
      rintro e w5 ⟨a5, c5, L, rfl, f50, f51, ⟨c50, c51⟩, HF⟩
      refine ⟨⟨c50, c51⟩, ?_⟩
      refine wpTill.ready (rs := [7]) (by kernel_rfl) (by simp) ?_
      intro i9 hi9
      simp only [List.mem_cons, List.not_mem_nil, or_false] at hi9
      subst hi9
      refine wpOp_of rfl (step_openI (by rfl) ?_)
      go_simp
      refine wpTill.done (by kernel_rfl) ?_ _
      refine NoPanic.normal ?_
      clear hQ0 HPK HBY HSP HQB hC3 hg3 hC4 hg4 hg34 hQ4 hS4 c0 c1 f0 f1
      go_wp2_with fail
      go_roundw
      case rel => exact ⟨k + 1, rm, _, L, by omega, by go_num, HF.out.1, HF.out.2⟩
      case measure => simp [intOf]; omega
    · clear c0 c1 f0 f1
      obtain ⟨av, cv, rfl⟩ := slice_ownI HD.out.row
      go_wp2_with fail
      refine (drawBelow B cb a len cap wr 14 HD.out.cur (by omega)).mono ?_
      rintro e w6 ⟨x, rfl, hx0, hx1, _, hC6, hg6⟩
      have hD6 := HD.out.grown hg6 hC6
      have HS8 : Hid (SmallI es 8 200) := ⟨Nat.le_trans HSM.out.1 (by omega), fun e he => Nat.le_trans (HSM.out.2 e he) (by omega)⟩
      have HK : Hid (k ≤ 6) := Nat.le_trans hk hN6
      clear HD hC6 hg6 hx1 hk hlt
      by_cases x0 : x = 0
      · subst x0
        have hP := pickNums B cb a len cap w6 [-1, 101, 1] hD6.cur (by decide) (by decide)
        simp only [List.map_cons, List.map_nil, List.length_cons, List.length_nil] at hP
        have HP : Hid (type_of% hP) := hP
        have HD6 : Hid (type_of% hD6) := hD6
        clear hP hD6
        go_wp2_with fail
        refine HP.out.mono ?_
        rintro e w7 ⟨z, rfl, hC7, hg7⟩
        have hD7 := HD6.out.grown hg7 hC7
        obtain ⟨⟨c0, c1⟩, f0, f1⟩ := hD7.cells
        have hD8 := hD7.room z
        obtain ⟨⟨b0, b1⟩, _, _⟩ := hD8.cells
        obtain ⟨d0, d1, e0, e1, HF⟩ := hD8.fin HS8.out
        clear HP HD6 hC7 hg7 hD7 hD8 HS8
        go_wp2_with fail
        obtain ⟨q, hq⟩ := HF.out
        exact ret_l11Store (b := r) rfl q hq
      · have g0 : (x == 0) = false := by simp [x0]
        by_cases x1 : x = 1
        · subst x1
          obtain ⟨⟨c0, c1⟩, f0, f1⟩ := hD6.cells
          have hQ0 : w6.drew.cell? ⟨sb, 0, none⟩ = some (.int .i64 rm) ∧ w6.drew.cell? ⟨sb, 1, none⟩ = some (.slice av es.length cv) := ⟨c0, c1⟩
          have hky := keyB_size ⟨#[97]⟩
          have HKY : Hid (∀ Y, Calls Tryd.prog 27 #[.string ⟨#[97]⟩] Y fun e w' => e = .returned (.string (keyB ⟨#[97]⟩)) ∧ Y = w') := fun Y => specKey ⟨#[97]⟩ Y (by decide)
          generalize keyB ⟨#[97]⟩ = ky at *
          have bA : Below w6.heap.size w6 (w6.drew.alloc (.cells #[.string ky, .string ⟨#[97]⟩, .string ⟨#[]⟩] 50)) := (Below.refl _ _).drew.alloc (Nat.le_refl _) _
          have hDA := hD6.below bA
          have HQA : Hid (type_of% hDA.cells.1) := hDA.cells.1
          have HDA : Hid (type_of% hDA) := hDA
          have hro := hDA.row
          have hsb6 := hD6.lt3
          have hlen := HS8.out.1
          have HCE : Hid (∀ j u, (itV [(ky, (⟨#[97]⟩ : ByteArray), (⟨#[]⟩ : ByteArray))])[j]? = some u → (w6.drew.alloc (.cells #[.string ky, .string ⟨#[97]⟩, .string ⟨#[]⟩] 50)).cell? ((⟨w6.heap.size, 0, none⟩ : Addr).add j) = some u) := oneItem (e := (ky, (⟨#[97]⟩ : ByteArray), (⟨#[]⟩ : ByteArray))) (itNew 0 rfl) (itNew 1 rfl) (itNew 2 rfl)
          have HD6 : Hid (type_of% hD6) := hD6
          clear hDA hD6
          go_wp2_with fail
          refine wp_region_noPanic ?_
          refine wp_region_till (fun w' => w'.cell? ⟨sb, 0, none⟩ = some (.int .i64 rm) ∧ w'.cell? ⟨sb, 1, none⟩ = some (.slice av es.length cv)) 7 (by kernel_rfl) ?_
          refine wpTill.take (i := 0) (v := ?_) rfl rfl (by kernel_rfl) (by kernel_rfl) (by kernel_rfl) (by kernel_rfl) (fun _ _ _ h => h) (Or.inl ⟨by rfl, ?_⟩) hQ0 ?_
          rotate_left
          · intro w9 hs9
            obtain ⟨s0, s1⟩ := hs9
            go_simp
            try rfl
          refine wpTill.take (i := 1) (v := ?_) rfl rfl (by kernel_rfl) (by kernel_rfl) (by kernel_rfl) (by kernel_rfl) (fun _ _ _ h => h) (Or.inl ⟨by rfl, ?_⟩) hQ0 ?_
          rotate_left
          · intro w9 hs9
            obtain ⟨s0, s1⟩ := hs9
            go_simp
            try rfl
          refine wpTill.ready (rs := [2]) (by kernel_rfl) (by simp) ?_
          intro i9 hi9
          simp only [List.mem_cons, List.not_mem_nil, or_false] at hi9
          subst hi9
          refine wpOp_of rfl (step_openI (by rfl) ?_)
          go_simp
          go_at_call 27
          refine (HKY.out _).mono ?_
          rintro e w7 ⟨rfl, rfl⟩
          refine ⟨hQ0, ?_⟩
          refine wpTill.ready (rs := [3]) (by kernel_rfl) (by simp) ?_
          intro i9 hi9
          simp only [List.mem_cons, List.not_mem_nil, or_false] at hi9
          subst hi9
          refine wpOp_of rfl (step_openI (by rfl) ?_)
          go_simp
          first | refine ⟨(show _ ∧ _ from hQ0), ?_⟩ | skip
          refine wpTill.ready (rs := [4]) (by kernel_rfl) (by simp) ?_
          intro i9 hi9
          simp only [List.mem_cons, List.not_mem_nil, or_false] at hi9
          subst hi9
          refine wpOp_of rfl (step_openI (by rfl) ?_)
          go_simp
          first | refine ⟨(show _ ∧ _ from HQA.out), ?_⟩ | skip
          refine wpTill.ready (rs := [5]) (by kernel_rfl) (by simp) ?_
          intro i9 hi9
          simp only [List.mem_cons, List.not_mem_nil, or_false] at hi9
          subst hi9
          refine wpOp_of rfl (step_append_ownI (by rfl) (.tmp 35) (.tmp 38) 27 rfl (sb + 1) 50 i0 (.agg #[.string ⟨#[]⟩, .string ⟨#[]⟩, .string ⟨#[]⟩]) 3 48 Tryd.underlying27 hi0 hz0 hz1 hz2 rfl (by decide) (.slice av es.length cv) es.length (itV es) (by rfl) hro ⟨w6.heap.size, 0, none⟩ 1 1 (itV [(ky, (⟨#[97]⟩ : ByteArray), (⟨#[]⟩ : ByteArray))]) (by rfl) rfl HCE.out (itV_one _) (by unfold maxLen; omega) (by omega) (by simp; omega) ?_)
          intro v7 w7 o7 g7 n7
          rw [← itV_app] at o7
          obtain ⟨L, hL⟩ : ∃ L, L = es ++ [(ky, (⟨#[97]⟩ : ByteArray), (⟨#[]⟩ : ByteArray))] := ⟨_, rfl⟩
          have hl7 : es.length + 1 = L.length := by rw [hL]; simp
          rw [← hL, hl7] at o7
          have HL : Hid (es.length + 1 = L.length ∧ L = es ++ [(ky, (⟨#[97]⟩ : ByteArray), (⟨#[]⟩ : ByteArray))]) := ⟨hl7, hL⟩
          clear hl7 hL
          obtain ⟨a7, c7, rfl⟩ := slice_ownI o7
          obtain ⟨hD7, ⟨x70, x71⟩, xf⟩ := HD6.out.app bA g7 o7
          refine ⟨fun _ => ⟨x70, x71⟩, ?_⟩
          go_simp
          refine wpTill.ready (rs := [6]) (by kernel_rfl) (by simp) ?_
          intro i9 hi9
          simp only [List.mem_cons, List.not_mem_nil, or_false] at hi9
          subst hi9
          refine wpOp_of rfl (step_openI (by rfl) ?_)
          go_simp
          first | refine ⟨(show _ ∧ _ from ⟨x70, x71⟩), ?_⟩ | skip
          refine wpTill.ready (rs := [7]) (by kernel_rfl) (by simp) ?_
          intro i9 hi9
          simp only [List.mem_cons, List.not_mem_nil, or_false] at hi9
          subst hi9
          refine wpOp_of rfl (step_openI (by rfl) ?_)
          go_simp
          refine wpTill.done (by kernel_rfl) ?_ _
          refine NoPanic.normal ?_
          obtain ⟨⟨b0, b1⟩, _, _⟩ := hD7.cells
          have hS7 : SmallI L 8 200 := ⟨by have := HL.out.1; have := HSM.out.1; have := HK.out; omega, fun e he => by
            rw [HL.out.2] at he
            rcases List.mem_append.1 he with h | h
            · exact HS8.out.2 e h
            · simp only [List.mem_singleton] at h
              subst h
              show ky.size + 1 + 0 ≤ 200
              omega⟩
          obtain ⟨d0, d1, e0, e1, HF⟩ := hD7.fin hS7
          clear hS7 hD7 HD6 HDA HQA HCE HKY hQ0 hro bA o7 g7 n7 HS8 HSM x70 x71 xf c0 c1 f0 f1 HL
          go_wp2_with fail
          obtain ⟨q, hq⟩ := HF.out
          exact ret_l11Store (b := r) rfl q hq
        · have g1 : (x == 1) = false := by simp [x1]
          by_cases x2 : x = 2
          · subst x2
            obtain ⟨⟨c0, c1⟩, f0, f1⟩ := hD6.cells
            by_cases h0 : 0 < es.length
            · obtain ⟨x, es', rfl⟩ : ∃ x es', es = x :: es' := by
                cases es with
                | nil => simp at h0
                | cons x r => exact ⟨x, r, rfl⟩
              obtain ⟨y0, y1, y2⟩ := x
              obtain ⟨g, hg⟩ : ∃ g, av = some ⟨g, 0, none⟩ := by
                rcases hD6.row.2 with ⟨e, h⟩ | ⟨g, c, cur, e, _⟩
                · simp at h
                · simp only [Value.slice.injEq] at e
                  exact ⟨g, e.1⟩
              subst hg
              obtain ⟨⟨k0, kf⟩, hDk⟩ := DrSt.key (u := ⟨#[120]⟩) hD6
              have hS7 : SmallI ((⟨#[120]⟩, y1, y2) :: es') 8 200 := ⟨HS8.out.1, fun e he => by
                rcases List.mem_cons.1 he with h | h
                · subst h
                  have h3 : y0.size + y1.size + y2.size ≤ 100 := HSM.out.2 (y0, y1, y2) (List.mem_cons_self ..)
                  show 1 + y1.size + y2.size ≤ 200
                  omega
                · exact HS8.out.2 e (List.mem_cons_of_mem _ h)⟩
              obtain ⟨⟨b0, b1⟩, _, _⟩ := hDk.cells
              obtain ⟨d0, d1, e0, e1, HF⟩ := hDk.fin hS7
              have hpos : (0 : Int) < ((es'.length + 1 : Nat) : Int) := by omega
              simp only [List.length_cons] at c1 b1 ⊢
              clear hS7 hDk hD6 HS8 HSM
              go_wp2_with fail
              obtain ⟨q, hq⟩ := HF.out
              exact ret_l11Store (b := r) rfl q hq
            · obtain ⟨d0, d1, e0, e1, HF⟩ := hD6.fin HS8.out
              have hn : ¬ (0 : Int) < (es.length : Int) := by omega
              clear hD6 HS8 HSM h0
              go_wp2_with fail
              obtain ⟨q, hq⟩ := HF.out
              exact ret_l11Store (b := r) rfl q hq
          · have g2 : (x == 2) = false := by simp [x2]
            obtain ⟨⟨c0, c1⟩, f0, f1⟩ := hD6.cells
            obtain ⟨d0, d1, e0, e1, HF⟩ := hD6.fin HS8.out
            clear hD6 HS8 HSM
            go_wp2_with fail
            obtain ⟨q, hq⟩ := HF.out
            exact ret_l11Store (b := r) rfl q hq

end Go.Proofs.YtoebfpdalkpkdaaDoor
