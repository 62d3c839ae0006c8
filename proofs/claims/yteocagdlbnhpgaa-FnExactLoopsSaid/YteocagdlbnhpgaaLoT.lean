/-
  The walks of impl.Loops and of spec.Loops.
-/
import Derived.Test.YteocagdlbnhpgaaLoW
import Derived.Test.YteocagdlbnhpgaaLkS
import Derived.Test.YteocagdlbnhpgaaHasQ
import Derived.Deep.RegionHeld3
import Derived.Deep.RegionLaw
namespace Go.Proofs.Yteocagdlbnhpgaa
open Go.RowKit

/-- a name's type -/
def nameTy (s : ByteArray) : Ty := .mk 4 s [] []

set_option maxHeartbeats 1600000 in
set_option maxRecDepth 100000 in
theorem implLoops (n lo hi : Nat) (vE : Value) (es : List (ByteArray × Ty)) (s : ByteArray) (w : World) (hE : EnvIn w n lo hi vE es) (hhi : hi ≤ w.heap.size) (hbk : envBulk n es ≤ 1048576) :
    Calls Try.prog 8 #[vE, .string s] w fun e w' => ∃ b : Bool, e = .returned (.bool b) ∧ (b = true ↔ ¬ Good es (nameTy s)) ∧ Below w.heap.size w w' := by
  have hlen : es.length ≤ 1048576 := by unfold envBulk at hbk; omega
  have HNB : Hid (type_of% (implNewBook n vE es w hE.at hlen)) := implNewBook n vE es w hE.at hlen
  have HLV : Hid (∀ (M : Nat) (D : List (ByteArray × Value)) (pm : Option Addr) (wx : World), Below w.heap.size w wx → SMap wx M D → BookD es es.length D → Calls Try.prog 24 #[.agg #[vE, .map (some M), .pointer pm], .agg #[.int .i64 4, .string s, .slice none 0 0, .slice none 0 0]] wx fun e w' => ∃ (vl : Value) (ok : Bool), e = .returned (.tuple #[vl, .bool ok]) ∧ Below wx.heap.size wx w' ∧ LeavesAns es w wx w' (nameTy s) vl ok) := fun M D pm wx hx hS hD =>
    implLeaves n lo hi vE es M pm D ⟨0, 0, 0, [.int .i64 4, .string s, .slice none 0 0, .slice none 0 0], nameTy s⟩ w wx hE hhi hx hS hD (.inr ⟨rfl, none, 0, 0, none, 0, 0, rfl⟩) (by show 2 + _ ≤ _; omega)
  obtain ⟨bE, capE, hvE⟩ : ∃ b cap, vE = .slice (some ⟨b, 0, none⟩) es.length cap := by
    obtain ⟨b, cap, e, _⟩ := hE
    exact ⟨b, cap, e⟩
  subst hvE
  clear hE hbk
  go_enter Try.func8, Try.ntmps8
  go_wp2_with fail
  refine HNB.out.mono ?_
  rintro e w2 ⟨M, D, pm, rfl, hS, hD, _, hb2⟩
  have HC : Hid (type_of% (HLV.out M D pm w2 hb2 hS hD)) := HLV.out M D pm w2 hb2 hS hD
  clear HNB HLV hS hD
  go_wp2_with fail
  refine HC.out.mono ?_
  rintro e w3 ⟨vl, ok, rfl, hb3, hans⟩
  have HA : Hid ((!ok) = true ↔ ¬ Good es (nameTy s)) := by
    rcases hans with ⟨rfl, h⟩ | ⟨rfl, Ls, _, _, _, h⟩
    · exact ⟨fun _ => h, fun _ => rfl⟩
    · exact ⟨fun q => (by cases q), fun q => absurd h.good q⟩
  have HB : Hid (type_of% (hb2.trans (hb3.mono hb2.size))) := hb2.trans (hb3.mono hb2.size)
  clear HC hans hb2 hb3
  cases ok with
  | true =>
    go_wp2_with fail
    go_ret
    exact ⟨_, rfl, HA.out, HB.out⟩
  | false =>
    go_wp2_with fail
    go_ret
    exact ⟨_, rfl, HA.out, HB.out⟩

theorem kid_good {es : List (ByteArray × Ty)} {t u : Ty} (h : Kid es t u) (hg : Good es t) : Good es u := by
  obtain ⟨k, hk⟩ := hg
  obtain ⟨k', _, h2⟩ := sub_kid h k hk
  exact ⟨k', h2⟩
theorem good_kids {es : List (ByteArray × Ty)} {t : Ty} (hl : ¬ Leafy t) (h4 : t.kind = 4 → firstTy es t.name ≠ none) (h : ∀ u, Kid es t u → Good es u) : Good es t :=
  (done_kids (S := fun _ => True) hl h4 fun u hu => by
    obtain ⟨k, hk⟩ := h u hu
    obtain ⟨L, hL⟩ := Option.ne_none_iff_exists'.1 hk
    exact ⟨k, L, hL, fun _ _ => trivial⟩).good
theorem good_leaf {es : List (ByteArray × Ty)} {t : Ty} (hl : Leafy t) : Good es t := ⟨1, by rw [lv_leaf hl 0]; simp⟩
theorem look_first {es : List (ByteArray × Ty)} {s : ByteArray} {T : Ty} {ok : Bool} (h : LookAns es s T ok) : (ok = true → firstTy es s = some T) ∧ (ok = false → firstTy es s = none) := by
  rcases h with ⟨rfl, j, hj, e1, e2, rfl⟩ | ⟨rfl, _, hn⟩
  · exact ⟨fun _ => firstTy_at ⟨hj, e1, e2⟩, fun q => (by cases q)⟩
  · exact ⟨fun q => (by cases q), fun _ => firstTy_none hn⟩

/-- what the specification's walk answers at types no deeper than d, where so many names were gone through -/
def LoopsAt (n : Nat) (vE : Value) (es : List (ByteArray × Ty)) (f d : Nat) : Prop := ∀ (cs : List Value) (t : Ty) (vs : Value) (seen : List ByteArray) (w : World), EnvAt w (n + 1) vE es → TyAt w d cs t → Texts w vs seen → (∃ ad cps, vs = .slice (some ad) seen.length cps) → seen.Nodup → (∀ s ∈ seen, s ∈ es.map (·.1)) → es.length ≤ seen.length + f →
  Calls Try.prog 21 #[vE, .agg cs.toArray, vs] w fun e w' => ∃ b : Bool, e = .returned (.bool b) ∧ (b = false → Good es t) ∧ (b = true → (∀ s ∈ seen, Sub es (nameTy s) t) → ¬ Good es t) ∧ Below w.heap.size w w'

theorem seen_few {es : List (ByteArray × Ty)} {seen : List ByteArray} (h : seen.Nodup) (hs : ∀ s ∈ seen, s ∈ es.map (·.1)) : seen.length ≤ es.length := by
  have := nodup_len h hs
  rwa [List.length_map] at this
theorem own_texts {X : World} {B n : Nat} {v : Value} {ts : List ByteArray} (h : X.ownsRow B 9 1 v n (strV ts)) (hn : n = ts.length) : Texts X v ts := by
  subst hn
  rcases h.2 with ⟨e, h0⟩ | ⟨g, c, cur, e, _⟩
  · exact .inl ⟨List.length_eq_zero_iff.1 h0, _, _, e⟩
  · rw [e] at h ⊢
    exact Texts.own h

set_option maxHeartbeats 6400000 in
set_option maxRecDepth 100000 in
theorem loopsStep (n : Nat) (vE : Value) (es : List (ByteArray × Ty)) (f d : Nat) (hbk : envBulk (n + 1) es ≤ 1048576) (hf : ∀ f', f' < f → LoopsAt n vE es f' (n + 1)) (hd : LoopsAt n vE es f d) : LoopsAt n vE es f (d + 1) := by
  intro cs t vs seen w hE hT hTx hvs0 hnd hsub hfl
  obtain ⟨i0, hi, hz0, hz1, hz2⟩ := info_parts Try.infoString
  have hlen : es.length ≤ 1048576 := by unfold envBulk at hbk; omega
  have hsl := seen_few hnd hsub
  obtain ⟨av, capv, hvE, hel⟩ := envOpen hE
  obtain ⟨vn, vk, hcs, hkr, _, _, hkl, hrow⟩ := hT
  obtain ⟨ak, lk, ck, hvk⟩ : ∃ a l c, vk = .slice a l c := by
    rcases hrow with ⟨_, a, c, q⟩ | ⟨g, off, c, q, _⟩
    · exact ⟨a, _, c, q⟩
    · exact ⟨_, _, c, q⟩
  subst hcs
  subst hvk
  have hB1 : Below w.heap.size w (w.alloc (.cells #[.int .i64 t.kind, .string t.name, vn, .slice ak lk ck] 37)) := (Below.refl _ _).alloc (Nat.le_refl _) _
  by_cases c4 : t.kind = 4
  · obtain ⟨ad, cps, hvs⟩ := hvs0
    have HLU : Hid (∀ (wx : World), Below w.heap.size w wx → Calls Try.prog 29 #[.slice av es.length capv, .string t.name] wx fun e w' => ∃ (T : Ty) (an : Option Addr) (ln cn : Nat) (ak : Option Addr) (lk ck : Nat) (ok : Bool), e = .returned (.tuple #[.agg #[.int .i64 T.kind, .string T.name, .slice an ln cn, .slice ak lk ck], .bool ok]) ∧ TyAt w' (n + 1) [.int .i64 T.kind, .string T.name, .slice an ln cn, .slice ak lk ck] T ∧ LookAns es t.name T ok ∧ Below wx.heap.size wx w') := fun wx hx => by
      have := specLookup n _ es t.name wx (hE.below hx) hbk
      rw [hvE] at this
      refine this.mono fun e w' hh => ?_
      obtain ⟨l, T, ok, rfl, hla, ⟨hlay, _⟩, hb⟩ := hh
      have hta := hlay.at (look_sized hla (env_sized hE))
      obtain ⟨an, ln, cn, ak, lk, ck, e⟩ := hta.shape
      rw [e] at hta
      exact ⟨T, an, ln, cn, ak, lk, ck, ok, by rw [e], hta, hla, hb⟩
    have HHAS : Hid (∀ wx, Below w.heap.size w wx → Calls Try.prog 41 #[.slice (some ad) seen.length cps, .string t.name] wx fun e w' => e = .returned (.bool (hasQ seen t.name)) ∧ wx = w') := fun wx hx => by
      have := specHasQ vs seen t.name wx (hTx.below hx) (by omega)
      rw [hvs] at this
      exact this
    have C1 : Hid (∀ X : World, Below w.heap.size w X → ∀ j u, (strV seen)[j]? = some u → X.cell? (ad.add j) = some u) := fun X hX j u hu => by
      have hj := (List.getElem?_eq_some_iff.1 hu).1
      rw [strV_length] at hj
      rw [strV_get _ _ hj] at hu
      have hT2 := hTx
      rw [hvs] at hT2
      rcases hT2 with ⟨q, _⟩ | ⟨b, off, c, q, hc⟩
      · rw [q] at hj; simp at hj
      · simp only [Value.slice.injEq, Option.some.injEq, true_and] at q
        rw [q.1, Addr.add_lit, hX.cell (p := ⟨b, off + j, none⟩) (World.block_lt_of_cell? w ⟨b, off + j, none⟩ (hc j hj)), hc j hj]
        exact hu
    have HMISS : Hid (firstTy es t.name = none → ¬ Good es t) := fun h => not_missing c4 h
    have HSEEN : Hid (t.name ∈ seen → (∀ s ∈ seen, Sub es (nameTy s) t) → ¬ Good es t) := fun h hs hg => by
      have e : ∀ k, lvN es k (nameTy t.name) = lvN es k t := fun k => same_lv (t := nameTy t.name) (u := t) (.inl ⟨rfl, c4, rfl⟩) k
      refine not_self (hs _ h) e ?_
      obtain ⟨k, hk⟩ := hg
      exact ⟨k, by rw [e]; exact hk⟩
    have HRC : Hid (∀ (T : Ty) (c : List Value) (v2 : Value) (wx : World) (B : Nat), firstTy es t.name = some T → t.name ∉ seen → Below w.heap.size w wx → TyAt wx (n + 1) c T → wx.ownsRow B 9 1 v2 (0 + seen.length + 1) ([] ++ strV seen ++ [.string t.name]) → Calls Try.prog 21 #[.slice av es.length capv, .agg c.toArray, v2] wx fun e w' => ∃ b : Bool, e = .returned (.bool b) ∧ ((b = false → Good es t) ∧ (b = true → (∀ s ∈ seen, Sub es (nameTy s) t) → ¬ Good es t)) ∧ Below wx.heap.size wx w') := fun T c v2 wx B hft hns hx hta hown => by
      have hsx : strV (seen ++ [t.name]) = [] ++ strV seen ++ [.string t.name] := by simp [strV]
      have hnd2 : (seen ++ [t.name]).Nodup := by
        rw [List.nodup_append]
        refine ⟨hnd, by simp, fun a ha b hb => ?_⟩
        simp only [List.mem_singleton] at hb
        subst hb
        exact fun e => hns (e ▸ ha)
      have hsub2 : ∀ s ∈ seen ++ [t.name], s ∈ es.map (·.1) := fun s hs => by
        rcases List.mem_append.1 hs with hs | hs
        · exact hsub s hs
        · simp only [List.mem_singleton] at hs
          subst hs
          exact List.mem_map.2 ⟨_, firstTy_mem hft, rfl⟩
      have hfew := seen_few hnd2 hsub2
      rw [List.length_append, List.length_singleton] at hfew
      rw [← hsx] at hown
      have htx2 : Texts wx v2 (seen ++ [t.name]) := own_texts hown (by simp)
      have hv2 : ∃ ad cps, v2 = .slice (some ad) (seen ++ [t.name]).length cps := by
        rcases hown.2 with ⟨_, h0⟩ | ⟨g, cp, cur, e, _⟩
        · omega
        · exact ⟨_, cp, by rw [e, List.length_append, List.length_singleton, Nat.zero_add]⟩
      have := hf (f - 1) (by omega) c T v2 (seen ++ [t.name]) wx (hE.below hx) hta htx2 hv2 hnd2 hsub2 (by rw [List.length_append, List.length_singleton]; omega)
      rw [hvE] at this
      refine this.mono fun e w' ⟨b, he, h1, h2, h3⟩ => ⟨b, he, ⟨fun hb => ?_, fun hb hs hg => ?_⟩, h3⟩
      · have hgT := h1 hb
        refine good_kids (fun q => q.1 c4) (fun _ => by rw [hft]; simp) fun u hu => ?_
        rcases hu with ⟨_, hu⟩ | ⟨hu, _⟩
        · rw [hft] at hu
          cases hu
          exact hgT
        · rw [c4] at hu
          exact absurd hu (by decide)
      · have hk : Kid es t T := .inl ⟨c4, hft⟩
        refine h2 hb (fun s hs' => ?_) (kid_good hk hg)
        rcases List.mem_append.1 hs' with hs' | hs'
        · exact (hs s hs').trans (sub_kid hk)
        · simp only [List.mem_singleton] at hs'
          subst hs'
          exact sub_kid (.inl ⟨rfl, hft⟩)
    have hbo : (w.alloc (.cells #[.int .i64 t.kind, .string t.name, vn, .slice ak lk ck] 37)).heap[w.heap.size]? = some (.cells #[.int .i64 t.kind, .string t.name, vn, .slice ak lk ck] 37 (0, 0)) := (MapKept.heap_alloc w _).1
    rw [c4] at hB1 hbo ⊢
    subst hvE
    subst hvs
    have HL1 := HLU.out _ hB1
    have HL2 : Hid (type_of% HL1) := HL1
    clear hE hTx hnd hsub hfl hf hd hel hrow HLU HL1 c4
    generalize t.name = tn at *
    go_enter Try.func21, Try.ntmps21
    go_wp2_with fail
    refine HL2.out.mono ?_
    rintro e w2 ⟨T, an2, ln2, cn2, ak2, lk2, ck2, ok, rfl, hta, hla, hb2⟩
    have hb12 : Below w.heap.size w w2 := hB1.trans (hb2.mono hB1.size)
    have hbo2 := (hb2.block w.heap.size (by simp)).trans hbo
    have hbw3 : Below w.heap.size w (w2.alloc (.cells #[.int .i64 T.kind, .string T.name, .slice an2 ln2 cn2, .slice ak2 lk2 ck2] 37)) := hb12.alloc hb12.size _
    have hlf := look_first hla
    clear HL2 hB1 hbo hb2 hla
    cases ok with
    | false =>
      have HNG : Hid (¬ Good es t) := HMISS.out (hlf.2 rfl)
      clear HMISS HSEEN HRC HHAS C1 hlf hta
      go_wp2_with fail
      go_ret
      exact ⟨true, rfl, fun q => (by cases q), fun _ _ => HNG.out, hbw3⟩
    | true =>
      have hft := hlf.1 rfl
      have hta3 := hta.below ((Below.refl _ _).alloc (Nat.le_refl _) (.cells #[.int .i64 T.kind, .string T.name, .slice an2 ln2 cn2, .slice ak2 lk2 ck2] 37))
      have hbn3 : (w2.alloc (.cells #[.int .i64 T.kind, .string T.name, .slice an2 ln2 cn2, .slice ak2 lk2 ck2] 37)).heap[w2.heap.size]? = some (.cells #[.int .i64 T.kind, .string T.name, .slice an2 ln2 cn2, .slice ak2 lk2 ck2] 37 (0, 0)) := (MapKept.heap_alloc w2 _).1
      have hbo3 := ((MapKept.heap_alloc w2 (.cells #[.int .i64 T.kind, .string T.name, .slice an2 ln2 cn2, .slice ak2 lk2 ck2] 37)).2 w.heap.size (Array.getElem?_eq_some_iff.1 hbo2).1).trans hbo2
      have HH := HHAS.out _ hbw3
      by_cases hmem : tn ∈ seen
      · rw [hasQ_mem.2 hmem] at HH
        have HH2 : Hid (type_of% HH) := HH
        have HNG : Hid (type_of% (HSEEN.out hmem)) := HSEEN.out hmem
        obtain ⟨⟨b0, b1, b2, b3⟩, _⟩ := block4F hbo3
        clear HMISS HSEEN HRC HHAS C1 hlf hta hta3 hmem HH hbo2
        go_wp2_with fail
        refine HH2.out.mono ?_
        rintro e w4 ⟨rfl, rfl⟩
        go_wp2_with fail
        go_ret
        exact ⟨true, rfl, fun q => (by cases q), fun _ => HNG.out, hbw3⟩
      · rw [show hasQ seen tn = false from Bool.eq_false_iff.2 fun q => hmem (hasQ_mem.1 q)] at HH
        have HH2 : Hid (type_of% HH) := HH
        have HR2 : Hid (∀ (v2 : Value) (wx : World) (B : Nat), type_of% (HRC.out T [.int .i64 T.kind, .string T.name, .slice an2 ln2 cn2, .slice ak2 lk2 ck2] v2 wx B hft hmem)) := fun v2 wx B => HRC.out T _ v2 wx B hft hmem
        obtain ⟨⟨b0, b1, b2, b3⟩, _⟩ := block4F hbo3
        obtain ⟨⟨n0, n1, n2, n3⟩, _⟩ := block4F hbn3
        clear HMISS HSEEN HRC HHAS hlf hta hmem HH hbo2 hft
        go_wp2_with fail
        refine HH2.out.mono ?_
        rintro e w4 ⟨rfl, rfl⟩
        go_wp2_with fail
        clear HH2
        generalize hW0 : (w2.alloc (.cells #[.int .i64 T.kind, .string T.name, .slice an2 ln2 cn2, .slice ak2 lk2 ck2] 37)) = W0 at *
        clear hW0
        have hzw : w.heap.size ≤ W0.heap.size := hbw3.size
        have l1 : w.heap.size < W0.heap.size := (Array.getElem?_eq_some_iff.1 hbo3).1
        have l2 : w2.heap.size < W0.heap.size := (Array.getElem?_eq_some_iff.1 hbn3).1
        have HBX : Hid (∀ wx : World, Below W0.heap.size W0 wx → wx.cell? ⟨w.heap.size, 1, none⟩ = some (.string tn) ∧ wx.cell? ⟨w2.heap.size, 0, none⟩ = some (.int .i64 T.kind) ∧ wx.cell? ⟨w2.heap.size, 1, none⟩ = some (.string T.name) ∧ wx.cell? ⟨w2.heap.size, 2, none⟩ = some (.slice an2 ln2 cn2) ∧ wx.cell? ⟨w2.heap.size, 3, none⟩ = some (.slice ak2 lk2 ck2)) := fun wx hx =>
          ⟨(hx.cell (p := ⟨w.heap.size, 1, none⟩) l1).trans b1, (hx.cell (p := ⟨w2.heap.size, 0, none⟩) l2).trans n0, (hx.cell (p := ⟨w2.heap.size, 1, none⟩) l2).trans n1, (hx.cell (p := ⟨w2.heap.size, 2, none⟩) l2).trans n2, (hx.cell (p := ⟨w2.heap.size, 3, none⟩) l2).trans n3⟩
        have HR3 : Hid (∀ (v2 : Value) (wx : World), Below W0.heap.size W0 wx → wx.ownsRow W0.heap.size 9 1 v2 (0 + seen.length + 1) ([] ++ strV seen ++ [.string tn]) → Calls Try.prog 21 #[.slice av es.length capv, .agg #[.int .i64 T.kind, .string T.name, .slice an2 ln2 cn2, .slice ak2 lk2 ck2], v2] wx fun e w' => ∃ b : Bool, e = .returned (.bool b) ∧ ((b = false → Good es t) ∧ (b = true → (∀ s ∈ seen, Sub es (nameTy s) t) → ¬ Good es t)) ∧ Below wx.heap.size wx w') := fun v2 wx hx hown => HR2.out v2 wx _ (hbw3.trans (hx.mono hzw)) (hta3.below hx) hown
        have C2 : Hid (∀ X : World, Below W0.heap.size W0 X → ∀ j u, (strV seen)[j]? = some u → X.cell? (ad.add j) = some u) := fun X hX => C1.out X (hbw3.trans (hX.mono hzw))
        clear HR2 C1 hta3 hbn3 hbo3
        generalize T.kind = Tk at *
        generalize T.name = Tn at *
        clear b0 b1 b2 b3 n0 n1 n2 n3
        go_region_held3 (fun w' => w'.cell? ⟨w.heap.size, 1, none⟩ = some (.string tn) ∧ w'.cell? ⟨w2.heap.size, 0, none⟩ = some (.int .i64 Tk) ∧ w'.cell? ⟨w2.heap.size, 1, none⟩ = some (.string Tn) ∧ w'.cell? ⟨w2.heap.size, 2, none⟩ = some (.slice an2 ln2 cn2) ∧ w'.cell? ⟨w2.heap.size, 3, none⟩ = some (.slice ak2 lk2 ck2))
          (first
            | exact HBX.out _ (by assumption)
            | exact HBX.out _ (Below.refl _ _)
            | exact HBX.out _ ((Below.refl _ _).drew)
            | exact HBX.out _ ((Below.refl _ _).alloc (Nat.le_refl _) _)
            | exact HBX.out _ ((Below.refl _ _).alloc (Nat.le_refl _) _).drew
            | exact HBX.out _ (((Below.refl _ _).alloc (Nat.le_refl _) _).alloc (by simp) _)
            | exact HBX.out _ (((Below.refl _ _).alloc (Nat.le_refl _) _).alloc (by simp) _).drew
            | (revert hb1; intro hb1; exact HBX.out _ (hb1.alloc hb1.size _)))
          (first
            | (refine step_append_own rfl (.tmp 31) (.tmp 32) 29 rfl W0.heap.size 9 i0 (.string ⟨#[]⟩) 1 16 Try.underlying29 hi hz0 hz1 hz2 rfl (by decide) (.slice (some ⟨W0.heap.size, 0, none⟩) 0 0) 0 [] rfl (by first | exact own_empty (MapKept.heap_alloc W0 _).1 (Nat.le_refl _) | exact own_empty (heap_first W0 _ _) (Nat.le_refl _)) ad seen.length cps (strV seen) rfl (by rw [strV_length, Nat.mul_one]) (by first | exact C2.out _ ((Below.refl _ _).alloc (Nat.le_refl _) _).drew | exact C2.out _ (((Below.refl _ _).alloc (Nat.le_refl _) _).alloc (by simp) _).drew) (strV_one _) (by unfold maxLen; omega) (by omega) (by simp <;> omega) ?_; intro v1 w1 o1 g1 n1; have hb1 : Below W0.heap.size W0 w1 := (by first | exact (((Below.refl _ W0).alloc (Nat.le_refl _) _).drew).grown g1 (by simp) (fun j hj => by simp [Value.ownBlock] at hj; omega) | exact ((((Below.refl _ W0).alloc (Nat.le_refl _) _).alloc (by simp) _).drew).grown g1 (by simp; omega) (fun j hj => by simp [Value.ownBlock] at hj; omega)))
            | (refine step_append_own rfl (.tmp 31) (.tmp 32) 29 rfl W0.heap.size 9 i0 (.string ⟨#[]⟩) 1 16 Try.underlying29 hi hz0 hz1 hz2 rfl (by decide) (.slice (some ⟨W0.heap.size + 1, 0, none⟩) 0 0) 0 [] rfl (by exact own_empty (heap_second W0 _ _) (by omega)) ad seen.length cps (strV seen) rfl (by rw [strV_length, Nat.mul_one]) (by first | exact C2.out _ ((Below.refl _ _).alloc (Nat.le_refl _) _).drew | exact C2.out _ (((Below.refl _ _).alloc (Nat.le_refl _) _).alloc (by simp) _).drew) (strV_one _) (by unfold maxLen; omega) (by omega) (by simp <;> omega) ?_; intro v1 w1 o1 g1 n1; have hb1 : Below W0.heap.size W0 w1 := (by first | exact (((Below.refl _ W0).alloc (Nat.le_refl _) _).drew).grown g1 (by simp) (fun j hj => by simp [Value.ownBlock] at hj; omega) | exact ((((Below.refl _ W0).alloc (Nat.le_refl _) _).alloc (by simp) _).drew).grown g1 (by simp; omega) (fun j hj => by simp [Value.ownBlock] at hj; omega)))
            | (revert hb1; intro hb1; refine step_append_own rfl (.tmp 33) (.tmp 36) 29 rfl W0.heap.size 9 i0 (.string ⟨#[]⟩) 1 16 Try.underlying29 hi hz0 hz1 hz2 rfl (by decide) v1 (0 + seen.length) ([] ++ strV seen) rfl (by first | exact o1 | exact o1.alloc _) _ 1 1 [.string tn] rfl rfl (one_cell (by first | exact cellNew 0 rfl | exact g1.cell ((cellOld 0 (by simp)).trans (cellNew 0 rfl)) (by simp [Value.ownBlock]) | exact g1.cell (cellNew 0 (by simp)) (by simp [Value.ownBlock]))) (fun u hu => by simp at hu; subst hu; rfl) (by unfold maxLen; omega) (by omega) (by first | exact hb1.size | (have := hb1.size; simp; omega)) ?_; intro v2 w5 o2 g2 n2; have hb5 : Below W0.heap.size W0 w5 := (by first | exact hb1.grown g2 hb1.size (fun j hj => (o1.lt j hj).1) | exact (hb1.alloc hb1.size _).grown g2 (by have := hb1.size; simp; omega) (fun j hj => (o1.lt j hj).1)))
            | (revert hb5; intro hb5; go_at_call 21; refine (HR3.out v2 w5 hb5 o2).mono ?_; rintro e w6 ⟨bb, rfl, hbb, hb6⟩; have hb56 : Below W0.heap.size W0 w6 := hb5.trans (hb6.mono hb5.size)))
        all_goals
          have HBB : Hid (type_of% hbb) := hbb
          have HEN : Hid (type_of% (hbw3.trans (hb56.mono hzw))) := hbw3.trans (hb56.mono hzw)
          clear hbb hb56 hb6 hb5 hb1 o1 o2 g1 g2 n1 n2 HR3 C2 HBX
          go_wp2_with fail
          go_ret
          exact ⟨bb, rfl, HBB.out.1, HBB.out.2, HEN.out⟩
  · by_cases c7 : t.kind = 7
    · obtain ⟨ak', ck', ek', hel2⟩ := rowOpen hrow
      simp only [Value.slice.injEq] at ek'
      obtain ⟨rfl, rfl, rfl⟩ := ek'
      have HEL : Hid (type_of% hel2) := hel2
      have HREC : Hid (∀ k (hk : k < t.kids.length) (cs : List Value) (wx : World), Below w.heap.size w wx → TyAt wx d cs t.kids[k] → Calls Try.prog 21 #[.slice av es.length capv, .agg cs.toArray, vs] wx fun e w' => ∃ b : Bool, e = .returned (.bool b) ∧ (b = false → Good es t.kids[k]) ∧ (b = true → (∀ s ∈ seen, Sub es (nameTy s) t.kids[k]) → ¬ Good es t.kids[k]) ∧ Below wx.heap.size wx w') := fun k hk cs wx hx ht => by
        have := hd cs t.kids[k] vs seen wx (hE.below hx) ht (hTx.below hx) hvs0 hnd hsub hfl
        rw [hvE] at this
        exact this
      have HSUB : Hid (∀ k (hk : k < t.kids.length), Kid es t t.kids[k]) := fun k hk => .inr ⟨c7, List.getElem_mem hk⟩
      have HALL : Hid ((∀ j (h : j < t.kids.length), Good es t.kids[j]) → Good es t) := fun h => by
        by_cases c0 : t.kids = []
        · exact good_leaf ⟨c4, .inr c0⟩
        · refine good_kids (fun q => q.2.elim (fun x => x c7) c0) (fun q => absurd q c4) fun u hu => ?_
          rcases hu with ⟨q, _⟩ | ⟨_, hu⟩
          · exact absurd q c4
          · obtain ⟨j, hj, rfl⟩ := List.getElem_of_mem hu
            exact h j hj
      have hbo : (w.alloc (.cells #[.int .i64 t.kind, .string t.name, vn, .slice ak t.kids.length ck] 37)).heap[w.heap.size]? = some (.cells #[.int .i64 t.kind, .string t.name, vn, .slice ak t.kids.length ck] 37 (0, 0)) := (MapKept.heap_alloc w _).1
      unfold maxLen at hkl
      rw [c7] at hB1 hbo ⊢
      subst hvE
      clear hE hnd hsub hfl hf hd hel hrow hel2 c4 hTx
      obtain ⟨ad, cps, hvs⟩ := hvs0
      subst hvs
      generalize t.name = tn at *
      go_enter Try.func21, Try.ntmps21
      go_wp2_with fail
      go_loopw [9] (fun i wr => ∃ k : Nat, k ≤ t.kids.length ∧ i = .int .i64 k ∧ (∀ j (h : j < t.kids.length), j < k → Good es t.kids[j]) ∧ wr.heap[w.heap.size]? = some (.cells #[.int .i64 7, .string tn, vn, .slice ak t.kids.length ck] 37 (0, 0)) ∧ Below w.heap.size w wr) (fun i _ => t.kids.length - (intOf i).toNat)
      case atStart => exact ⟨0, Nat.zero_le _, rfl, fun j _ h => absurd h (by omega), hbo, hB1⟩
      case round =>
        obtain ⟨k, hk, rfl, hall, hbx, hbe⟩ := hrel
        have HAL : Hid (type_of% hall) := hall
        obtain ⟨⟨b0, b1, b2, b3⟩, _⟩ := block4F hbx
        have HBX : Hid (type_of% hbx) := hbx
        clear hall hbo hB1
        by_cases hlt : k < t.kids.length
        · obtain ⟨b, off, x0, x1, x2, x3, rfl, hbl, hta, z0, z1, z2, z3⟩ := HEL.out k hlt
          obtain ⟨an2, ln2, cn2, ak2, lk2, ck2, ee⟩ := hta.shape
          simp only [List.cons.injEq, and_true] at ee
          obtain ⟨rfl, rfl, rfl, rfl⟩ := ee
          have A0 := (hbe.cell (p := ⟨b, off + k * 4, none⟩) hbl).trans z0
          have A1 := (hbe.cell (p := ⟨b, off + k * 4 + 1, none⟩) hbl).trans z1
          have A2 := (hbe.cell (p := ⟨b, off + k * 4 + 2, none⟩) hbl).trans z2
          have A3 := (hbe.cell (p := ⟨b, off + k * 4 + 3, none⟩) hbl).trans z3
          have hk0 : (0 : Int) ≤ (k : Int) := by omega
          have hk1 : (k : Int) < (t.kids.length : Int) := by omega
          have HC : Hid (type_of% (HREC.out k hlt _ wr hbe (hta.below hbe))) := HREC.out k hlt _ wr hbe (hta.below hbe)
          have HKD := HSUB.out k hlt
          have HKK : Hid (type_of% HKD) := HKD
          have HAN : Hid (Good es t.kids[k] → ∀ j (h : j < t.kids.length), j < k + 1 → Good es t.kids[j]) := fun hg j hj hjk => by
            by_cases c : j = k
            · subst c; exact hg
            · exact HAL.out j hj (by omega)
          clear z0 z1 z2 z3 hta HKD hbx HAL HREC HSUB HALL
          generalize t.kids[k] = u at *
          generalize u.kind = kd at *
          generalize u.name = un at *
          go_wp2_with fail
          refine HC.out.mono ?_
          rintro e w2 ⟨bb, rfl, hg, hng, hb2⟩
          have hbw2 : Below w.heap.size w w2 := hbe.trans (hb2.mono hbe.size)
          have hbx2 := (hb2.block w.heap.size (Array.getElem?_eq_some_iff.1 HBX.out).1).trans HBX.out
          cases bb with
          | true =>
            have HNG : Hid ((∀ s ∈ seen, Sub es (nameTy s) u) → ¬ Good es u) := hng rfl
            clear hg hng HC HBX b0 b1 b2 b3 A0 A1 A2 A3
            go_wp2_with fail
            go_ret
            exact ⟨true, rfl, fun q => (by cases q), fun _ hs hgt => HNG.out (fun s hs' => (hs s hs').trans (sub_kid HKK.out)) (kid_good HKK.out hgt), hbw2⟩
          | false =>
            have HGG : Hid (type_of% (HAN.out (hg rfl))) := HAN.out (hg rfl)
            clear hg hng HC HBX b0 b1 b2 b3 A0 A1 A2 A3 HAN
            go_wp2_with fail
            go_roundw
            case rel => exact ⟨k + 1, by omega, by go_num, HGG.out, hbx2, hbw2⟩
            case measure => simp [intOf]; omega
        · have HG : Hid (Good es t) := HALL.out fun j hj => HAL.out j hj (by omega)
          clear hbx HAL HREC HSUB HALL
          go_wp2_with fail
          go_ret
          exact ⟨false, rfl, fun _ => HG.out, fun q => (by cases q), hbe⟩
    · have HG : Hid (Good es t) := good_leaf ⟨c4, .inl c7⟩
      have h4 : (t.kind == 4) = false := by rw [beq_eq_false_iff_ne]; exact c4
      have h7 : (t.kind == 7) = false := by rw [beq_eq_false_iff_ne]; exact c7
      subst hvE
      clear hE hTx hvs0 hnd hsub hfl hf hd hel hrow
      generalize t.kind = kd at *
      generalize t.name = tn at *
      go_enter Try.func21, Try.ntmps21
      go_wp2_with fail
      go_ret
      exact ⟨false, rfl, fun _ => HG.out, fun q => (by cases q), hB1⟩

theorem loopsAll (n : Nat) (vE : Value) (es : List (ByteArray × Ty)) (hbk : envBulk (n + 1) es ≤ 1048576) : ∀ f d, LoopsAt n vE es f d := by
  intro f
  induction f using Nat.strongRecOn with
  | ind f ih =>
    intro d
    induction d with
    | zero => intro cs t vs seen w _ hT; exact hT.elim
    | succ d ihd => exact loopsStep n vE es f d hbk (fun f' h => ih f' h (n + 1)) ihd

set_option maxHeartbeats 1600000 in
set_option maxRecDepth 100000 in
theorem specLoops (n : Nat) (vE : Value) (es : List (ByteArray × Ty)) (s : ByteArray) (w : World) (hE : EnvAt w (n + 1) vE es) (hs : s.size ≤ maxLen) (hbk : envBulk (n + 1) es ≤ 1048576) :
    Calls Try.prog 6 #[vE, .string s] w fun e w' => ∃ b : Bool, e = .returned (.bool b) ∧ (b = true ↔ ¬ Good es (nameTy s)) ∧ Below w.heap.size w w' := by
  have hB1 : Below w.heap.size w (w.alloc (.cells #[] 9)) := (Below.refl _ _).alloc (Nat.le_refl _) _
  have HC : Hid (type_of% (loopsAll n vE es hbk es.length 1 [.int .i64 4, .string s, .slice none 0 0, .slice none 0 0] (nameTy s) (.slice (some ⟨w.heap.size, 0, none⟩) 0 0) [] _ (hE.below hB1) ⟨.slice none 0 0, .slice none 0 0, rfl, ⟨by show (-9223372036854775808 : Int) ≤ 4; decide, by show (4 : Int) ≤ 9223372036854775807; decide⟩, hs, ⟨.inl ⟨rfl, _, _, rfl⟩, by show (0 : Nat) ≤ _; omega, fun x hx => absurd hx (by simp [nameTy])⟩, by show (0 : Nat) ≤ _; omega, .inl ⟨rfl, _, _, rfl⟩⟩ (.inl ⟨rfl, _, _, rfl⟩) ⟨_, _, rfl⟩ (by simp) (fun s hs => absurd hs (by simp)) (by simp))) := loopsAll n vE es hbk es.length 1 [.int .i64 4, .string s, .slice none 0 0, .slice none 0 0] (nameTy s) (.slice (some ⟨w.heap.size, 0, none⟩) 0 0) [] _ (hE.below hB1) ⟨.slice none 0 0, .slice none 0 0, rfl, ⟨by show (-9223372036854775808 : Int) ≤ 4; decide, by show (4 : Int) ≤ 9223372036854775807; decide⟩, hs, ⟨.inl ⟨rfl, _, _, rfl⟩, by show (0 : Nat) ≤ _; omega, fun x hx => absurd hx (by simp [nameTy])⟩, by show (0 : Nat) ≤ _; omega, .inl ⟨rfl, _, _, rfl⟩⟩ (.inl ⟨rfl, _, _, rfl⟩) ⟨_, _, rfl⟩ (by simp) (fun s hs => absurd hs (by simp)) (by simp)
  obtain ⟨av, capv, hvE, _⟩ := envOpen hE
  subst hvE
  clear hE hbk
  go_enter Try.func6, Try.ntmps6
  go_wp2_with fail
  refine HC.out.mono ?_
  rintro e w2 ⟨b, rfl, h1, h2, hb2⟩
  have HA : Hid (b = true ↔ ¬ Good es (nameTy s)) := by
    cases b with
    | true => exact ⟨fun _ => h2 rfl fun s hs => absurd hs (by simp), fun _ => rfl⟩
    | false => exact ⟨fun q => (by cases q), fun q => absurd (h1 rfl) q⟩
  have HB : Hid (type_of% (hB1.trans (hb2.mono hB1.size))) := hB1.trans (hb2.mono hB1.size)
  clear HC h1 h2 hb2 hB1
  go_wp2_with fail
  go_ret
  exact ⟨b, rfl, HA.out, HB.out⟩

end Go.Proofs.Yteocagdlbnhpgaa
