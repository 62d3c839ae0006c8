/-
 Types one behind the other in a row; the walk of impl.typesOf.
-/
import Derived.Test.YtbojmbeopnlmiaaGreatDoorEnvQ
import Derived.Lib.AppendZerosOnto
import Derived.Laws.AppendOwnNone
import Derived.Lib.Walk
import Derived.Lib.SliceRun
namespace Go.Proofs.YtbojmbeopnlmiaaGreatDoor
open Go.RowKit
def FlatR (A : Nat → Prop) (w : World) (n : Nat) (xs : List Value) (ts : List Ty) : Prop := ∃ ps : List (List Value × Ty), xs = ps.flatMap (·.1) ∧ ts = ps.map (·.2) ∧ ∀ p ∈ ps, TyR A w n p.1 p.2
theorem FlatR.nil (A : Nat → Prop) (w : World) (n : Nat) : FlatR A w n [] [] := ⟨[], rfl, rfl, fun p hp => by cases hp⟩
theorem FlatR.app {A : Nat → Prop} {w : World} {n : Nat} {xs ys : List Value} {ts us : List Ty} (h : FlatR A w n xs ts) (k : FlatR A w n ys us) : FlatR A w n (xs ++ ys) (ts ++ us) := by
 obtain ⟨ps, rfl, rfl, hp⟩ := h
 obtain ⟨qs, rfl, rfl, hq⟩ := k
 exact ⟨ps ++ qs, by simp, by simp, fun p h => by rcases List.mem_append.1 h with h | h; exact hp p h; exact hq p h⟩
theorem FlatR.one {A : Nat → Prop} {w : World} {n : Nat} {cs : List Value} {t : Ty} (h : TyR A w n cs t) : FlatR A w n cs [t] := ⟨[(cs, t)], by simp, by simp, fun p hp => by rw [List.mem_singleton] at hp; rw [hp]; exact h⟩
theorem FlatR.same {A : Nat → Prop} {w w' : World} {n : Nat} {xs : List Value} {ts : List Ty} (h : FlatR A w n xs ts) (hs : SameOn A w w') : FlatR A w' n xs ts := by
 obtain ⟨ps, h1, h2, hp⟩ := h
 exact ⟨ps, h1, h2, fun p h => (hp p h).same hs⟩
theorem FlatR.cell {A : Nat → Prop} {w : World} {n : Nat} {xs : List Value} {ts : List Ty} (h : FlatR A w n xs ts) : ∀ u ∈ xs, u.oneCell' = true := by
 obtain ⟨ps, rfl, _, hp⟩ := h
 intro u hu
 obtain ⟨p, h1, h2⟩ := List.mem_flatMap.1 hu
 obtain ⟨an, ln, cn, ak, lk, ck, e⟩ := (hp p h1).at.shape
 rw [e] at h2
 simp at h2
 rcases h2 with rfl | rfl | rfl | rfl <;> rfl
theorem flat_at (ps : List (List Value × Ty)) (h4 : ∀ p ∈ ps, p.1.length = 4) (j c : Nat) (hj : j < ps.length) (hc : c < 4) : (ps.flatMap (·.1))[j * 4 + c]? = ps[j].1[c]? := by
 induction ps generalizing j with
 | nil => simp at hj
 | cons p r ih =>
  have hl := h4 p (by simp)
  rw [List.flatMap_cons]
  match j, hj with
  | 0, _ =>
   rw [List.getElem?_append_left (by omega)]
   simp
  | j + 1, hj =>
   rw [List.getElem?_append_right (by omega), show (j + 1) * 4 + c - p.1.length = j * 4 + c from by omega, ih (fun q hq => h4 q (by simp [hq])) j (by simpa using hj)]
   rfl
theorem FlatR.row {A : Nat → Prop} {w : World} {n B m : Nat} {v : Value} {xs : List Value} {ts : List Ty} (h : FlatR A w n xs ts) (ho : w.ownsRow B 30 4 v m xs) (hm : m = ts.length) : ∃ g cap, (v = .slice (some ⟨g, 0, none⟩) ts.length cap ∨ (ts = [] ∧ v = .slice none 0 0)) ∧ (B ≤ g ∨ ts = []) ∧ (g < w.heap.size ∨ ts = []) ∧ RowR (fun b => A b ∨ b = g) w (TyR (fun b => A b ∨ b = g) w n) v ts := by
 subst hm
 obtain ⟨ps, rfl, rfl, hp⟩ := h
 rcases ho.2 with ⟨e, h0⟩ | ⟨g, cap, cur, e, hB, hg, _, _, _, _⟩
 ·have hps : ps = [] := by simpa using h0
  subst hps
  exact ⟨0, 0, .inr ⟨rfl, e⟩, .inr rfl, .inr rfl, .inl ⟨rfl, none, 0, e⟩⟩
 ·refine ⟨g, cap, .inl e, .inl hB, .inl (Array.getElem?_eq_some_iff.1 hg).1, .inr ⟨g, 0, cap, e, .inr rfl, ⟨cur, _, hg⟩, fun j hj => ?_⟩⟩
  have hj2 : j < ps.length := by simpa using hj
  have hpj := hp ps[j] (List.getElem_mem hj2)
  refine ⟨ps[j].1, ?_, fun c u hu => ?_⟩
  ·rw [List.getElem_map]
   exact hpj.sub fun b hb => .inl hb
  ·have hl := hpj.at.len
   have hc : c < 4 := by
    have := (List.getElem?_eq_some_iff.1 hu).1
    omega
   subst e
   have h1 := flat_at ps (fun p h => (hp p h).at.len) j c hj2 hc
   rw [Nat.zero_add]
   have hlt : j * 4 + c < (ps.map (·.2)).length * 4 := by simp; omega
   rw [ho.cellAt (j * 4 + c) hlt, h1]
   exact hu
set_option maxHeartbeats 1600000 in
set_option maxRecDepth 100000 in
theorem implTypesOfF (n : Nat) (A : Nat → Prop) (av : Option Addr) (cap : Nat) (es : List (ByteArray × Ty)) (w : World) (hR : EnvR A w n av es) (hA : ∀ b, A b → b < w.heap.size) (hlen : es.length ≤ 1048576) :
  Calls Tryz.prog 54 #[.slice av es.length cap] w fun e w' => ∃ v xs, e = .returned v ∧ w'.ownsRow w.heap.size 30 4 v es.length xs ∧ FlatR A w n xs (es.map (·.2)) ∧ Below w.heap.size w w' := by
 obtain ⟨i0, hi, hz0, hz1, hz2⟩ := info_parts Tryz.infoType
 have HR : Hid (type_of% hR) := hR
 have HA : Hid (type_of% hA) := hA
 clear hR hA
 go_enter Tryz.func54, Tryz.ntmps54
 go_wp2_with fail
 go_loopw [3, 8] (fun o i wr => ∃ (k : Nat) (xs : List Value), k ≤ es.length ∧ i = .int .i64 k ∧ wr.ownsRow w.heap.size 30 4 o k xs ∧ FlatR A w n xs ((es.take k).map (·.2)) ∧ Below w.heap.size w wr) (fun _ i _ => es.length - (intOf i).toNat)
 case atStart => exact ⟨0, [], Nat.zero_le _, rfl, World.ownsRow_nil _ _ _ _, FlatR.nil _ _ _, Below.refl _ _⟩
 case round =>
  obtain ⟨k, xs, hk, rfl, hown, hfl, hbe⟩ := hrel
  by_cases hlt : k < es.length
  ·obtain ⟨b, off, x0, x1, x2, x3, rfl, hab, hns, hty, q0, q1, q2, q3, q4⟩ := HR.out k hlt
   have hbl := HA.out b hab
   have c0 := (hbe.cell (p := ⟨b, off + k * 5, none⟩) hbl).trans q0
   have c1 := (hbe.cell (p := ⟨b, off + k * 5 + 1, none⟩) hbl).trans q1
   have c2 := (hbe.cell (p := ⟨b, off + k * 5 + 2, none⟩) hbl).trans q2
   have c3 := (hbe.cell (p := ⟨b, off + k * 5 + 3, none⟩) hbl).trans q3
   have c4 := (hbe.cell (p := ⟨b, off + k * 5 + 4, none⟩) hbl).trans q4
   have hT : (es.take (k + 1)).map (·.2) = (es.take k).map (·.2) ++ [es[k].2] := by rw [List.take_succ_eq_append_getElem hlt, List.map_append]; rfl
   have HFL : Hid (FlatR A w n (xs ++ [x0, x1, x2, x3]) ((es.take (k + 1)).map (·.2))) := by
    show FlatR _ _ _ _ _
    rw [hT]
    exact hfl.app (FlatR.one hty)
   obtain ⟨an, ln, cn, ak, lk, ck, ee⟩ := hty.at.shape
   simp only [List.cons.injEq, and_true] at ee
   obtain ⟨rfl, rfl, rfl, rfl⟩ := ee
   have hsz := hbe.size
   clear q0 q1 q2 q3 q4 hty hfl hT HR HA hns
   generalize es[k].1 = x at *
   generalize es[k].2.kind = kd at *
   generalize es[k].2.name = nm at *
   have hk0 : (0 : Int) ≤ k := by omega
   have hk1 : (k : Int) < es.length := by omega
   go_wp2_with (at_builtin; refine wpList_append_own _ rfl _ _ 28 rfl w.heap.size 30 i0 (.agg #[.int .i64 0, .string ⟨#[]⟩, .slice none 0 0, .slice none 0 0]) 4 72 Tryz.underlying28 hi hz0 hz1 hz2 rfl (by decide) _ _ _ rfl ((hown.alloc _).alloc _) ⟨wr.heap.size + 1, 0, none⟩ 1 1 [.int .i64 kd, .string nm, .slice an ln cn, .slice ak lk ck] rfl rfl ?c1 ?c2 ?c3 ?c4 ?c5 ?_)
   case c1 =>
    have hz : (wr.alloc (.cells #[.string x, .int .i64 kd, .string nm, .slice an ln cn, .slice ak lk ck] 75)).heap.size = wr.heap.size + 1 := by simp
    have := World.news_of_block (cs := #[.int .i64 kd, .string nm, .slice an ln cn, .slice ak lk ck]) (t := 30) (fr := (0, 0)) (MapKept.heap_alloc (wr.alloc (.cells #[.string x, .int .i64 kd, .string nm, .slice an ln cn, .slice ak lk ck] 75)) (.cells #[.int .i64 kd, .string nm, .slice an ln cn, .slice ak lk ck] 30)).1
    rw [hz] at this
    exact this
   case c2 => simp [Value.oneCell']
   case c3 => unfold maxLen; omega
   case c4 => omega
   case c5 => simp; omega
   intro v' w3 hown' hgrow _
   have hb3 : Below w.heap.size w w3 := ((hbe.alloc hsz _).alloc (by simp; omega) _).grown hgrow (by simp; omega) (fun j hj => (hown.lt j hj).1)
   clear hgrow hown hbe c0 c1 c2 c3 c4
   go_wp2_with fail
   go_roundw
   case rel => exact ⟨k + 1, _, by omega, by go_num, hown', HFL.out, hb3⟩
   case measure => simp [intOf]; omega
  ·have hke : k = es.length := by omega
   have hfl2 : FlatR A w n xs (es.map (·.2)) := by
    rw [List.take_of_length_le (by omega)] at hfl
    exact hfl
   have HEND : Hid (wr.ownsRow w.heap.size 30 4 u3 es.length xs ∧ FlatR A w n xs (es.map (·.2))) := ⟨by rw [← hke]; exact hown, hfl2⟩
   clear hown hfl hfl2 HR HA hke
   go_wp2_with fail
   go_ret
   exact ⟨_, xs, rfl, HEND.out.1, HEND.out.2, hbe⟩
set_option maxHeartbeats 1600000 in
set_option maxRecDepth 100000 in
theorem implGrowT (m : Nat) (w : World) (hm : m ≤ 10000000) :
  Calls Tryz.prog 85 #[.slice none 0 0, .int .i64 (m : Int)] w fun e w' => ∃ v, e = .returned v ∧ w'.ownsRow w.heap.size 30 4 v 0 [] ∧ Below w.heap.size w w' := by
 obtain ⟨i0, hi, hz0, hz1, hz2⟩ := info_parts Tryz.infoType
 have hneg : ¬ ((m : Int) < 0) := by omega
 by_cases h0 : m = 0
 ·subst h0
  go_enter Tryz.func85, Tryz.ntmps85
  go_wp2_with fail
  go_ret
  exact ⟨_, rfl, World.ownsRow_nil _ _ _ _, Below.refl _ _⟩
 ·have hpos : (0 : Int) < (m : Int) := by omega
  have hr := fun (ty : TypeId) => Lib.run_append_grow_zeros (P := Tryz.prog) w 28 3 ty 30 i0 _ .i64 .i64 Tryz.underlying28 Tryz.underlying3 hi hz0 none 0 0 [] (run_firstCells_none w.drew i0.size 0 0 0) m (by omega) (by rw [hz1]; omega) (by omega) (by omega) (by rw [hz2]; omega) (growslice_fits (by omega) (by rw [hz2]; omega))
  simp only [Nat.zero_add] at hr
  obtain ⟨G, CS, hrz⟩ : ∃ (G : Nat) (CS : Array Value), m ≤ G ∧ G ≤ maxLen ∧ CS.size = G * 4 ∧ ∀ ty, (Builtin.append_ #[28, 3] ty #[.slice none 0 0, .int .i64 (m : Int)]).run Tryz.prog w = .ok (.slice (some ⟨w.heap.size, 0, none⟩) m G) (w.drew.alloc (.cells CS 30)) := by
   have h1 := grownCap_ge w m 0 30
   refine ⟨grownCap w m 0 30, _, h1, grownCap_le_maxLen w m 0 30 (by unfold maxLen; omega), ?_, hr⟩
   rw [Array.size_append, Array.size_append, size_zeroCells, size_zeroCells]
   simp [Value.cells]
   omega
  obtain ⟨hmG, hG, hCS, hrun⟩ := hrz
  have hG63 : G ≤ 9223372036854775807 := by
   unfold maxLen at hG
   omega
  have hown : (w.drew.alloc (.cells CS 30)).ownsRow w.heap.size 30 4 (.slice (some ⟨w.heap.size, 0, none⟩) 0 G) 0 [] := ⟨rfl, .inr ⟨w.heap.size, G, CS, rfl, Nat.le_refl _, by simpa using (MapKept.heap_alloc w.drew (.cells CS 30)).1, Nat.zero_le _, hG, hCS, by simp⟩⟩
  have hbel : Below w.heap.size w (w.drew.alloc (.cells CS 30)) := (Below.refl _ _).drew.alloc (by simp) _
  go_enter Tryz.func85, Tryz.ntmps85
  go_wp2_with (at_builtin; refine Lib.wpList_append_run _ rfl _ _ _ _ rfl _ _ rfl rfl _ _ (hrun _) ?_)
  go_ret
  exact ⟨_, rfl, hown, hbel⟩
theorem slice_own4 {w : World} {B e z : Nat} {v : Value} {n : Nat} {xs : List Value} (h : w.ownsRow B e z v n xs) : ∃ a cap, v = .slice a n cap := by
 rcases h.2 with ⟨e, h0⟩ | ⟨g, cap, cur, e, _⟩
 ·exact ⟨none, 0, by rw [e, h0]⟩
 ·exact ⟨_, cap, e⟩
theorem wpList_append_src {P : Program} {w : World} {ops : Array Oper} {rest : List Oper} {o : Oper} {a : Act} {Q : Exit → Act → World → Prop} (hgd : o.guard = none) (s x : Operand) (t : TypeId)
  (ho : o.op = .call { callee := .builtin .append, args := #[s, x], argTypes := #[t, t] })
  (base : Nat) (e : TypeId) (i : TypeInfo) (z : Value) (size bytes : Nat) (ht : P.underlying t = some (.slice e)) (hi : P.info? e = some i) (hz : i.zero = some z)
  (hsize : i.size = size) (hby : i.bytes = bytes) (hzs : z.cells.size = size) (hsz : 0 < size)
  (v : Value) (n : Nat) (xs : List Value) (hs : a.eval s = v) (hown : w.ownsRow base e size v n xs)
  (B2 m c2 : Nat) (a2 : Option Addr) (news : List Value) (hx : a.eval x = .slice a2 m c2) (hown2 : w.ownsRow B2 e size (.slice a2 m c2) m news) (h1 : ∀ u ∈ news, u.oneCell' = true)
  (hmax : n + m ≤ maxLen) (hbytes : (n + m) * bytes ≤ 140737488355328) (hbase : base ≤ w.heap.size)
  (h : ∀ v' w', w'.ownsRow base e size v' (n + m) (xs ++ news) → w.grownBy w' v.ownBlock → wpList P ops Q rest (a.put o.dst v') w') : wpList P ops Q (o :: rest) a w := by
 rcases hown2.2 with ⟨e2, h0⟩ | ⟨g, c, cur, e2, _, _, _, _, _, _⟩
 ·simp only [Value.slice.injEq] at e2
  obtain ⟨rfl, rfl, rfl⟩ := e2
  have hnews : news = [] := List.length_eq_zero_iff.1 (by simpa using hown2.1)
  subst hnews
  refine wpList_append_own_none hgd s x t ho base e i size ht hi v n xs hs hown hx ?_
  exact h v w (by simpa using hown) ⟨rfl, rfl, rfl, Nat.le_refl _, fun _ _ _ => rfl⟩
 ·have e3 := e2
  simp only [Value.slice.injEq, true_and] at e3
  obtain ⟨rfl, rfl⟩ := e3
  exact wpList_append_own w hgd s x t ho base e i z size bytes ht hi hz hsize hby hzs hsz v n xs hs hown ⟨g, 0, none⟩ m c2 news hx (by simpa using hown2.1) (fun j u hu => hown2.cells (g := g) rfl j u hu) h1 hmax hbytes hbase fun v' w' r1 r2 _ => h v' w' r1 r2
set_option maxHeartbeats 3200000 in
set_option maxRecDepth 100000 in
theorem implConcat2 (g n1 n2 c1 c2 B1 B2 : Nat) (a1 a2 : Option Addr) (xs1 xs2 : List Value) (w : World) (h1 : w.cell? ⟨g, 0, none⟩ = some (.slice a1 n1 c1)) (h2 : w.cell? ⟨g, 1, none⟩ = some (.slice a2 n2 c2)) (o1 : w.ownsRow B1 30 4 (.slice a1 n1 c1) n1 xs1) (o2 : w.ownsRow B2 30 4 (.slice a2 n2 c2) n2 xs2) (u1 : ∀ u ∈ xs1, u.oneCell' = true) (u2 : ∀ u ∈ xs2, u.oneCell' = true) (hn1 : n1 ≤ 1000000) (hn2 : n2 ≤ 1000000) :
  Calls Tryz.prog 53 #[.slice (some ⟨g, 0, none⟩) 2 2] w fun e w' => ∃ v, e = .returned v ∧ w'.ownsRow w.heap.size 30 4 v (n1 + n2) (xs1 ++ xs2) ∧ Below w.heap.size w w' := by
 obtain ⟨i0, hi, hz0, hz1, hz2⟩ := info_parts Tryz.infoType
 have hgl : g < w.heap.size := World.block_lt_of_cell? w ⟨g, 0, none⟩ h1
 have HC : Hid (∀ wx : World, Below w.heap.size w wx → wx.cell? ⟨g, 0, none⟩ = some (.slice a1 n1 c1) ∧ wx.cell? ⟨g, 1, none⟩ = some (.slice a2 n2 c2)) := fun wx hx => ⟨(hx.cell (p := ⟨g, 0, none⟩) hgl).trans h1, (hx.cell (p := ⟨g, 1, none⟩) hgl).trans h2⟩
 have HO1 : Hid (∀ wx : World, Below w.heap.size w wx → wx.ownsRow B1 30 4 (.slice a1 n1 c1) n1 xs1) := fun wx hx => kept_belowT o1 hx
 have HO2 : Hid (∀ wx : World, Below w.heap.size w wx → wx.ownsRow B2 30 4 (.slice a2 n2 c2) n2 xs2) := fun wx hx => kept_belowT o2 hx
 have l1 : xs1.length = n1 * 4 := by simpa using o1.1
 have l2 : xs2.length = n2 * 4 := by simpa using o2.1
 have HL1 : Hid (type_of% l1) := l1
 have HL2 : Hid (type_of% l2) := l2
 have HU1 : Hid (type_of% u1) := u1
 have HU2 : Hid (type_of% u2) := u2
 have HG : Hid (∀ wx : World, Calls Tryz.prog 85 #[.slice none 0 0, .int .i64 ((n1 : Int) + (n2 : Int))] wx fun e w' => ∃ v, e = .returned v ∧ w'.ownsRow wx.heap.size 30 4 v 0 [] ∧ Below wx.heap.size wx w') := fun wx => by
  have := implGrowT (n1 + n2) wx (by omega)
  rw [show ((n1 + n2 : Nat) : Int) = (n1 : Int) + (n2 : Int) from by omega] at this
  exact this
 obtain ⟨q1, q2⟩ := HC.out w (Below.refl _ _)
 clear h1 h2 o1 o2 l1 l2 u1 u2 hgl
 go_enter Tryz.func53, Tryz.ntmps53
 go_wp2_with fail
 go_loopw [3, 11] (fun z i wr => wr = w ∧ ((z = .int .i64 0 ∧ i = .int .i64 0) ∨ (z = .int .i64 (n1 : Int) ∧ i = .int .i64 1) ∨ (z = .int .i64 ((n1 : Int) + (n2 : Int)) ∧ i = .int .i64 2))) (fun _ i _ => 2 - (intOf i).toNat)
 case atStart => exact ⟨rfl, .inl ⟨rfl, rfl⟩⟩
 case round =>
  obtain ⟨hww, hrel⟩ := hrel
  subst wr
  rcases hrel with ⟨rfl, rfl⟩ | ⟨rfl, rfl⟩ | ⟨rfl, rfl⟩
  ·go_wp2_with fail
   go_roundw
   case rel => exact ⟨by first | rfl | trivial, .inr (.inl ⟨by go_num, rfl⟩)⟩
   case measure => simp [intOf]
  ·go_wp2_with fail
   go_roundw
   case rel => exact ⟨by first | rfl | trivial, .inr (.inr ⟨by go_num, rfl⟩)⟩
   case measure => simp [intOf]
  ·clear q1 q2
   go_wp2_with fail
   refine (HG.out w).mono ?_
   rintro e w2 ⟨v2, rfl, ho2, hb2⟩
   clear HG
   go_wp2_with fail
   go_loopw [6, 27] (fun o i wr2 => Below w.heap.size w wr2 ∧ ((wr2.ownsRow w.heap.size 30 4 o 0 [] ∧ i = .int .i64 0) ∨ (wr2.ownsRow w.heap.size 30 4 o n1 xs1 ∧ i = .int .i64 1) ∨ (wr2.ownsRow w.heap.size 30 4 o (n1 + n2) (xs1 ++ xs2) ∧ i = .int .i64 2))) (fun _ i _ => 2 - (intOf i).toNat)
   case atStart => exact ⟨hb2, .inl ⟨ho2, rfl⟩⟩
   case round =>
    obtain ⟨hbe, hrel⟩ := hrel
    obtain ⟨wo, rfl⟩ : ∃ wo, wo = wr := ⟨_, rfl⟩
    clear ho2 hb2
    obtain ⟨q1, q2⟩ := HC.out _ hbe
    have hle := hbe.size
    rcases hrel with ⟨ho, rfl⟩ | ⟨ho, rfl⟩ | ⟨ho, rfl⟩
    ·go_wp2_with (at_builtin; refine wpList_append_src rfl _ _ 28 rfl w.heap.size 30 i0 _ 4 72 Tryz.underlying28 hi hz0 hz1 hz2 rfl (by decide) _ _ _ rfl ho B1 n1 c1 a1 xs1 rfl (HO1.out _ hbe) HU1.out ?c1 ?c2 hle ?_)
     case c1 => unfold maxLen; omega
     case c2 => omega
     intro v' w' ho' hg'
     have hb' : Below w.heap.size w w' := hbe.grown hg' hle (fun j hj => (ho.lt j hj).1)
     clear ho hg' q1 q2 hbe
     go_wp2_with fail
     go_roundw
     case rel => exact ⟨hb', .inr (.inl ⟨ho', rfl⟩)⟩
     case measure => simp [intOf]
    ·go_wp2_with (at_builtin; refine wpList_append_src rfl _ _ 28 rfl w.heap.size 30 i0 _ 4 72 Tryz.underlying28 hi hz0 hz1 hz2 rfl (by decide) _ _ _ rfl ho B2 n2 c2 a2 xs2 rfl (HO2.out _ hbe) HU2.out ?c1 ?c2 hle ?_)
     case c1 => unfold maxLen; omega
     case c2 => omega
     intro v' w' ho' hg'
     have hb' : Below w.heap.size w w' := hbe.grown hg' hle (fun j hj => (ho.lt j hj).1)
     clear ho hg' q1 q2 hbe
     go_wp2_with fail
     go_roundw
     case rel => exact ⟨hb', .inr (.inr ⟨ho', rfl⟩)⟩
     case measure => simp [intOf]
    ·have HEND : Hid (type_of% ho) := ho
     clear ho q1 q2
     go_wp2_with fail
     go_ret
     exact ⟨_, rfl, HEND.out, hbe⟩
end Go.Proofs.YtbojmbeopnlmiaaGreatDoor
