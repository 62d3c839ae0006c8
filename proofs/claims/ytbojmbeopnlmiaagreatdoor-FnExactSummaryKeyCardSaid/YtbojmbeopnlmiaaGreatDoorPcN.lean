/-
 Texts held against each other piece by piece, plainly. No program here.
-/
import Derived.Test.YtbojmbeopnlmiaaGreatDoorPcM
import Derived.RangeFuncNested
import Derived.RangeFuncBound
import Derived.RangeFuncCalls
import Derived.RangeFuncLeaves
import Derived.RangeFuncBox
import Derived.Shelf.Abstract
import Derived.Shelf.RegionOpen
import Derived.OwnWalkIn
import Derived.TacticsInMore
import Derived.LoopNIn
import Derived.LoopIn
namespace Go.Proofs.YtbojmbeopnlmiaaGreatDoor
open Go.RowKit Go.Shelf
def Alike (a b x y : List UInt8) : Prop := (a < b ↔ x < y) ∧ (a = b ↔ x = y)
theorem Alike.refl (a b : List UInt8) : Alike a b a b := ⟨Iff.rfl, Iff.rfl⟩
theorem Alike.trans {a b x y u v : List UInt8} (h : Alike a b x y) (k : Alike x y u v) : Alike a b u v := ⟨h.1.trans k.1, h.2.trans k.2⟩
theorem lt_app (p x y : List UInt8) : p ++ x < p ++ y ↔ x < y := by
 induction p with
 | nil => rfl
 | cons c p ih =>
  rw [List.cons_append, List.cons_append, List.cons_lt_cons_iff]
  constructor
  ·rintro (h | ⟨_, h⟩)
   ·exact absurd h (UInt8.lt_irrefl c)
   ·exact ih.1 h
  ·exact fun h => .inr ⟨rfl, ih.2 h⟩
theorem Alike.cut (p x y : List UInt8) : Alike (p ++ x) (p ++ y) x y := ⟨lt_app p x y, List.append_right_inj p⟩
theorem Alike.part : ∀ (s t x y : List UInt8), s.length = t.length → s ≠ t → Alike (s ++ x) (t ++ y) s t := by
 intro s
 induction s with
 | nil =>
  intro t x y hl hne
  cases t with
  | nil => exact absurd rfl hne
  | cons c t => simp at hl
 | cons c s ih =>
  intro t x y hl hne
  cases t with
  | nil => simp at hl
  | cons d t =>
   have hl' : s.length = t.length := by simpa using hl
   rw [List.cons_append, List.cons_append]
   by_cases e : c = d
   ·subst e
    have hne' : s ≠ t := fun q => hne (by rw [q])
    have h := ih t x y hl' hne'
    refine ⟨?_, ?_⟩
    ·rw [List.cons_lt_cons_iff, List.cons_lt_cons_iff]
     constructor
     ·rintro (q | ⟨_, q⟩)
      ·exact .inl q
      ·exact .inr ⟨rfl, h.1.1 q⟩
     ·rintro (q | ⟨_, q⟩)
      ·exact .inl q
      ·exact .inr ⟨rfl, h.1.2 q⟩
    ·rw [List.cons.injEq, List.cons.injEq]
     exact ⟨fun q => ⟨rfl, h.2.1 q.2⟩, fun q => ⟨rfl, h.2.2 q.2⟩⟩
   ·refine ⟨?_, ?_⟩
    ·rw [List.cons_lt_cons_iff, List.cons_lt_cons_iff]
     constructor
     ·rintro (q | ⟨q, _⟩)
      ·exact .inl q
      ·exact absurd q e
     ·rintro (q | ⟨q, _⟩)
      ·exact .inl q
      ·exact absurd q e
    ·rw [List.cons.injEq, List.cons.injEq]
     exact ⟨fun q => absurd q.1 e, fun q => absurd q.1 e⟩
def stTxt (F : List FRec) (L : List Pc) : List UInt8 := pcsTxt F L.reverse
theorem stTxt_push (F : List FRec) (L : List Pc) (p : Pc) : stTxt F (L ++ [p]) = p.txt F ++ stTxt F L := by
 unfold stTxt
 rw [List.reverse_append, List.reverse_singleton, List.singleton_append, pcsTxt_cons]
theorem stTxt_app (F : List FRec) (L K : List Pc) : stTxt F (L ++ K) = stTxt F K ++ stTxt F L := by
 unfold stTxt
 rw [List.reverse_append, pcsTxt_app]
def Live (F : List FRec) (p : Pc) : Prop := (p.f = none ∧ 0 < p.s.size) ∨ ∃ i r, p = pcF i ∧ F[i]? = some r ∧ Ty.ok r.ty
theorem Live.pos {F : List FRec} {p : Pc} (h : Live F p) : 0 < (p.txt F).length := by
 rcases h with ⟨h1, h2⟩ | ⟨i, r, rfl, h2, h3⟩
 ·unfold Pc.txt
  rw [h1]
  exact h2
 ·rw [pcF_txt, txtAt_some h2]
  exact txt_pos h3
theorem live_txt {F : List FRec} {L : List Pc} (h : ∀ p ∈ L, Live F p) : L.length ≤ (stTxt F L).length := by
 induction L with
 | nil => simp
 | cons p L ih =>
  have e : p :: L = [p] ++ L := rfl
  rw [e, stTxt_app, List.length_append, List.length_append]
  have h1 := (h p (List.mem_cons_self ..)).pos
  have h2 := ih fun q hq => h q (List.mem_cons_of_mem _ hq)
  have h3 : (stTxt F [p]).length = (p.txt F).length := by
   unfold stTxt
   rw [List.reverse_singleton, pcsTxt_cons]
   simp [pcsTxt]
  rw [h3]
  simp only [List.length_singleton]
  omega
def livePcs (ps : List Pc) : List Pc := ps.filter fun p => p.f.isSome || decide (p.s.size ≠ 0)
theorem pcsTxt_live (F : List FRec) (ps : List Pc) : pcsTxt F (livePcs ps) = pcsTxt F ps := by
 induction ps with
 | nil => rfl
 | cons p ps ih =>
  unfold livePcs at ih ⊢
  rw [List.filter_cons]
  split
  ·rw [pcsTxt_cons, pcsTxt_cons, ih]
  ·rename_i hc
   rw [pcsTxt_cons, ih]
   simp only [Bool.or_eq_true, decide_eq_true_eq, not_or, Bool.not_eq_true, Option.isSome_eq_false_iff, ne_eq, Decidable.not_not] at hc
   have : p.txt F = [] := by
    unfold Pc.txt
    rw [Option.isNone_iff_eq_none.1 hc.1]
    exact List.length_eq_zero_iff.1 hc.2
   rw [this, List.nil_append]
theorem stTxt_open {F : List FRec} {L : List Pc} {i : Nat} {r : FRec} (hr : F[i]? = some r) (ht : Ty.ok r.ty) (hk : KidsOf F r.kids r.ty.kids) : stTxt F (L ++ (livePcs (pcsOf r.ty r.kids)).reverse) = stTxt F (L ++ [pcF i]) := by
 rw [stTxt_app, stTxt_push, pcF_txt, txtAt_some hr]
 congr 1
 unfold stTxt
 rw [List.reverse_reverse, pcsTxt_live, pcs_text ht hk]
def Pc.load (F : List FRec) (p : Pc) : Nat := match p.f with
 | none => p.s.size
 | some i => match F[i]? with
  | some r => r.ty.txt.size * (Ty.hi r.ty + 2)
  | none => 0
def loadOf (F : List FRec) (L : List Pc) : Nat := (L.map (Pc.load F)).sum
theorem loadOf_app (F : List FRec) (L K : List Pc) : loadOf F (L ++ K) = loadOf F L + loadOf F K := by simp [loadOf]
theorem load_le {F : List FRec} {ps : List Pc} {h : Nat} (hp : ∀ p ∈ ps, p.f = none ∨ ∃ i r, p = pcF i ∧ F[i]? = some r ∧ Ty.hi r.ty + 2 ≤ h) (h1 : 1 ≤ h) : loadOf F ps ≤ (pcsTxt F ps).length * h := by
 induction ps with
 | nil => simp [loadOf, pcsTxt]
 | cons p ps ih =>
  have h2 := ih fun q hq => hp q (List.mem_cons_of_mem _ hq)
  have h3 : p.load F ≤ (p.txt F).length * h := by
   rcases hp p (List.mem_cons_self ..) with q | ⟨i, r, rfl, q2, q3⟩
   ·unfold Pc.load Pc.txt
    rw [q]
    show p.s.size ≤ p.s.size * h
    exact Nat.le_mul_of_pos_right _ h1
   ·rw [pcF_txt, txtAt_some q2]
    have e : (pcF i).load F = r.ty.txt.size * (Ty.hi r.ty + 2) := by
     unfold Pc.load pcF
     simp only
     rw [q2]
    rw [e]
    exact Nat.mul_le_mul_left _ q3
  rw [pcsTxt_cons, List.length_append, Nat.add_mul]
  show p.load F + loadOf F ps ≤ _
  omega
theorem loadOf_perm (F : List FRec) (L : List Pc) : loadOf F L.reverse = loadOf F L := by
 unfold loadOf
 rw [List.map_reverse, List.sum_reverse]
theorem load_open {F : List FRec} {i : Nat} {r : FRec} (hr : F[i]? = some r) (ht : Ty.ok r.ty) (hk : KidsOf F r.kids r.ty.kids) : loadOf F (livePcs (pcsOf r.ty r.kids)).reverse < loadOf F [pcF i] := by
 rw [loadOf_perm]
 have hone : ∀ p ∈ livePcs (pcsOf r.ty r.kids), p.f = none ∨ ∃ i q, p = pcF i ∧ F[i]? = some q ∧ Ty.hi q.ty + 2 ≤ Ty.hi r.ty + 1 := fun p hp => by
  have hp' := (List.mem_filter.1 hp).1
  rcases pcs_one (fun c => hk.ne (fn_kids ht c)) p hp' with q | ⟨j, hj, e⟩
  ·exact .inl q
  ·obtain ⟨jj, hjj, rfl⟩ := List.getElem_of_mem hj
   obtain ⟨q, hq, hq2⟩ := hk.2 jj hjj
   have hmem : q.ty ∈ r.ty.kids := List.mem_of_getElem? hq2
   have h1 := hi_of_kids ht
   rw [if_neg (by have := List.length_pos_of_mem hmem; omega)] at h1
   have h2 := hiMost_le.1 (Nat.le_refl (hiMost r.ty.kids)) _ hmem
   exact .inr ⟨_, q, e, hq, by omega⟩
 have h1 := load_le hone (by omega)
 rw [pcsTxt_live, pcs_text ht hk] at h1
 have e : loadOf F [pcF i] = r.ty.txt.size * (Ty.hi r.ty + 2) := by
  unfold loadOf
  simp only [List.map_cons, List.map_nil, List.sum_cons, List.sum_nil, Nat.add_zero]
  unfold Pc.load pcF
  simp only
  rw [hr]
 have h2 := txt_pos ht
 have h3 : (bt r.ty.txt).length = r.ty.txt.size := rfl
 rw [e]
 rw [h3] at h1
 have h4 : r.ty.txt.size * (Ty.hi r.ty + 2) = r.ty.txt.size * (Ty.hi r.ty + 1) + r.ty.txt.size := by
  rw [← Nat.mul_succ]
 omega
attribute [local go_sem] Oper.semAt_some
def Told (FF : List FRec) (p : Pc) : Prop := p.f = none ∨ ∃ i r, p = pcF i ∧ FF[i]? = some r
abbrev BackE (FF : List FRec) := { x : Nat × Pc // Told FF x.2 }
def backV {FF : List FRec} (x : BackE FF) : Array Value := #[.int .i64 (x.1.1 : Nat), .agg #[.string x.1.2.s, pcV FF x.1.2.f]]
def backAt {FF : List FRec} (ps : List Pc) (h : ∀ p ∈ ps, Told FF p) (j : Nat) : BackE FF := ⟨(j, ps[j]?.getD (pcT ⟨#[]⟩)), by
 show Told FF (ps[j]?.getD (pcT ⟨#[]⟩))
 cases e : ps[j]? with
 | none => exact .inl rfl
 | some p => exact h p (List.mem_of_getElem? e)⟩
def backTo {FF : List FRec} (ps : List Pc) (h : ∀ p ∈ ps, Told FF p) (k : Nat) : List (BackE FF) := (List.range k).map fun t => backAt ps h (ps.length - 1 - t)
theorem backTo_succ {FF : List FRec} (ps : List Pc) (h : ∀ p ∈ ps, Told FF p) (k : Nat) : backTo ps h (k + 1) = backTo ps h k ++ [backAt ps h (ps.length - 1 - k)] := by simp [backTo, List.range_succ]
theorem backTo_length {FF : List FRec} (ps : List Pc) (h : ∀ p ∈ ps, Told FF p) (k : Nat) : (backTo ps h k).length = k := by simp [backTo]
def BackK (g Bs : Nat) (W W' : World) : Prop := W'.heap[g]? = W.heap[g]? ∧ W'.heap[Bs]? = W.heap[Bs]?
set_option maxRecDepth 100000 in
set_option maxHeartbeats 2000000 in
theorem back1_in (F : Fence) (n : Nat) (h55 : F.fn 187) (hro : F.round = none) (hn : 1 ≤ n) (l Bs g cap : Nat) (FF : List FRec) (ps : List Pc) (hp : ∀ p ∈ ps, Told FF p) (hlen : ps.length ≤ 281474976710656) (J Jx : List (BackE FF) → World → Prop)
  (hY : ∀ pre x W, J pre W → pre.length < ps.length → YieldAt F (n - 1) Tryz.prog l (backV x) W fun e W' =>
   (e = .returned (.bool true) ∧ J (pre ++ [x]) W' ∧ BackK g Bs W W') ∨ (e = .returned (.bool false) ∧ Jx (pre ++ [x]) W'))
  (W : World) (hBs : W.cell? ⟨Bs, 0, none⟩ = some (.slice (some ⟨g, 0, none⟩) ps.length cap)) (hc : ∀ j (h : j < ps.length), W.cell? ⟨g, j * 2, none⟩ = some (.string ps[j].s) ∧ W.cell? ⟨g, j * 2 + 1, none⟩ = some (pcV FF ps[j].f)) (h0 : J [] W) :
  CallsIn F n Tryz.prog 187 #[.func (.yield l) #[] #[], .pointer (some ⟨Bs, 0, none⟩)] W fun e W' => (∃ v, e = .returned v) ∧
   ((∃ ys, ys = backTo ps hp ps.length ∧ J ys W') ∨ (∃ pre, True ∧ Jx pre W')) := by
 have HC : Hid (type_of% hc) := hc
 clear hc
 refine callsIn_of_wp Tryz.func187 rfl h55 ?_ hro
 simp only [Tryz.ntmps187, List.size_toArray, List.length_cons, List.length_nil, Nat.reduceAdd, Nat.reduceSub, Array.replicate_succ, Array.replicate_zero, List.push_toArray, List.append_toArray, List.nil_append, List.cons_append]
 gi_wp2
 gi_loopw [3] (fun i wr => ∃ k m : Nat, k + m = ps.length ∧ i = .int .i64 ((m : Int) - 1) ∧ J (backTo ps hp k) wr ∧ BackK g Bs W wr)
  (fun i _ => (intOf i + 1).toNat)
 case atStart => exact ⟨0, ps.length, by omega, rfl, h0, rfl, rfl⟩
 case round =>
  obtain ⟨k, m, hkm, rfl, hJs, hk1, hk2⟩ := hrel
  have hBs2 : wr.cell? ⟨Bs, 0, none⟩ = some (.slice (some ⟨g, 0, none⟩) ps.length cap) := (World.cell?_of_block (w := W) (a := ⟨Bs, 0, none⟩) hk2).trans hBs
  cases m with
  | zero =>
   have hkl : k = ps.length := by omega
   have HE : Hid (J (backTo ps hp ps.length) wr) := by rw [hkl] at hJs; exact hJs
   clear hJs hkl hY
   gi_wp2
   go_end0
   exact ⟨⟨_, rfl⟩, .inl ⟨_, rfl, HE.out⟩⟩
  | succ m =>
   have hm : m < ps.length := by omega
   obtain ⟨c0, c1⟩ := HC.out m hm
   have d0 := (World.cell?_of_block (w := W) (a := ⟨g, m * 2, none⟩) hk1).trans c0
   have d1 := (World.cell?_of_block (w := W) (a := ⟨g, m * 2 + 1, none⟩) hk1).trans c1
   obtain ⟨fn, tmps, assign, body, hy, hR⟩ := hY _ (backAt ps hp m) wr hJs (by rw [backTo_length]; omega)
   have eV : backV (backAt ps hp m) = #[.int .i64 (m : Nat), .agg #[.string ps[m].s, pcV FF ps[m].f]] := by
    unfold backV backAt
    simp [List.getElem?_eq_getElem hm]
   rw [eV] at hy
   have hm1 : (((m + 1 : Nat) : Int) - 1) = (m : Int) := by omega
   rw [hm1]
   have hmi : (0 : Int) ≤ (m : Int) := by omega
   have hml : (m : Int) < (ps.length : Int) := by omega
   have HR : Hid (type_of% hR) := hR
   clear hR c0 c1
   generalize ps[m].s = sx at *
   generalize pcV FF ps[m].f = vx at *
   gi_wp2
   refine HR.out.mono ?_
   rintro e W3 (⟨rfl, hJ3, hk3⟩ | ⟨rfl, hJx3⟩)
   ·have HJ3 : Hid (J (backTo ps hp (k + 1)) W3) := by
     have e : ps.length - 1 - k = m := by omega
     show J _ _
     rw [backTo_succ, e]
     exact hJ3
    have HK3 : Hid (BackK g Bs W W3) := ⟨hk3.1.trans hk1, hk3.2.trans hk2⟩
    clear hJ3 hk3 hY HR hy hJs hBs2
    gi_wp2
    go_roundw
    case rel => exact ⟨k + 1, m, by omega, by go_num, HJ3.out, HK3.out⟩
    case measure => simp [intOf]
   ·have HX : Hid (type_of% hJx3) := hJx3
    clear hJx3 hY HR hy hJs hBs2
    gi_wp2
    refine bodyPost_ret (results_none rfl _ _ _) rfl ?_
    exact ⟨⟨_, rfl⟩, .inr ⟨_, trivial, HX.out⟩⟩
theorem back_in (F : Fence) (n : Nat) (h39 : F.fn 175) (hro : F.round = none) (a : Option Addr) (len cap : Nat) (w : World) :
  CallsIn F n Tryz.prog 175 #[.slice a len cap] w fun e w' => e = .returned (.func (.func 187) #[] #[.pointer (some ⟨w.heap.size, 0, none⟩)]) ∧ w' = w.alloc (.cells #[.slice a len cap] 163) := by
 refine callsIn_of_wp Tryz.func175 rfl h39 ?_ hro
 simp only [Tryz.ntmps175, List.size_toArray, List.length_cons, List.length_nil, Nat.reduceAdd, Nat.reduceSub, Array.replicate_succ, Array.replicate_zero, List.push_toArray, List.append_toArray, List.nil_append, List.cons_append]
 gi_wp2
 go_ret
 exact ⟨rfl, rfl⟩
theorem back_stops (F : Fence) (n : Nat) (h55 : F.fn 187) (hro : F.round = none) (hn : 1 ≤ n) (Bs g cap : Nat) (FF : List FRec) (ps : List Pc) (hp : ∀ p ∈ ps, Told FF p) (hlen : ps.length ≤ 281474976710656) (w : World) (hBl : Bs < w.heap.size) (hgl : g < w.heap.size)
  (hBs : w.cell? ⟨Bs, 0, none⟩ = some (.slice (some ⟨g, 0, none⟩) ps.length cap)) (hc : ∀ j (h : j < ps.length), w.cell? ⟨g, j * 2, none⟩ = some (.string ps[j].s) ∧ w.cell? ⟨g, j * 2 + 1, none⟩ = some (pcV FF ps[j].f)) :
  SeqStopsK F n Tryz.prog 187 #[.pointer (some ⟨Bs, 0, none⟩)] (backV (FF := FF)) (BackK g Bs) (fun ys => ys = backTo ps hp ps.length) (fun _ => True) ps.length w := fun l J Jx W hW _ _ hY h0 =>
 back1_in F n h55 hro hn l Bs g cap FF ps hp hlen J Jx hY W ((hW.cell (p := ⟨Bs, 0, none⟩) hBl).trans hBs) (fun j h => ⟨(hW.cell (p := ⟨g, j * 2, none⟩) hgl).trans (hc j h).1, (hW.cell (p := ⟨g, j * 2 + 1, none⟩) hgl).trans (hc j h).2⟩) h0
end Go.Proofs.YtbojmbeopnlmiaaGreatDoor
