/-
  From what a row says of the listed variables to what the walks ask: the table of classes, and the handle of the type error. And how many words a text has.
-/
import Derived.Test.YtihpdngpedgjhaaDoorLexS
import Derived.Lib.LaidTab
import Derived.LaidHandle
import Derived.LaidLaws
namespace Go.Proofs.YtihpdngpedgjhaaDoor
open Go.RowKit

theorem gTab : Tryd.prog.globalNamed "loop.example/g00276/impl.classes" = some 0 := by kernel_rfl
theorem gTabType : (Tryd.prog.globals[0]?).map (·.type) = some 44 := by kernel_rfl
def clsTab : List Int := (List.range 128).map fun i => (Lx.cls i : Int)
theorem tabDatum : (Rows.laid_loop_example_g00276_impl_classes : DataW Unit) = Lib.tabData .u8 clsTab := by kernel_rfl
theorem clsIs {W : World} (h : Lib.TabIs Tryd.prog W "loop.example/g00276/impl.classes" .u8 clsTab) : ClsIs W := fun i hi => by
  have := h.cell gTab i (by simp [clsTab]; exact hi)
  rw [this]
  simp [clsTab, List.getD, hi]
theorem Tryd.etG : Tryd.prog.globalNamed "errors.errorType" = some 1 := by kernel_rfl
theorem Tryd.rtT : (Tryd.prog.cutTypes.find? (·.1 == "internal/reflectlite.rtype")).map (·.2) = some 72 := by kernel_rfl
theorem Tryd.oneErr : ((List.range 116).filter fun t => Tryd.prog.rowNamed t [101, 114, 114, 111, 114]) = [46] := by kernel_rfl
theorem Tryd.typesN : Tryd.prog.types.size = 116 := by kernel_rfl

theorem errIs {W : World} (h : handlesMet Tryd.prog [("errors.errorType", Rows.laid_errors_errorType)] W) : ErrIs W := by
  obtain ⟨name, u, ty, e1, e2, e3, e4, e5⟩ := h _ (List.mem_singleton.2 rfl)
  have en : name = [101, 114, 114, 111, 114] := (Option.some.inj e1).symm
  subst en
  obtain rfl := Option.some.inj (Tryd.rtT.symm.trans e2)
  have hm : ty ∈ (List.range 116).filter fun t => Tryd.prog.rowNamed t [101, 114, 114, 111, 114] := List.mem_filter.2 ⟨List.mem_range.2 (by rw [← Tryd.typesN]; exact e3), e4⟩
  rw [Tryd.oneErr] at hm
  obtain rfl := List.mem_singleton.1 hm
  have hh : typeHandle Tryd.prog 46 = .pointer (some ⟨2, 46, none⟩) := by kernel_rfl
  rw [hh] at e5
  unfold ErrIs
  simpa using World.var?_cell Tryd.etG e5 0

theorem lexP_len (s : ByteArray) (i line : Nat) (l : List Lx.Tok) (h : Lx.lexP s i line = .ok l) : l.length ≤ s.size - i := by
  fun_induction Lx.lexP s i line generalizing l with
  | case1 i line hi hb ih => have := ih l h; omega
  | case2 i line hi h1 hb ih => have := ih l h; omega
  | case3 i line hi h1 h2 hb hlt ih => have := ih l h; omega
  | case4 => cases h
  | case5 => cases h
  | case6 i line hi h1 h2 h3 t k ht hlt ih =>
    cases hq : Lx.lexP s k line with
    | error n => rw [hq] at h; cases h
    | ok r =>
      rw [hq] at h
      cases h
      have := ih r hq
      simp
      omega
  | case7 => cases h
  | case8 => cases h; simp

theorem lexA_len (s : ByteArray) : (Lx.lexA s).1.length ≤ 3000 := by
  unfold Lx.lexA
  by_cases h : 3000 < s.size
  · rw [if_pos h]; simp
  · rw [if_neg h]
    cases hq : Lx.lexP s 0 1 with
    | error n => simp
    | ok l =>
      have := lexP_len s 0 1 l hq
      simp only
      omega

theorem implLex (s : ByteArray) (w : World) (hs : s.size ≤ 140737488355328) (hc : ClsIs w) (hg : ErrIs w) :
    Calls Tryd.prog 8 #[.string s] w fun e w' => LexAns s w e w' := by
  by_cases h : 3000 < s.size
  · exact implLex_big s w hs h
  · exact implLex_small s w (by omega) hc hg

end Go.Proofs.YtihpdngpedgjhaaDoor
