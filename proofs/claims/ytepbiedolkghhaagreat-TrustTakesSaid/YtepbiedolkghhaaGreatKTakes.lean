/-
  THE LAW 'TrustTakes': for all records, letters and numbers the call returns true (what is withdrawn takes with it just what hung on it: what falls and nothing else, after one letter more); the arguments read as before. No condition beyond the statement's own.
-/
import Derived.Test.YtepbiedolkghhaaGreatRows
import Derived.Test.YtepbiedolkghhaaGreatAm16
import Derived.Test.YtepbiedolkghhaaGreatCa
import Derived.Test.YtepbiedolkghhaaGreatLT
namespace Go.Proofs.YtepbiedolkghhaaGreat
open Go Go.Am
open Go.ChangeShapes Go.WideShapes Go.ChangeAt Go.RowKit
theorem trustTakes_pure : ∀ l, ArgsV [recsTy, letsTy, .int .u32, .int .u8] l → APure Tryz.prog 3 l (.bool true) := by
  intro l h
  obtain ⟨a, r1, rfl, ha, b, r2, rfl, hb, c, r3, rfl, hc, d, r4, rfl, hd, hr⟩ := h
  obtain ⟨r, rfl⟩ := recs_of ha
  obtain ⟨l, rfl, _⟩ := lets_of hb
  obtain ⟨n, hn, rfl⟩ := u32_of hc
  obtain ⟨k, hk, rfl⟩ := u8_of hd
  simp only [ArgsV] at hr
  subst hr
  exact law_takes r l n k hn hk
set_option maxRecDepth 100000 in
theorem trustTakes_holds : Rows.TrustTakesSaid :=
  OpenClaim.holds_of_wide 3 Tryz.f3 rfl rfl rfl rfl rfl rfl rfl ⟨rfl, rfl, rfl, rfl, rfl⟩ rfl rfl rfl rfl rfl (by kernel_rfl) Tryz.func3 (by kernel_rfl)
    (of_decide_eq_true (by kernel_rfl)) (by unfold Func.isWrapper; first | (rw [if_pos (by decide +kernel)]; kernel_rfl) | (rw [if_neg (by decide +kernel)]; exact ⟨rfl, rfl⟩))
    (fun os started H enc _ => handed_of_pure (C := Tryz.checked) (s := Rows.trustTakesSpec) (tb := 4) (Ts := [recsTy, letsTy, .int .u32, .int .u8]) Tryz.own started (by kernel_rfl) Tryz.func3
      (ChangeSpec.witness6 (enc := enc) (C := Tryz.checked) false ⟨#[], #[.slice none 0 0, .slice none 0 0, .int .u32 0, .int .u8 0], []⟩ 9 (by kernel_rfl) (by kernel_rfl) (by kernel_rfl) (by kernel_rfl))
      rfl (fun ds hd => by
        rcases ds with _ | ⟨d1, _ | ⟨d2, _ | ⟨d3, _ | ⟨d4, _ | ⟨d5, ds⟩⟩⟩⟩⟩ <;> first | rfl | (simp at hd; done)) Tryz.laidOut (by kernel_rfl) rfl (by kernel_rfl) (by kernel_rfl) trustTakes_pure (fun _ => rfl))
end Go.Proofs.YtepbiedolkghhaaGreat
