/-
  THE LAW 'TrustMore': for all records, letters and numbers the call returns true (what more records or more letters take, they take besides: what fell falls still); the arguments read as before. No condition beyond the statement's own.
-/
import Derived.Test.YtepbiedolkghhaaGreatRows
import Derived.Test.YtepbiedolkghhaaGreatAm16
import Derived.Test.YtepbiedolkghhaaGreatCa
import Derived.Test.YtepbiedolkghhaaGreatLM
namespace Go.Proofs.YtepbiedolkghhaaGreat
open Go Go.Am
open Go.ChangeShapes Go.WideShapes Go.ChangeAt Go.RowKit
theorem trustMore_pure : ∀ l, ArgsV [recsTy, letsTy, .int .u32, .int .u8] l → APure Tryz.prog 4 l (.bool true) := by
  intro l h
  obtain ⟨a, r1, rfl, ha, b, r2, rfl, hb, c, r3, rfl, hc, d, r4, rfl, hd, hr⟩ := h
  obtain ⟨r, rfl⟩ := recs_of ha
  obtain ⟨l, rfl, hl⟩ := lets_of hb
  obtain ⟨n, hn, rfl⟩ := u32_of hc
  obtain ⟨k, hk, rfl⟩ := u8_of hd
  simp only [ArgsV] at hr
  subst hr
  exact law_more r l n k hn hk (by have h := hl; simp only [maxLen] at h; omega)
set_option maxRecDepth 100000 in
theorem trustMore_holds : Rows.TrustMoreSaid :=
  OpenClaim.holds_of_wide 4 Tryz.f4 rfl rfl rfl rfl rfl rfl rfl ⟨rfl, rfl, rfl, rfl, rfl⟩ rfl rfl rfl rfl rfl (by kernel_rfl) Tryz.func4 (by kernel_rfl)
    (of_decide_eq_true (by kernel_rfl)) (by unfold Func.isWrapper; first | (rw [if_pos (by decide +kernel)]; kernel_rfl) | (rw [if_neg (by decide +kernel)]; exact ⟨rfl, rfl⟩))
    (fun os started H enc _ => handed_of_pure (C := Tryz.checked) (s := Rows.trustMoreSpec) (tb := 4) (Ts := [recsTy, letsTy, .int .u32, .int .u8]) Tryz.own started (by kernel_rfl) Tryz.func4
      (ChangeSpec.witness6 (enc := enc) (C := Tryz.checked) false ⟨#[], #[.slice none 0 0, .slice none 0 0, .int .u32 0, .int .u8 0], []⟩ 9 (by kernel_rfl) (by kernel_rfl) (by kernel_rfl) (by kernel_rfl))
      rfl (fun ds hd => by
        rcases ds with _ | ⟨d1, _ | ⟨d2, _ | ⟨d3, _ | ⟨d4, _ | ⟨d5, ds⟩⟩⟩⟩⟩ <;> first | rfl | (simp at hd; done)) Tryz.laidOut (by kernel_rfl) rfl (by kernel_rfl) (by kernel_rfl) trustMore_pure (fun _ => rfl))
end Go.Proofs.YtepbiedolkghhaaGreat
