/-
  THE LAW 'TrustCauses': for all records, letters and numbers the call returns true (what is named as a cause is one, and no fewer do); the arguments read as before. No condition beyond the statement's own.
-/
import Derived.Test.YtepbiedolkghhaaGreatRows
import Derived.Test.YtepbiedolkghhaaGreatAm16
import Derived.Test.YtepbiedolkghhaaGreatCa
import Derived.Test.YtepbiedolkghhaaGreatLC
namespace Go.Proofs.YtepbiedolkghhaaGreat
open Go Go.Am
open Go.ChangeShapes Go.WideShapes Go.ChangeAt Go.RowKit
theorem u16_of {a : AV} (h : ArgV (.int .u16) a) : ∃ n : Nat, a = .int .u16 (n : Int) := by
  simp only [ArgV, Vals] at h
  obtain ⟨n, h, h1, h2⟩ := h
  have e1 : IntKind.min .u16 = 0 := by decide
  obtain rfl := List.cons.inj h |>.1
  exact ⟨n.toNat, by rw [show ((n.toNat : Nat) : Int) = n by omega]⟩
theorem trustCauses_pure : ∀ l, ArgsV [recsTy, letsTy, .int .u32, .int .u8, .int .u16] l → APure Tryz.prog 6 l (.bool true) := by
  intro l h
  obtain ⟨a, r1, rfl, ha, b, r2, rfl, hb, c, r3, rfl, hc, d, r4, rfl, hd, e, r5, rfl, he, hr⟩ := h
  obtain ⟨r, rfl⟩ := recs_of ha
  obtain ⟨l, rfl, _⟩ := lets_of hb
  obtain ⟨n, hn, rfl⟩ := u32_of hc
  obtain ⟨k, hk, rfl⟩ := u8_of hd
  obtain ⟨o, rfl⟩ := u16_of he
  simp only [ArgsV] at hr
  subst hr
  exact law_causes r l n k o hn hk
set_option maxRecDepth 100000 in
theorem trustCauses_holds : Rows.TrustCausesSaid :=
  OpenClaim.holds_of_wide 6 Tryz.f6 rfl rfl rfl rfl rfl rfl rfl ⟨rfl, rfl, rfl, rfl, rfl⟩ rfl rfl rfl rfl rfl (by kernel_rfl) Tryz.func6 (by kernel_rfl)
    (of_decide_eq_true (by kernel_rfl)) (by unfold Func.isWrapper; first | (rw [if_pos (by decide +kernel)]; kernel_rfl) | (rw [if_neg (by decide +kernel)]; exact ⟨rfl, rfl⟩))
    (fun os started H enc _ => handed_of_pure (C := Tryz.checked) (s := Rows.trustCausesSpec) (tb := 4) (Ts := [recsTy, letsTy, .int .u32, .int .u8, .int .u16]) Tryz.own started (by kernel_rfl) Tryz.func6
      (ChangeSpec.witness6 (enc := enc) (C := Tryz.checked) false ⟨#[], #[.slice none 0 0, .slice none 0 0, .int .u32 0, .int .u8 0, .int .u16 0], []⟩ 9 (by kernel_rfl) (by kernel_rfl) (by kernel_rfl) (by kernel_rfl))
      rfl (fun ds hd => by
        rcases ds with _ | ⟨d1, _ | ⟨d2, _ | ⟨d3, _ | ⟨d4, _ | ⟨d5, _ | ⟨d6, ds⟩⟩⟩⟩⟩⟩ <;> first | rfl | (simp at hd; done)) Tryz.laidOut (by kernel_rfl) rfl (by kernel_rfl) (by kernel_rfl) trustCauses_pure (fun _ => rfl))
end Go.Proofs.YtepbiedolkghhaaGreat
