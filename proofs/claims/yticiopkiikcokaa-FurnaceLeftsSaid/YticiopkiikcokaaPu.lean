import Derived.Test.YticiopkiikcokaaPt
namespace Go.Proofs.Yticiopkiikcokaa
open Go Go.Am Go.Srt
set_option maxHeartbeats 64000000 in
set_option maxRecDepth 100000 in
theorem law4 (r : Rn) (u : Ru) (t : Int) : APure Try.prog 4 [encRn r, encRu u, .int .i64 t] (.bool true) := by
  have sG := great_spec r u
  cases hs : smallB r u
  · rw [hs] at sG
    exact APure.vc Try.func4 rfl (.call (.bool true) .nil) rfl rfl ⟨sG, rB rfl⟩
  · rw [hs] at sG
    obtain ⟨z1, z2, z3, z4⟩ := small_out hs
    have z5 := small_steps hs
    have sT := Twin_spec r (by omega) (by omega) (by omega) z4
    have sU := TwinRu_spec u (by omega)
    have sS := Same_spec r (by omega) (by omega) (by omega) z4
    have sR := sameRu_spec u (by omega)
    obtain ⟨x, e, eL, hx, sB⟩ := leftV_tup r u
    obtain ⟨a, b, f, eK⟩ := keptV_tup r u t
    obtain ⟨c, h, eC⟩ := countV_tup r u
    have l1 := Left_spec r u
    have l2 := rLeft_spec r u
    have k1 := Kept_spec r u t
    have k2 := rKept_spec r u t
    have c1 := Counts_spec r u
    have c2 := rCounts_spec r u
    rw [eL] at l1 l2
    rw [eK] at k1 k2
    rw [eC] at c1 c2
    have b1 : (e == e) = true := beq_self_eq_true _
    have b2 : (a == a) = true := beq_self_eq_true _
    have b3 : (b == b) = true := beq_self_eq_true _
    have b4 : (f == f) = true := beq_self_eq_true _
    have b5 : (c == c) = true := beq_self_eq_true _
    have b6 : (h == h) = true := beq_self_eq_true _
    rcases (show x = .nil ∨ ∃ l : List Br, x = .lst 4 (l.map encBr) by
      unfold leftV at eL
      split at eL
      · exact .inr ⟨_, by simpa using (congrArg (fun z => match z with | AV.tup [y, _] => y | _ => .nil) eL).symm⟩
      · exact .inl (by simpa using (congrArg (fun z => match z with | AV.tup [y, _] => y | _ => .nil) eL).symm)) with rfl | ⟨l, rfl⟩
    · exact APure.vc Try.func4 rfl (.call (.bool false) <| .draw 6 <| .call (encRn r) <| .call (encRu u) <| .call (.tup [.nil, .int .i64 e]) <| .call (.tup [.nil, .int .i64 e]) <| .call (.tup [.int .u8 a, .int .i64 b, .int .i64 f]) <| .call (.tup [.int .u8 a, .int .i64 b, .int .i64 f]) <|
          .call (.tup [.int .i64 c, .int .i64 h]) <| .call (.tup [.int .i64 c, .int .i64 h]) <| .call (.bool true) <| .br 78 true <| .br 83 true <| .br 88 true <| .br 93 true <| .br 98 true <| .br 103 true <| .call (.bool true) <| .call (.bool true) .nil) rfl rfl
        ⟨sG, by kernel_rfl, mixed, by kernel_rfl, sT, sU, by kernel_rfl, l1, l2, k1, k2, c1, c2, sB, b1, b2, b3, b4, b5, b6, sS, sR, rB rfl⟩
    · exact APure.vc Try.func4 rfl (.call (.bool false) <| .draw 6 <| .call (encRn r) <| .call (encRu u) <| .call (.tup [.lst 4 (l.map encBr), .int .i64 e]) <| .call (.tup [.lst 4 (l.map encBr), .int .i64 e]) <| .call (.tup [.int .u8 a, .int .i64 b, .int .i64 f]) <| .call (.tup [.int .u8 a, .int .i64 b, .int .i64 f]) <|
          .call (.tup [.int .i64 c, .int .i64 h]) <| .call (.tup [.int .i64 c, .int .i64 h]) <| .call (.bool true) <| .br 78 true <| .br 83 true <| .br 88 true <| .br 93 true <| .br 98 true <| .br 103 true <| .call (.bool true) <| .call (.bool true) .nil) rfl rfl
        ⟨sG, by kernel_rfl, mixed, by kernel_rfl, sT, sU, by kernel_rfl, l1, l2, k1, k2, c1, c2, sB, b1, b2, b3, b4, b5, b6, sS, sR, rB rfl⟩
end Go.Proofs.Yticiopkiikcokaa
