import Derived.Test.YticiopkiikcokaaT40
namespace Go.Proofs.Yticiopkiikcokaa
open Go Go.Am
theorem take_flS (C : List AV) (s : Sn) : ∀ (xs : List Sn) (k : Nat), xs[k]? = some s → ((flS xs ++ C).drop (k * 2)).take 2 = encS s ∧ 2 ≤ ((flS xs ++ C).drop (k * 2)).length := by
  intro xs
  induction xs with
  | nil => intro k h; simp at h
  | cons a xs ih =>
    intro k h
    have ea : flS (a :: xs) ++ C = AV.int .i64 a.lo :: AV.int .i64 a.hi :: (flS xs ++ C) := rfl
    cases k with
    | zero =>
      simp at h; subst h
      rw [ea]
      exact ⟨rfl, by simp⟩
    | succ k =>
      have := ih k (by simpa using h)
      have e : (k + 1) * 2 = k * 2 + 1 + 1 := by omega
      rw [ea, e, List.drop_succ_cons, List.drop_succ_cons]
      exact this
theorem ldM {h : Nat → Option AObj} {i k : Nat} {r : Rn} {mf cf : Nat → Sn} (h0 : h i = some (.cells (workL r mf cf))) (hk : k < 61) : aLoad Try.prog h 26 (.vptr i (6 + k * 2)) = some ⟨.agg (encS (mf k)), []⟩ := by
  have e : (workL r mf cf).drop (6 + k * 2) = (flS ((List.range 61).map mf) ++ arrL cf).drop (k * 2) := by
    have e6 : 6 + k * 2 = k * 2 + 6 := by omega
    rw [e6]; rfl
  have t := take_flS (arrL cf) (mf k) ((List.range 61).map mf) k (by simp [hk])
  simp only [aLoad, ty26, h0, e, aread]
  have ha : (TD.struct [(0, 3, false), (1, 3, false)]).agg = true := rfl
  rw [if_pos ha, if_pos t.2, t.1]; rfl
theorem stW2 {h : Nat → Option AObj} {i : Nat} {cs : List AV} (h0 : h i = some (.cells Z101)) (hl : cs.length = 250) (hc : cs.all cellB = true) : aStore Try.prog h 101 (.vptr i 0) (.agg cs) = some ⟨.undef, [(i, some (.cells cs))]⟩ := by
  have e : splice Z101 0 cs = cs := splice_all cs Z101 [] (by rw [hl, Z101_len])
  have h2 : 0 + cs.length ≤ Z101.length := by rw [hl, Z101_len]; omega
  simp only [aStore, ty101, acells, h0]
  rw [if_pos ⟨hl, h2, hc⟩, e]
theorem mfK_at {r : Rn} {n k : Nat} (h1 : 1 ≤ k) (h2 : k ≤ n) (hb : blindB r (k : Int) = false) : encS (mfK r n k) = [.int .i64 (mLo r k), .int .i64 (mHi r k)] := by
  unfold mfK; rw [if_pos ⟨h1, h2, hb⟩]; rfl
set_option maxHeartbeats 16000000 in
set_option maxRecDepth 100000 in
theorem Mean_blind {r : Rn} (hv : runB r = true) {k : Nat} (h1 : 1 ≤ k) (h2 : k ≤ r.rows.length) (hb : blindB r (k : Int) = true) : APure Try.prog 18 [encRn r, .int .i64 (k : Int)] (.tup [.agg [.int .i64 0, .int .i64 0], .int .i64 2]) := by
  have hr := runB_out hv
  have hcl := hr.cl
  have s1 := isRun_spec r
  rw [hv] at s1
  have s2 : APure Try.prog 45 [.int .i64 (k : Int), .int .i64 1, .int .i64 ((r.rows.map encRw).length : Int)] (.bool true) := by
    have := within_spec k 1 r.rows.length
    rw [within_iff.2 ⟨by omega, by omega⟩] at this
    rw [List.length_map]; exact this
  have s3 := atWork_spec hr
  have s4 : APure Try.prog 52 [.cptr (workL r (mfK r r.rows.length) (cfK r r.rows.length)), .int .i64 (k : Int)] (.bool true) := by
    rw [← hb]; unfold workL; exact blind_spec r _ _ (by omega)
  obtain ⟨W, hW⟩ : ∃ W, W = workL r (mfK r r.rows.length) (cfK r r.rows.length) := ⟨_, rfl⟩
  have hl : W.length = 250 := by rw [hW]; exact workL_len _ _ _
  have hc : W.all cellB = true := by rw [hW]; exact workL_cellB _ _ _
  have hok : okL 0 W = true := by rw [hW]; exact workL_ok _ _ _ _
  rw [← hW] at s3 s4
  have th : thawL (hget [(0, .cells (runL r)), (1, .cells [.int .i64 0, .int .i64 0]), (2, .cells W)]) [.vptr 2 0, .int .i64 (k : Int)] = some ([.cptr W, .int .i64 (k : Int)], [2]) := thaw_W rfl hok
  have st : aStore Try.prog (hget [(0, .cells (runL r)), (1, .cells [.int .i64 0, .int .i64 0]), (2, .cells Z101)]) 101 (.vptr 2 0) (.agg W) = some ⟨.undef, [(2, some (.cells W))]⟩ := stW2 rfl hl hc
  clear hW
  exact APure.vc Try.func18 rfl (.call (.bool true) <| .call (.bool true) <| .call (.agg W) <| .val 6 (.vptr 2 0) [(2, some (.cells Z101))] <| .val 1 .undef [(2, some (.cells W))] <| .lent (.bool true) [2] .nil) rfl rfl
    ⟨s1, s2, s3, by kernel_rfl, Eq.trans (by kernel_rfl) st, ⟨[.cptr W, .int .i64 (k : Int)], Eq.trans (by kernel_rfl) th, .inl ⟨s4, .inr rfl⟩⟩, trivial, by kernel_rfl⟩
set_option maxHeartbeats 16000000 in
set_option maxRecDepth 100000 in
theorem Mean_ok {r : Rn} (hv : runB r = true) {k : Nat} (h1 : 1 ≤ k) (h2 : k ≤ r.rows.length) (hb : blindB r (k : Int) = false) : APure Try.prog 18 [encRn r, .int .i64 (k : Int)] (.tup [.agg [.int .i64 (mLo r k), .int .i64 (mHi r k)], .int .i64 0]) := by
  have hr := runB_out hv
  have hcl := hr.cl
  have hrl := hr.rl
  have s1 := isRun_spec r
  rw [hv] at s1
  have s2 : APure Try.prog 45 [.int .i64 (k : Int), .int .i64 1, .int .i64 ((r.rows.map encRw).length : Int)] (.bool true) := by
    have := within_spec k 1 r.rows.length
    rw [within_iff.2 ⟨by omega, by omega⟩] at this
    rw [List.length_map]; exact this
  have s3 := atWork_spec hr
  have s4 : APure Try.prog 52 [.cptr (workL r (mfK r r.rows.length) (cfK r r.rows.length)), .int .i64 (k : Int)] (.bool false) := by
    rw [← hb]; unfold workL; exact blind_spec r _ _ (by omega)
  obtain ⟨W, hW⟩ : ∃ W, W = workL r (mfK r r.rows.length) (cfK r r.rows.length) := ⟨_, rfl⟩
  have hl : W.length = 250 := by rw [hW]; exact workL_len _ _ _
  have hc : W.all cellB = true := by rw [hW]; exact workL_cellB _ _ _
  have hok : okL 0 W = true := by rw [hW]; exact workL_ok _ _ _ _
  rw [← hW] at s3 s4
  have th : thawL (hget [(0, .cells (runL r)), (1, .cells [.int .i64 0, .int .i64 0]), (2, .cells W)]) [.vptr 2 0, .int .i64 (k : Int)] = some ([.cptr W, .int .i64 (k : Int)], [2]) := thaw_W rfl hok
  have st : aStore Try.prog (hget [(0, .cells (runL r)), (1, .cells [.int .i64 0, .int .i64 0]), (2, .cells Z101)]) 101 (.vptr 2 0) (.agg W) = some ⟨.undef, [(2, some (.cells W))]⟩ := stW2 rfl hl hc
  have ld : aLoad Try.prog (hget [(0, .cells (runL r)), (1, .cells [.int .i64 0, .int .i64 0]), (2, .cells W)]) 26 (.vptr 2 (6 + k * 2)) = some ⟨.agg [.int .i64 (mLo r k), .int .i64 (mHi r k)], []⟩ := by
    rw [← mfK_at h1 h2 hb]; exact ldM (by rw [hW]; rfl) (by omega)
  have ix : (aindexAddr Try.prog (hget [(0, .cells (runL r)), (1, .cells [.int .i64 0, .int .i64 0]), (2, .cells W)]) 99 (.vptr 2 6) (.int .i64 (k : Int))).map (fun v => (⟨v, []⟩ : Out)) = some ⟨.vptr 2 (6 + k * 2), []⟩ := by
    rw [arrIx rfl (by omega)]; rfl
  clear hW
  exact APure.vc Try.func18 rfl (.call (.bool true) <| .call (.bool true) <| .call (.agg W) <| .val 6 (.vptr 2 0) [(2, some (.cells Z101))] <| .val 1 .undef [(2, some (.cells W))] <| .lent (.bool false) [2] <| .val 25 (.vptr 2 (6 + k * 2)) [] <| .val 26 (.agg [.int .i64 (mLo r k), .int .i64 (mHi r k)]) [] .nil) rfl rfl
    ⟨s1, s2, s3, by kernel_rfl, Eq.trans (by kernel_rfl) st, ⟨[.cptr W, .int .i64 (k : Int)], Eq.trans (by kernel_rfl) th, .inl ⟨s4, .inr rfl⟩⟩, Eq.trans (by kernel_rfl) ix, Eq.trans (by kernel_rfl) ld, trivial, by kernel_rfl⟩
end Go.Proofs.Yticiopkiikcokaa
