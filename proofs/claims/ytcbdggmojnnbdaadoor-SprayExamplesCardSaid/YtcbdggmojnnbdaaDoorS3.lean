/-
  THE LIST OF A SET: in increasing order, whatever order the map is ranged over in.
-/
import Derived.Test.YtcbdggmojnnbdaaDoorS2
namespace Go.Proofs.YtcbdggmojnnbdaaDoor
open Go Go.Am Go.Srt
set_option maxRecDepth 100000
set_option maxHeartbeats 16000000
def keysCl (o : List Int) : AV := .fn (.func 104) [] [.cptr [.imap (entsO o)]]
theorem Keys_spec (o : List Int) : APure Tryd.prog 92 [.imap (entsO o)] (keysCl o) :=
  APure.vcT Tryd.func92 .nil rfl rfl ⟨[0], by kernel_rfl⟩
noncomputable def asgA : Code := rfA Tryd.f109
noncomputable def bodA : Code := rfB Tryd.f109
theorem listOf_spec (o : List Int) (ho : o.Pairwise (fun a b => a < b)) (h12 : o.length ≤ 12) : APureF Tryd.prog 69 [.imap (entsO o)] (encR o) := by
  have sK := Keys_spec o
  have hu : ∀ l : List Int, l.Perm o → Sd ltI l → l = o := fun l hp hs => uniq ordI hp (ho.imp fun {a b} h => by simpa [ltI] using h) hs
  refine APureF.vcM Tryd.func69 (.call (keysCl o) <| .inl Tryd.f91 <| .inl Tryd.f102 <| .inl Tryd.f109 <| .inl Tryd.f104 .loop) rfl rfl
    ⟨sK, Tryd.func91, Tryd.func102, Tryd.func109, Tryd.func104, ?_⟩
  intro g hn hl
  replace hn : g.n = 14 := hn
  replace hl : g.low 2 := hl
  refine acode_whileW (fun q : Option Int × List Int × List Int => ⟨[(0, .yld 1), (5, .vptr 2 0)],
      [(0, .cells [.rsl 3 0 q.2.1.length 1]), (1, .loop ⟨.ready, none, 13, [(2, .vptr 0 0)], #[7], asgA, bodA⟩), (2, .iter (q.1.map entO) (entsO q.2.2)), (3, .cells (iL q.2.1))], 4⟩)
    (fun q => (q.2.1 ++ q.2.2).Perm o) (fun q => q.2.2.length) (none, [], o) (List.Perm.refl _) ?_ ?_
  · refine Wk.trans (Wk.le ?_ (hl.mono (show 2 ≤ 4 by decide))) (Wk.trans (Wk.ownC 0 0 1 (cs := [.nil]) (by kernel_rfl) rfl) (Wk.loopEnv (id := 1) (n := 2) [(2, .vptr 0 0)] rfl ⟨rfl, rfl, trivial⟩))
    exact St.le.of ⟨by kernel_rfl, rfl, by kernel_rfl, rfl, trivial⟩ ⟨by kernel_rfl, (by decide : (0 : Nat) < 4), rfl, by kernel_rfl, (by decide : (1 : Nat) < 4), rfl, by kernel_rfl, (by decide : (2 : Nat) < 4), okIter _ none _, by kernel_rfl, (by decide : (3 : Nat) < 4), iL_ok _ _, trivial⟩
  · rintro ⟨c, done, left⟩ hp
    replace hp : (done ++ left).Perm o := hp
    have hlen := hp.length_eq
    rw [List.length_append] at hlen
    have hD : ∀ j x, left[j]? = some x → left.getD j 0 = x := fun j x hj => by rw [List.getD_eq_getElem?_getD, hj]; rfl
    have hQ : ∀ (j : Nat) (x : Int), left[j]? = some x → ((done ++ [left.getD j 0]) ++ left.eraseIdx j).Perm o ∧ (left.eraseIdx j).length < left.length := fun j x hj => by
      obtain ⟨hj', e⟩ := List.getElem?_eq_some_iff.1 hj
      rw [hD j x hj]
      refine ⟨?_, by rw [List.length_eraseIdx, if_pos hj']; omega⟩
      have := perm_erase hj
      rw [List.append_assoc]
      exact ((List.Perm.refl done).append (by simpa using this)).trans hp
    have hO : ∀ (j : Nat) (x : Int), left[j]? = some x → some (AObj.iter (some (entO x)) ((entsO left).eraseIdx j)) = some (.iter (Option.map entO (some (left.getD j 0))) (entsO (left.eraseIdx j))) := fun j x hj => by
      rw [hD j x hj]
      unfold entsO
      rw [map_erase]; rfl
    have hA : ∀ (j : Nat) (x : Int), left[j]? = some x → aAppend Tryd.prog (hget [(3, .cells (iL done)), (4, .cells [.int .i64 (left.getD j 0)])]) 5 23 23 (.rsl 3 0 done.length 1) (.rsl 4 0 1 1) = some ⟨.rsl 5 0 (done.length + 1) 1, [(3, none), (5, some (.cells (iL (done ++ [left.getD j 0]))))]⟩ := fun j x hj => by
      exact app_one rfl rfl (by omega)
    have hV : ∀ (j : Nat) (x : Int), left[j]? = some x → some (⟨.int .i64 x, []⟩ : Out) = some ⟨.int .i64 (left.getD j 0), []⟩ := fun j x hj => by rw [hD j x hj]
    have hL : ∀ j : Nat, (done ++ [left.getD j 0]).length = done.length + 1 := fun j => by simp
    have hE : entsO left = [] → left = [] := fun e => List.map_eq_nil_iff.1 e
    have fin : entsO left = [] → ∀ cs', SrtQ done cs' → ∃ is, thawF 8 (hget [(0, .cells [.rsl 3 0 done.length 1]), (2, .iter (c.map entO) (entsO left)), (3, .cells cs')]) (.rsl 3 0 done.length 1) = some (encR o, is) := fun e cs' ⟨S', h1, h2, h3⟩ => by
      have e2 := hE e
      rw [e2, List.append_nil] at hp
      have e3 : S' = o := hu S' (h1.trans hp) h2
      have hd : done.length = o.length := hp.length_eq
      have := thawF_ints 6 (h := hget [(0, .cells [.rsl 3 0 done.length 1]), (2, .iter (c.map entO) (entsO left)), (3, .cells cs')]) (id := 3) (l := o) (by rw [h3, e3]; rfl)
      rw [← hd] at this
      exact ⟨_, this⟩
    have sS := Sort_spec done (N := done.length) rfl (by omega)
    refine ACode.vcM (.nxt .nil fun j => .val 11 (.int .i64 (left.getD j 0)) [] <| .val 11 (.rsl 5 0 (done.length + 1) 1) [(3, none), (5, some (.cells (iL (done ++ [left.getD j 0]))))] .nil) hn hl (.roundW .cl) ⟨fun e => ⟨_, .refl _, .inl Tryd.f103 <| .nz .nil, Tryd.func103,
        AMut.use (id := 3) sS rfl rfl (iL_ok 0 _) (fun _ h => SrtQ.ok h) (by kernel_rfl) fun cs' hq => Exists.elim (fin e cs' hq) fun is ht => ⟨is, Eq.trans (by kernel_rfl) ht⟩⟩,
      nxtO fun j x hj => ⟨Eq.trans (by kernel_rfl) (hV j x hj), Eq.trans (by kernel_rfl) (hA j x hj), (some (left.getD j 0), done ++ [left.getD j 0], left.eraseIdx j), (hQ j x hj).1, (hQ j x hj).2, ?_⟩⟩
    refine Wk.renC (c := 3) (b := 5) (St.renC.of rfl (.inl (by decide)) ⟨.eq (by kernel_rfl) rfl, .eq (by kernel_rfl) rfl, trivial⟩
      ⟨rvO.turn (by decide : (0 : Nat) < 3) (ys := [.rsl 5 0 (done.length + 1) 1]) (by kernel_rfl) ⟨?_, trivial⟩, rvO.same (by decide : (1 : Nat) < 3) (by kernel_rfl) rfl, rvO.same (by decide : (2 : Nat) < 3) (Eq.trans (by kernel_rfl) (hO j x hj)) (okIter _ (some _) _), rvO.new (by kernel_rfl) (iL_ok _ _), trivial⟩) (hl.mono (by decide))
    show RV 3 5 (.rsl 3 0 (done ++ [left.getD j 0]).length 1) _
    rw [hL]
    exact .rsl
end Go.Proofs.YtcbdggmojnnbdaaDoor
