import Derived.Test.YticiopkiikcokaaPf
import Derived.Test.YticiopkiikcokaaN20
import Derived.Test.YticiopkiikcokaaNSr
namespace Go.Proofs.Yticiopkiikcokaa
open Go Go.Am Go.Srt
/-- What is told of a limit. -/
structure Br where
  m : Int
  k : Int
  c : Int
  n : Int
  deriving DecidableEq
/-- The kind as the order reads it. -/
def kk (b : Br) : Int := IntKind.i64.wrap b.k
theorem kk_of {b : Br} {n : Int} (h : b.k = n) (h1 : 0 ≤ n) (h2 : n ≤ 9) : kk b = n := by unfold kk; rw [h]; exact wrap64 (by omega) (by omega)
def ltBr (a b : Br) : Bool := decide (a.m < b.m) || (decide (a.m = b.m) && (decide (kk a < kk b) || (decide (kk a = kk b) && decide (a.c < b.c))))
theorem ltBr_iff {a b : Br} : ltBr a b = true ↔ a.m < b.m ∨ a.m = b.m ∧ (kk a < kk b ∨ kk a = kk b ∧ a.c < b.c) := by simp [ltBr]
theorem ltBr_not {a b : Br} : ltBr a b = false ↔ ¬ (a.m < b.m ∨ a.m = b.m ∧ (kk a < kk b ∨ kk a = kk b ∧ a.c < b.c)) := by
  rw [← ltBr_iff]; simp
theorem ordBr : SOrd ltBr := ⟨fun a b h => by rw [ltBr_not]; rw [ltBr_iff] at h; omega, fun a b c h1 h2 => by rw [ltBr_not] at *; omega⟩
theorem flat_sorted {f : Nat → List Br} (hm : ∀ i, ∀ b ∈ f i, b.m = (i : Int) + 1) (hs : ∀ i, (f i).Pairwise fun a b => ltBr a b = true) : ∀ l : List Nat, l.Pairwise (· < ·) → (l.flatMap f).Pairwise fun a b => ltBr a b = true := by
  intro l
  induction l with
  | nil => intro _; simp
  | cons i l ih =>
    intro hl
    have hp := List.pairwise_cons.1 hl
    rw [List.flatMap_cons]
    refine List.pairwise_append.2 ⟨hs i, ih hp.2, fun a ha b hb => ?_⟩
    obtain ⟨j, hj, hb⟩ := List.mem_flatMap.1 hb
    have h1 := hm i a ha
    have h2 := hm j b hb
    have := hp.1 j hj
    rw [ltBr_iff]; omega
theorem four_sorted {m : Int} {b1 b2 b3 b4 : List Br} (h : ∀ b ∈ b1 ++ (b2 ++ (b3 ++ b4)), b.m = m) (k1 : ∀ b ∈ b1, b.k = 1) (k2 : ∀ b ∈ b2, b.k = 2) (k3 : ∀ b ∈ b3, b.k = 3) (k4 : ∀ b ∈ b4, b.k = 4)
    (s1 : b1.length ≤ 1) (s2 : b2.length ≤ 1) (s3 : b3.Pairwise fun a b => a.c < b.c) (s4 : b4.length ≤ 1) : (b1 ++ (b2 ++ (b3 ++ b4))).Pairwise fun a b => ltBr a b = true := by
  have one : ∀ l : List Br, l.length ≤ 1 → l.Pairwise fun a b => ltBr a b = true := fun l hl => by
    match l, hl with
    | [], _ => simp
    | [a], _ => simp
  refine List.pairwise_append.2 ⟨one _ s1, List.pairwise_append.2 ⟨one _ s2, List.pairwise_append.2 ⟨?_, one _ s4, fun a ha b hb => ?_⟩, fun a ha b hb => ?_⟩, fun a ha b hb => ?_⟩
  · refine List.Pairwise.imp_of_mem (fun ha hb hc => ?_) s3
    have := h _ (List.mem_append_right _ (List.mem_append_right _ (List.mem_append_left _ ha)))
    have := h _ (List.mem_append_right _ (List.mem_append_right _ (List.mem_append_left _ hb)))
    have := kk_of (k3 _ ha) (by omega) (by omega)
    have := kk_of (k3 _ hb) (by omega) (by omega)
    rw [ltBr_iff]; omega
  · have := h _ (List.mem_append_right _ (List.mem_append_right _ (List.mem_append_left _ ha)))
    have := h _ (List.mem_append_right _ (List.mem_append_right _ (List.mem_append_right _ hb)))
    have := kk_of (k3 _ ha) (by omega) (by omega)
    have := kk_of (k4 _ hb) (by omega) (by omega)
    rw [ltBr_iff]; omega
  · have := h _ (List.mem_append_right _ (List.mem_append_left _ ha))
    have := h _ (List.mem_append_right _ (List.mem_append_right _ hb))
    have := kk_of (k2 _ ha) (by omega) (by omega)
    have : kk b = 3 ∨ kk b = 4 := by
      rcases List.mem_append.1 hb with hb | hb
      · exact .inl (kk_of (k3 _ hb) (by omega) (by omega))
      · exact .inr (kk_of (k4 _ hb) (by omega) (by omega))
    rw [ltBr_iff]; omega
  · have := h _ (List.mem_append_left _ ha)
    have := h _ (List.mem_append_right _ hb)
    have := kk_of (k1 _ ha) (by omega) (by omega)
    have : kk b = 2 ∨ kk b = 3 ∨ kk b = 4 := by
      rcases List.mem_append.1 hb with hb | hb
      · exact .inl (kk_of (k2 _ hb) (by omega) (by omega))
      · rcases List.mem_append.1 hb with hb | hb
        · exact .inr (.inl (kk_of (k3 _ hb) (by omega) (by omega)))
        · exact .inr (.inr (kk_of (k4 _ hb) (by omega) (by omega)))
    rw [ltBr_iff]; omega

def encBr (b : Br) : List AV := [.int .i64 b.m, .int .u8 b.k, .int .i64 b.c, .int .u8 b.n]
def brs (l : List Br) : List AV := fl encBr l
theorem brs_len (l : List Br) : (brs l).length = l.length * 4 := fl_len (enc := encBr) (n := 4) (fun _ => rfl) l
theorem brs_ok (n : Nat) (l : List Br) : okL n (brs l) = true := fl_ok (enc := encBr) (fun _ => rfl) l
theorem brs_app (a b : List Br) : brs (a ++ b) = brs a ++ brs b := by simp [brs, fl]
theorem brs_cons (a : Br) (b : List Br) : brs (a :: b) = encBr a ++ brs b := rfl
theorem brs_flat (l : List Br) : ∀ c ∈ brs l, c.flat = true := by
  intro c hc
  obtain ⟨b, _, hb⟩ := List.mem_flatMap.1 hc
  simp only [encBr, List.mem_cons, List.not_mem_nil, or_false] at hb
  rcases hb with rfl | rfl | rfl | rfl <;> rfl
theorem splice_mid : ∀ (xs A M B : List AV), M.length = xs.length → splice (A ++ (M ++ B)) A.length xs = A ++ (xs ++ B) := by
  intro xs
  induction xs with
  | nil => intro A M B h; simp at h; subst h; rfl
  | cons x xs ih =>
    intro A M B h
    cases M with
    | nil => simp at h
    | cons m M =>
      have e : splice (A ++ (m :: M ++ B)) A.length (x :: xs) = splice ((A ++ (m :: M ++ B)).set A.length x) (A.length + 1) xs := rfl
      rw [e, List.set_append_right _ _ (Nat.le_refl _), Nat.sub_self, List.cons_append, List.set_cons_zero]
      have := ih (A ++ [x]) M B (by simpa using h)
      simp only [List.append_assoc, List.singleton_append, List.length_append, List.length_singleton] at this
      exact this
theorem split1 {α : Type} {l : List α} {k : Nat} {b : α} (h : l[k]? = some b) : ∃ P R, l = P ++ b :: R ∧ P.length = k := by
  obtain ⟨h1, h2⟩ := List.getElem?_eq_some_iff.1 h
  refine ⟨l.take k, l.drop (k + 1), ?_, by simp; omega⟩
  rw [← h2, ← List.drop_eq_getElem_cons h1, List.take_append_drop]
theorem ldB {h : Nat → Option AObj} {id k : Nat} {l : List Br} {b : Br} (h0 : h id = some (.cells (brs l))) (hk : l[k]? = some b) : aLoad Try.prog h 71 (.vptr id (0 + k * 4)) = some ⟨.agg (encBr b), []⟩ := by
  obtain ⟨P, R, rfl, hP⟩ := split1 hk
  have e : (brs (P ++ b :: R)).drop (0 + k * 4) = encBr b ++ brs R := by
    rw [brs_app, brs_cons, Nat.zero_add, ← hP, ← brs_len, List.drop_left]
  simp only [aLoad, ty71, h0, e, aread]
  have ha : (TD.struct [(0, 3, false), (1, 5, false), (2, 3, false), (3, 5, false)]).agg = true := rfl
  have h4 : 4 ≤ (encBr b ++ brs R).length := by rw [List.length_append]; show 4 ≤ 4 + _; omega
  have e4 : (encBr b ++ brs R).take 4 = encBr b := rfl
  rw [if_pos ha, if_pos h4, e4]; rfl
theorem stB {h : Nat → Option AObj} {id k : Nat} {l : List Br} {b : Br} (h0 : h id = some (.cells (brs l))) (hk : k < l.length) :
    aStore Try.prog h 71 (.vptr id (0 + k * 4)) (.agg (encBr b)) = some ⟨.undef, [(id, some (.cells (brs (l.set k b))))]⟩ := by
  obtain ⟨a, ha⟩ := getE hk
  obtain ⟨P, R, rfl, hP⟩ := split1 ha
  have e : splice (brs (P ++ a :: R)) (0 + k * 4) (encBr b) = brs ((P ++ a :: R).set k b) := by
    rw [set1 hP.symm, brs_app, brs_app, brs_cons, brs_cons, Nat.zero_add, ← hP, ← brs_len]
    exact splice_mid _ _ _ _ rfl
  have hl : 0 + k * 4 + (encBr b).length ≤ (brs (P ++ a :: R)).length := by
    rw [brs_len]; show 0 + k * 4 + 4 ≤ _; omega
  simp only [aStore, ty71, acells, h0]
  rw [if_pos ⟨rfl, hl, rfl⟩, e]
theorem ixB {h : Nat → Option AObj} {id n k : Nat} {i : Int} (hi : i = (k : Int)) (hk : k < n) : aindexAddr Try.prog h 49 (.rsl id 0 n 4) (.int .i64 i) = some (.vptr id (0 + k * 4)) := by
  subst hi
  simp only [aindexAddr, ty49, ty71]
  rw [if_pos ⟨trivial, Int.natCast_nonneg _, by simpa using hk⟩]; rfl
end Go.Proofs.Yticiopkiikcokaa
namespace Go.Proofs.Yticiopkiikcokaa
open Go Go.Am Go.Srt
theorem ixO {h : Nat → Option AObj} {id n k : Nat} {i : Int} (hi : i = (k : Int)) (hk : k < n) : (aindexAddr Try.prog h 49 (.rsl id 0 n 4) (.int .i64 i)).map (fun v => (⟨v, []⟩ : Out)) = some ⟨.vptr id (0 + k * 4), []⟩ := by
  rw [ixB hi hk]; rfl
theorem brs_okc (l : List Br) : okO 1 (.cells (brs l)) = true := brs_ok 1 l
theorem add64 {a b : Nat} (h : a + b < 1000000) : IntKind.i64.wrap ((a : Int) + (b : Int)) = ((a + b : Nat) : Int) := by rw [wrap64 (by omega) (by omega)]; omega
theorem sub64 {a b : Nat} (h : b ≤ a) (h2 : a < 1000000) : IntKind.i64.wrap ((a : Int) - (b : Int)) = ((a - b : Nat) : Int) := by rw [wrap64 (by omega) (by omega)]; omega
set_option maxHeartbeats 8000000 in
set_option maxRecDepth 100000 in
theorem swap_spec (X A M B Y : List Br) (C : AV) {N a b n : Nat} (hA : A.length = B.length) (hN : N = (X ++ (A ++ (M ++ (B ++ Y)))).length) (hs : N ≤ 100000) (ha : a = X.length) (hb : b = X.length + A.length + M.length) (hn' : n = B.length) :
    AMut Try.prog Try.f112 N 4 [.int .i64 a, .int .i64 b, .int .i64 n, C] (brs (X ++ (A ++ (M ++ (B ++ Y))))) .undef (fun cs' => cs' = brs (X ++ (B ++ (M ++ (A ++ Y))))) := by
  have hN' : N = X.length + (A.length + (M.length + (B.length + Y.length))) := by rw [hN]; simp only [List.length_append]
  refine AMut.vc .loop ?_
  intro g hn hl
  replace hn : g.n = 38 := hn
  replace hl : g.low 1 := hl
  refine acode_while (fun k : Nat => ⟨[(0, .rsl 0 0 N 4), (1, .int .i64 a), (2, .int .i64 b), (3, .int .i64 n), (10, .int .i64 k)], [(0, .cells (brs (swr X A M B Y k)))], 1⟩) (fun k => k ≤ B.length) (fun k => B.length - k) 0 (Nat.zero_le _) ?_ (fun _ _ => hl) ?_
  · rw [swr_zero]
    exact St.le.of ⟨rfl, rfl, rfl, rfl, rfl, rfl, rfl, rfl, rfl, rfl, trivial⟩ ⟨rfl, Nat.zero_lt_one, brs_ok _ _, trivial⟩
  · intro k hk
    by_cases hlt : k < B.length
    · refine Exists.elim (swr_split (X := X) (M := M) (Y := Y) hA hlt) fun P h => Exists.elim h fun Q h => Exists.elim h fun R h => Exists.elim h fun x h => Exists.elim h fun y h => ?_
      have hP := h.1
      have hQ := h.2.1
      have e1 := h.2.2.1
      have e2 := h.2.2.2
      have ei : IntKind.i64.wrap ((a : Int) + (k : Int)) = ((a + k : Nat) : Int) := add64 (by omega)
      have ej : IntKind.i64.wrap ((b : Int) + (k : Int)) = ((b + k : Nat) : Int) := add64 (by omega)
      have ix1 := ixO (h := hget []) (id := 0) (n := N) ei (by omega)
      have ix2 := ixO (h := hget []) (id := 0) (n := N) ej (by omega)
      have eP : a + k = P.length := by omega
      have eQ : b + k = P.length + 1 + Q.length := by omega
      rw [e1]
      have gx : (P ++ x :: (Q ++ y :: R))[a + k]? = some x := get1 eP
      have gy : (P ++ x :: (Q ++ y :: R))[b + k]? = some y := get2 eQ
      have hlen : (P ++ x :: (Q ++ y :: R)).length = P.length + 1 + Q.length + 1 + R.length := by simp; omega
      have sw : ((P ++ x :: (Q ++ y :: R)).set (a + k) y).set (b + k) x = swr X A M B Y (k + 1) := by rw [swap2 eP eQ, e2]
      generalize (P ++ x :: (Q ++ y :: R)) = L at gx gy hlen sw
      have l1 := ldB (h := hget [(0, .cells (brs L))]) (id := 0) (l := L) rfl gy
      have l2 := ldB (h := hget [(0, .cells (brs L))]) (id := 0) (l := L) rfl gx
      have s1 := stB (h := hget [(0, .cells (brs L))]) (id := 0) (l := L) (b := y) rfl (show a + k < L.length by omega)
      have s2 := stB (h := hget [(0, .cells (brs (L.set (a + k) y)))]) (id := 0) (l := L.set (a + k) y) (b := x) rfl (show b + k < (L.set (a + k) y).length by rw [List.length_set]; omega)
      rw [sw] at s2
      exact ACode.vcM (.br 13 true <| .draw 22 <| .val 28 (.vptr 0 (0 + (b + k) * 4)) [] <| .val 29 (.agg (encBr y)) [] <| .val 34 (.vptr 0 (0 + (a + k) * 4)) [] <| .val 35 (.agg (encBr x)) [] <| .val 36 (.vptr 0 (0 + (a + k) * 4)) [] <|
          .val 1 .undef [(0, some (.cells (brs (L.set (a + k) y))))] <| .val 37 (.vptr 0 (0 + (b + k) * 4)) [] <| .val 1 .undef [(0, some (.cells (brs (swr X A M B Y (k + 1)))))] .nil) hn hl (.round .cl)
        ⟨decide_eq_true (by omega), by kernel_rfl, mixed, by kernel_rfl, Eq.trans (by kernel_rfl) ix2, Eq.trans (by kernel_rfl) l1, Eq.trans (by kernel_rfl) ix1, Eq.trans (by kernel_rfl) l2, Eq.trans (by kernel_rfl) ix1, Eq.trans (by kernel_rfl) s1, by kernel_rfl, Eq.trans (by kernel_rfl) ix2, Eq.trans (by kernel_rfl) s2,
          k + 1, hlt, mu1 hlt, St.le.of ⟨rfl, rfl, rfl, rfl, rfl, rfl, rfl, rfl, congrArg _ (succ64 (by omega)), rfl, trivial⟩ ⟨rfl, Nat.zero_lt_one, brs_ok _ _, trivial⟩⟩
    · have hk' : k = B.length := by omega
      subst hk'
      rw [swr_end hA]
      exact ACode.vcM (.br 13 false .nil) hn hl (.round .cl) ⟨decide_eq_false (by omega), _, .refl _, .nil, rfl, _, rfl, rfl⟩
theorem swap_at (X A M B Y : List Br) (C : AV) {N : Nat} {a b n : Int} (hA : A.length = B.length) (hN : N = (X ++ (A ++ (M ++ (B ++ Y)))).length) (hs : N ≤ 100000) (ha : a = (X.length : Int)) (hb : b = ((X.length + A.length + M.length : Nat) : Int)) (hn' : n = (B.length : Int)) :
    AMut Try.prog Try.f112 N 4 [.int .i64 a, .int .i64 b, .int .i64 n, C] (brs (X ++ (A ++ (M ++ (B ++ Y))))) .undef (fun cs' => cs' = brs (X ++ (B ++ (M ++ (A ++ Y))))) := by
  subst ha; subst hb; subst hn'
  exact swap_spec X A M B Y C hA hN hs rfl rfl rfl
/-- What is owed for a call that exchanges. -/
theorem AMut.br {fn : Func} {N : Nat} {rest : List AV} {l : List Br} {v : AV} {Q : List AV → Prop} (h : AMut Try.prog fn N 4 rest (brs l) v Q) (hrest : okL 0 rest = true) (hv : v.ok 0 = true)
    (hq : ∀ cs', Q cs' → ∃ l', cs' = brs l') {H : AHeap} {id nx : Nat} (hid : hget H id = some (.cells (brs l))) {K : AV → AHeap → Nat → Prop} (hk : ∀ cs', Q cs' → K v (hset H id (.cells cs')) nx) :
    ∃ Post : AV → AHeap → Nat → Prop, (∀ f, Try.prog.funcs[f]? = some fn → RangeOk Try.prog f (.rsl id 0 N 4 :: rest) H nx Post) ∧ ∀ r H' nx', Post r H' nx' → K r H' nx' :=
  h.use hrest hv (brs_ok 0 l) (fun cs' hQ => by obtain ⟨l', rfl⟩ := hq cs' hQ; exact brs_ok 0 l') hid hk
end Go.Proofs.Yticiopkiikcokaa
namespace Go.Proofs.Yticiopkiikcokaa
open Go Go.Am Go.Srt
structure Rot where
  P : List Br
  A : List Br
  B : List Br
  S : List Br
def Rot.all (X Y : List Br) (o : Rot) : List Br := X ++ (o.P ++ (o.A ++ (o.B ++ (o.S ++ Y))))
set_option maxHeartbeats 8000000 in
set_option maxRecDepth 100000 in
theorem rot_spec (X A B Y : List Br) (C : AV) (hC : ∀ n, C.ok n = true) {N a m b : Nat} (hA : 0 < A.length) (hB : 0 < B.length) (hN : N = (X ++ (A ++ (B ++ Y))).length) (hs : N ≤ 100000) (ha : a = X.length) (hm : m = X.length + A.length) (hb : b = X.length + A.length + B.length) :
    AMut Try.prog Try.f111 N 4 [.int .i64 a, .int .i64 m, .int .i64 b, C] (brs (X ++ (A ++ (B ++ Y)))) .undef (fun cs' => cs' = brs (X ++ (B ++ (A ++ Y)))) := by
  have hN' : N = X.length + (A.length + (B.length + Y.length)) := by rw [hN]; simp only [List.length_append]
  have e1 : IntKind.i64.wrap ((m : Int) - (a : Int)) = (A.length : Int) := by rw [sub64 (by omega) (by omega)]; congr 1; omega
  have e2 : IntKind.i64.wrap ((b : Int) - (m : Int)) = (B.length : Int) := by rw [sub64 (by omega) (by omega)]; congr 1; omega
  refine AMut.vc .loop ?_
  intro g hn hl
  replace hn : g.n = 58 := hn
  replace hl : g.low 1 := hl
  refine acode_while (fun o : Rot => ⟨[(0, .rsl 0 0 N 4), (2, .int .i64 m), (4, C), (10, .int .i64 o.A.length), (11, .int .i64 o.B.length)], [(0, .cells (brs (o.all X Y)))], 1⟩)
    (fun o => X.length + o.P.length + o.A.length = m ∧ o.P ++ (o.B ++ (o.A ++ o.S)) = B ++ A ∧ 0 < o.A.length ∧ 0 < o.B.length) (fun o => o.A.length + o.B.length) ⟨[], A, B, []⟩ ⟨by simp; omega, by simp, hA, hB⟩ ?_ (fun _ _ => hl) ?_
  · exact St.le.of ⟨rfl, rfl, rfl, rfl, rfl, hC 1, congrArg (AV.int .i64) e1, rfl, congrArg (AV.int .i64) e2, rfl, trivial⟩ ⟨rfl, Nat.zero_lt_one, brs_ok _ _, trivial⟩
  · rintro ⟨P, A', B', S⟩ ⟨h1, h2, h3, h4⟩
    simp only [Rot.all] at h1 h2 h3 h4 ⊢
    have hl2 := congrArg List.length h2
    simp only [List.length_append] at hl2
    have ei : IntKind.i64.wrap ((m : Int) - (A'.length : Int)) = ((X ++ P).length : Int) := by rw [sub64 (by omega) (by omega), List.length_append]; congr 1; omega
    rcases Nat.lt_trichotomy A'.length B'.length with hlt | heq | hgt
    · obtain ⟨B1, B2, rfl, hb1⟩ := split2 (l := B') (a := B'.length - A'.length) (by omega)
      have hx : (B1 ++ B2).length = B1.length + B2.length := List.length_append
      have hy : (X ++ P).length = X.length + P.length := List.length_append
      have sw := swap_at (X ++ P) A' B1 B2 (S ++ Y) C (N := N) (a := IntKind.i64.wrap ((m : Int) - (A'.length : Int))) (b := IntKind.i64.wrap (IntKind.i64.wrap ((m : Int) + ((B1 ++ B2).length : Int)) - (A'.length : Int))) (n := (A'.length : Int)) (by omega) (by simp only [List.length_append]; omega) hs ei
        (by rw [add64 (by omega), sub64 (by omega) (by omega)]; congr 1; omega) (by omega)
      have c1 : X ++ (P ++ (A' ++ (B1 ++ B2 ++ (S ++ Y)))) = X ++ P ++ (A' ++ (B1 ++ (B2 ++ (S ++ Y)))) := by simp
      have c2 : X ++ P ++ (B2 ++ (B1 ++ (A' ++ (S ++ Y)))) = X ++ (P ++ (B2 ++ (B1 ++ ((A' ++ S) ++ Y)))) := by simp
      have n1 : (A'.length : Int) = (B2.length : Int) := by omega
      have n2 : IntKind.i64.wrap (((B1 ++ B2).length : Int) - (A'.length : Int)) = (B1.length : Int) := by rw [sub64 (by omega) (by omega)]; congr 1; omega
      have ho : okL 0 [.int .i64 (IntKind.i64.wrap ((m : Int) - (A'.length : Int))), .int .i64 (IntKind.i64.wrap (IntKind.i64.wrap ((m : Int) + ((B1 ++ B2).length : Int)) - (A'.length : Int))), .int .i64 (A'.length : Int), C] = true := by simp [okL, AV.ok, hC]
      have f1 : X.length + P.length + B2.length = m := by omega
      have f2 : P ++ (B1 ++ (B2 ++ (A' ++ S))) = B ++ A := by rw [← h2]; simp
      have f3 : 0 < B2.length := by omega
      have f4 : 0 < B1.length := by omega
      have f5 : B2.length + B1.length < A'.length + (B1 ++ B2).length := by omega
      rw [c1]
      refine ACode.vcM (.br 20 true <| .br 23 false <| .inl Try.f112 <| .nz .nil) hn hl (.round .cl) ⟨?_, decide_eq_false (by omega), Try.func112, AMut.br sw ho rfl (fun cs' h => ⟨_, h⟩) rfl fun cs' hQ => ?_⟩
      · simp; omega
      · have hQ' := hQ.trans (congrArg brs c2)
        clear hQ
        subst hQ'
        exact ⟨⟨P, B2, B1, A' ++ S⟩, ⟨f1, f2, f3, f4⟩, f5,
          St.le.of ⟨rfl, rfl, rfl, rfl, rfl, hC 1, congrArg (AV.int .i64) n1, rfl, congrArg (AV.int .i64) n2, rfl, trivial⟩ ⟨rfl, Nat.zero_lt_one, brs_ok _ _, trivial⟩⟩
    · have hy : (X ++ P).length = X.length + P.length := List.length_append
      have sw := swap_at (X ++ P) A' [] B' (S ++ Y) C (N := N) (a := IntKind.i64.wrap ((m : Int) - (A'.length : Int))) (b := (m : Int)) (n := (A'.length : Int)) (by omega) (by simp only [List.length_append, List.length_nil]; omega) hs ei
        (by simp only [List.length_nil]; omega) (by omega)
      have c1 : X ++ (P ++ (A' ++ (B' ++ (S ++ Y)))) = X ++ P ++ (A' ++ ([] ++ (B' ++ (S ++ Y)))) := by simp
      have c2 : X ++ P ++ (B' ++ ([] ++ (A' ++ (S ++ Y)))) = X ++ (B ++ (A ++ Y)) := by
        have : X ++ P ++ (B' ++ ([] ++ (A' ++ (S ++ Y)))) = X ++ ((P ++ (B' ++ (A' ++ S))) ++ Y) := by simp
        rw [this, h2]; simp
      have ho : okL 0 [.int .i64 (IntKind.i64.wrap ((m : Int) - (A'.length : Int))), .int .i64 (m : Int), .int .i64 (A'.length : Int), C] = true := by simp [okL, AV.ok, hC]
      rw [c1]
      refine ACode.vcM (.br 20 false .nil) hn hl (.round .cl) ⟨?_, _, .refl _, .inl Try.f112 <| .nz .nil, Try.func112, AMut.br sw ho rfl (fun cs' h => ⟨_, h⟩) rfl fun cs' hQ => ?_⟩
      · simp; omega
      · have hQ' := hQ.trans (congrArg brs c2)
        clear hQ
        subst hQ'
        exact ⟨rfl, _, rfl, rfl⟩
    · obtain ⟨A1, A2, rfl, ha1⟩ := split2 (l := A') (a := B'.length) (by omega)
      have hx : (A1 ++ A2).length = A1.length + A2.length := List.length_append
      have hy : (X ++ P).length = X.length + P.length := List.length_append
      have sw := swap_at (X ++ P) A1 A2 B' (S ++ Y) C (N := N) (a := IntKind.i64.wrap ((m : Int) - ((A1 ++ A2).length : Int))) (b := (m : Int)) (n := (B'.length : Int)) (by omega) (by simp only [List.length_append]; omega) hs ei
        (by omega) (by omega)
      have c1 : X ++ (P ++ (A1 ++ A2 ++ (B' ++ (S ++ Y)))) = X ++ P ++ (A1 ++ (A2 ++ (B' ++ (S ++ Y)))) := by simp
      have c2 : X ++ P ++ (B' ++ (A2 ++ (A1 ++ (S ++ Y)))) = X ++ ((P ++ B') ++ (A2 ++ (A1 ++ (S ++ Y)))) := by simp
      have n1 : (B'.length : Int) = (A1.length : Int) := by omega
      have n2 : IntKind.i64.wrap (((A1 ++ A2).length : Int) - (B'.length : Int)) = (A2.length : Int) := by rw [sub64 (by omega) (by omega)]; congr 1; omega
      have ho : okL 0 [.int .i64 (IntKind.i64.wrap ((m : Int) - ((A1 ++ A2).length : Int))), .int .i64 (m : Int), .int .i64 (B'.length : Int), C] = true := by simp [okL, AV.ok, hC]
      have hz : (P ++ B').length = P.length + B'.length := List.length_append
      have f1 : X.length + (P ++ B').length + A2.length = m := by omega
      have f2 : P ++ B' ++ (A1 ++ (A2 ++ S)) = B ++ A := by rw [← h2]; simp
      have f3 : 0 < A2.length := by omega
      have f4 : 0 < A1.length := by omega
      have f5 : A2.length + A1.length < (A1 ++ A2).length + B'.length := by omega
      rw [c1]
      refine ACode.vcM (.br 20 true <| .br 23 true <| .inl Try.f112 <| .nz .nil) hn hl (.round .cl) ⟨?_, decide_eq_true (by omega), Try.func112, AMut.br sw ho rfl (fun cs' h => ⟨_, h⟩) rfl fun cs' hQ => ?_⟩
      · simp; omega
      · have hQ' := hQ.trans (congrArg brs c2)
        clear hQ
        subst hQ'
        exact ⟨⟨P ++ B', A2, A1, S⟩, ⟨f1, f2, f3, f4⟩, f5,
          St.le.of ⟨rfl, rfl, rfl, rfl, rfl, hC 1, congrArg (AV.int .i64) n2, rfl, congrArg (AV.int .i64) n1, rfl, trivial⟩ ⟨rfl, Nat.zero_lt_one, brs_ok _ _, trivial⟩⟩
end Go.Proofs.Yticiopkiikcokaa
namespace Go.Proofs.Yticiopkiikcokaa
open Go Go.Am Go.Srt
def cmpC (x y : Int) : Int := if x < y then -1 else if x > y then 1 else 0
set_option maxHeartbeats 4000000 in
set_option maxRecDepth 100000 in
theorem compare_spec (x y : Int) : APure Try.prog 102 [.int .i64 x, .int .i64 y] (.int .i64 (cmpC x y)) := by
  have n1 : (x != x) = false := by simp
  have n2 : (y != y) = false := by simp
  refine APure.vc Try.func102 rfl (.inl Try.f108 <| .inl Try.f108 <| .br 11 false <| .br 13 false <| .both 16 .nil <| .both 19 .nil .nil) rfl rfl ⟨Try.func108, Try.func108, n1, n2, fun h => rI ?_, fun h => ⟨fun h2 => rI ?_, fun h2 => rI ?_⟩⟩
  · simp at h; simp [cmpC, h]
  · simp at h h2; unfold cmpC; rw [if_neg (by omega), if_pos (by omega)]
  · simp at h h2; unfold cmpC; rw [if_neg (by omega), if_neg (by omega)]
set_option maxRecDepth 100000 in
theorem num1 (b : Br) : APure Try.prog 82 [.agg (encBr b)] (.int .i64 b.m) := APure.vc Try.func82 rfl .nil rfl rfl (rI rfl)
set_option maxRecDepth 100000 in
theorem num2 (b : Br) : APure Try.prog 83 [.agg (encBr b)] (.int .i64 (kk b)) := APure.vc Try.func83 rfl .nil rfl rfl (rI rfl)
set_option maxRecDepth 100000 in
theorem num3 (b : Br) : APure Try.prog 84 [.agg (encBr b)] (.int .i64 b.c) := APure.vc Try.func84 rfl .nil rfl rfl (rI rfl)
def numsL : List (List AV) := [[.fn (.func 82) [] []], [.fn (.func 83) [] []], [.fn (.func 84) [] []]]
def numsV : AV := .lst 1 numsL
def cmpI (a b : Br) : Int := if cmpC a.m b.m ≠ 0 then cmpC a.m b.m else if cmpC (kk a) (kk b) ≠ 0 then cmpC (kk a) (kk b) else cmpC a.c b.c
theorem cmpC_zero {x y : Int} : cmpC x y = 0 ↔ x = y := by unfold cmpC; split <;> (try split) <;> omega
theorem cmpI_lt (a b : Br) : decide (cmpI a b < 0) = ltBr a b := by
  have e : ltBr a b = true ↔ cmpI a b < 0 := by
    rw [ltBr_iff]
    unfold cmpI cmpC
    repeat' split
    all_goals omega
  cases h : ltBr a b
  · rw [decide_eq_false_iff_not, ← e, h]; simp
  · rw [decide_eq_true_eq, ← e, h]
set_option maxHeartbeats 8000000 in
set_option maxRecDepth 100000 in
theorem cmp_spec (a b : Br) : APure Try.prog 101 [.agg (encBr a), .agg (encBr b), .cptr [numsV]] (.int .i64 (cmpI a b)) := by
  refine APure.vc Try.func101 rfl .loop rfl rfl ?_
  intro g hn hl
  replace hn : g.n = 26 := hn
  replace hl : g.low 0 := hl
  refine acode_while (fun k : Nat => ⟨[(3, .vptr 0 0), (4, .vptr 1 0), (9, numsV), (10, .int .i64 3), (11, .int .i64 k)], [(0, .cells (encBr a)), (1, .cells (encBr b))], 2⟩)
    (fun k => k ≤ 3 ∧ (1 ≤ k → a.m = b.m) ∧ (2 ≤ k → kk a = kk b) ∧ (3 ≤ k → a.c = b.c)) (fun k => 3 - k) 0 ⟨by omega, by omega, by omega, by omega⟩ ?_ (fun _ _ => hl.mono (Nat.zero_le _)) ?_
  · exact St.le.of ⟨rfl, rfl, rfl, rfl, rfl, rfl, rfl, rfl, rfl, rfl, trivial⟩ ⟨rfl, (by decide : (0 : Nat) < 2), rfl, rfl, (by decide : (1 : Nat) < 2), rfl, trivial⟩
  · rintro k ⟨h0, h1, h2, h3⟩
    have hc : k = 0 ∨ k = 1 ∨ k = 2 ∨ k = 3 := by omega
    rcases hc with rfl | rfl | rfl | rfl
    · by_cases hz : a.m = b.m
      · have hb : (cmpC a.m b.m != 0) = false := by simp [cmpC_zero, hz]
        exact ACode.vc (.br 12 true <| .cells [.fn (.func 82) [] []] <| .draw 5 <| .call (.int .i64 a.m) <| .call (.int .i64 b.m) <| .call (.int .i64 (cmpC a.m b.m)) <| .br 23 false .nil) hn hl (.round .cl)
          ⟨rfl, ⟨by decide, rfl⟩, by kernel_rfl, mixed, by kernel_rfl, num1 a, by kernel_rfl, num1 b, compare_spec _ _, hb, 1, ⟨by omega, fun _ => hz, by omega, by omega⟩, by show 3 - 1 < 3 - 0; omega,
            St.le.of ⟨rfl, rfl, rfl, rfl, rfl, rfl, rfl, rfl, rfl, rfl, trivial⟩ ⟨rfl, (by decide : (0 : Nat) < 2), rfl, rfl, (by decide : (1 : Nat) < 2), rfl, trivial⟩⟩
      · have hb : (cmpC a.m b.m != 0) = true := by simp [cmpC_zero, hz]
        have hn0 : cmpC a.m b.m ≠ 0 := by simpa using hb
        exact ACode.vc (.br 12 true <| .cells [.fn (.func 82) [] []] <| .draw 5 <| .call (.int .i64 a.m) <| .call (.int .i64 b.m) <| .call (.int .i64 (cmpC a.m b.m)) <| .br 23 true .nil) hn hl (.round .cl)
          ⟨rfl, ⟨by decide, rfl⟩, by kernel_rfl, mixed, by kernel_rfl, num1 a, by kernel_rfl, num1 b, compare_spec _ _, hb, _, .refl _, .nil, rI (by rw [cmpI, if_pos hn0])⟩
    · have hm := h1 (by omega)
      have hm0 : ¬ cmpC a.m b.m ≠ 0 := by simp [cmpC_zero, hm]
      by_cases hz : kk a = kk b
      · have hb : (cmpC (kk a) (kk b) != 0) = false := by simp [cmpC_zero, hz]
        exact ACode.vc (.br 12 true <| .cells [.fn (.func 83) [] []] <| .draw 5 <| .call (.int .i64 (kk a)) <| .call (.int .i64 (kk b)) <| .call (.int .i64 (cmpC (kk a) (kk b))) <| .br 23 false .nil) hn hl (.round .cl)
          ⟨rfl, ⟨by decide, rfl⟩, by kernel_rfl, mixed, by kernel_rfl, num2 a, by kernel_rfl, num2 b, compare_spec _ _, hb, 2, ⟨by omega, fun _ => hm, fun _ => hz, by omega⟩, by show 3 - 2 < 3 - 1; omega,
            St.le.of ⟨rfl, rfl, rfl, rfl, rfl, rfl, rfl, rfl, rfl, rfl, trivial⟩ ⟨rfl, (by decide : (0 : Nat) < 2), rfl, rfl, (by decide : (1 : Nat) < 2), rfl, trivial⟩⟩
      · have hb : (cmpC (kk a) (kk b) != 0) = true := by simp [cmpC_zero, hz]
        have hn0 : cmpC (kk a) (kk b) ≠ 0 := by simpa using hb
        exact ACode.vc (.br 12 true <| .cells [.fn (.func 83) [] []] <| .draw 5 <| .call (.int .i64 (kk a)) <| .call (.int .i64 (kk b)) <| .call (.int .i64 (cmpC (kk a) (kk b))) <| .br 23 true .nil) hn hl (.round .cl)
          ⟨rfl, ⟨by decide, rfl⟩, by kernel_rfl, mixed, by kernel_rfl, num2 a, by kernel_rfl, num2 b, compare_spec _ _, hb, _, .refl _, .nil, rI (by rw [cmpI, if_neg hm0, if_pos hn0])⟩
    · have hm := h1 (by omega)
      have hk := h2 (by omega)
      have hm0 : ¬ cmpC a.m b.m ≠ 0 := by simp [cmpC_zero, hm]
      have hk0 : ¬ cmpC (kk a) (kk b) ≠ 0 := by simp [cmpC_zero, hk]
      by_cases hz : a.c = b.c
      · have hb : (cmpC a.c b.c != 0) = false := by simp [cmpC_zero, hz]
        exact ACode.vc (.br 12 true <| .cells [.fn (.func 84) [] []] <| .draw 5 <| .call (.int .i64 a.c) <| .call (.int .i64 b.c) <| .call (.int .i64 (cmpC a.c b.c)) <| .br 23 false .nil) hn hl (.round .cl)
          ⟨rfl, ⟨by decide, rfl⟩, by kernel_rfl, mixed, by kernel_rfl, num3 a, by kernel_rfl, num3 b, compare_spec _ _, hb, 3, ⟨by omega, fun _ => hm, fun _ => hk, fun _ => hz⟩, by show 3 - 3 < 3 - 2; omega,
            St.le.of ⟨rfl, rfl, rfl, rfl, rfl, rfl, rfl, rfl, rfl, rfl, trivial⟩ ⟨rfl, (by decide : (0 : Nat) < 2), rfl, rfl, (by decide : (1 : Nat) < 2), rfl, trivial⟩⟩
      · have hb : (cmpC a.c b.c != 0) = true := by simp [cmpC_zero, hz]
        exact ACode.vc (.br 12 true <| .cells [.fn (.func 84) [] []] <| .draw 5 <| .call (.int .i64 a.c) <| .call (.int .i64 b.c) <| .call (.int .i64 (cmpC a.c b.c)) <| .br 23 true .nil) hn hl (.round .cl)
          ⟨rfl, ⟨by decide, rfl⟩, by kernel_rfl, mixed, by kernel_rfl, num3 a, by kernel_rfl, num3 b, compare_spec _ _, hb, _, .refl _, .nil, rI (by rw [cmpI, if_neg hm0, if_neg hk0])⟩
    · have hm := h1 (by omega)
      have hk := h2 (by omega)
      have hc := h3 (by omega)
      exact ACode.vc (.br 12 false .nil) hn hl (.round .cl) ⟨rfl, _, .refl _, .nil, rI (by rw [cmpI, if_neg (by simp [cmpC_zero, hm]), if_neg (by simp [cmpC_zero, hk]), cmpC_zero.2 hc])⟩
end Go.Proofs.Yticiopkiikcokaa
namespace Go.Proofs.Yticiopkiikcokaa
open Go Go.Am Go.Srt
/-- How things are compared. -/
def cmpV : AV := .fn (.func 101) [] [.cptr [numsV]]
theorem cmpV_ok (n : Nat) : cmpV.ok n = true := rfl
structure Ins where
  U : List Br
  V : List Br
theorem lt_cmp (a b : Br) {c : Bool} (h : ltBr a b = c) : decide (cmpI a b < 0) = c := by rw [cmpI_lt]; exact h
set_option maxHeartbeats 16000000 in
set_option maxRecDepth 100000 in
theorem ins_spec (X S Y : List Br) {N a b : Nat} (hN : N = (X ++ (S ++ Y)).length) (hs : N ≤ 100000) (ha : a = X.length) (hb : b = X.length + S.length) :
    AMut Try.prog Try.f109 N 4 [.int .i64 a, .int .i64 b, cmpV] (brs (X ++ (S ++ Y))) .undef (fun cs' => ∃ S', S'.Perm S ∧ Sd ltBr S' ∧ cs' = brs (X ++ (S' ++ Y))) := by
  have hN' : N = X.length + (S.length + Y.length) := by rw [hN]; simp only [List.length_append]
  have ea : IntKind.i64.wrap ((a : Int) + 1) = ((a + 1 : Nat) : Int) := succ64 (by omega)
  cases S with
  | nil =>
    refine AMut.vc .loop ?_
    intro g hn hl
    replace hn : g.n = 53 := hn
    replace hl : g.low 1 := hl
    simp only [List.length_nil] at hb
    have hc : decide (((a + 1 : Nat) : Int) < (b : Int)) = false := decide_eq_false (by omega)
    refine acode_while (fun _ : Unit => ⟨[(0, .rsl 0 0 N 4), (1, .int .i64 a), (2, .int .i64 b), (3, cmpV), (8, .int .i64 ((a + 1 : Nat) : Int))], [(0, .cells (brs (X ++ ([] ++ Y))))], 1⟩) (fun _ => True) (fun _ => 0) () trivial ?_ (fun _ _ => hl) ?_
    · exact St.le.of ⟨rfl, rfl, rfl, rfl, rfl, rfl, rfl, rfl, congrArg (AV.int .i64) ea, rfl, trivial⟩ ⟨rfl, Nat.zero_lt_one, brs_ok _ _, trivial⟩
    · rintro _ _
      exact ACode.vcM (.br 14 false .nil) hn hl (.round .cl) ⟨hc, _, .refl _, .nil, rfl, _, rfl, [], .refl _, List.Pairwise.nil, rfl⟩
  | cons s S =>
    refine AMut.vc .loop ?_
    intro g hn hl
    replace hn : g.n = 53 := hn
    replace hl : g.low 1 := hl
    simp only [List.length_cons] at hb hN'
    refine acode_while (fun o : Ins => ⟨[(0, .rsl 0 0 N 4), (1, .int .i64 a), (2, .int .i64 b), (3, cmpV), (8, .int .i64 ((X.length + o.U.length : Nat) : Int))], [(0, .cells (brs (X ++ (o.U ++ (o.V ++ Y)))))], 1⟩)
      (fun o => Sd ltBr o.U ∧ (o.U ++ o.V).Perm (s :: S)) (fun o => o.V.length) ⟨[s], S⟩ ⟨List.pairwise_singleton _ _, .refl _⟩ ?_ (fun _ _ => hl) ?_
    · have e1 : IntKind.i64.wrap ((a : Int) + 1) = ((X.length + [s].length : Nat) : Int) := by rw [ea, ha]; rfl
      exact St.le.of ⟨rfl, rfl, rfl, rfl, rfl, rfl, rfl, rfl, congrArg (AV.int .i64) e1, rfl, trivial⟩ ⟨rfl, Nat.zero_lt_one, brs_ok _ _, trivial⟩
    · rintro ⟨U, V⟩ ⟨h1, h2⟩
      simp only at h1 h2 ⊢
      have hlen := h2.length_eq
      simp only [List.length_append, List.length_cons] at hlen
      cases V with
      | nil =>
        have hc : decide (((X.length + U.length : Nat) : Int) < (b : Int)) = false := decide_eq_false (by simp only [List.length_nil] at hlen; omega)
        rw [List.append_nil] at h2
        exact ACode.vcM (.br 14 false .nil) hn hl (.round .cl) ⟨hc, _, .refl _, .nil, rfl, _, rfl, U, h2, h1, rfl⟩
      | cons x V =>
        simp only [List.length_cons] at hlen
        have hc : decide (((X.length + U.length : Nat) : Int) < (b : Int)) = true := decide_eq_true (by omega)
        refine ACode.vcM (.br 14 true .loop) hn hl (.round .cl) ⟨hc, ?_⟩
        intro g hn hl
        replace hn : g.n = 53 := hn
        replace hl : g.low 1 := hl
        refine acode_while (fun o : Ins => ⟨[(0, .rsl 0 0 N 4), (1, .int .i64 a), (2, .int .i64 b), (3, cmpV), (8, .int .i64 ((X.length + U.length : Nat) : Int)), (9, .int .i64 ((X.length + o.U.length : Nat) : Int))], [(0, .cells (brs (X ++ (o.U ++ (x :: (o.V ++ (V ++ Y)))))))], 1⟩)
          (fun o => o.U ++ o.V = U ∧ ∀ v ∈ o.V, ltBr x v = true) (fun o => o.U.length) ⟨U, []⟩ ⟨List.append_nil U, fun v hv => by cases hv⟩ ?_ (fun _ _ => hl) ?_
        · exact St.le.of ⟨rfl, rfl, rfl, rfl, rfl, rfl, rfl, rfl, rfl, rfl, rfl, rfl, trivial⟩ ⟨rfl, Nat.zero_lt_one, brs_ok _ _, trivial⟩
        · rintro ⟨U1, W⟩ ⟨i1, i2⟩
          simp only at i1 i2 ⊢
          have hUl := congrArg List.length i1
          simp only [List.length_append] at hUl
          -- where the thing is put
          have fin : (∀ U' u, U1 = U' ++ [u] → ltBr x u = false) → Sd ltBr (U1 ++ x :: W) ∧ ((U1 ++ x :: W) ++ V).Perm (s :: S) ∧ brs (X ++ (U1 ++ (x :: (W ++ (V ++ Y))))) = brs (X ++ ((U1 ++ x :: W) ++ (V ++ Y))) ∧ (U1 ++ x :: W).length = U.length + 1 := fun hu => by
            refine ⟨ins_done ordBr (i1 ▸ h1) i2 hu, ?_, by simp, by simp; omega⟩
            refine List.Perm.trans ?_ h2
            rw [← i1]
            have : U1 ++ x :: W ++ V = U1 ++ (x :: (W ++ V)) := by simp
            rw [this, List.append_assoc]
            exact List.Perm.append_left U1 List.perm_middle.symm
          rcases List.eq_nil_or_concat U1 with e | ⟨U2, u, e⟩
          · subst e
            have hg : decide (((X.length + ([] : List Br).length : Nat) : Int) > (a : Int)) = false := decide_eq_false (by simp only [List.length_nil]; omega)
            have hf := fin fun U' u h => by simp at h
            have e8 : IntKind.i64.wrap (((X.length + U.length : Nat) : Int) + 1) = ((X.length + ([] ++ x :: W).length : Nat) : Int) := by rw [succ64 (by omega), hf.2.2.2]; congr 1
            exact ACode.vcM (.draw 14 <| .br 21 false .nil) hn hl (.round .cl) ⟨by kernel_rfl, mixed, by kernel_rfl, hg, by kernel_rfl, _, .refl _, .nil, ⟨[] ++ x :: W, V⟩, ⟨hf.1, hf.2.1⟩, Nat.lt_succ_self _,
              St.le.of ⟨rfl, rfl, rfl, rfl, rfl, rfl, rfl, rfl, congrArg (AV.int .i64) e8, rfl, trivial⟩ ⟨congrArg (fun z => some (AObj.cells z)) hf.2.2.1, Nat.zero_lt_one, brs_ok _ _, trivial⟩⟩
          · rw [List.concat_eq_append] at e
            subst e
            have hul : (U2 ++ [u]).length = U2.length + 1 := by simp
            have hP : (X ++ U2).length = X.length + U2.length := List.length_append
            have hg : decide (((X.length + (U2 ++ [u]).length : Nat) : Int) > (a : Int)) = true := decide_eq_true (by omega)
            obtain ⟨L, hL⟩ : ∃ L, L = X ++ ((U2 ++ [u]) ++ (x :: (W ++ (V ++ Y)))) := ⟨_, rfl⟩
            have hL2 : L = (X ++ U2) ++ u :: ([] ++ x :: (W ++ (V ++ Y))) := by rw [hL]; simp
            have gu : L[X.length + U2.length]? = some u := by rw [hL2]; exact get1 hP.symm
            have gx : L[X.length + (U2 ++ [u]).length]? = some x := by rw [hL2]; exact get2 (by simp; omega)
            have hLl : L.length = X.length + U2.length + 1 + 1 + (W ++ (V ++ Y)).length := by rw [hL2]; simp; omega
            have hLN : L.length = N := by rw [hLl]; simp only [List.length_append]; omega
            have ej : IntKind.i64.wrap (((X.length + (U2 ++ [u]).length : Nat) : Int) - 1) = ((X.length + U2.length : Nat) : Int) := by
              have e0 : X.length + (U2 ++ [u]).length = (X.length + U2.length) + 1 := by omega
              rw [e0]; exact pred64 (j := X.length + U2.length) (by omega)
            have ix1 := ixO (h := hget []) (id := 0) (n := N) (i := ((X.length + (U2 ++ [u]).length : Nat) : Int)) rfl (by omega)
            have ix2 := ixO (h := hget []) (id := 0) (n := N) ej (by omega)
            have l1 := ldB (h := hget [(0, .cells (brs L))]) (id := 0) (l := L) rfl gx
            have l2 := ldB (h := hget [(0, .cells (brs L))]) (id := 0) (l := L) rfl gu
            rw [← hL]
            cases hlt : ltBr x u
            · have hf := fin fun U' u' h => by
                have := List.append_inj' h rfl
                have := this.2
                simp at this; subst this; exact hlt
              rw [← hL] at hf
              have e8 : IntKind.i64.wrap (((X.length + U.length : Nat) : Int) + 1) = ((X.length + (U2 ++ [u] ++ x :: W).length : Nat) : Int) := by rw [succ64 (by omega), hf.2.2.2]; congr 1
              exact ACode.vcM (.draw 14 <| .br 21 true <| .val 25 (.vptr 0 (0 + (X.length + (U2 ++ [u]).length) * 4)) [] <| .val 26 (.agg (encBr x)) [] <| .val 30 (.vptr 0 (0 + (X.length + U2.length) * 4)) [] <| .val 31 (.agg (encBr u)) [] <|
                  .call (.int .i64 (cmpI x u)) <| .br 34 false .nil) hn hl (.round .cl)
                ⟨by kernel_rfl, mixed, by kernel_rfl, hg, Eq.trans (by kernel_rfl) ix1, Eq.trans (by kernel_rfl) l1, Eq.trans (by kernel_rfl) ix2, Eq.trans (by kernel_rfl) l2, by kernel_rfl, cmp_spec x u, lt_cmp _ _ hlt, _, .refl _, .nil,
                  ⟨U2 ++ [u] ++ x :: W, V⟩, ⟨hf.1, hf.2.1⟩, Nat.lt_succ_self _,
                  St.le.of ⟨rfl, rfl, rfl, rfl, rfl, rfl, rfl, rfl, congrArg (AV.int .i64) e8, rfl, trivial⟩ ⟨congrArg (fun z => some (AObj.cells z)) hf.2.2.1, Nat.zero_lt_one, brs_ok _ _, trivial⟩⟩
            · have s1 := stB (h := hget [(0, .cells (brs L))]) (id := 0) (l := L) (b := u) rfl (show X.length + (U2 ++ [u]).length < L.length by omega)
              have s2 := stB (h := hget [(0, .cells (brs (L.set (X.length + (U2 ++ [u]).length) u)))]) (id := 0) (l := L.set (X.length + (U2 ++ [u]).length) u) (b := x) rfl (show X.length + U2.length < (L.set (X.length + (U2 ++ [u]).length) u).length by rw [List.length_set]; omega)
              have sw : (L.set (X.length + (U2 ++ [u]).length) u).set (X.length + U2.length) x = X ++ (U2 ++ (x :: ((u :: W) ++ (V ++ Y)))) := by
                rw [hL2, swap2' hP.symm (by simp; omega)]; simp
              rw [sw] at s2
              have i3 : U2 ++ u :: W = U := by rw [← i1]; simp
              have i4 : ∀ v ∈ u :: W, ltBr x v = true := fun v hv => by
                rcases List.mem_cons.1 hv with rfl | hv
                · exact hlt
                · exact i2 v hv
              have i5 : U2.length < (U2 ++ [u]).length := by omega
              exact ACode.vcM (.draw 14 <| .br 21 true <| .val 25 (.vptr 0 (0 + (X.length + (U2 ++ [u]).length) * 4)) [] <| .val 26 (.agg (encBr x)) [] <| .val 30 (.vptr 0 (0 + (X.length + U2.length) * 4)) [] <| .val 31 (.agg (encBr u)) [] <|
                  .call (.int .i64 (cmpI x u)) <| .br 34 true <| .draw 16 <| .val 45 (.vptr 0 (0 + (X.length + U2.length) * 4)) [] <| .val 46 (.agg (encBr u)) [] <| .val 49 (.vptr 0 (0 + (X.length + (U2 ++ [u]).length) * 4)) [] <| .val 50 (.agg (encBr x)) [] <|
                  .val 51 (.vptr 0 (0 + (X.length + (U2 ++ [u]).length) * 4)) [] <| .val 1 .undef [(0, some (.cells (brs (L.set (X.length + (U2 ++ [u]).length) u))))] <| .val 52 (.vptr 0 (0 + (X.length + U2.length) * 4)) [] <|
                  .val 1 .undef [(0, some (.cells (brs (X ++ (U2 ++ (x :: ((u :: W) ++ (V ++ Y))))))))] .nil) hn hl (.round .cl)
                ⟨by kernel_rfl, mixed, by kernel_rfl, hg, Eq.trans (by kernel_rfl) ix1, Eq.trans (by kernel_rfl) l1, Eq.trans (by kernel_rfl) ix2, Eq.trans (by kernel_rfl) l2, by kernel_rfl, cmp_spec x u, lt_cmp _ _ hlt,
                  by kernel_rfl, mixed, by kernel_rfl, Eq.trans (by kernel_rfl) ix2, Eq.trans (by kernel_rfl) l2, Eq.trans (by kernel_rfl) ix1, Eq.trans (by kernel_rfl) l1, Eq.trans (by kernel_rfl) ix1, Eq.trans (by kernel_rfl) s1, by kernel_rfl, Eq.trans (by kernel_rfl) ix2, Eq.trans (by kernel_rfl) s2,
                  ⟨U2, u :: W⟩, ⟨i3, i4⟩, i5,
                  St.le.of ⟨rfl, rfl, rfl, rfl, rfl, rfl, rfl, rfl, rfl, rfl, congrArg (AV.int .i64) ej, rfl, trivial⟩ ⟨rfl, Nat.zero_lt_one, brs_ok _ _, trivial⟩⟩
end Go.Proofs.Yticiopkiikcokaa
namespace Go.Proofs.Yticiopkiikcokaa
open Go Go.Am Go.Srt
theorem wrapU {n : Int} (h1 : 0 ≤ n) (h2 : n ≤ 1000000000) : IntKind.u64.wrap n = n := by
  unfold IntKind.wrap
  have e1 : (2 : Int) ^ IntKind.u64.bits = 18446744073709551616 := by decide
  simp only [e1, IntKind.signed, Bool.false_and, Bool.false_eq_true, if_false]
  omega
theorem half64 {i j : Nat} (h : i + j < 1000000) : IntKind.i64.wrap ((IntKind.u64.wrap (IntKind.i64.wrap ((i : Int) + (j : Int)))).fdiv (2 ^ (min (Int.toNat 1) IntKind.u64.bits))) = (((i + j) / 2 : Nat) : Int) := by
  rw [add64 h, wrapU (by omega) (by omega)]
  have e : (2 : Int) ^ (min (Int.toNat 1) IntKind.u64.bits) = 2 := by decide
  rw [e, Int.fdiv_eq_ediv_of_nonneg _ (by omega), wrap64 (by omega) (by omega)]
  omega
set_option maxHeartbeats 16000000 in
set_option maxRecDepth 100000 in
theorem sym_left (X B Y : List Br) (x : Br) {N a m b : Nat} (hB : 0 < B.length) (hN : N = (X ++ (x :: (B ++ Y))).length) (hs : N ≤ 100000) (ha : a = X.length) (hm : m = X.length + 1) (hb : b = X.length + 1 + B.length) (hBs : Sd ltBr B) :
    AMut Try.prog Try.f110 N 4 [.int .i64 a, .int .i64 m, .int .i64 b, cmpV] (brs (X ++ (x :: (B ++ Y)))) .undef (fun cs' => ∃ S', S'.Perm (x :: B) ∧ Sd ltBr S' ∧ cs' = brs (X ++ (S' ++ Y))) := by
  have hN' : N = X.length + (1 + B.length + Y.length) := by rw [hN]; simp only [List.length_append, List.length_cons]; omega
  have c1 : (IntKind.i64.wrap ((m : Int) - (a : Int)) == 1) = true := by rw [sub64 (by omega) (by omega), beq_iff_eq]; omega
  obtain ⟨L, hL⟩ : ∃ L, L = X ++ (x :: (B ++ Y)) := ⟨_, rfl⟩
  have hLN : L.length = N := by rw [hL, hN]
  have gx : L[a]? = some x := by rw [hL]; exact get1 ha
  have ixa := ixO (h := hget []) (id := 0) (n := N) (i := (a : Int)) rfl (by omega)
  have la := ldB (h := hget [(0, .cells (brs L))]) (id := 0) (l := L) rfl gx
  rw [← hL]
  refine AMut.vc (.br 28 true .loop) ⟨c1, ?_⟩
  intro g hn hl
  replace hn : g.n = 220 := hn
  replace hl : g.low 1 := hl
  refine acode_while (fun o : Nat × Nat => ⟨[(0, .rsl 0 0 N 4), (1, .int .i64 a), (4, cmpV), (10, .int .i64 (o.1 : Int)), (11, .int .i64 (o.2 : Int))], [(0, .cells (brs L))], 1⟩)
    (fun o => m ≤ o.1 ∧ o.1 ≤ o.2 ∧ o.2 ≤ b ∧ (∀ y, m < o.1 → L[o.1 - 1]? = some y → ltBr y x = true) ∧ ∀ y, o.2 < b → L[o.2]? = some y → ltBr y x = false) (fun o => o.2 - o.1) (m, b) ⟨Nat.le_refl _, by show m ≤ b; omega, Nat.le_refl _, fun y h => absurd h (Nat.lt_irrefl _), fun y h => absurd h (Nat.lt_irrefl _)⟩ ?_ (fun _ _ => hl) ?_
  · exact St.le.of ⟨rfl, rfl, rfl, rfl, rfl, rfl, rfl, rfl, rfl, rfl, trivial⟩ ⟨rfl, Nat.zero_lt_one, brs_ok _ _, trivial⟩
  · rintro ⟨i, j⟩ ⟨h1, h2, h3, h4, h5⟩
    simp only at h1 h2 h3 h4 h5 ⊢
    by_cases hlt : i < j
    · have d1 : decide ((i : Int) < (j : Int)) = true := decide_eq_true (by omega)
      have eh := half64 (i := i) (j := j) (by omega)
      obtain ⟨h, hh⟩ : ∃ h, h = (i + j) / 2 := ⟨_, rfl⟩
      rw [← hh] at eh
      have hh1 : i ≤ h := by omega
      have hh2 : h < j := by omega
      refine Exists.elim (getE (l := L) (k := h) (by omega)) fun y hy => ?_
      have ixh := ixO (h := hget []) (id := 0) (n := N) eh (by omega)
      have lh := ldB (h := hget [(0, .cells (brs L))]) (id := 0) (l := L) rfl hy
      cases hc : ltBr y x
      · have k1 : m ≤ i ∧ i ≤ h ∧ h ≤ b ∧ (∀ y, m < i → L[i - 1]? = some y → ltBr y x = true) ∧ ∀ y, h < b → L[h]? = some y → ltBr y x = false :=
          ⟨h1, hh1, by omega, h4, fun z _ hz => by rw [hy] at hz; cases hz; exact hc⟩
        have k2 : h - i < j - i := by omega
        exact ACode.vcM (.br 33 true <| .draw 9 <| .val 43 (.vptr 0 (0 + h * 4)) [] <| .val 44 (.agg (encBr y)) [] <| .val 47 (.vptr 0 (0 + a * 4)) [] <| .val 48 (.agg (encBr x)) [] <| .call (.int .i64 (cmpI y x)) <| .br 50 false .nil) hn hl (.round .cl)
          ⟨d1, by kernel_rfl, mixed, by kernel_rfl, Eq.trans (by kernel_rfl) ixh, Eq.trans (by kernel_rfl) lh, Eq.trans (by kernel_rfl) ixa, Eq.trans (by kernel_rfl) la, by kernel_rfl, cmp_spec y x, lt_cmp _ _ hc, (i, h), k1, k2,
            St.le.of ⟨rfl, rfl, rfl, rfl, rfl, rfl, rfl, rfl, congrArg (AV.int .i64) eh, rfl, trivial⟩ ⟨rfl, Nat.zero_lt_one, brs_ok _ _, trivial⟩⟩
      · have k1 : m ≤ h + 1 ∧ h + 1 ≤ j ∧ j ≤ b ∧ (∀ y, m < h + 1 → L[h + 1 - 1]? = some y → ltBr y x = true) ∧ ∀ y, j < b → L[j]? = some y → ltBr y x = false :=
          ⟨by omega, by omega, h3, fun z _ hz => by rw [Nat.add_sub_cancel, hy] at hz; cases hz; exact hc, h5⟩
        have k2 : j - (h + 1) < j - i := by omega
        have es := (congrArg (fun z => IntKind.i64.wrap (z + 1)) eh).trans (succ64 (k := h) (by omega))
        exact ACode.vcM (.br 33 true <| .draw 9 <| .val 43 (.vptr 0 (0 + h * 4)) [] <| .val 44 (.agg (encBr y)) [] <| .val 47 (.vptr 0 (0 + a * 4)) [] <| .val 48 (.agg (encBr x)) [] <| .call (.int .i64 (cmpI y x)) <| .br 50 true .nil) hn hl (.round .cl)
          ⟨d1, by kernel_rfl, mixed, by kernel_rfl, Eq.trans (by kernel_rfl) ixh, Eq.trans (by kernel_rfl) lh, Eq.trans (by kernel_rfl) ixa, Eq.trans (by kernel_rfl) la, by kernel_rfl, cmp_spec y x, lt_cmp _ _ hc, (h + 1, j), k1, k2,
            St.le.of ⟨rfl, rfl, rfl, rfl, rfl, rfl, congrArg (AV.int .i64) es, rfl, rfl, rfl, trivial⟩ ⟨rfl, Nat.zero_lt_one, brs_ok _ _, trivial⟩⟩
    · have d1 : decide ((i : Int) < (j : Int)) = false := decide_eq_false (by omega)
      have hij : j = i := by omega
      subst hij
      obtain ⟨B1, B2, rfl, hb1⟩ := split2 (l := B) (a := j - m) (by omega)
      have hbl : (B1 ++ B2).length = B1.length + B2.length := List.length_append
      have q1 : ∀ B' y, B1 = B' ++ [y] → ltBr y x = true := fun B' y e => h4 y (by have e' := congrArg List.length e; simp only [List.length_append, List.length_cons, List.length_nil] at e'; omega) (by
        rw [hL, e]
        have : X ++ x :: (B' ++ [y] ++ B2 ++ Y) = (X ++ x :: B') ++ y :: (B2 ++ Y) := by simp
        rw [this]; refine get1 ?_
        have e' := congrArg List.length e; simp only [List.length_append, List.length_cons, List.length_nil] at e'; simp; omega)
      have q2 : ∀ y B', B2 = y :: B' → ltBr y x = false := fun y B' e => h5 y (by have e' := congrArg List.length e; simp only [List.length_cons] at e'; omega) (by
        rw [hL, e]
        have : X ++ x :: (B1 ++ y :: B' ++ Y) = (X ++ x :: B1) ++ y :: (B' ++ Y) := by simp
        rw [this]; refine get1 ?_
        simp; omega)
      have hsd := one_left ordBr hBs q1 q2
      have hpm : (B1 ++ x :: B2).Perm (x :: (B1 ++ B2)) := List.perm_middle
      have hjj : j = X.length + 1 + B1.length := by omega
      have ei : IntKind.i64.wrap ((j : Int) - 1) = ((X.length + B1.length : Nat) : Int) := by rw [wrap64 (by omega) (by omega)]; omega
      refine ACode.vcM (.br 33 false .nil) hn hl (.round .cl) ⟨d1, _, .refl _, .loop, ?_⟩
      clear h4 h5 gx la
      subst hL
      intro g hn hl
      replace hn : g.n = 220 := hn
      replace hl : g.low 1 := hl
      refine acode_while (fun o : List Br × List Br => ⟨[(0, .rsl 0 0 N 4), (10, .int .i64 (j : Int)), (13, .int .i64 ((X.length + o.1.length : Nat) : Int))], [(0, .cells (brs (X ++ (o.1 ++ (x :: (o.2 ++ (B2 ++ Y)))))))], 1⟩)
        (fun o => o.1 ++ o.2 = B1) (fun o => o.2.length) ([], B1) rfl ?_ (fun _ _ => hl) ?_
      · have e0 : (a : Int) = ((X.length + ([] : List Br).length : Nat) : Int) := by rw [ha]; simp
        have e1 : X ++ x :: (B1 ++ B2 ++ Y) = X ++ ([] ++ (x :: (B1 ++ (B2 ++ Y)))) := by simp
        exact St.le.of ⟨rfl, rfl, rfl, rfl, congrArg (AV.int .i64) e0, rfl, trivial⟩ ⟨congrArg (fun z => some (AObj.cells (brs z))) e1, Nat.zero_lt_one, brs_ok _ _, trivial⟩
      · rintro ⟨C1, C2⟩ i1
        simp only at i1 ⊢
        have hcl := congrArg List.length i1
        simp only [List.length_append] at hcl
        cases C2 with
        | nil =>
          have d2 : decide (((X.length + C1.length : Nat) : Int) < IntKind.i64.wrap ((j : Int) - 1)) = false := decide_eq_false (by rw [ei]; simp only [List.length_nil] at hcl; omega)
          have e2 : X ++ (C1 ++ (x :: ([] ++ (B2 ++ Y)))) = X ++ ((B1 ++ x :: B2) ++ Y) := by rw [← i1]; simp
          exact ACode.vcM (.br 58 false .nil) hn hl (.round .cl) ⟨d2, _, .refl _, .nil, rfl, _, rfl, _, hpm, hsd, congrArg brs e2⟩
        | cons y C2 =>
          simp only [List.length_cons] at hcl
          have d2 : decide (((X.length + C1.length : Nat) : Int) < IntKind.i64.wrap ((j : Int) - 1)) = true := decide_eq_true (by rw [ei]; omega)
          have e2 : X ++ (C1 ++ (x :: (y :: C2 ++ (B2 ++ Y)))) = (X ++ C1) ++ x :: ([] ++ y :: (C2 ++ (B2 ++ Y))) := by simp
          have eP : X.length + C1.length = (X ++ C1).length := by simp
          have eQ : X.length + C1.length + 1 = (X ++ C1).length + 1 + ([] : List Br).length := by simp
          have es := succ64 (k := X.length + C1.length) (by omega)
          obtain ⟨M, hM⟩ : ∃ M, M = X ++ (C1 ++ (x :: (y :: C2 ++ (B2 ++ Y)))) := ⟨_, rfl⟩
          have hML : M.length = N := by rw [hM, hN, ← i1]; simp; omega
          have g1 : M[X.length + C1.length]? = some x := by rw [hM, e2]; exact get1 eP
          have g2 : M[X.length + C1.length + 1]? = some y := by rw [hM, e2]; exact get2 eQ
          have sw : (M.set (X.length + C1.length) y).set (X.length + C1.length + 1) x = X ++ ((C1 ++ [y]) ++ (x :: (C2 ++ (B2 ++ Y)))) := by
            rw [hM, e2, swap2 eP eQ]; simp
          have ix1 := ixO (h := hget []) (id := 0) (n := N) (i := ((X.length + C1.length : Nat) : Int)) rfl (by omega)
          have ix2 := ixO (h := hget []) (id := 0) (n := N) es (by omega)
          have l1 := ldB (h := hget [(0, .cells (brs M))]) (id := 0) (l := M) rfl g1
          have l2 := ldB (h := hget [(0, .cells (brs M))]) (id := 0) (l := M) rfl g2
          have s1 := stB (h := hget [(0, .cells (brs M))]) (id := 0) (l := M) (b := y) rfl (show X.length + C1.length < M.length by omega)
          have s2 := stB (h := hget [(0, .cells (brs (M.set (X.length + C1.length) y)))]) (id := 0) (l := M.set (X.length + C1.length) y) (b := x) rfl (show X.length + C1.length + 1 < (M.set (X.length + C1.length) y).length by rw [List.length_set]; omega)
          rw [sw] at s2
          have i3 : C1 ++ [y] ++ C2 = B1 := by rw [← i1]; simp
          have e3 : IntKind.i64.wrap (((X.length + C1.length : Nat) : Int) + 1) = ((X.length + (C1 ++ [y]).length : Nat) : Int) := by rw [es]; simp; omega
          rw [← hM]
          exact ACode.vcM (.br 58 true <| .draw 16 <| .val 69 (.vptr 0 (0 + (X.length + C1.length + 1) * 4)) [] <| .val 70 (.agg (encBr y)) [] <| .val 73 (.vptr 0 (0 + (X.length + C1.length) * 4)) [] <| .val 74 (.agg (encBr x)) [] <|
              .val 75 (.vptr 0 (0 + (X.length + C1.length) * 4)) [] <| .val 1 .undef [(0, some (.cells (brs (M.set (X.length + C1.length) y))))] <| .val 76 (.vptr 0 (0 + (X.length + C1.length + 1) * 4)) [] <|
              .val 1 .undef [(0, some (.cells (brs (X ++ ((C1 ++ [y]) ++ (x :: (C2 ++ (B2 ++ Y))))))))] .nil) hn hl (.round .cl)
            ⟨d2, by kernel_rfl, mixed, by kernel_rfl, Eq.trans (by kernel_rfl) ix2, Eq.trans (by kernel_rfl) l2, Eq.trans (by kernel_rfl) ix1, Eq.trans (by kernel_rfl) l1, Eq.trans (by kernel_rfl) ix1, Eq.trans (by kernel_rfl) s1, by kernel_rfl, Eq.trans (by kernel_rfl) ix2, Eq.trans (by kernel_rfl) s2,
              (C1 ++ [y], C2), i3, Nat.lt_succ_self _,
              St.le.of ⟨rfl, rfl, rfl, rfl, congrArg (AV.int .i64) e3, rfl, trivial⟩ ⟨rfl, Nat.zero_lt_one, brs_ok _ _, trivial⟩⟩
end Go.Proofs.Yticiopkiikcokaa
namespace Go.Proofs.Yticiopkiikcokaa
open Go Go.Am Go.Srt
set_option maxHeartbeats 16000000 in
set_option maxRecDepth 100000 in
theorem sym_right (X A Y : List Br) (x : Br) {N a m b : Nat} (hA : 1 < A.length) (hN : N = (X ++ (A ++ (x :: Y))).length) (hs : N ≤ 100000) (ha : a = X.length) (hm : m = X.length + A.length) (hb : b = X.length + A.length + 1) (hAs : Sd ltBr A) :
    AMut Try.prog Try.f110 N 4 [.int .i64 a, .int .i64 m, .int .i64 b, cmpV] (brs (X ++ (A ++ (x :: Y)))) .undef (fun cs' => ∃ S', S'.Perm (A ++ [x]) ∧ Sd ltBr S' ∧ cs' = brs (X ++ (S' ++ Y))) := by
  have hN' : N = X.length + (A.length + 1 + Y.length) := by rw [hN]; simp only [List.length_append, List.length_cons]; omega
  have c1 : (IntKind.i64.wrap ((m : Int) - (a : Int)) == 1) = false := by rw [sub64 (by omega) (by omega), beq_eq_false_iff_ne]; omega
  have c2 : (IntKind.i64.wrap ((b : Int) - (m : Int)) == 1) = true := by rw [sub64 (by omega) (by omega), beq_iff_eq]; omega
  obtain ⟨L, hL⟩ : ∃ L, L = X ++ (A ++ (x :: Y)) := ⟨_, rfl⟩
  have hLN : L.length = N := by rw [hL, hN]
  have gx : L[m]? = some x := by
    rw [hL]
    have : X ++ (A ++ x :: Y) = (X ++ A) ++ x :: Y := by simp
    rw [this]; exact get1 (by simp; omega)
  have ixm := ixO (h := hget []) (id := 0) (n := N) (i := (m : Int)) rfl (by omega)
  have lm := ldB (h := hget [(0, .cells (brs L))]) (id := 0) (l := L) rfl gx
  rw [← hL]
  refine AMut.vc (.br 28 false <| .br 80 true .loop) ⟨c1, c2, ?_⟩
  intro g hn hl
  replace hn : g.n = 220 := hn
  replace hl : g.low 1 := hl
  refine acode_while (fun o : Nat × Nat => ⟨[(0, .rsl 0 0 N 4), (2, .int .i64 m), (4, cmpV), (14, .int .i64 (o.1 : Int)), (15, .int .i64 (o.2 : Int))], [(0, .cells (brs L))], 1⟩)
    (fun o => a ≤ o.1 ∧ o.1 ≤ o.2 ∧ o.2 ≤ m ∧ (∀ y, a < o.1 → L[o.1 - 1]? = some y → ltBr x y = false) ∧ ∀ y, o.2 < m → L[o.2]? = some y → ltBr x y = true) (fun o => o.2 - o.1) (a, m) ⟨Nat.le_refl _, by show a ≤ m; omega, Nat.le_refl _, fun y h => absurd h (Nat.lt_irrefl _), fun y h => absurd h (Nat.lt_irrefl _)⟩ ?_ (fun _ _ => hl) ?_
  · exact St.le.of ⟨rfl, rfl, rfl, rfl, rfl, rfl, rfl, rfl, rfl, rfl, trivial⟩ ⟨rfl, Nat.zero_lt_one, brs_ok _ _, trivial⟩
  · rintro ⟨i, j⟩ ⟨h1, h2, h3, h4, h5⟩
    simp only at h1 h2 h3 h4 h5 ⊢
    by_cases hlt : i < j
    · have d1 : decide ((i : Int) < (j : Int)) = true := decide_eq_true (by omega)
      have eh := half64 (i := i) (j := j) (by omega)
      obtain ⟨h, hh⟩ : ∃ h, h = (i + j) / 2 := ⟨_, rfl⟩
      rw [← hh] at eh
      have hh1 : i ≤ h := by omega
      have hh2 : h < j := by omega
      refine Exists.elim (getE (l := L) (k := h) (by omega)) fun y hy => ?_
      have ixh := ixO (h := hget []) (id := 0) (n := N) eh (by omega)
      have lh := ldB (h := hget [(0, .cells (brs L))]) (id := 0) (l := L) rfl hy
      cases hc : ltBr x y
      · have k1 : a ≤ h + 1 ∧ h + 1 ≤ j ∧ j ≤ m ∧ (∀ y, a < h + 1 → L[h + 1 - 1]? = some y → ltBr x y = false) ∧ ∀ y, j < m → L[j]? = some y → ltBr x y = true :=
          ⟨by omega, by omega, h3, fun z _ hz => by rw [Nat.add_sub_cancel, hy] at hz; cases hz; exact hc, h5⟩
        have k2 : j - (h + 1) < j - i := by omega
        have es := (congrArg (fun z => IntKind.i64.wrap (z + 1)) eh).trans (succ64 (k := h) (by omega))
        exact ACode.vcM (.br 85 true <| .draw 9 <| .val 95 (.vptr 0 (0 + m * 4)) [] <| .val 96 (.agg (encBr x)) [] <| .val 99 (.vptr 0 (0 + h * 4)) [] <| .val 100 (.agg (encBr y)) [] <| .call (.int .i64 (cmpI x y)) <| .br 103 true .nil) hn hl (.round .cl)
          ⟨d1, by kernel_rfl, mixed, by kernel_rfl, Eq.trans (by kernel_rfl) ixm, Eq.trans (by kernel_rfl) lm, Eq.trans (by kernel_rfl) ixh, Eq.trans (by kernel_rfl) lh, by kernel_rfl, cmp_spec x y, congrArg Bool.not (lt_cmp _ _ hc), (h + 1, j), k1, k2,
            St.le.of ⟨rfl, rfl, rfl, rfl, rfl, rfl, congrArg (AV.int .i64) es, rfl, rfl, rfl, trivial⟩ ⟨rfl, Nat.zero_lt_one, brs_ok _ _, trivial⟩⟩
      · have k1 : a ≤ i ∧ i ≤ h ∧ h ≤ m ∧ (∀ y, a < i → L[i - 1]? = some y → ltBr x y = false) ∧ ∀ y, h < m → L[h]? = some y → ltBr x y = true :=
          ⟨h1, hh1, by omega, h4, fun z _ hz => by rw [hy] at hz; cases hz; exact hc⟩
        have k2 : h - i < j - i := by omega
        exact ACode.vcM (.br 85 true <| .draw 9 <| .val 95 (.vptr 0 (0 + m * 4)) [] <| .val 96 (.agg (encBr x)) [] <| .val 99 (.vptr 0 (0 + h * 4)) [] <| .val 100 (.agg (encBr y)) [] <| .call (.int .i64 (cmpI x y)) <| .br 103 false .nil) hn hl (.round .cl)
          ⟨d1, by kernel_rfl, mixed, by kernel_rfl, Eq.trans (by kernel_rfl) ixm, Eq.trans (by kernel_rfl) lm, Eq.trans (by kernel_rfl) ixh, Eq.trans (by kernel_rfl) lh, by kernel_rfl, cmp_spec x y, congrArg Bool.not (lt_cmp _ _ hc), (i, h), k1, k2,
            St.le.of ⟨rfl, rfl, rfl, rfl, rfl, rfl, rfl, rfl, congrArg (AV.int .i64) eh, rfl, trivial⟩ ⟨rfl, Nat.zero_lt_one, brs_ok _ _, trivial⟩⟩
    · have d1 : decide ((i : Int) < (j : Int)) = false := decide_eq_false (by omega)
      have hij : j = i := by omega
      subst hij
      obtain ⟨A1, A2, rfl, ha1⟩ := split2 (l := A) (a := j - a) (by omega)
      have hal : (A1 ++ A2).length = A1.length + A2.length := List.length_append
      have q1 : ∀ A' y, A1 = A' ++ [y] → ltBr x y = false := fun A' y e => h4 y (by have e' := congrArg List.length e; simp only [List.length_append, List.length_cons, List.length_nil] at e'; omega) (by
        rw [hL, e]
        have : X ++ (A' ++ [y] ++ A2 ++ x :: Y) = (X ++ A') ++ y :: (A2 ++ x :: Y) := by simp
        rw [this]; refine get1 ?_
        have e' := congrArg List.length e; simp only [List.length_append, List.length_cons, List.length_nil] at e'; simp; omega)
      have q2 : ∀ y A', A2 = y :: A' → ltBr x y = true := fun y A' e => h5 y (by have e' := congrArg List.length e; simp only [List.length_cons] at e'; omega) (by
        rw [hL, e]
        have : X ++ (A1 ++ y :: A' ++ x :: Y) = (X ++ A1) ++ y :: (A' ++ x :: Y) := by simp
        rw [this]; refine get1 ?_
        simp; omega)
      have hsd := one_right ordBr hAs q1 q2
      have hpm : (A1 ++ x :: A2).Perm (A1 ++ A2 ++ [x]) := by
        refine List.perm_middle.trans ?_
        exact (List.perm_append_comm (l₁ := [x]) (l₂ := A1 ++ A2))
      have hjj : j = X.length + A1.length := by omega
      refine ACode.vcM (.br 85 false .nil) hn hl (.round .cl) ⟨d1, _, .refl _, .loop, ?_⟩
      clear h4 h5 gx lm
      subst hL
      intro g hn hl
      replace hn : g.n = 220 := hn
      replace hl : g.low 1 := hl
      refine acode_while (fun o : List Br × List Br => ⟨[(0, .rsl 0 0 N 4), (14, .int .i64 (j : Int)), (17, .int .i64 ((X.length + A1.length + o.1.length : Nat) : Int))], [(0, .cells (brs (X ++ (A1 ++ (o.1 ++ (x :: (o.2 ++ Y)))))))], 1⟩)
        (fun o => o.1 ++ o.2 = A2) (fun o => o.1.length) (A2, []) (List.append_nil A2) ?_ (fun _ _ => hl) ?_
      · have e0 : (m : Int) = ((X.length + A1.length + A2.length : Nat) : Int) := by rw [hm]; simp; omega
        have e1 : X ++ (A1 ++ A2 ++ x :: Y) = X ++ (A1 ++ (A2 ++ (x :: ([] ++ Y)))) := by simp
        exact St.le.of ⟨rfl, rfl, rfl, rfl, congrArg (AV.int .i64) e0, rfl, trivial⟩ ⟨congrArg (fun z => some (AObj.cells (brs z))) e1, Nat.zero_lt_one, brs_ok _ _, trivial⟩
      · rintro ⟨C1, C2⟩ i1
        simp only at i1 ⊢
        have hcl := congrArg List.length i1
        simp only [List.length_append] at hcl
        rcases List.eq_nil_or_concat C1 with e | ⟨C0, u, e⟩
        · subst e
          have d2 : decide (((X.length + A1.length + ([] : List Br).length : Nat) : Int) > (j : Int)) = false := decide_eq_false (by simp only [List.length_nil]; omega)
          have e2 : X ++ (A1 ++ ([] ++ (x :: (C2 ++ Y)))) = X ++ ((A1 ++ x :: A2) ++ Y) := by rw [← i1]; simp
          exact ACode.vcM (.br 110 false .nil) hn hl (.round .cl) ⟨d2, _, .refl _, .nil, rfl, _, rfl, _, hpm, hsd, congrArg brs e2⟩
        · rw [List.concat_eq_append] at e
          subst e
          have hcu : (C0 ++ [u]).length = C0.length + 1 := by simp
          have d2 : decide (((X.length + A1.length + (C0 ++ [u]).length : Nat) : Int) > (j : Int)) = true := decide_eq_true (by omega)
          have e2 : X ++ (A1 ++ (C0 ++ [u] ++ (x :: (C2 ++ Y)))) = (X ++ (A1 ++ C0)) ++ u :: ([] ++ x :: (C2 ++ Y)) := by simp
          have eP : X.length + A1.length + C0.length = (X ++ (A1 ++ C0)).length := by simp; omega
          have eQ : X.length + A1.length + (C0 ++ [u]).length = (X ++ (A1 ++ C0)).length + 1 + ([] : List Br).length := by simp; omega
          have es : IntKind.i64.wrap (((X.length + A1.length + (C0 ++ [u]).length : Nat) : Int) - 1) = ((X.length + A1.length + C0.length : Nat) : Int) := by
            have e0 : X.length + A1.length + (C0 ++ [u]).length = (X.length + A1.length + C0.length) + 1 := by omega
            rw [e0]; exact pred64 (j := X.length + A1.length + C0.length) (by omega)
          obtain ⟨M, hM⟩ : ∃ M, M = X ++ (A1 ++ (C0 ++ [u] ++ (x :: (C2 ++ Y)))) := ⟨_, rfl⟩
          have hML : M.length = N := by rw [hM, hN, ← i1]; simp; omega
          have g1 : M[X.length + A1.length + C0.length]? = some u := by rw [hM, e2]; exact get1 eP
          have g2 : M[X.length + A1.length + (C0 ++ [u]).length]? = some x := by rw [hM, e2]; exact get2 eQ
          have sw : (M.set (X.length + A1.length + (C0 ++ [u]).length) u).set (X.length + A1.length + C0.length) x = X ++ (A1 ++ (C0 ++ (x :: ((u :: C2) ++ Y)))) := by
            rw [hM, e2, swap2' eP eQ]; simp
          have ix1 := ixO (h := hget []) (id := 0) (n := N) (i := ((X.length + A1.length + (C0 ++ [u]).length : Nat) : Int)) rfl (by omega)
          have ix2 := ixO (h := hget []) (id := 0) (n := N) es (by omega)
          have l1 := ldB (h := hget [(0, .cells (brs M))]) (id := 0) (l := M) rfl g1
          have l2 := ldB (h := hget [(0, .cells (brs M))]) (id := 0) (l := M) rfl g2
          have s1 := stB (h := hget [(0, .cells (brs M))]) (id := 0) (l := M) (b := u) rfl (show X.length + A1.length + (C0 ++ [u]).length < M.length by omega)
          have s2 := stB (h := hget [(0, .cells (brs (M.set (X.length + A1.length + (C0 ++ [u]).length) u)))]) (id := 0) (l := M.set (X.length + A1.length + (C0 ++ [u]).length) u) (b := x) rfl (show X.length + A1.length + C0.length < (M.set (X.length + A1.length + (C0 ++ [u]).length) u).length by rw [List.length_set]; omega)
          rw [sw] at s2
          have i3 : C0 ++ u :: C2 = A2 := by rw [← i1]; simp
          have i5 : C0.length < (C0 ++ [u]).length := by omega
          rw [← hM]
          exact ACode.vcM (.br 110 true <| .draw 16 <| .val 121 (.vptr 0 (0 + (X.length + A1.length + C0.length) * 4)) [] <| .val 122 (.agg (encBr u)) [] <| .val 125 (.vptr 0 (0 + (X.length + A1.length + (C0 ++ [u]).length) * 4)) [] <| .val 126 (.agg (encBr x)) [] <|
              .val 127 (.vptr 0 (0 + (X.length + A1.length + (C0 ++ [u]).length) * 4)) [] <| .val 1 .undef [(0, some (.cells (brs (M.set (X.length + A1.length + (C0 ++ [u]).length) u))))] <| .val 128 (.vptr 0 (0 + (X.length + A1.length + C0.length) * 4)) [] <|
              .val 1 .undef [(0, some (.cells (brs (X ++ (A1 ++ (C0 ++ (x :: ((u :: C2) ++ Y))))))))] .nil) hn hl (.round .cl)
            ⟨d2, by kernel_rfl, mixed, by kernel_rfl, Eq.trans (by kernel_rfl) ix2, Eq.trans (by kernel_rfl) l1, Eq.trans (by kernel_rfl) ix1, Eq.trans (by kernel_rfl) l2, Eq.trans (by kernel_rfl) ix1, Eq.trans (by kernel_rfl) s1, by kernel_rfl, Eq.trans (by kernel_rfl) ix2, Eq.trans (by kernel_rfl) s2,
              (C0, u :: C2), i3, i5,
              St.le.of ⟨rfl, rfl, rfl, rfl, congrArg (AV.int .i64) es, rfl, trivial⟩ ⟨rfl, Nat.zero_lt_one, brs_ok _ _, trivial⟩⟩
end Go.Proofs.Yticiopkiikcokaa
