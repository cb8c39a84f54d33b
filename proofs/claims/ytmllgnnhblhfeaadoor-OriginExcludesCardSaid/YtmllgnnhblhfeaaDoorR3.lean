import Derived.Test.YtmllgnnhblhfeaaDoorR1
import Derived.Test.YtmllgnnhblhfeaaDoorW4
/-
  THE REFERENCE: what a mark says.
-/
namespace Go.Proofs.YtmllgnnhblhfeaaDoor
open Go Go.Am
set_option maxRecDepth 100000
set_option maxHeartbeats 4000000
theorem rsp {a b c d : Int} (h : a = c) (q : b = d) : some (AV.agg [.int .i64 a, .int .i64 b]) = some (encSp (c, d)) := by subst h; subst q; rfl
theorem win1 (s : Scn) (_hf : 0 ≤ s.fin ∧ s.fin ≤ 100000) (i r x lo hi l : Int) (hlo : -1000000 ≤ lo ∧ lo ≤ 100000) (hhi : -1000000 ≤ hi ∧ hi ≤ 100000) (_hl : -100000 ≤ l ∧ l ≤ 100000) (fl : List Int) {d : Int} (hd0 : 0 ≤ d ∧ d ≤ 1000000) (hr : 0 ≤ r ∧ (fl.map encI)[r.toNat]? = some (encI d)) :
    APure Tryd.prog 61 [encSc s, .agg (cMj i 1 r x lo hi l), encR fl] (encSp (if d < 1000000 then (lo - d, hi - d) else (1, 0))) := by
  by_cases hd : d < 1000000
  · have h1 : IntKind.i64.wrap (lo - d) = lo - d := by have q : IntKind.i64.wrap (lo - d) = lo - d := wrap64 (by omega) (by omega); exact q
    have h2 : IntKind.i64.wrap (hi - d) = hi - d := by have q : IntKind.i64.wrap (hi - d) = hi - d := wrap64 (by omega) (by omega); exact q
    rw [if_pos hd]
    exact APure.vc Tryd.func61 rfl (.cells (encI d) <| .br 26 true .nil) rfl rfl ⟨hr, decide_eq_true hd, trivial, Eq.trans (by kernel_rfl) (rsp h1 h2)⟩
  · rw [if_neg hd]
    exact APure.vc Tryd.func61 rfl (.cells (encI d) <| .br 26 false .nil) rfl rfl ⟨hr, decide_eq_false hd, trivial, Eq.trans (by kernel_rfl) (rsp (a := 1) (b := 0) rfl rfl)⟩
theorem win2 (s : Scn) (_hf : 0 ≤ s.fin ∧ s.fin ≤ 100000) (i r x lo hi l : Int) (hlo : -1000000 ≤ lo ∧ lo ≤ 100000) (_hhi : -1000000 ≤ hi ∧ hi ≤ 100000) (_hl : -100000 ≤ l ∧ l ≤ 100000) (fl : List Int) {d : Int} (hd0 : 0 ≤ d ∧ d ≤ 1000000) (hr : 0 ≤ r ∧ (fl.map encI)[r.toNat]? = some (encI d)) :
    APure Tryd.prog 61 [encSc s, .agg (cMj i 2 r x lo hi l), encR fl] (encSp (if d < 1000000 then (lo + 1 - d, s.fin) else (0, s.fin))) := by
  by_cases hd : d < 1000000
  · have h1 : IntKind.i64.wrap (IntKind.i64.wrap (lo + 1) - d) = lo + 1 - d := by have q : IntKind.i64.wrap (lo + 1) = lo + 1 := wrap64 (by omega) (by omega); rw [q]; have q : IntKind.i64.wrap (lo + 1 - d) = lo + 1 - d := wrap64 (by omega) (by omega); exact q
    have h2 : s.fin = s.fin := rfl
    rw [if_pos hd]
    exact APure.vc Tryd.func61 rfl (.cells (encI d) <| .br 41 false .nil) rfl rfl ⟨hr, (by rw [decide_eq_true hd]; rfl : (!decide (d < 1000000)) = false), trivial, Eq.trans (by kernel_rfl) (rsp h1 h2)⟩
  · rw [if_neg hd]
    exact APure.vc Tryd.func61 rfl (.cells (encI d) <| .br 41 true .nil) rfl rfl ⟨hr, (by rw [decide_eq_false hd]; rfl : (!decide (d < 1000000)) = true), trivial, Eq.trans (by kernel_rfl) (rsp (a := 0) (b := s.fin) rfl rfl)⟩
theorem win3 (s : Scn) (_hf : 0 ≤ s.fin ∧ s.fin ≤ 100000) (i r x lo hi l : Int) (_hlo : -1000000 ≤ lo ∧ lo ≤ 100000) (hhi : -1000000 ≤ hi ∧ hi ≤ 100000) (_hl : -100000 ≤ l ∧ l ≤ 100000) (fl : List Int) {d : Int} (hd0 : 0 ≤ d ∧ d ≤ 1000000) (hr : 0 ≤ r ∧ (fl.map encI)[r.toNat]? = some (encI d)) :
    APure Tryd.prog 61 [encSc s, .agg (cMj i 3 r x lo hi l), encR fl] (encSp (if d < 1000000 then (0, hi - d) else (1, 0))) := by
  by_cases hd : d < 1000000
  · have h1 : (0 : Int) = 0 := rfl
    have h2 : IntKind.i64.wrap (hi - d) = hi - d := by have q : IntKind.i64.wrap (hi - d) = hi - d := wrap64 (by omega) (by omega); exact q
    rw [if_pos hd]
    exact APure.vc Tryd.func61 rfl (.cells (encI d) <| .br 54 true .nil) rfl rfl ⟨hr, decide_eq_true hd, trivial, Eq.trans (by kernel_rfl) (rsp h1 h2)⟩
  · rw [if_neg hd]
    exact APure.vc Tryd.func61 rfl (.cells (encI d) <| .br 54 false .nil) rfl rfl ⟨hr, decide_eq_false hd, trivial, Eq.trans (by kernel_rfl) (rsp (a := 1) (b := 0) rfl rfl)⟩
theorem win4 (s : Scn) (hf : 0 ≤ s.fin ∧ s.fin ≤ 100000) (i r x lo hi l : Int) (_hlo : -1000000 ≤ lo ∧ lo ≤ 100000) (_hhi : -1000000 ≤ hi ∧ hi ≤ 100000) (hl : -100000 ≤ l ∧ l ≤ 100000) (fl : List Int) {d : Int} (hd0 : 0 ≤ d ∧ d ≤ 1000000) (hr : 0 ≤ r ∧ (fl.map encI)[r.toNat]? = some (encI d)) :
    APure Tryd.prog 61 [encSc s, .agg (cMj i 4 r x lo hi l), encR fl] (encSp (if d < 1000000 then (0, s.fin - l - d) else (1, 0))) := by
  by_cases hd : d < 1000000
  · have h1 : (0 : Int) = 0 := rfl
    have h2 : IntKind.i64.wrap (IntKind.i64.wrap (s.fin - l) - d) = s.fin - l - d := by have q : IntKind.i64.wrap (s.fin - l) = s.fin - l := wrap64 (by omega) (by omega); rw [q]; have q : IntKind.i64.wrap (s.fin - l - d) = s.fin - l - d := wrap64 (by omega) (by omega); exact q
    rw [if_pos hd]
    exact APure.vc Tryd.func61 rfl (.cells (encI d) <| .br 63 true .nil) rfl rfl ⟨hr, decide_eq_true hd, trivial, Eq.trans (by kernel_rfl) (rsp h1 h2)⟩
  · rw [if_neg hd]
    exact APure.vc Tryd.func61 rfl (.cells (encI d) <| .br 63 false .nil) rfl rfl ⟨hr, decide_eq_false hd, trivial, Eq.trans (by kernel_rfl) (rsp (a := 1) (b := 0) rfl rfl)⟩
theorem win5 (s : Scn) (hf : 0 ≤ s.fin ∧ s.fin ≤ 100000) (i r x lo hi l : Int) (_hlo : -1000000 ≤ lo ∧ lo ≤ 100000) (_hhi : -1000000 ≤ hi ∧ hi ≤ 100000) (hl : -100000 ≤ l ∧ l ≤ 100000) (fl : List Int) {d : Int} (hd0 : 0 ≤ d ∧ d ≤ 1000000) (hr : 0 ≤ r ∧ (fl.map encI)[r.toNat]? = some (encI d)) :
    APure Tryd.prog 61 [encSc s, .agg (cMj i 5 r x lo hi l), encR fl] (encSp (if d < 1000000 then (s.fin - l + 1 - d, s.fin) else (0, s.fin))) := by
  by_cases hd : d < 1000000
  · have h1 : IntKind.i64.wrap (IntKind.i64.wrap (IntKind.i64.wrap (s.fin - l) + 1) - d) = s.fin - l + 1 - d := by have q : IntKind.i64.wrap (s.fin - l) = s.fin - l := wrap64 (by omega) (by omega); rw [q]; have q : IntKind.i64.wrap (s.fin - l + 1) = s.fin - l + 1 := wrap64 (by omega) (by omega); rw [q]; have q : IntKind.i64.wrap (s.fin - l + 1 - d) = s.fin - l + 1 - d := wrap64 (by omega) (by omega); exact q
    have h2 : s.fin = s.fin := rfl
    rw [if_pos hd]
    exact APure.vc Tryd.func61 rfl (.cells (encI d) <| .br 75 false .nil) rfl rfl ⟨hr, (by rw [decide_eq_true hd]; rfl : (!decide (d < 1000000)) = false), trivial, Eq.trans (by kernel_rfl) (rsp h1 h2)⟩
  · rw [if_neg hd]
    exact APure.vc Tryd.func61 rfl (.cells (encI d) <| .br 75 true .nil) rfl rfl ⟨hr, (by rw [decide_eq_false hd]; rfl : (!decide (d < 1000000)) = true), trivial, Eq.trans (by kernel_rfl) (rsp (a := 0) (b := s.fin) rfl rfl)⟩
theorem win6 (s : Scn) (i r x lo hi l : Int) (fl : List Int) {d e : Int} (hr : 0 ≤ r ∧ (fl.map encI)[r.toNat]? = some (encI d)) (hx : 0 ≤ x ∧ (fl.map encI)[x.toNat]? = some (encI e)) :
    APure Tryd.prog 61 [encSc s, .agg (cMj i 6 r x lo hi l), encR fl] (encSp (if d < 1000000 ∧ d < e then (0, s.fin) else (1, 0))) := by
  by_cases hd : d < 1000000
  · by_cases he : d < e
    · rw [if_pos ⟨hd, he⟩]
      exact APure.vc Tryd.func61 rfl (.cells (encI d) <| .br 91 true <| .cells (encI e) <| .br 99 true .nil) rfl rfl ⟨hr, decide_eq_true hd, hx, decide_eq_true he, trivial, Eq.trans (by kernel_rfl) (rsp (a := 0) (b := s.fin) rfl rfl)⟩
    · rw [if_neg fun h => he h.2]
      exact APure.vc Tryd.func61 rfl (.cells (encI d) <| .br 91 true <| .cells (encI e) <| .br 99 false .nil) rfl rfl ⟨hr, decide_eq_true hd, hx, decide_eq_false he, trivial, Eq.trans (by kernel_rfl) (rsp (a := 1) (b := 0) rfl rfl)⟩
  · rw [if_neg fun h => hd h.1]
    exact APure.vc Tryd.func61 rfl (.cells (encI d) <| .br 91 false .nil) rfl rfl ⟨hr, decide_eq_false hd, trivial, Eq.trans (by kernel_rfl) (rsp (a := 1) (b := 0) rfl rfl)⟩
theorem win_spec (s : Scn) (hf : 0 ≤ s.fin ∧ s.fin ≤ 100000) (m : Mk) (hm : smM m) (hk : 1 ≤ m.kd.val ∧ m.kd.val ≤ 6) (fl : List Int) {d e : Int} (hd0 : 0 ≤ d ∧ d ≤ 1000000)
    (hr : 0 ≤ m.room ∧ (fl.map encI)[m.room.toNat]? = some (encI d)) (hx : 0 ≤ m.other ∧ (fl.map encI)[m.other.toNat]? = some (encI e)) :
    APure Tryd.prog 61 [encSc s, .agg (cMk m), encR fl] (encSp (windV 1000000 (mrk m) s.fin d e)) := by
  rw [cMk_eq]
  by_cases k1 : m.kd.val = 1
  · have := win1 s hf m.id m.room m.other m.lo m.hi m.long hm.lo hm.hi hm.long fl hd0 hr
    have ek : (mrk m).kind = 1 := by show ((m.kd.val : Nat) : Int) = 1; omega
    unfold windV; rw [ek, k1]; exact this
  by_cases k2 : m.kd.val = 2
  · have := win2 s hf m.id m.room m.other m.lo m.hi m.long hm.lo hm.hi hm.long fl hd0 hr
    have ek : (mrk m).kind = 2 := by show ((m.kd.val : Nat) : Int) = 2; omega
    unfold windV; rw [ek, k2]; exact this
  by_cases k3 : m.kd.val = 3
  · have := win3 s hf m.id m.room m.other m.lo m.hi m.long hm.lo hm.hi hm.long fl hd0 hr
    have ek : (mrk m).kind = 3 := by show ((m.kd.val : Nat) : Int) = 3; omega
    unfold windV; rw [ek, k3]; exact this
  by_cases k4 : m.kd.val = 4
  · have := win4 s hf m.id m.room m.other m.lo m.hi m.long hm.lo hm.hi hm.long fl hd0 hr
    have ek : (mrk m).kind = 4 := by show ((m.kd.val : Nat) : Int) = 4; omega
    unfold windV; rw [ek, k4]; exact this
  by_cases k5 : m.kd.val = 5
  · have := win5 s hf m.id m.room m.other m.lo m.hi m.long hm.lo hm.hi hm.long fl hd0 hr
    have ek : (mrk m).kind = 5 := by show ((m.kd.val : Nat) : Int) = 5; omega
    unfold windV; rw [ek, k5]; exact this
  have k6 : m.kd.val = 6 := by omega
  have := win6 s m.id m.room m.other m.lo m.hi m.long fl hr hx
  have ek : (mrk m).kind = 6 := by show ((m.kd.val : Nat) : Int) = 6; omega
  unfold windV; rw [ek, k6]; exact this
end Go.Proofs.YtmllgnnhblhfeaaDoor
