/-
  Copies of stairs, chambers and people in memory of one's own.
-/
import Derived.Test.YtiggnliiigcjaaaDoorR7
import Derived.Test.YtiggnliiigcjaaaDoorP10
namespace Go.Proofs.YtiggnliiigcjaaaDoor
open Go Go.Am
set_option maxRecDepth 100000
set_option maxHeartbeats 1000000
theorem srcS (h : Nat → Option AObj) (l : List Sta) : srcCells h 6 (.lst 6 (l.map cSt)) = some (fl cSt l, l.length) := by
  have h1 : (l.map cSt).all (fun y => y.length == 6) = true := by simp [cSt]
  simp only [srcCells]
  rw [if_pos ⟨trivial, h1⟩, fl_flatten, List.length_map]
theorem srcC (h : Nat → Option AObj) (l : List Cha) : srcCells h 4 (.lst 4 (l.map cCh)) = some (fl cCh l, l.length) := by
  have h1 : (l.map cCh).all (fun y => y.length == 4) = true := by simp [cCh]
  simp only [srcCells]
  rw [if_pos ⟨trivial, h1⟩, fl_flatten, List.length_map]
theorem appS0 {h : Nat → Option AObj} {i nid : Nat} {l : List Sta} (h0 : h i = some (.cells [])) (hn : l.length ≤ 1000) :
    aAppend Tryd.prog h nid 22 22 (.rsl i 0 0 6) (.lst 6 (l.map cSt)) = some ⟨.rsl nid 0 l.length 6, [(i, none), (nid, some (.cells (fl cSt l)))]⟩ := by
  unfold aAppend
  simp only [h0]
  rw [if_neg (by decide)]
  simp only [aAppend0, ty22, ty49, srcS, h0]
  rw [if_pos ⟨by decide, by decide, rfl⟩]
  rw [if_pos ⟨trivial, rfl, fl_cellB (fun _ => rfl) _, by omega⟩, Nat.zero_add, List.nil_append]
theorem appC0 {h : Nat → Option AObj} {i nid : Nat} {l : List Cha} (h0 : h i = some (.cells [])) (hn : l.length ≤ 1000) :
    aAppend Tryd.prog h nid 23 23 (.rsl i 0 0 4) (.lst 4 (l.map cCh)) = some ⟨.rsl nid 0 l.length 4, [(i, none), (nid, some (.cells (fl cCh l)))]⟩ := by
  unfold aAppend
  simp only [h0]
  rw [if_neg (by decide)]
  simp only [aAppend0, ty23, ty69, srcC, h0]
  rw [if_pos ⟨by decide, by decide, rfl⟩]
  rw [if_pos ⟨trivial, rfl, fl_cellB (fun _ => rfl) _, by omega⟩, Nat.zero_add, List.nil_append]
theorem appW0 {h : Nat → Option AObj} {i nid : Nat} {l : List Wal} (h0 : h i = some (.cells [])) (hn : l.length ≤ 1000) :
    aAppend Tryd.prog h nid 26 26 (.rsl i 0 0 5) (encW l) = some ⟨.rsl nid 0 l.length 5, [(i, none), (nid, some (.cells (fl cWa l)))]⟩ := by
  have := appW (h := h) (i := i) (nid := nid) (d := []) (r := []) (l := l) h0 (by simp; omega)
  simpa using this
/-- One of one's own is appended. -/
theorem appW1 {h : Nat → Option AObj} {i j nid : Nat} {d : List Wal} {x : Wal} (h0 : h i = some (.cells (fl cWa d))) (h1 : h j = some (.cells (cWa x))) (hn : d.length ≤ 1000) :
    aAppend Tryd.prog h nid 26 26 (.rsl i 0 d.length 5) (.rsl j 0 1 5) = some ⟨.rsl nid 0 (d.length + 1) 5, [(i, none), (nid, some (.cells (fl cWa (d ++ [x]))))]⟩ := by
  have e : fl cWa (d ++ [x]) = fl cWa d ++ cWa x := by rw [flW_app]; simp [fl]
  rw [app_exact h0 (by rw [flW_len]; exact Nat.lt_irrefl _)]
  simp only [aAppend0, ty26, ty30, srcCells, h0, h1]
  simp [flW_len, e, cellB, cWa]
  omega
end Go.Proofs.YtiggnliiigcjaaaDoor
