/- The program's small triangles, sorted, are the reference's. No Go here. -/
import Derived.Test.YtbohobelbgbibaaDoorLabNodup
import Derived.Test.YtbohobelbgbibaaDoorLpCmp
import Derived.Test.YtbohobelbgbibaaDoorLpNumber
namespace Go.Proofs.YtbohobelbgbibaaDoor

/-- The two kinds of small triangles, as the program makes them. -/
def f1 (n : Nat) (s : Spt) : T3 := ((numN n s.1 s.2.1 : Int), (numN n s.1 (s.2.1 + 1) : Int), (numN n (s.1 + 1) s.2.1 : Int))
def f2 (n : Nat) (s : Spt) : T3 := ((numN n s.1 (s.2.1 + 1) : Int), (numN n (s.1 + 1) s.2.1 : Int), (numN n (s.1 + 1) (s.2.1 + 1) : Int))
def preL (n : Nat) : List T3 := (ptsL n).map (f1 n) ++ (ptsL (n - 1)).map (f2 n)
def triL (r : List Int) : T3 := (r[0]?.getD 0, r[1]?.getD 0, r[2]?.getD 0)
def triesL (n : Nat) : List T3 := (smallL n).map triL
theorem tries_all : allN (fun n => decide (n = 0) || ((triesL n).isPerm (preL n) && decide ((triesL n).Pairwise ltT))) 12 = true := by decide +kernel
theorem tries_is {n : Nat} (h0 : 0 < n) (hn : n ≤ 12) : List.Perm (triesL n) (preL n) ∧ (triesL n).Pairwise ltT := by
  have h := allN_at tries_all hn
  rw [decide_eq_false (by omega), Bool.false_or, Bool.and_eq_true] at h
  exact ⟨List.isPerm_iff.1 h.1, of_decide_eq_true h.2⟩
theorem sorted_is {n : Nat} (h0 : 0 < n) (hn : n ≤ 12) {l : List T3} (hp : List.Perm l (preL n)) (hs : l.Pairwise (fun a b => ¬ ltT b a)) : l = triesL n := by
  obtain ⟨h1, h2⟩ := tries_is h0 hn
  refine List.Perm.eq_of_pairwise (fun a b _ _ hab hba => ?_) hs (h2.imp fun {a b} h => ?_) (hp.trans h1.symm)
  · obtain ⟨a1, a2, a3⟩ := a
    obtain ⟨b1, b2, b3⟩ := b
    simp only [ltT] at hab hba
    have e1 : a1 = b1 := by omega
    have e2 : a2 = b2 := by omega
    have e3 : a3 = b3 := by omega
    rw [e1, e2, e3]
  · unfold ltT at *; omega

end Go.Proofs.YtbohobelbgbibaaDoor
