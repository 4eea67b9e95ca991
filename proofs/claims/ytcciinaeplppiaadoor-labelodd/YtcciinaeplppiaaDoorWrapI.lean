/- Small triangles: their corners are near each other; a side lies in two of them at most; a triangle has two doors at most. No Go here. No small triangle is told twice. No Go here. An append of elements of any size as a step of a region that draws; a block that was just laid; what lies far from a change. Small numbers are not wrapped. -/
import Derived.Test.YtcciinaeplppiaaDoorLabGeo
import Derived.Test.YtcciinaeplppiaaDoorBase
import Derived.Deep.RegionLaw
import Derived.Deep.AppendLies
namespace Go.Proofs.YtcciinaeplppiaaDoor

def spA (l : List Spt) (a : Nat) : Spt := l[a]?.getD (0, 0, 0)
/-- What a small triangle is. -/
def TriOf (l : List Spt) (r : List Int) : Prop := ∃ a b c : Nat, r = [(a : Int), (b : Int), (c : Int)] ∧ a < b ∧ b < c ∧ c < l.length ∧ nearN (spA l a) (spA l b) = true ∧ nearN (spA l a) (spA l c) = true ∧ nearN (spA l b) (spA l c) = true
theorem mem_smallA (l : List Spt) {m : Nat} (_hm : m ≤ l.length) {r : List Int} (h : r ∈ smallA l m) : TriOf l r := by
  unfold smallA smallB smallC at h
  obtain ⟨p, hp, h⟩ := List.mem_flatMap.1 h
  obtain ⟨q, hq, h⟩ := List.mem_flatMap.1 h
  split at h
  · rename_i hpq
    split at h
    · rename_i hn
      obtain ⟨c, hc, rfl⟩ := List.mem_map.1 h
      have h1 := List.mem_range.1 (List.mem_filter.1 hc).1
      have h2 := (List.mem_filter.1 hc).2
      rw [Bool.and_eq_true, Bool.and_eq_true] at h2
      exact ⟨p, q, c, rfl, hpq, of_decide_eq_true h2.1, h1, hn, h2.2.1, h2.2.2⟩
    · cases h
  · cases h
theorem smallL_of {n : Nat} {r : List Int} (h : r ∈ smallL n) : TriOf (spotsL n) r := mem_smallA _ (Nat.le_refl _) h
/-- Three numbers, rising, two of them given in their order. -/
def ins (x y z : Nat) : List Int := if z < x then [(z : Int), (x : Int), (y : Int)] else if z < y then [(x : Int), (z : Int), (y : Int)] else [(x : Int), (y : Int), (z : Int)]
theorem edge_third {l : List Spt} {r : List Int} (h : TriOf l r) {x y : Nat} (hxy : x < y) (hx : (x : Int) ∈ r) (hy : (y : Int) ∈ r) : ∃ z, r = ins x y z ∧ z < l.length ∧ y < l.length ∧ nearN (spA l x) (spA l y) = true ∧ nearN (spA l x) (spA l z) = true ∧ nearN (spA l y) (spA l z) = true := by
  obtain ⟨a, b, c, rfl, h1, h2, h3, n1, n2, n3⟩ := h
  simp only [List.mem_cons, List.not_mem_nil, or_false] at hx hy
  have e : ∀ {u v : Nat}, (u : Int) = (v : Int) → u = v := fun h => by omega
  rcases hx with hx | hx | hx <;> rcases hy with hy | hy | hy <;> (have ex := e hx; have ey := e hy; subst ex; subst ey) <;> first
    | omega
    | exact ⟨c, by unfold ins; rw [if_neg (by omega), if_neg (by omega)], by omega, by omega, n1, n2, n3⟩
    | exact ⟨b, by unfold ins; rw [if_neg (by omega), if_pos (by omega)], by omega, by omega, n2, n1, by rw [near_comm]; exact n3⟩
    | exact ⟨a, by unfold ins; rw [if_pos (by omega)], by omega, by omega, n3, by rw [near_comm]; exact n1, by rw [near_comm]; exact n2⟩
theorem spA_mem {n a : Nat} (h : a < (spotsL n).length) : spA (spotsL n) a ∈ spotsL n := by
  unfold spA
  rw [List.getElem?_eq_getElem h]
  exact List.getElem_mem _
theorem spA_inj {n a b : Nat} (hn : n ≤ 12) (ha : a < (spotsL n).length) (hb : b < (spotsL n).length) (e : spA (spotsL n) a = spA (spotsL n) b) : a = b := by
  unfold spA at e
  rw [List.getElem?_eq_getElem ha, List.getElem?_eq_getElem hb] at e
  exact (List.getElem_inj (spots_nodup n hn)).1 e
/-- A side lies in two small triangles at most. -/
theorem edge_two {n : Nat} (hn : n ≤ 12) {x y : Nat} (hxy : x < y) {r s t : List Int} (hr : TriOf (spotsL n) r) (hs : TriOf (spotsL n) s) (ht : TriOf (spotsL n) t) (xr : (x : Int) ∈ r) (yr : (y : Int) ∈ r) (xs : (x : Int) ∈ s) (ys : (y : Int) ∈ s) (xt : (x : Int) ∈ t) (yt : (y : Int) ∈ t) : r = s ∨ s = t ∨ r = t := by
  obtain ⟨a, rfl, ha, hy, p1, p2, p3⟩ := edge_third hr hxy xr yr
  obtain ⟨b, rfl, hb, -, q1, q2, q3⟩ := edge_third hs hxy xs ys
  obtain ⟨c, rfl, hc, -, r1, r2, r3⟩ := edge_third ht hxy xt yt
  have hx : x < (spotsL n).length := by omega
  have sm : ∀ {a}, a < (spotsL n).length → sumS (spA (spotsL n) a) = n := fun h => spots_sum (spA_mem h)
  rcases two_thirds p1 p2 p3 q2 q3 r2 r3 (by rw [sm hx, sm hy]) (by rw [sm hx, sm ha]) (by rw [sm hx, sm hb]) (by rw [sm hx, sm hc]) with e | e | e
  · exact .inl (by rw [spA_inj hn ha hb e])
  · exact .inr (.inl (by rw [spA_inj hn hb hc e]))
  · exact .inr (.inr (by rw [spA_inj hn ha hc e]))

end Go.Proofs.YtcciinaeplppiaaDoor

namespace Go.Proofs.YtcciinaeplppiaaDoor

def allN (p : Nat → Bool) : Nat → Bool
  | 0 => p 0
  | n + 1 => p (n + 1) && allN p n
theorem allN_at {p : Nat → Bool} : ∀ {m n : Nat}, allN p m = true → n ≤ m → p n = true
  | 0, n, h, hn => by
    obtain rfl : n = 0 := by omega
    exact h
  | m + 1, n, h, hn => by
    rw [allN, Bool.and_eq_true] at h
    rcases Nat.lt_or_ge n (m + 1) with k | k
    · exact allN_at h.2 (by omega)
    · obtain rfl : n = m + 1 := by omega
      exact h.1
theorem small_all : allN (fun n => decide (smallL n).Nodup) 12 = true := by decide +kernel
theorem small_nodup {n : Nat} (hn : n ≤ 12) : (smallL n).Nodup := of_decide_eq_true (allN_at small_all hn)

end Go.Proofs.YtcciinaeplppiaaDoor

namespace Go.Proofs.YtcciinaeplppiaaDoor
open Go.RowKit Go.Sort

/-- An append onto a row of the call's own, of elements of any size, at a step of a region that draws its order. -/
theorem step_append_wide {P : Program} {w : World} {ops : Array Oper} {o : Oper} {a : Act} {K : Act → World → Prop} {Q : Exit → Act → World → Prop} {E : Prop} (hgd : o.guard = none) (s x : Operand) (t : TypeId)
    (ho : o.op = .call { callee := .builtin .append, args := #[s, x], argTypes := #[t, t] })
    (base : Nat) (e : TypeId) (i : TypeInfo) (z : Value) (size bytes : Nat) (ht : P.underlying t = some (.slice e)) (hi : P.info? e = some i) (hz : i.zero = some z)
    (hsize : i.size = size) (hby : i.bytes = bytes) (hzs : z.cells.size = size) (hsz : 0 < size) (v : Value) (n : Nat) (xs : List Value) (hs : a.eval s = v) (hown : w.ownsRow base e size v n xs)
    (ad : Addr) (m c : Nat) (news : List Value) (hx : a.eval x = .slice (some ad) m c) (hl : news.length = m * size) (hnews : ∀ j u, news[j]? = some u → w.cell? (ad.add j) = some u) (h1 : ∀ u ∈ news, u.oneCell' = true)
    (h63 : n + m ≤ maxLen) (hbytes : (n + m) * bytes ≤ 140737488355328) (hbase : base ≤ w.heap.size)
    (h : ∀ v' w', w'.ownsRow base e size v' (n + m) (xs ++ news) → w.grownBy w' v.ownBlock → (v'.ownBlock = v.ownBlock ∨ v'.ownBlock = some w.heap.size) → K (a.put o.dst v') w') :
    if Region.wanted o (yielded ops a.tmps) = true then Oper.wp P o a w K Q else E := by
  have hw : Region.wanted o (yielded ops a.tmps) = true := by simp [Region.wanted, hgd]
  rw [if_pos hw]
  obtain ⟨v', w', hr, h2, h3, -, h4⟩ := run_append_own_at (P := P) w base t o.type e i z size bytes ht hi hz hsize hby hzs hsz v n xs hown ad m c news hl hnews h1 h63 hbytes hbase
  unfold Oper.wp execOp
  simp only [ho, resolve, invoke, builtin, Sem.run_bind, Sem.run_pure, Result.andThen_ok, List.map_toArray, List.map_cons, List.map_nil, hs, hx, hr]
  exact h v' w' h2 h3 h4

theorem cells_new (w : World) (L : List Value) (t : TypeId) : ∀ j u, L[j]? = some u → (w.alloc (.cells L.toArray t)).cell? ((⟨w.heap.size, 0, none⟩ : Addr).add j) = some u := fun j u hu => by
  rw [Addr.add_lit]
  simpa using hu

theorem far_c {w w' : World} {row : Option Nat} (hg : w.grownBy w' row) (a : Addr) (hlt : a.block < w.heap.size) (hne : some a.block ≠ row) : w'.cell? a = w.cell? a := World.cell?_of_block (hg.block a.block hlt hne)
theorem far_f {w w' : World} {row : Option Nat} (hg : w.grownBy w' row) (a : Addr) (hlt : a.block < w.heap.size) (hne : some a.block ≠ row) : w'.frozen? a = w.frozen? a := World.frozen?_of_block (hg.block a.block hlt hne)

end Go.Proofs.YtcciinaeplppiaaDoor

namespace Go.Proofs.YtcciinaeplppiaaDoor
open Go.RowKit

theorem wrapI {x : Int} (h0 : -10000000 ≤ x) (h1 : x ≤ 10000000) : IntKind.i64.wrap x = x := by rw [IntKind.wrap_i64]; omega
theorem Hid.mk' {p : Prop} (h : p) : Hid p := h

end Go.Proofs.YtcciinaeplppiaaDoor
