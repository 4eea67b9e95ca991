/- Which small triangles are full, by the reference. -/
import Derived.Test.YtbohobelbgbibaaDoorLabSmall
namespace Go.Proofs.YtbohobelbgbibaaDoor
open Go.RowKit Go.Sort

def labA (ls : List Int) (i : Nat) : Int := ls[i]?.getD 0
def fullB (ls : List Int) (a b c : Nat) : Bool := (labA ls a != labA ls b) && ((labA ls b != labA ls c) && (labA ls a != labA ls c))
def numR (r : List Int) (i : Nat) : Nat := (r[i]?.getD 0).toNat
def fullR (ls : List Int) (r : List Int) : Bool := fullB ls (numR r 0) (numR r 1) (numR r 2)
def fullTo (ls : List Int) (T : List (List Int)) (k : Nat) : List Int := ((List.range k).filter fun i => fullR ls (T[i]?.getD [])).map fun (i : Nat) => (i : Int)
def fullL (ls : List Int) (T : List (List Int)) : List Int := fullTo ls T T.length
theorem fullTo_yes {ls : List Int} {T : List (List Int)} {k : Nat} (h : fullR ls (T[k]?.getD []) = true) : fullTo ls T (k + 1) = fullTo ls T k ++ [(k : Int)] := by
  unfold fullTo
  rw [List.range_succ, List.filter_append, List.map_append, List.filter_cons_of_pos (p := fun i => fullR ls (T[i]?.getD [])) h]; rfl
theorem fullTo_no {ls : List Int} {T : List (List Int)} {k : Nat} (h : fullR ls (T[k]?.getD []) = false) : fullTo ls T (k + 1) = fullTo ls T k := by
  unfold fullTo
  rw [List.range_succ, List.filter_append, List.filter_cons_of_neg (p := fun i => fullR ls (T[i]?.getD [])) (by rw [h]; simp)]; simp
/-- What a small triangle is: three rising numbers of points. -/
def TriIn (N : Nat) (r : List Int) : Prop := ∃ a b c : Nat, r = [(a : Int), (b : Int), (c : Int)] ∧ a < b ∧ b < c ∧ c < N
theorem small_tri (l : List Spt) (a : Nat) : ∀ r ∈ smallA l a, TriIn l.length r := by
  intro r hr
  unfold smallA smallB smallC at hr
  obtain ⟨p, hp, hr⟩ := List.mem_flatMap.1 hr
  obtain ⟨q, hq, hr⟩ := List.mem_flatMap.1 hr
  split at hr
  · rename_i hpq
    split at hr
    · obtain ⟨c, hc, rfl⟩ := List.mem_map.1 hr
      have h1 := List.mem_range.1 (List.mem_filter.1 hc).1
      have h2 := (List.mem_filter.1 hc).2
      rw [Bool.and_eq_true] at h2
      exact ⟨p, q, c, rfl, hpq, of_decide_eq_true h2.1, h1⟩
    · cases hr
  · cases hr
theorem smallL_tri {n : Nat} {r : List Int} (h : r ∈ smallL n) : TriIn (spotsL n).length r := small_tri _ _ r h
theorem smallL_few {n : Nat} (hn : n ≤ 12) : (smallL n).length ≤ 1000000 := by
  have h := small_few (n := n) rfl hn (a := (spotsL n).length) (b := 0) (c := 0) (Nat.le_refl _) (Nat.zero_le _) (Nat.zero_le _)
  unfold smallL
  rw [List.length_append, List.length_append] at h
  omega

set_option maxRecDepth 100000 in
theorem isFull_ {a b c : Nat} {ls : List Int} (vt vl : Value) (w : World) (ht : Ints w vt [(a : Int), (b : Int), (c : Int)]) (hl : Ints w vl ls) (ha : a < ls.length) (hb : b < ls.length) (hc : c < ls.length) (h9 : ls.length ≤ 1000) :
    Calls Tryd.prog 35 #[vt, vl] w fun e w' => e = .returned (.bool (fullB ls a b c)) ∧ w' = w := by
  obtain ⟨at1, ct, rfl, -, hx⟩ := ht.open_
  obtain ⟨al, cl, rfl, -, hy⟩ := hl.open_
  obtain ⟨bt, ot, rfl, -, -, hct⟩ := hx (by simp)
  obtain ⟨bl, ol, rfl, -, -, hcl⟩ := hy (by omega)
  have t0 := hct 0 (by simp)
  have t1 := hct 1 (by simp)
  have t2 := hct 2 (by simp)
  have l0 := hcl a ha
  have l1 := hcl b hb
  have l2 := hcl c hc
  unfold fullB
  obtain ⟨x, hx1⟩ : ∃ x, labA ls a = x := ⟨_, rfl⟩
  obtain ⟨y, hy1⟩ : ∃ y, labA ls b = y := ⟨_, rfl⟩
  obtain ⟨z, hz1⟩ : ∃ z, labA ls c = z := ⟨_, rfl⟩
  rw [hx1, hy1, hz1]
  rw [show ls[a]?.getD 0 = x from hx1] at l0
  rw [show ls[b]?.getD 0 = y from hy1] at l1
  rw [show ls[c]?.getD 0 = z from hz1] at l2
  obtain ⟨m, hm⟩ : ∃ m, ls.length = m := ⟨_, rfl⟩
  rw [hm] at ha hb hc h9 ⊢
  have e3 : [(a : Int), (b : Int), (c : Int)].length = 3 := rfl
  rw [e3]
  have za : (0 : Int) ≤ (a : Int) := by omega
  have za1 : (a : Int) < (m : Int) := by omega
  have zb : (0 : Int) ≤ (b : Int) := by omega
  have zb1 : (b : Int) < (m : Int) := by omega
  have zc : (0 : Int) ≤ (c : Int) := by omega
  have zc1 : (c : Int) < (m : Int) := by omega
  simp only [List.getElem?_cons_zero, List.getElem?_cons_succ, Option.getD_some, Nat.add_zero] at t0 t1 t2
  clear hx hy hct hcl hx1 hy1 hz1 hm e3 ht hl
  by_cases xy : x = y
  · subst xy
    have e : (x != x) = false := by simp
    rw [e, Bool.false_and]
    go_enter Tryd.func35, Tryd.ntmps35
    go_wp2_with fail
    go_ret
    exact ⟨rfl, rfl⟩
  · have e1 : (x != y) = true := by simp [xy]
    have e1' : (x == y) = false := by simp [xy]
    rw [e1, Bool.true_and]
    by_cases yz : y = z
    · subst yz
      have e : (y != y) = false := by simp
      rw [e, Bool.false_and]
      go_enter Tryd.func35, Tryd.ntmps35
      go_wp2_with fail
      go_ret
      exact ⟨rfl, rfl⟩
    · have e2 : (y != z) = true := by simp [yz]
      have e2' : (y == z) = false := by simp [yz]
      rw [e2, Bool.true_and]
      by_cases xz : x = z
      · subst xz
        have e : (x != x) = false := by simp
        rw [e]
        go_enter Tryd.func35, Tryd.ntmps35
        go_wp2_with fail
        go_ret
        exact ⟨rfl, rfl⟩
      · have e4 : (x != z) = true := by simp [xz]
        have e4' : (x == z) = false := by simp [xz]
        rw [e4]
        go_enter Tryd.func35, Tryd.ntmps35
        go_wp2_with fail
        go_ret
        exact ⟨rfl, rfl⟩

set_option maxRecDepth 100000 in
set_option maxHeartbeats 2000000 in
theorem fullOf_ {ls : List Int} (n : Nat) (hn : n ≤ 12) (vl : Value) (w : World) (hl : Ints w vl ls) (hls : ls.length = (spotsL n).length) :
    Calls Tryd.prog 18 #[.int .i64 (n : Int), vl] w fun e w' => ∃ v, e = .returned v ∧ Ints w' v (fullL ls (smallL n)) ∧ Below w.heap.size w w' := by
  obtain ⟨j0, hj0, hy0, hy1, hy2⟩ := info_parts Tryd.infoInt
  have hsm := smallOf_ n hn w
  have HLS := Hid.mk' (And.intro hl hls)
  obtain ⟨al, cl, rfl, -, -⟩ := hl.open_
  obtain ⟨T, hT⟩ : ∃ T, smallL n = T := ⟨_, rfl⟩
  have HT : Hid (smallL n = T ∧ (∀ r ∈ T, TriIn ls.length r) ∧ ls.length ≤ 91) := ⟨hT, fun r hr => by rw [hls]; rw [← hT] at hr; exact smallL_tri hr, by rw [hls]; have := spots_few n hn; omega⟩
  have h91 := HT.out.2.2
  have hTf : T.length ≤ 1000000 := by rw [← hT]; exact smallL_few hn
  rw [hT] at hsm ⊢
  obtain ⟨m, hm⟩ : ∃ m, T.length = m := ⟨_, rfl⟩
  have HM : Hid (T.length = m) := hm
  obtain ⟨q, hq⟩ : ∃ q, ls.length = q := ⟨_, rfl⟩
  have HQ : Hid (ls.length = q) := hq
  rw [hm] at hTf
  rw [hq] at h91 ⊢
  clear hl hls hT hm hq
  go_enter Tryd.func18, Tryd.ntmps18
  go_upto_region 2 with (go_at_call 10; refine hsm.mono ?_; rintro e W1 ⟨v, rfl, hr, hb⟩; have H1 := Hid.mk' (And.intro hr.rows hb); obtain ⟨sa, cs, rfl⟩ := own_slice1 hr; clear hr hb hsm)
  rw [HM.out] at H1 ⊢
  go_wp2_with fail
  go_loopw [6, 7] (fun po p W => ∃ (vo : Value) (k : Nat), k ≤ m ∧ po = vo ∧ p = .int .i64 (k : Int) ∧ Hid (W.ownsRow W1.heap.size 3 1 vo (fullTo ls T k).length ((fullTo ls T k).map (Value.int .i64)) ∧ Below W1.heap.size W1 W)) (fun _ p _ => m - (intOf p).toNat)
  case atStart => exact ⟨_, 0, by omega, rfl, rfl, World.ownsRow_nil _ _ _ _, Below.refl _ _⟩
  case round =>
    obtain ⟨vo, k, hk, hvo, rfl, HK⟩ := hrel
    obtain ⟨ao, co, hv2⟩ := own_sl HK.out.1
    subst hv2
    subst hvo
    have hfl : (fullTo ls T k).length ≤ k := by
      unfold fullTo
      rw [List.length_map]
      have := List.length_filter_le (fun i => fullR ls (T[i]?.getD [])) (List.range k)
      rwa [List.length_range] at this
    obtain ⟨K, hK⟩ : ∃ K, (fullTo ls T k).length = K := ⟨_, rfl⟩
    have HKK : Hid ((fullTo ls T k).length = K) := hK
    rw [hK] at HK hfl ⊢
    clear hK
    by_cases hkm : k < m
    · have hkl : k < T.length := by rw [HM.out]; exact hkm
      obtain ⟨r, hr⟩ : ∃ r, T[k]? = some r := ⟨_, List.getElem?_eq_getElem hkl⟩
      obtain ⟨a, b, c, hre, hab, hbc, hcl⟩ := HT.out.2.1 r (List.mem_of_getElem? hr)
      have hR := (H1.out.1.below HK.out.2)
      obtain ⟨a1, c1, ea, -, hx⟩ := hR.open_
      rw [HM.out] at ea hx
      cases ea
      obtain ⟨bb, off, rfl, -, -, hcell⟩ := hx (by omega)
      obtain ⟨a2, c2, ck, hi2⟩ := hcell k hkm
      rw [hr, Option.getD_some] at ck hi2
      subst hre
      have HF : Hid (fullR ls (T[k]?.getD []) = fullB ls a b c) := by show _ = _; rw [hr]; rfl
      have hisf := isFull_ (.slice a2 3 c2) (.slice al ls.length cl) wr hi2 ((HLS.out.1.below H1.out.2).below HK.out.2) (by omega) (by omega) hcl (by rw [HQ.out]; omega)
      rw [HQ.out] at hisf
      rw [show ([(a : Int), (b : Int), (c : Int)] : List Int).length = 3 from rfl] at ck
      obtain ⟨f, hf⟩ : ∃ f, fullB ls a b c = f := ⟨_, rfl⟩
      rw [hf] at hisf HF
      have y0 : (0 : Int) ≤ (k : Int) := by omega
      have y1 : (k : Int) < (m : Int) := by omega
      have hws : W1.heap.size ≤ wr.heap.size := HK.out.2.size
      clear hr hR hx hcell hi2 hf
      cases f with
      | false =>
        go_wp2_with (first
          | (go_at_call 35; refine hisf.mono ?_; rintro e V ⟨rfl, rfl⟩; clear hisf)
          | fail)
        go_roundw
        case rel =>
          refine ⟨_, k + 1, by omega, rfl, by go_num, ?_, HK.out.2⟩
          rw [fullTo_no HF.out, HKK.out]; exact HK.out.1
        case measure => simp [intOf]; omega
      | true =>
        go_wp2_with (first
          | (go_at_call 35; refine hisf.mono ?_; rintro e V ⟨rfl, rfl⟩; clear hisf)
          | (at_builtin; refine wpList_append_own_at _ rfl (.tmp 24) (.tmp 26) 22 rfl W1.heap.size 3 j0 (.int .i64 0) 1 8 Tryd.underlying22 hj0 hy0 hy1 hy2 rfl (by decide) _ K _ rfl (HK.out.1.alloc _) ⟨_, 0, none⟩ 1 1 [.int .i64 (k : Int)] rfl rfl (cells_new _ _ _) (by simp [Value.oneCell']) (by unfold maxLen; omega) (by omega) (by simp; omega) ?_; intro v5 w5 hown5 hg5 hn5 hl5; have H5 := Hid.mk' (And.intro hown5 (And.intro hg5 hl5)); clear hown5 hg5 hn5 hl5)
          | fail)
        go_roundw
        case rel =>
          refine ⟨_, k + 1, by omega, rfl, by go_num, ?_, (HK.out.2.alloc hws _).grown H5.out.2.1 (by simp; omega) (fun b e => (HK.out.1.lt b e).1)⟩
          rw [fullTo_yes HF.out, List.length_append, HKK.out, List.map_append]
          exact H5.out.1
        case measure => simp [intOf]; omega
    · obtain rfl : k = m := by omega
      have HE : Hid (Ints wr (.slice ao K co) (fullL ls T) ∧ Below w.heap.size w wr) := by
        refine ⟨?_, H1.out.2.trans (HK.out.2.mono H1.out.2.size)⟩
        unfold fullL
        rw [HM.out]
        exact slice_of_owns HK.out.1 (fun _ _ _ => trivial)
      go_wp2_with fail
      go_ret
      exact ⟨_, rfl, HE.out⟩

end Go.Proofs.YtbohobelbgbibaaDoor
