/- What without and around answer: a face's vertices but another one's; the facets that have a face as a part. -/
import Derived.Test.YtkmecdgnoemimaaDoorJoinMath
import Derived.Test.YtkmecdgnoemimaaDoorBuilt
import Derived.Test.YtkmecdgnoemimaaDoorFaceText
namespace Go.Proofs.YtkmecdgnoemimaaDoor
open Go.RowKit Go.Sort Go.Maps Go.Deep

/-- A text's bytes but another one's. -/
def minusU (x o : List UInt8) : List UInt8 := x.filter (fun b => !o.contains b)
theorem minusU_succ {x : List UInt8} {k : Nat} (hk : k < x.length) (o : List UInt8) : minusU (x.take (k + 1)) o = minusU (x.take k) o ++ (if o.contains (x[k]?.getD 0) = true then [] else [x[k]?.getD 0]) := by
  unfold minusU
  rw [List.take_add_one, List.getElem?_eq_getElem hk, List.filter_append, Option.getD_some]
  congr 1
  cases h : o.contains x[k] with
  | false => rw [if_neg (by decide)]; simp only [Option.toList, List.filter_cons, h, Bool.not_false, if_true, List.filter_nil]
  | true => rw [if_pos rfl]; simp only [Option.toList, List.filter_cons, h, Bool.not_true, Bool.false_eq_true, if_false, List.filter_nil]
theorem minusU_length (x o : List UInt8) : (minusU x o).length ≤ x.length := List.length_filter_le _ _
theorem minusU_ints (x o : List UInt8) : ints (minusU x o) = minusI (ints x) (ints o) := by
  have hc : ∀ b : UInt8, o.contains b = (ints o).contains (b.toNat : Int) := fun b => by
    rw [Bool.eq_iff_iff, List.contains_iff_mem, List.contains_iff_mem]
    unfold ints
    rw [List.mem_map]
    constructor
    · intro h; exact ⟨b, h, rfl⟩
    · rintro ⟨y, hy, e⟩
      have : y = b := UInt8.toNat_inj.1 (by omega)
      rw [← this]; exact hy
  unfold minusU minusI
  have : ints x = x.map (fun b => ((b.toNat : Nat) : Int)) := rfl
  rw [this, List.filter_map]
  unfold ints
  congr 1
  exact List.filter_congr (fun b _ => by simp only [Function.comp]; rw [hc b]; rfl)

theorem index_neg (l : List UInt8) (c : UInt8) : (Lib.indexByte l c < 0 ↔ l.contains c = false) ∧ -1 ≤ Lib.indexByte l c := by
  induction l with
  | nil => simp [Lib.indexByte]
  | cons b l ih =>
    obtain ⟨h1, h2⟩ := ih
    by_cases hb : b = c
    · subst hb
      simp [Lib.indexByte]
    · have hb' : (b == c) = false := beq_eq_false_iff_ne.2 hb
      have hc' : (c == b) = false := beq_eq_false_iff_ne.2 (fun e => hb e.symm)
      rw [List.contains_cons, hc', Bool.false_or, ← h1]
      simp only [Lib.indexByte, hb']
      by_cases hr : Lib.indexByte l c = -1
      · simp [hr]
      · have h3 : (Lib.indexByte l c == -1) = false := beq_eq_false_iff_ne.2 hr
        simp [h3]
        omega

set_option maxRecDepth 100000 in
set_option maxHeartbeats 1000000 in
theorem without_ (x o : List UInt8) (w : World) (hx : x.length ≤ 1000) :
    Calls Tryd.prog 47 #[encStr x, encStr o] w fun e w' => e = .returned (encStr (minusU x o)) ∧ Below w.heap.size w w' := by
  obtain ⟨j0, hj0, hy0, hy1, hy2⟩ := info_parts Tryd.info5
  obtain ⟨s, hs⟩ : ∃ s : ByteArray, (⟨x.toArray⟩ : ByteArray) = s := ⟨_, rfl⟩
  have hsz : s.size = x.length := by rw [← hs]; rfl
  have he : encStr x = .string s := by rw [← hs, encStr]
  obtain ⟨so, hso⟩ : ∃ s : ByteArray, (⟨o.toArray⟩ : ByteArray) = s := ⟨_, rfl⟩
  have heo : encStr o = .string so := by rw [← hso, encStr]
  have HOD : Hid (so.data.toList = o) := by
    show so.data.toList = o
    rw [← hso]
  have HS : Hid ((⟨x.toArray⟩ : ByteArray) = s) := hs
  rw [he, heo]
  clear hs he hso heo
  go_enter Tryd.func47, Tryd.ntmps47
  go_wp2
  go_loopw [5, 9] (fun v p W => ∃ k : Nat, k ≤ x.length ∧ p = .int .i64 k ∧ W.ownsRow w.heap.size 5 1 v (minusU (x.take k) o).length ((minusU (x.take k) o).map (fun b => Value.int .u8 (b.toNat : Int))) ∧ Below w.heap.size w W)
    (fun _ p _ => x.length - (intOf p).toNat)
  case atStart => exact ⟨0, by omega, rfl, by simp [minusU]; exact World.ownsRow_nil _ _ _ _, Below.refl _ _⟩
  case round =>
    obtain ⟨k, hk, rfl, hown, hB⟩ := hrel
    have hml : (minusU (x.take k) o).length ≤ 1000 := by have := minusU_length (x.take k) o; simp at this; omega
    obtain ⟨t, ht⟩ : ∃ t, minusU (x.take k) o = t := ⟨_, rfl⟩
    rw [ht] at hown hml
    have HT : Hid (minusU (x.take k) o = t) := ht
    have hbs := hB.size
    clear ht
    by_cases hlt : k < x.length
    · have hn0 : (0 : Int) ≤ (k : Int) := by omega
      have hks : k < s.size := by omega
      obtain ⟨c, hc⟩ : ∃ c, s[k]'hks = c := ⟨_, rfl⟩
      have HC : Hid (x[k]?.getD 0 = c) := by
        show x[k]?.getD 0 = c
        rw [List.getElem?_eq_getElem hlt, Option.getD_some, ← hc]
        have := HS.out
        subst this
        rfl
      have hix := Tryd.strings_IndexByte so (c.toNat : Int) wr
      have hcc : ((c.toNat : Nat) : Int).toNat.toUInt8 = c := by simp
      rw [hcc, HOD.out] at hix
      have hneg := index_neg o c
      obtain ⟨z, hz⟩ : ∃ z, Lib.indexByte o c = z := ⟨_, rfl⟩
      rw [hz] at hix hneg
      have HST : Hid (minusU (x.take (k + 1)) o = t ++ (if o.contains c = true then [] else [c])) := by
        show minusU (x.take (k + 1)) o = _
        rw [minusU_succ hlt, HT.out, HC.out]
      have hc8 : c.toNat < 256 := c.toNat_lt
      clear hz hcc
      cases hq : o.contains c with
      | true =>
        have hz0 : ¬ z < 0 := fun h => by have := hneg.1.1 h; rw [hq] at this; cases this
        have HQ : Hid (o.contains c = true) := hq
        clear hneg hq
        go_wp2_with fail
        refine hix.mono ?_
        clear hix
        rintro e w2 ⟨rfl, rfl⟩
        go_wp2
        go_roundw
        case rel => exact ⟨k + 1, by omega, by go_num, by rw [HST.out, if_pos HQ.out, List.append_nil]; exact hown, hB⟩
        case measure => simp [intOf]; omega
      | false =>
        have hz0 : z < 0 := hneg.1.2 hq
        have HQ : Hid (¬ o.contains c = true) := by
          show ¬ o.contains c = true
          rw [hq]; decide
        clear hneg hq
        go_wp2_with fail
        refine hix.mono ?_
        clear hix
        rintro e w2 ⟨rfl, hw2⟩
        subst hw2
        go_wp2_with (first
          | (at_builtin; refine wpList_append_slice rfl (.tmp 18) (.tmp 22) 88 rfl w.heap.size 5 j0 (.int .u8 0) 1 Tryd.underlying88 hj0 hy0 hy1 hy2 rfl _ _ _ rfl (hown.alloc _) _ [.int .u8 (c.toNat : Int)] rfl (slice_one _ _ _) (by simp [Value.oneCell']) (by simp; omega) (by unfold maxLen; simp; omega) (by simp; omega) ?_; intro v3 w4 hown3 hg3 hl3)
          | go_in)
        (try go_frame)
        go_roundw
        case rel => exact ⟨k + 1, by omega, by go_num, by rw [HST.out, if_neg HQ.out]; simpa using hown3, (hB.alloc hbs _).grown hg3 (by simp; omega) (fun j hj => (hown.lt j hj).1)⟩
        case measure => simp [intOf]; omega
    · obtain rfl : k = x.length := by omega
      have hcv := convert_owned hown
      have HTX : Hid (minusU x o = t) := by
        have := HT.out
        rwa [List.take_length] at this
      clear hown
      go_wp2
      go_ret
      exact ⟨by rw [HTX.out]; rfl, hB⟩

/-- The error of a call around a face. -/
def PErr (c : List (List Int)) (f : List Int) (i : Nat) : Prop := BadAt c i ∨ (i = 3 ∧ ∃ all, Good c all ∧ f ∉ all)

/-- What around answers. -/
def AroundSays (a : Nat → Addr) (c : List (List Int)) (f : List Int) (w : World) (e : Ending) (w' : World) : Prop :=
  Below w.heap.size w w' ∧ ((∃ i, PErr c f i ∧ e = .returned (.tuple #[.slice none 0 0, encStr [], .iface 165 (.pointer (some (a i)))])) ∨
    (∃ all v fs tf, Good c all ∧ f ∈ all ∧ e = .returned (.tuple #[v, encStr tf, .nilIface]) ∧ StrsIn (fun b => w.heap.size ≤ b) w' v fs ∧ ints tf = f ∧ AroundOf all f (fs.map ints) ∧ fs.length ≤ 600 ∧ ∀ x ∈ fs, x ≠ [] ∧ x.length ≤ 7))

/-- Has a facet so many vertices left without a face? -/
def hasB (tf t : List UInt8) : Bool := ((minusU t tf).length : Int) == (t.length : Int) - (tf.length : Int)
theorem around_of {c all : List (List Int)} {F ss : List (List UInt8)} {G : List UInt8 → Prop} {tf : List UInt8} {f : List Int} (g : Good c all) (ht : Told F all) (hG : ∀ x ∈ F, G x ↔ innerB all (ints x) = true)
    (hm : ∀ x, x ∈ ss ↔ x ∈ F ∧ ¬ G x) (htf : ints tf = f) (hf : f ∈ all) : AroundOf all f (((srtS ss).filter (hasB tf)).map ints) := by
  have hfn : f.Nodup := (g.rising f hf).imp (fun h => Int.ne_of_lt h)
  have key : ∀ x ∈ F, hasB tf x = true ↔ ∀ v ∈ f, v ∈ ints x := fun x hx => by
    have hxa := (mem_told ht x).1 hx
    have hxn : (ints x).Nodup := (g.rising _ hxa).imp (fun h => Int.ne_of_lt h)
    rw [← minus_count hxn hfn]
    unfold hasB
    rw [beq_iff_eq, ← ints_length (minusU x tf), minusU_ints, htf, ← ints_length x, ← ints_length tf, htf]
  intro y
  rw [List.mem_map]
  constructor
  · rintro ⟨x, hx, rfl⟩
    obtain ⟨h1, h2⟩ := List.mem_filter.1 hx
    obtain ⟨h3, h4⟩ := (hm x).1 ((List.mergeSort_perm ss _).mem_iff.1 h1)
    refine ⟨(mem_told ht x).1 h3, ?_, (key x h3).1 h2⟩
    cases e : innerB all (ints x)
    · rfl
    · exact absurd ((hG x h3).2 e) h4
  · rintro ⟨h1, h2, h3⟩
    obtain ⟨x, hx, rfl⟩ := List.mem_map.1 (ht.perm.mem_iff.2 h1)
    refine ⟨x, List.mem_filter.2 ⟨(List.mergeSort_perm ss _).mem_iff.2 ((hm x).2 ⟨hx, fun hg => ?_⟩), (key x hx).2 h3⟩, rfl⟩
    rw [(hG x hx).1 hg] at h2; cases h2
theorem filter_succ {α : Type} {p : α → Bool} {l : List α} {k : Nat} {d : α} (hk : k < l.length) : (l.take (k + 1)).filter p = (l.take k).filter p ++ (if p (l[k]?.getD d) = true then [l[k]?.getD d] else []) := by
  rw [List.take_add_one, List.getElem?_eq_getElem hk, List.filter_append, Option.getD_some]
  congr 1
  by_cases h : p l[k] = true <;> simp [h]

set_option maxRecDepth 100000 in
set_option maxHeartbeats 2000000 in
theorem around_ {a : Nat → Addr} {s : Nat → ByteArray} (vl vf : Value) (c : List (List Int)) (f : List Int) (w : World) (hE : Errs a s w) (hl : Rows w vl c) (hll : c.length ≤ 100000) (hle : ∀ x ∈ c, x.length ≤ 1000) (hf : Ints w vf f) (hfl : f.length ≤ 1000) :
    Calls Tryd.prog 46 #[.agg #[vl], vf] w fun e w' => AroundSays a c f w e w' := by
  obtain ⟨i0, hi, hz0, hz1, hz2⟩ := info_parts Tryd.info9
  obtain ⟨al, cl, rfl, -, -⟩ := hl.open_
  have hBa : Below w.heap.size w (w.alloc (.cells #[.slice al c.length cl] 27)) := (Below.refl _ w).alloc (Nat.le_refl _) _
  have hop := open_g _ c (w.alloc (.cells #[.slice al c.length cl] 27)) (hE.below hBa) (hl.below hBa) hll hle
  have hbc := (box_new w (.slice al c.length cl) 27).1
  have HFI : Hid (Ints w vf f) := hf
  clear hl hf
  go_enter Tryd.func46, Tryd.ntmps46
  go_wp2_with fail
  refine hop.mono ?_
  clear hop
  rintro e w2 ⟨hB2, ⟨i, hbad, rfl⟩ | ⟨all, b, F, G, hg, ht, rfl, hP, hG⟩⟩
  · have HBD : Hid (BadAt c i) := hbad
    clear hbad
    go_wp2
    go_ret3
    exact ⟨below_out (below_after hB2 (Below.refl _ w2)), .inl ⟨i, .inl HBD.out, rfl⟩⟩
  · have HG : Hid (Good c all ∧ Told F all ∧ ∀ x ∈ F, G x ↔ innerB all (ints x) = true) := ⟨hg, ht, hG⟩
    have HB2 : Hid (Below w.heap.size w w2) := below_out (below_after hB2 (Below.refl _ w2))
    have HP : Hid (PileAt w2 b F G) := hP
    have hft := face_text vf f w2 (HFI.out.below HB2.out) hfl
    clear hg ht hP hG
    go_wp2_with fail
    refine hft.mono ?_
    clear hft
    rintro e w3 ⟨hB3, ⟨hok, tf, htf, rfl⟩ | ⟨hno, rfl⟩⟩
    · have HB3 : Hid (Below w.heap.size w w3) := HB2.out.trans (hB3.mono HB2.out.size)
      have hho := holds_ b F G tf w3 (HP.out.below hB3) (by have e := congrArg List.length htf; rw [ints_length] at e; omega)
      have HTF : Hid (ints tf = f) := htf
      have htl : tf.length ≤ 1000 := by have e := congrArg List.length htf; rw [ints_length] at e; omega
      by_cases hm : tf ∈ F
      · rw [decide_eq_true hm] at hho
        have HM : Hid (f ∈ all) := by
          show f ∈ all
          rw [← htf]; exact (mem_told HG.out.2.1 tf).1 hm
        have HP3 : Hid (PileAt w3 b F G) := HP.out.below hB3
        clear hm hok htf hB3
        go_wp2_with fail
        refine hho.mono ?_
        clear hho
        rintro e w4 ⟨rfl, hw4⟩
        subst hw4
        have hfa := facets_ b F G _ HP3.out (by have := HG.out.2.1.few; omega) (fun x hx => by have := HG.out.2.1.short x hx; omega)
        go_wp2_with fail
        refine hfa.mono ?_
        clear hfa
        rintro e w5 ⟨v5, ss, rfl, h1, h2, h3, h4⟩
        have HB5 : Hid (Below w.heap.size w w5) := HB3.out.trans (h4.mono HB3.out.size)
        obtain ⟨S, hS⟩ : ∃ S, srtS ss = S := ⟨_, rfl⟩
        rw [hS] at h1
        have HAR : Hid (AroundOf all f ((S.filter (hasB tf)).map ints)) := by
          show AroundOf all f ((S.filter (hasB tf)).map ints)
          rw [← hS]
          exact around_of HG.out.1 HG.out.2.1 HG.out.2.2 h3 HTF.out HM.out
        have HSM : Hid (∀ x ∈ S, x ≠ [] ∧ x.length ≤ 7) := fun x hx => by
          rw [← hS] at hx
          have := ((h3 x).1 ((List.mergeSort_perm ss _).mem_iff.1 hx)).1
          exact ⟨HG.out.2.1.some_ x this, HG.out.2.1.short x this⟩
        have hSl : S.length ≤ 600 := by
          have e1 : (srtS ss).length = ss.length := (List.mergeSort_perm ss _).length_eq
          have := nodup_le h2 (fun x hx => ((h3 x).1 hx).1)
          have := HG.out.2.1.few
          rw [← hS]; omega
        obtain ⟨a5, c5, rfl, -, hc5⟩ := h1.open_
        clear h1 h2 h3 h4 hS HP3
        obtain ⟨sf, hsf⟩ : ∃ s : ByteArray, (⟨tf.toArray⟩ : ByteArray) = s := ⟨_, rfl⟩
        have hsfz : sf.size = tf.length := by rw [← hsf]; rfl
        have hef : encStr tf = .string sf := by rw [← hsf, encStr]
        have HEF : Hid (encStr tf = .string sf) := hef
        rw [hef]
        clear hsf hef
        go_wp2
        go_loopw [4, 36] (fun v p W => ∃ k : Nat, k ≤ S.length ∧ p = .int .i64 k ∧ W.ownsRow w5.heap.size 9 1 v ((S.take k).filter (hasB tf)).length (((S.take k).filter (hasB tf)).map encStr) ∧ Below w5.heap.size w5 W)
          (fun _ p _ => S.length - (intOf p).toNat)
        case atStart => exact ⟨0, by omega, rfl, by simp; exact World.ownsRow_nil _ _ _ _, Below.refl _ _⟩
        case round =>
          obtain ⟨k, hk, rfl, hown, hB⟩ := hrel
          have hfl6 : ((S.take k).filter (hasB tf)).length ≤ 600 := by have := List.length_filter_le (hasB tf) (S.take k); simp at this; omega
          obtain ⟨fs, hfs⟩ : ∃ fs, (S.take k).filter (hasB tf) = fs := ⟨_, rfl⟩
          rw [hfs] at hown hfl6
          have HFS : Hid ((S.take k).filter (hasB tf) = fs) := hfs
          have hbs := hB.size
          clear hfs
          by_cases hlt : k < S.length
          · obtain ⟨b6, o6, rfl, -, hb6, c6⟩ := hc5 (by omega)
            have g6 := (hB.cell (p := ⟨b6, o6 + k, none⟩) hb6).trans (c6 k hlt)
            have hx7 := HSM.out (S[k]?.getD []) (by rw [List.getElem?_eq_getElem hlt]; simp)
            have hst := filter_succ (p := hasB tf) (d := []) hlt
            obtain ⟨t, hte⟩ : ∃ t, S[k]?.getD [] = t := ⟨_, rfl⟩
            rw [hte] at g6 hx7 hst
            rw [HFS.out] at hst
            have HST : Hid ((S.take (k + 1)).filter (hasB tf) = fs ++ (if hasB tf t = true then [t] else [])) := hst
            have ht7 := hx7.2
            obtain ⟨st, hstt⟩ : ∃ s : ByteArray, (⟨t.toArray⟩ : ByteArray) = s := ⟨_, rfl⟩
            have hsz : st.size = t.length := by rw [← hstt]; rfl
            have he : encStr t = .string st := by rw [← hstt, encStr]
            have hwo := without_ t tf wr (by omega)
            obtain ⟨m, hm⟩ : ∃ m, minusU t tf = m := ⟨_, rfl⟩
            rw [hm] at hwo
            obtain ⟨sm, hsm⟩ : ∃ s : ByteArray, (⟨m.toArray⟩ : ByteArray) = s := ⟨_, rfl⟩
            have hszm : sm.size = m.length := by rw [← hsm]; rfl
            have hem : encStr m = .string sm := by rw [← hsm, encStr]
            have hml : m.length ≤ 7 := by rw [← hm]; have := minusU_length t tf; omega
            have HE : Hid (encStr t = .string st) := he
            rw [he] at g6
            rw [he, HEF.out, hem] at hwo
            have HQ : Hid (hasB tf t = ((m.length : Int) == (t.length : Int) - (tf.length : Int))) := by
              show hasB tf t = _
              unfold hasB; rw [hm]
            clear hte hst hx7 hstt hsm hem he hm c6 hc5
            cases hq : hasB tf t with
            | true =>
              have hqb : ((m.length : Int) == (t.length : Int) - (tf.length : Int)) = true := by rw [← HQ.out]; exact hq
              have HH : Hid (hasB tf t = true) := hq
              clear hq
              go_wp2_with fail
              refine hwo.mono ?_
              clear hwo
              rintro e w6 ⟨rfl, hB6⟩
              have hown6 := hown.kept (Below.grownBy hB6) (by cases Value.ownBlock _ <;> simp)
              have hB56 : Below w5.heap.size w5 w6 := hB.trans (hB6.mono hbs)
              have hbs6 := hB56.size
              clear hown hB6
              go_wp2_with (first
                | (at_builtin; refine wpList_append_slice rfl (.tmp 50) (.tmp 52) 52 rfl w5.heap.size 9 i0 (.string ⟨#[]⟩) 16 Tryd.underlying52 hi hz0 hz1 hz2 rfl _ _ _ rfl (hown6.alloc _) _ [.string st] rfl (slice_one _ _ _) (by simp [Value.oneCell']) (by simp; omega) (by unfold maxLen; simp; omega) (by simp; omega) ?_; intro v7 w7 hown7 hg7 hl7)
                | go_in)
              (try go_frame)
              go_roundw
              case rel => exact ⟨k + 1, by omega, by go_num, by rw [HST.out, if_pos HH.out, List.map_append]; simp only [List.map_cons, List.map_nil, HE.out]; simpa using hown7, (hB56.alloc hbs6 _).grown hg7 (by simp; omega) (fun j hj => (hown6.lt j hj).1)⟩
              case measure => simp [intOf]; omega
            | false =>
              have hqb : ((m.length : Int) == (t.length : Int) - (tf.length : Int)) = false := by rw [← HQ.out]; exact hq
              have HH : Hid (¬ hasB tf t = true) := by
                show ¬ hasB tf t = true
                rw [hq]; decide
              clear hq
              go_wp2_with fail
              refine hwo.mono ?_
              clear hwo
              rintro e w6 ⟨rfl, hB6⟩
              have hown6 := hown.kept (Below.grownBy hB6) (by cases Value.ownBlock _ <;> simp)
              have hB56 : Below w5.heap.size w5 w6 := hB.trans (hB6.mono hbs)
              clear hown hB6
              go_wp2
              go_roundw
              case rel => exact ⟨k + 1, by omega, by go_num, by rw [HST.out, if_neg HH.out, List.append_nil]; exact hown6, hB56⟩
              case measure => simp [intOf]; omega
          · obtain rfl : k = S.length := by omega
            have HF2 : Hid (S.filter (hasB tf) = fs) := by
              have := HFS.out
              rwa [List.take_length] at this
            have HST : Hid (StrsIn (fun b => w.heap.size ≤ b) wr u4 fs) := slice_of_owns hown (fun b hb _ => Nat.le_trans HB5.out.size hb)
            clear hc5 hown
            go_wp2
            go_ret3
            refine ⟨HB5.out.trans (hB.mono HB5.out.size), .inr ⟨all, _, fs, tf, HG.out.1, HM.out, by rw [HEF.out]; rfl, HST.out, HTF.out, by rw [← HF2.out]; exact HAR.out, hfl6, fun x hx => ?_⟩⟩
            rw [← HF2.out] at hx
            exact HSM.out x (List.mem_filter.1 hx).1
      · rw [decide_eq_false hm] at hho
        have HN : Hid (f ∉ all) := fun h => hm ((mem_told HG.out.2.1 tf).2 (by rw [HTF.out]; exact h))
        have hgl : w3.cell? ⟨0, 0, none⟩ = some (.iface 165 (.pointer (some (a 3)))) := (hE.below HB3.out).glob 3 (by decide)
        clear hm hok htf hB3
        go_wp2_with fail
        refine hho.mono ?_
        clear hho
        rintro e w4 ⟨rfl, hw4⟩
        subst hw4
        go_wp2_with fail
        go_quiet (fail)
        go_wp2
        go_ret3
        exact ⟨HB3.out.trans ⟨rfl, rfl, rfl, Nat.le_refl _, fun _ _ => rfl⟩, .inl ⟨3, .inr ⟨rfl, all, HG.out.1, HN.out⟩, rfl⟩⟩
    · have HB3 : Hid (Below w.heap.size w w3) := HB2.out.trans (hB3.mono HB2.out.size)
      have HN : Hid (f ∉ all) := fun h => hno (face_ok_of HG.out.1 h)
      have hgl : w3.cell? ⟨0, 0, none⟩ = some (.iface 165 (.pointer (some (a 3)))) := (hE.below HB3.out).glob 3 (by decide)
      clear hno hB3
      go_wp2_with fail
      go_quiet (fail)
      go_wp2
      go_ret3
      exact ⟨HB3.out.trans ⟨rfl, rfl, rfl, Nat.le_refl _, fun _ _ => rfl⟩, .inl ⟨3, .inr ⟨rfl, all, HG.out.1, HN.out⟩, rfl⟩⟩

end Go.Proofs.YtkmecdgnoemimaaDoor
