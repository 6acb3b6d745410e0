/-
  Walk: the reference's Text.
-/
import Derived.Test.YtbddchonhicpiaaDoorByt
import Derived.Test.YtbddchonhicpiaaDoorWrel
import Derived.Deep.RegionLaw
import Derived.Deep.CutRange
namespace Go.Proofs.YtbddchonhicpiaaDoor
open Go.RowKit

theorem OwnB.ne {w : World} {base : Nat} {v : Value} {l : List UInt8} (h : OwnB w base v l) {R : Nat} {t : TypeId} {cs : Array Value} (hb : Blk w R t cs) (ht : t ≠ 5) : some R ≠ v.ownBlock := by
  obtain ⟨g, cap, cur, fz, rfl, -, hg, -⟩ := h
  intro e
  injection e with e
  subst e
  unfold Blk at hb
  rw [hb] at hg
  injection hg with hg
  injection hg with _ hg _
  exact ht hg
theorem OwnB.blk {w w' : World} {base : Nat} {v : Value} {l : List UInt8} (h : OwnB w base v l) {R : Nat} {t : TypeId} {cs : Array Value} (hb : Blk w R t cs) (ht : t ≠ 5) (hg : w.grownBy w' v.ownBlock) : Blk w' R t cs := hb.grown hg (h.ne hb ht)
theorem OwnB.below {w w' : World} {base B : Nat} {v : Value} {l : List UInt8} (h : OwnB w base v l) {a : World} (hb : Below B a w) (hB : B ≤ base) (hs : B ≤ w.heap.size) (hg : w.grownBy w' v.ownBlock) : Below B a w' := hb.grown hg hs (fun g e => by
  obtain ⟨g', c, rfl, h1, -⟩ := h.form
  injection e with e
  subst e
  exact Nat.le_trans hB h1)

theorem append_strB {ops : Array Oper} {rest : List Oper} {o : Oper} {a : Act} {Q : Exit → Act → World → Prop} (w : World) (hgd : o.guard = none) (s x : Operand)
    (ho : o.op = .call { callee := .builtin .append, args := #[s, x], argTypes := #[71, 9] })
    (base : Nat) (v : Value) (l : List UInt8) (hs : a.eval s = v) (hown : OwnB w base v l) (st : ByteArray) (hx : a.eval x = .string st) (hl : l.length ≤ 1000000000) (hz : st.size ≤ 1000000000) (hbase : base ≤ w.heap.size)
    (h : ∀ v' w', OwnB w' base v' (l ++ st.data.toList) → w.grownBy w' v.ownBlock → wpList Tryd.prog ops Q rest (a.put o.dst v') w') : wpList Tryd.prog ops Q (o :: rest) a w := by
  refine wpList_plain hgd fun K hK => ?_
  obtain ⟨v', w', hr, h2, h3⟩ := run_appendB_str w base o.type v l hown st hl hz hbase
  unfold Oper.wp execOp
  simp only [ho, resolve, invoke, builtin, Sem.run_bind, Sem.run_pure, Result.andThen_ok, List.map_toArray, List.map_cons, List.map_nil, hs, hx, hr]
  exact hK _ _ (h v' w' h2 h3)
theorem append_byteB {ops : Array Oper} {rest : List Oper} {o : Oper} {a : Act} {Q : Exit → Act → World → Prop} (w : World) (hgd : o.guard = none) (s x : Operand)
    (ho : o.op = .call { callee := .builtin .append, args := #[s, x], argTypes := #[71, 71] })
    (base : Nat) (v : Value) (l : List UInt8) (hs : a.eval s = v) (hown : OwnB w base v l) (ad : Addr) (c : Nat) (y : UInt8) (hx : a.eval x = .slice (some ad) 1 c) (hy : w.cell? ad = some (.int .u8 y.toNat)) (hl : l.length ≤ 1000000000) (hbase : base ≤ w.heap.size)
    (h : ∀ v' w', OwnB w' base v' (l ++ [y]) → w.grownBy w' v.ownBlock → wpList Tryd.prog ops Q rest (a.put o.dst v') w') : wpList Tryd.prog ops Q (o :: rest) a w := by
  refine wpList_plain hgd fun K hK => ?_
  obtain ⟨v', w', hr, h2, h3⟩ := run_appendB_byte w base o.type v l hown ad c y hy hl hbase
  unfold Oper.wp execOp
  simp only [ho, resolve, invoke, builtin, Sem.run_bind, Sem.run_pure, Result.andThen_ok, List.map_toArray, List.map_cons, List.map_nil, hs, hx, hr]
  exact hK _ _ (h v' w' h2 h3)
theorem step_append_strB {ops : Array Oper} {o : Oper} {a : Act} {K : Act → World → Prop} {Q : Exit → Act → World → Prop} {E : Prop} (w : World) (hgd : o.guard = none) (s x : Operand)
    (ho : o.op = .call { callee := .builtin .append, args := #[s, x], argTypes := #[71, 9] })
    (base : Nat) (v : Value) (l : List UInt8) (hs : a.eval s = v) (hown : OwnB w base v l) (st : ByteArray) (hx : a.eval x = .string st) (hl : l.length ≤ 1000000000) (hz : st.size ≤ 1000000000) (hbase : base ≤ w.heap.size)
    (h : ∀ v' w', OwnB w' base v' (l ++ st.data.toList) → w.grownBy w' v.ownBlock → K (a.put o.dst v') w') :
    if Region.wanted o (yielded ops a.tmps) = true then Oper.wp Tryd.prog o a w K Q else E := by
  have hw : Region.wanted o (yielded ops a.tmps) = true := by simp [Region.wanted, hgd]
  rw [if_pos hw]
  obtain ⟨v', w', hr, h2, h3⟩ := run_appendB_str w base o.type v l hown st hl hz hbase
  unfold Oper.wp execOp
  simp only [ho, resolve, invoke, builtin, Sem.run_bind, Sem.run_pure, Result.andThen_ok, List.map_toArray, List.map_cons, List.map_nil, hs, hx, hr]
  exact h v' w' h2 h3

set_option maxRecDepth 100000 in
set_option maxHeartbeats 16000000 in
theorem rtext_any (size : Int) (v : Value) (rs : List Sh.Rel) (w : World) (h : Rels w w.heap.size v rs) (hvb : Sh.validB ⟨size, rs⟩ = true) :
    Calls Tryd.prog 49 #[.agg #[.int .i64 size, v]] w fun e w' => e = .returned (.string ⟨(Tx.textS ⟨size, rs⟩).toArray⟩) ∧ Below w.heap.size w w' := by
  have h' := h
  obtain ⟨A, len, c, rfl, hlen, hmax, -⟩ := h'
  obtain ⟨hsz, h8, hsm⟩ := Tx.small_of_valid hvb
  have hla : ∀ r ∈ rs, ∀ t ∈ r.tuples, (t.length : Int) = r.arity := fun r hr t ht => by
    obtain ⟨-, -, -, h4, -⟩ := (Sh.validB_iff size rs).1 hvb
    obtain ⟨-, -, -, d⟩ := (Sh.relB_iff size r).1 (h4 r hr)
    exact (d t ht).1
  obtain ⟨i, rfl⟩ : ∃ i : Nat, size = i := ⟨size.toNat, by omega⟩
  have hi : i < 100 := by omega
  have htx : Tx.textS ⟨(i : Int), rs⟩ = Lib.decDigits i ++ rs.flatMap Tx.relS := by
    show Lib.itoa (i : Int) ++ _ = _
    rw [Tx.itoa_nat']
  have hdl : (Lib.decDigits i).length ≤ 2 := Tx.dec_len hi
  have hds : (⟨(Lib.decDigits i).toArray⟩ : ByteArray).size ≤ 1000000000 := by
    show (Lib.decDigits i).toArray.size ≤ _
    rw [List.size_toArray]
    omega
  have hit0 := fun W => itoa_small i hi W
  have hpre : ∀ k, ((rs.take k).flatMap Tx.relS).length ≤ 16000000 := fun k => by
    have := Tx.rels_len (rs.take k) (fun r hr => hsm r (List.mem_of_mem_take hr))
    have h2 : (rs.take k).length ≤ 8 := by rw [List.length_take]; omega
    omega
  have hdd : (⟨(Lib.decDigits i).toArray⟩ : ByteArray).data.toList = Lib.decDigits i := rfl
  generalize (⟨(Lib.decDigits i).toArray⟩ : ByteArray) = ds at *
  generalize Lib.decDigits i = dl at *
  obtain ⟨v2, w2, hcv, hob2, hgr2⟩ := convB (w.alloc (.cells #[.int .i64 i, .slice A len c] 24)) ds (w.heap.size + 1) (by simp) hds
  rw [hdd] at hob2
  have hbox2 : Blk w2 w.heap.size 24 #[.int .i64 i, .slice A len c] := (Blk.new w _ _).grown hgr2 (by simp)
  have hbel2 : Below w.heap.size w w2 := ((Below.refl w.heap.size w).alloc (Nat.le_refl _) _).grown hgr2 (by simp) (fun g e => by cases e)
  have Hob2 := Lib.hid hob2; clear hob2
  have Hbox2 := Lib.hid hbox2; clear hbox2
  have Hbel2 := Lib.hid hbel2; clear hbel2
  have Hlen := Lib.hid hlen; clear hlen
  have Hsm := Lib.hid hsm; clear hsm
  have Hla := Lib.hid hla; clear hla
  have Htx := Lib.hid htx; clear htx
  have Hpre := Lib.hid hpre; clear hpre
  clear hvb hsz hgr2 hdd
  go_enter Tryd.func49, Tryd.ntmps49
  go_wp2_with (go_at_call 77; refine (hit0 _).mono ?_; rintro e w2' ⟨rfl, rfl⟩)
  clear hcv hit0
  go_loopw [3, 4] (fun o x wr => ∃ k : Nat, k ≤ len ∧ x = .int .i64 k ∧ OwnB wr (w.heap.size + 1) o (dl ++ (rs.take k).flatMap Tx.relS) ∧ Blk wr w.heap.size 24 #[.int .i64 i, .slice A len c] ∧ Below w.heap.size w wr) (fun _ x _ => len - (intOf x).toNat)
  case atStart => exact ⟨0, Nat.zero_le _, rfl, by simpa using Hob2.out, Hbox2.out, Hbel2.out⟩
  case round =>
    obtain ⟨k, hkl, rfl, hob, hbx, hbel⟩ := hrel
    have q1 : wr.cell? ⟨w.heap.size, 1, none⟩ = some (.slice A len c) := hbx.cell 1
    have hRlt := hbx.lt
    by_cases hlt : k < len
    · obtain ⟨ad, u, r, rfl, hb, hr, d0, d1, d2, htu, hrs⟩ := h.at_ hlt
      have hc0 := (hbel.cell (p := ad.add (k * 3)) (by rw [block_of_add]; exact hb)).trans d0
      have hc1 := (hbel.cell (p := ⟨(ad.add (k * 3)).block, (ad.add (k * 3)).off + 1, none⟩) (by show (ad.add _).block < _; rw [block_of_add]; exact hb)).trans d1
      have hc2 := (hbel.cell (p := ⟨(ad.add (k * 3)).block, (ad.add (k * 3)).off + 2, none⟩) (by show (ad.add _).block < _; rw [block_of_add]; exact hb)).trans d2
      clear d0 d1 d2
      have htu' := htu
      obtain ⟨UA, UN, UC, rfl, hun, hum, -⟩ := htu'
      have hrsm := Hsm.out r (List.mem_of_getElem? hr)
      have hlar := Hla.out r (List.mem_of_getElem? hr)
      have htk := take_snoc hr
      have hpk := Hpre.out k
      have hPl : (dl ++ (rs.take k).flatMap Tx.relS).length ≤ 16000002 := by rw [List.length_append]; omega
      have hP2 : dl ++ (rs.take (k + 1)).flatMap Tx.relS = (dl ++ (rs.take k).flatMap Tx.relS) ++ Tx.relS r := by rw [htk, List.flatMap_append, List.append_assoc]; simp
      generalize dl ++ (rs.take k).flatMap Tx.relS = P at *
      obtain ⟨nm, ar, ts⟩ := r
      simp only at hc0 hc1 htu hun hlar
      have har := hrsm.ar
      have hnm := hrsm.nm
      have hcnt := hrsm.count
      simp only at har hnm hcnt
      obtain ⟨a, rfl⟩ : ∃ a : Nat, ar = a := ⟨ar.toNat, by omega⟩
      have ha : a < 100 := by omega
      have hhd : (Tx.headS ⟨nm, (a : Int), ts⟩).length ≤ 20 := Tx.head_len hrsm
      have hrel : Tx.relS ⟨nm, (a : Int), ts⟩ = Tx.headS ⟨nm, (a : Int), ts⟩ ++ Tx.tupsS ts := Tx.relS_head _
      have hhe : ((((⟨#[59, 32]⟩ : ByteArray) ++ nm) ++ ⟨#[47]⟩) ++ ⟨(Lib.decDigits a).toArray⟩).data.toList = Tx.headS ⟨nm, (a : Int), ts⟩ := by
        rw [headS_bytes]
        unfold Tx.headS
        simp only
        rw [Tx.itoa_nat']
      have hhz : ((((⟨#[59, 32]⟩ : ByteArray) ++ nm) ++ ⟨#[47]⟩) ++ ⟨(Lib.decDigits a).toArray⟩).size ≤ 1000000000 := by
        have : ((((⟨#[59, 32]⟩ : ByteArray) ++ nm) ++ ⟨#[47]⟩) ++ ⟨(Lib.decDigits a).toArray⟩).size = (Tx.headS ⟨nm, (a : Int), ts⟩).length := by rw [← hhe, Array.length_toList]; rfl
        omega
      have hit := fun W => itoa_small a ha W
      have hdz : (⟨(Lib.decDigits a).toArray⟩ : ByteArray).size ≤ 2 := by have := itoa_size (x := (a : Int)) (by omega) (by omega); simpa using this
      generalize (⟨(Lib.decDigits a).toArray⟩ : ByteArray) = da at *
      have hz1 : ¬ 9223372036854775807 < 2 + nm.size := by omega
      have hz2 : ¬ 9223372036854775807 < 2 + nm.size + 1 := by omega
      have hz3 : ¬ 9223372036854775807 < 2 + nm.size + 1 + da.size := by omega
      generalize Tx.headS ⟨nm, (a : Int), ts⟩ = hd at *
      have htup : ∀ (k : Nat) (t : List Int), ts[k]? = some t → Tx.N2 t ∧ t.length = a ∧ a ≤ 12 := fun k t hk => by
        have h1 := hrsm.tups t (List.mem_of_getElem? hk)
        have h2 := hlar t (List.mem_of_getElem? hk)
        exact ⟨h1.1, by omega, by have := h1.2; omega⟩
      have hprt : ∀ k, (Tx.tupsS (ts.take k)).length ≤ 1850000 := fun k => by
        have := Tx.tups_len (ts.take k) (fun t ht => hrsm.tups t (List.mem_of_mem_take ht))
        have h2 : (ts.take k).length ≤ 50000 := by rw [List.length_take]; simp only at *; omega
        omega
      have Hob := Lib.hid hob; clear hob
      have hw3 := (hbel.alloc hbel.size (.cells #[.string nm, .int .i64 a, .slice UA UN UC] 51))
      have hbx3 := hbx.alloc (.cells #[.string nm, .int .i64 a, .slice UA UN UC] 51)
      have hrb3 := Blk.new wr 51 #[.string nm, .int .i64 a, .slice UA UN UC]
      have Hob3 := Lib.hid (Hob.out.alloc (.cells #[.string nm, .int .i64 a, .slice UA UN UC] 51))
      have p0 : (wr.alloc (.cells #[.string nm, .int .i64 a, .slice UA UN UC] 51)).cell? ⟨wr.heap.size, 0, none⟩ = some (.string nm) := hrb3.cell 0
      have p1 : (wr.alloc (.cells #[.string nm, .int .i64 a, .slice UA UN UC] 51)).cell? ⟨wr.heap.size, 1, none⟩ = some (.int .i64 a) := hrb3.cell 1
      have hbz := hbel.size
      have Hw3 := Lib.hid hw3; clear hw3
      have Hbx3 := Lib.hid hbx3; clear hbx3
      have Hrb3 := Lib.hid hrb3; clear hrb3
      have Htu := Lib.hid htu; clear htu
      have Htup := Lib.hid htup; clear htup
      have Hprt := Lib.hid hprt; clear hprt
      have Hhe := Lib.hid hhe; clear hhe
      have Hrel := Lib.hid hrel; clear hrel
      have HP2 := Lib.hid hP2; clear hP2
      have Hun := Lib.hid hun; clear hun
      have Hr := Lib.hid hr; clear hr
      have Hbel := Lib.hid hbel; clear hbel
      have Hbx := Lib.hid hbx; clear hbx
      clear hrsm hlar htk hpk hrs Hob Hbx
      go_upto_region 6 with fail
      clear hc0 hc1 hc2 q1
      have hz3w : w.heap.size + 1 ≤ (wr.alloc (.cells #[.string nm, .int .i64 a, .slice UA UN UC] 51)).heap.size := by simp; omega
      generalize wr.alloc (.cells #[.string nm, .int .i64 a, .slice UA UN UC] 51) = w3 at *
      clear Hbel
      generalize wr.heap.size = R at *
      go_region_law (first
        | (go_simp
           go_at_call 77
           refine (hit _).mono ?_
           rintro e w4 ⟨rfl, rfl⟩)
        | (refine step_append_strB _ rfl _ _ rfl (w.heap.size + 1) u3 P rfl (show OwnB w3.drew _ _ _ from Hob3.out) ((((⟨#[59, 32]⟩ : ByteArray) ++ nm) ++ ⟨#[47]⟩) ++ da) rfl (by omega) hhz hz3w ?_
           intro v8 w8 hob8 hg8
           rw [Hhe.out] at hob8
           have hbx8 := OwnB.blk (w := w3.drew) (w' := w8) Hob3.out (show Blk w3.drew _ _ _ from Hbx3.out) (by decide) hg8
           have hrb8 := OwnB.blk (w := w3.drew) (w' := w8) Hob3.out (show Blk w3.drew _ _ _ from Hrb3.out) (by decide) hg8
           have hbel8 := OwnB.below (w := w3.drew) (w' := w8) Hob3.out Hw3.out.drew (Nat.le_succ _) (Nat.le_trans (Nat.le_succ _) hz3w) hg8
           have Hob8 := Lib.hid hob8
           have Hbx8 := Lib.hid hbx8
           have Hrb8 := Lib.hid hrb8
           have Hbel8 := Lib.hid hbel8
           clear hob8 hbx8 hrb8 hbel8 hg8))
      all_goals (
        have hPd : (P ++ hd).length ≤ 16000022 := by rw [List.length_append]; omega
        generalize hPD : P ++ hd = D at *
        have HPD := Lib.hid hPD
        have hRl8 : R < w8.heap.size := Hrb8.out.lt
        clear hPD Hob3 p0 p1 Hw3 Hbx3 Hrb3 hz3w
        go_wp2
        go_loopw [3, 6] (fun o x wq => ∃ m : Nat, m ≤ UN ∧ x = .int .i64 m ∧ OwnB wq (w.heap.size + 1) o (D ++ Tx.tupsS (ts.take m)) ∧ Blk wq w.heap.size 24 #[.int .i64 i, .slice (some ad) len c] ∧ Blk wq R 51 #[.string nm, .int .i64 a, .slice UA UN UC] ∧ Below w.heap.size w wq) (fun _ x _ => UN - (intOf x).toNat)
        case atStart => exact ⟨0, Nat.zero_le _, rfl, by simpa [Tx.tupsS] using Hob8.out, Hbx8.out, Hrb8.out, Hbel8.out⟩
        case round =>
          obtain ⟨m, hml, rfl, hob, hbx, hrb, hbel⟩ := hrel
          clear Hob8 Hbx8 Hrb8 Hbel8 hRl8
          have hbxl := hbx.lt
          have r1 : wr.cell? ⟨R, 1, none⟩ = some (.int .i64 a) := hrb.cell 1
          have r2 : wr.cell? ⟨R, 2, none⟩ = some (.slice UA UN UC) := hrb.cell 2
          by_cases hlm : m < UN
          · obtain ⟨ad2, u2, rfl, hb2, hcu, hiu⟩ := Htu.out.at_ hlm
            have hiu' := hiu
            obtain ⟨TA, TN, TC, rfl, htn, -⟩ := hiu'
            have hts : ts[m]? = some (ts.getD m []) := getD_some (d := []) (by rw [← Hun.out]; exact hlm)
            obtain ⟨hn2, hta, h12⟩ := Htup.out m _ hts
            have htk := take_snoc hts
            have hpk := Hprt.out m
            have hEl : (D ++ Tx.tupsS (ts.take m)).length ≤ 18000000 := by rw [List.length_append]; omega
            have hE2 : D ++ Tx.tupsS (ts.take (m + 1)) = (D ++ Tx.tupsS (ts.take m)) ++ [32] ++ Tx.tupS (ts.getD m []) := by rw [htk, Tx.tupsS_snoc]; simp
            generalize ts.getD m [] = tt at *
            generalize D ++ Tx.tupsS (ts.take m) = E at *
            have HE2 := Lib.hid hE2; clear hE2
            have Hn2 := Lib.hid hn2; clear hn2
            have Hta := Lib.hid hta; clear hta
            have Htn := Lib.hid htn; clear htn
            have hob1 := hob.alloc (.cells #[.int .u8 32] 5)
            have hbx1 := hbx.alloc (.cells #[.int .u8 32] 5)
            have hrb1 := hrb.alloc (.cells #[.int .u8 32] 5)
            have hbel1 := hbel.alloc hbel.size (.cells #[.int .u8 32] 5)
            have hc1 : (wr.alloc (.cells #[.int .u8 32] 5)).cell? ⟨wr.heap.size, 0, none⟩ = some (.int .u8 ((32 : UInt8).toNat : Int)) := (Blk.new wr 5 #[.int .u8 32]).cell 0
            have hz1w : w.heap.size + 1 ≤ (wr.alloc (.cells #[.int .u8 32] 5)).heap.size := by simp; omega
            have Hob1 := Lib.hid hob1
            have Hbx1 := Lib.hid hbx1
            have Hrb1 := Lib.hid hrb1
            have Hbel1 := Lib.hid hbel1
            have Hc1 := Lib.hid hc1
            clear hts htk hpk hob1 hbx1 hrb1 hbel1 hc1 hob hbx hrb hbel
            have Hcu := Lib.hid hcu; clear hcu
            by_cases ha0 : a = 0
            · have hte : tt = [] := List.eq_nil_of_length_eq_zero (Hta.out.trans ha0)
              have ha1 : ((a : Int) == 0) = true := by rw [ha0]; rfl
              have ha2 : ¬ (0 : Int) < a := by omega
              clear ha0
              have Hte := Lib.hid hte; clear hte
              go_wp2_with (first
                | (at_builtin
                   refine append_byteB _ rfl _ _ rfl (w.heap.size + 1) u3 E rfl Hob1.out ⟨wr.heap.size, 0, none⟩ 1 32 rfl Hc1.out (by omega) hz1w ?_
                   intro v9 w9 hob9 hg9
                   have Hbx9 := Lib.hid (Hob1.out.blk Hbx1.out (by decide) hg9)
                   have Hrb9 := Lib.hid (Hob1.out.blk Hrb1.out (by decide) hg9)
                   have Hbel9 := Lib.hid (Hob1.out.below Hbel1.out (Nat.le_succ _) (Nat.le_trans (Nat.le_succ _) hz1w) hg9)
                   have hz9w : w.heap.size + 1 ≤ w9.heap.size := Nat.le_trans hz1w hg9.size
                   have Hob9 := Lib.hid hob9
                   have s1 : w9.cell? ⟨R, 1, none⟩ = some (.int .i64 a) := Hrb9.out.cell 1
                   clear hob9 hg9)
                | (at_builtin
                   refine append_strB _ rfl _ _ rfl (w.heap.size + 1) v9 (E ++ [32]) rfl Hob9.out ⟨#[40, 41]⟩ rfl (by rw [List.length_append, List.length_singleton]; omega) (by decide) hz9w ?_
                   intro v10 w10 hob10 hg10
                   have Hbx10 := Lib.hid (Hob9.out.blk Hbx9.out (by decide) hg10)
                   have Hrb10 := Lib.hid (Hob9.out.blk Hrb9.out (by decide) hg10)
                   have Hbel10 := Lib.hid (Hob9.out.below Hbel9.out (Nat.le_succ _) (Nat.le_trans (Nat.le_succ _) hz9w) hg10)
                   have Hob10 := Lib.hid hob10
                   have s10 : w10.cell? ⟨R, 1, none⟩ = some (.int .i64 a) := Hrb10.out.cell 1
                   clear hob10 hg10))
              go_loopw [3, 7] (fun o x wq => o = v10 ∧ x = .int .i64 0 ∧ wq = w10) (fun _ _ _ => 0)
              case atStart => exact ⟨rfl, rfl, rfl⟩
              case round =>
                obtain ⟨rfl, rfl, rfl⟩ := hrel
                go_wp2
                refine ⟨⟨m + 1, by omega, by go_num, ?_, Hbx10.out, Hrb10.out, Hbel10.out⟩, by simp [intOf]; omega⟩
                rw [HE2.out, Hte.out]
                exact Hob10.out
            · have ha1 : ((a : Int) == 0) = false := by simpa using ha0
              have hne : tt ≠ [] := fun e => ha0 (by rw [← Hta.out, e]; rfl)
              have Hne := Lib.hid hne; clear hne
              go_wp2_with (first
                | (at_builtin
                   refine append_byteB _ rfl _ _ rfl (w.heap.size + 1) u3 E rfl Hob1.out ⟨wr.heap.size, 0, none⟩ 1 32 rfl Hc1.out (by omega) hz1w ?_
                   intro v9 w9 hob9 hg9
                   have Hbx9 := Lib.hid (Hob1.out.blk Hbx1.out (by decide) hg9)
                   have Hrb9 := Lib.hid (Hob1.out.blk Hrb1.out (by decide) hg9)
                   have Hbel9 := Lib.hid (Hob1.out.below Hbel1.out (Nat.le_succ _) (Nat.le_trans (Nat.le_succ _) hz1w) hg9)
                   have hz9w : w.heap.size + 1 ≤ w9.heap.size := Nat.le_trans hz1w hg9.size
                   have Hob9 := Lib.hid hob9
                   have s1 : w9.cell? ⟨R, 1, none⟩ = some (.int .i64 a) := Hrb9.out.cell 1
                   clear hob9 hg9))
              have hF : (E ++ [(32 : UInt8)]).length ≤ 18000001 := by rw [List.length_append, List.length_singleton]; omega
              generalize hFE : E ++ [(32 : UInt8)] = F at *
              have HFE := Lib.hid hFE; clear hFE
              clear r1 r2
              go_loopw [3, 7] (fun o x wq => ∃ j : Nat, j ≤ a ∧ x = .int .i64 j ∧ OwnB wq (w.heap.size + 1) o (F ++ Tx.parS (tt.take j)) ∧ Blk wq w.heap.size 24 #[.int .i64 i, .slice (some ad) len c] ∧ Blk wq R 51 #[.string nm, .int .i64 a, .slice (some ad2) UN UC] ∧ Below w.heap.size w wq) (fun _ x _ => a - (intOf x).toNat)
              case atStart => exact ⟨0, Nat.zero_le _, rfl, by simpa [Tx.parS] using Hob9.out, Hbx9.out, Hrb9.out, Hbel9.out⟩
              case round =>
                obtain ⟨j, hja, rfl, hob, hbx, hrb, hbel⟩ := hrel
                clear Hob9 Hbx9 Hrb9 Hbel9 s1 hz9w Hob1 Hbx1 Hrb1 Hbel1 Hc1 hz1w
                have hbxl2 := hbx.lt
                have r1 : wr.cell? ⟨R, 1, none⟩ = some (.int .i64 a) := hrb.cell 1
                have r2 : wr.cell? ⟨R, 2, none⟩ = some (.slice (some ad2) UN UC) := hrb.cell 2
                have r3 : wr.cell? (ad2.add m) = some (.slice TA TN TC) := (hbel.cell (by rw [block_of_add]; exact hb2)).trans Hcu.out
                by_cases hlj : j < a
                · obtain ⟨ad3, rfl, hb3, hcx⟩ := hiu.at_ (k := j) (by rw [Htn.out, Hta.out]; exact hlj)
                  have hjn : j < TN := by rw [Htn.out, Hta.out]; exact hlj
                  have hxs : tt[j]? = some (tt.getD j 0) := getD_some (d := 0) (by rw [Hta.out]; exact hlj)
                  have hx := Hn2.out _ (List.mem_of_getElem? hxs)
                  have htk := take_snoc hxs
                  have hpl := Tx.par_len (t := tt.take j) (fun y hy => Hn2.out y (List.mem_of_mem_take hy))
                  have hpl2 : (Tx.parS (tt.take j)).length ≤ 36 := by
                    have : (tt.take j).length ≤ 12 := by rw [List.length_take]; omega
                    omega
                  generalize tt.getD j 0 = x at *
                  obtain ⟨y, rfl⟩ : ∃ y : Nat, x = y := ⟨x.toNat, by omega⟩
                  have hy : y < 100 := by omega
                  have r4 : wr.cell? (ad3.add j) = some (.int .i64 y) := (hbel.cell (by rw [block_of_add]; exact hb3)).trans hcx
                  have hitx := fun W => itoa_small y hy W
                  have hyz : (⟨(Lib.decDigits y).toArray⟩ : ByteArray).size ≤ 1000000000 := by have := itoa_size (x := (y : Int)) (by omega) (by omega); simpa using Nat.le_trans this (by decide)
                  have hGl : (F ++ Tx.parS (tt.take j)).length ≤ 18000040 := by rw [List.length_append]; omega
                  have Htk := Lib.hid htk; clear htk hcx hxs hpl hx
                  have Hob := Lib.hid hob; clear hob
                  have Hbx := Lib.hid hbx; clear hbx
                  have Hrb := Lib.hid hrb; clear hrb
                  have Hbel := Lib.hid hbel; clear hbel
                  have hzw : w.heap.size + 1 ≤ wr.heap.size := hbxl2
                  rcases Nat.eq_zero_or_pos j with rfl | hj0
                  · have r5 : wr.cell? ad3 = some (.int .i64 y) := by simpa [Addr.add] using r4
                    go_wp2_with (first
                      | (go_at_call 77; refine (hitx _).mono ?_; rintro e w11 ⟨rfl, rfl⟩)
                      | (at_builtin
                         refine append_strB _ rfl _ _ rfl (w.heap.size + 1) u3 _ rfl Hob.out ⟨(Lib.decDigits y).toArray⟩ rfl (by omega) hyz hzw ?_
                         intro v12 w12 hob12 hg12
                         have Hbx12 := Lib.hid (Hob.out.blk Hbx.out (by decide) hg12)
                         have Hrb12 := Lib.hid (Hob.out.blk Hrb.out (by decide) hg12)
                         have Hbel12 := Lib.hid (Hob.out.below Hbel.out (Nat.le_succ _) (Nat.le_trans (Nat.le_succ _) hzw) hg12)
                         have Hob12 := Lib.hid hob12
                         clear hob12 hg12))
                    refine ⟨⟨1, by omega, by go_num, ?_, Hbx12.out, Hrb12.out, Hbel12.out⟩, by simp [intOf]; omega⟩
                    have e := Hob12.out
                    rw [List.append_assoc] at e
                    rw [Htk.out, List.take_zero, List.nil_append, Tx.parS_one, Tx.itoa_nat']
                    simpa [Tx.parS] using e
                  · have hnk : tt.take j ≠ [] := fun e => by have := congrArg List.length e; rw [List.length_take, List.length_nil] at this; have := Hta.out; omega
                    have Hnk := Lib.hid hnk; clear hnk
                    have Hob13 := Lib.hid (Hob.out.alloc (.cells #[.int .u8 44] 5))
                    have Hbx13 := Lib.hid (Hbx.out.alloc (.cells #[.int .u8 44] 5))
                    have Hrb13 := Lib.hid (Hrb.out.alloc (.cells #[.int .u8 44] 5))
                    have Hbel13 := Lib.hid (Hbel.out.alloc Hbel.out.size (.cells #[.int .u8 44] 5))
                    have Hc13 := Lib.hid (show (wr.alloc (.cells #[.int .u8 44] 5)).cell? ⟨wr.heap.size, 0, none⟩ = some (.int .u8 ((44 : UInt8).toNat : Int)) from (Blk.new wr 5 #[.int .u8 44]).cell 0)
                    have hz13 : w.heap.size + 1 ≤ (wr.alloc (.cells #[.int .u8 44] 5)).heap.size := by simp; omega
                    go_wp2_with (first
                      | (at_builtin
                         refine append_byteB _ rfl _ _ rfl (w.heap.size + 1) u3 _ rfl Hob13.out ⟨wr.heap.size, 0, none⟩ 1 44 rfl Hc13.out (by omega) hz13 ?_
                         intro v14 w14 hob14 hg14
                         have Hbx14 := Lib.hid (Hob13.out.blk Hbx13.out (by decide) hg14)
                         have Hrb14 := Lib.hid (Hob13.out.blk Hrb13.out (by decide) hg14)
                         have Hbel14 := Lib.hid (Hob13.out.below Hbel13.out (Nat.le_succ _) (Nat.le_trans (Nat.le_succ _) hz13) hg14)
                         have hz14 : w.heap.size + 1 ≤ w14.heap.size := Nat.le_trans hz13 hg14.size
                         have Hob14 := Lib.hid hob14
                         have k2 : w14.cell? ⟨R, 2, none⟩ = some (.slice (some ad2) UN UC) := Hrb14.out.cell 2
                         have k3 : w14.cell? (ad2.add m) = some (.slice (some ad3) TN TC) := (Hbel14.out.cell (by rw [block_of_add]; exact hb2)).trans Hcu.out
                         have k4 : w14.cell? (ad3.add j) = some (.int .i64 y) := (Hbel14.out.cell (by rw [block_of_add]; exact hb3)).trans ((Hbel.out.cell (by rw [block_of_add]; exact hb3)).symm.trans r4)
                         clear hob14 hg14)
                      | (go_at_call 77; refine (hitx _).mono ?_; rintro e w11 ⟨rfl, rfl⟩)
                      | (at_builtin
                         refine append_strB _ rfl _ _ rfl (w.heap.size + 1) v14 _ rfl Hob14.out ⟨(Lib.decDigits y).toArray⟩ rfl (by rw [List.length_append, List.length_singleton]; omega) hyz hz14 ?_
                         intro v12 w12 hob12 hg12
                         have Hbx12 := Lib.hid (Hob14.out.blk Hbx14.out (by decide) hg12)
                         have Hrb12 := Lib.hid (Hob14.out.blk Hrb14.out (by decide) hg12)
                         have Hbel12 := Lib.hid (Hob14.out.below Hbel14.out (Nat.le_succ _) (Nat.le_trans (Nat.le_succ _) hz14) hg12)
                         have Hob12 := Lib.hid hob12
                         clear hob12 hg12))
                    refine ⟨⟨j + 1, by omega, by go_num, ?_, Hbx12.out, Hrb12.out, Hbel12.out⟩, by simp [intOf]; omega⟩
                    have e := Hob12.out
                    rw [Htk.out, Tx.parS_snoc _ Hnk.out, Tx.itoa_nat']
                    simpa [List.append_assoc] using e
                · obtain rfl : j = a := by omega
                  have htk : tt.take j = tt := List.take_of_length_le (by rw [Hta.out]; exact Nat.le_refl _)
                  rw [htk] at hob
                  have Hob := Lib.hid hob; clear hob
                  have Hbx := Lib.hid hbx; clear hbx
                  have Hrb := Lib.hid hrb; clear hrb
                  have Hbel := Lib.hid hbel; clear hbel
                  go_wp2
                  refine ⟨⟨m + 1, by omega, by go_num, ?_, Hbx.out, Hrb.out, Hbel.out⟩, by simp [intOf]; omega⟩
                  rw [HE2.out, Tx.tupS_par Hne.out]
                  exact Hob.out
          · obtain rfl : m = UN := by omega
            have htk : ts.take m = ts := List.take_of_length_le (by rw [Hun.out]; exact Nat.le_refl _)
            rw [htk] at hob
            have Hob := Lib.hid hob; clear hob
            have Hbx := Lib.hid hbx; clear hbx
            have Hbel := Lib.hid hbel; clear hbel
            go_wp2
            refine ⟨⟨k + 1, by omega, by go_num, ?_, Hbx.out, Hbel.out⟩, by simp [intOf]; omega⟩
            rw [HP2.out, Hrel.out, ← List.append_assoc, HPD.out]
            exact Hob.out)
    · obtain rfl : k = len := by omega
      have htk : rs.take k = rs := List.take_of_length_le (by rw [Hlen.out]; exact Nat.le_refl _)
      rw [htk, ← Htx.out] at hob
      have hbk := backB hob
      have Hbel := Lib.hid hbel; clear hbel
      clear hob
      go_wp2
      go_ret
      exact ⟨rfl, Hbel.out⟩

end Go.Proofs.YtbddchonhicpiaaDoor
