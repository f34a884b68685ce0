/- The operators as the machine runs them; conversions; interfaces, tuples, parts. -/
import Derived.Test.YtiaoojocpcldmaaGreatAbsH
namespace Go.Abs
open Go.RowKit
set_option linter.unusedVariables false
set_option linter.unusedSimpArgs false

section
variable {κ : Cx} {ι : Nat → Nat} {st : St} {a : Act} {w : World}

theorem binOp_eql {t : TypeId} {cx cy : Value} (h1 : ∀ k n, cx ≠ .int k n) (h2 : ∀ k n, cx ≠ .float k n) (h3 : ∀ k n m, cx ≠ .complex k n m) (h4 : ∀ s, cx ≠ .string s) :
    binOp .eql t cx cy = (do pure (.bool (← Op.equal t cx cy))) := by
  cases cx <;> cases cy <;> first | rfl | (exfalso; first | exact h1 _ _ rfl | exact h2 _ _ rfl | exact h3 _ _ _ rfl | exact h4 _ rfl)
theorem binOp_neq {t : TypeId} {cx cy : Value} (h1 : ∀ k n, cx ≠ .int k n) (h2 : ∀ k n, cx ≠ .float k n) (h3 : ∀ k n m, cx ≠ .complex k n m) (h4 : ∀ s, cx ≠ .string s) :
    binOp .neq t cx cy = (do pure (.bool (!(← Op.equal t cx cy)))) := by
  cases cx <;> cases cy <;> first | rfl | (exfalso; first | exact h1 _ _ rfl | exact h2 _ _ rfl | exact h3 _ _ _ rfl | exact h4 _ rfl)

theorem aBin_ok (h : RelI κ ι st a w) {op : BinOp} {t : Nat} {ox oy : Operand} {x y v : V} {cx cy : Value} (hrx : Rv st.o ι (Stable κ.D st.o ι w) w x cx) (hry : Rv st.o ι (Stable κ.D st.o ι w) w y cy)
    (hx : aBin κ.P op t ox oy x y = some v) : SemOk κ ι st.o w (do eqGuard op t ox oy cx cy; binOp op t cx cy) v none := by
  have scalar : ∀ {v : V}, (eqGuard op t ox oy cx cy).run κ.P w = .ok () w → (binOp op t cx cy).run κ.P w = .ok (sv v) w ∧ isSv v = true → SemOk κ ι st.o w (do eqGuard op t ox oy cx cy; binOp op t cx cy) v none := by
    intro v hg hv
    exact SemOk.same h (by simp only [Sem.run_bind, hg, Result.andThen_ok, hv.1]) (.pure (sv_rp hv.2))
  unfold aBin at hx
  split at hx
  · rename_i k m k' n
    have := hrx.int_; subst this
    have := hry.int_; subst this
    have hg := eqGuard_other (w := w) (P := κ.P) (op := op) (t := t) (ox := ox) (oy := oy) (cx := .int k m) (cy := .int k' n) (by simp) (by simp)
    split at hx
    · split at hx
      · cases hx
      · rename_i h0
        injection hx with hx; subst hx
        exact scalar hg ⟨by simp [binOp, Op.shift, h0, sv, wr_eq], rfl⟩
    · split at hx
      · cases hx
      · rename_i h0
        injection hx with hx; subst hx
        exact scalar hg ⟨by simp [binOp, Op.shift, h0, sv], rfl⟩
    · rename_i hs hs'
      split at hx
      · rename_i hk
        subst hk
        exact scalar hg (run_intBin (fun e => hs e) (fun e => hs' e) hx)
      · cases hx
  · rename_i s u
    obtain ⟨b1, rfl, h1⟩ := hrx.str_
    obtain ⟨b2, rfl, h2⟩ := hry.str_
    subst h1 h2
    exact scalar (eqGuard_other (by simp) (by simp)) (run_strBin hx)
  · split at hx
    · cases he : eqNil κ.P t (isConstO ox || isConstO oy) x y with
      | none => simp [he] at hx
      | some b =>
        simp [he] at hx; subst hx
        obtain ⟨hg, hq, n1, n2, n3, n4, n5, n6⟩ := run_eqNil (op := .eql) hrx hry he
        refine scalar hg ⟨?_, rfl⟩
        rw [binOp_eql n1 n5 n6 n3]
        simp [hq, sv]
    · cases he : eqNil κ.P t (isConstO ox || isConstO oy) x y with
      | none => simp [he] at hx
      | some b =>
        simp [he] at hx; subst hx
        obtain ⟨hg, hq, n1, n2, n3, n4, n5, n6⟩ := run_eqNil (op := .neq) hrx hry he
        refine scalar hg ⟨?_, rfl⟩
        rw [binOp_neq n1 n5 n6 n3]
        simp [hq, sv]
    · cases hx

def aUn (op : UnOp) (x : V) : Option V :=
  match op, x with
  | .not, .bool b => some (.bool (!b))
  | .neg, .int k n => some (.int k (wr k (0 - n)))
  | .xor, .int k n => some (.int k (wr k (BitVec.ofInt k.bits (if k.signed then -1 else k.max) ^^^ BitVec.ofInt k.bits n).toNat))
  | _, _ => none
theorem aUn_ok (h : RelI κ ι st a w) {op : UnOp} {x v : V} {cx : Value} (hr : Rv st.o ι (Stable κ.D st.o ι w) w x cx) (hx : aUn op x = some v) : SemOk κ ι st.o w (Op.unary op cx) v none := by
  unfold aUn at hx
  split at hx
  · rename_i b
    injection hx with hx; subst hx
    rw [hr.bool_]
    exact SemOk.same h (cv := .bool (!b)) (by simp [Op.unary]) (.pure (.bool _))
  · rename_i k n
    injection hx with hx; subst hx
    rw [hr.int_]
    exact SemOk.same h (cv := .int k (k.wrap (0 - n))) (by simp [Op.unary, Op.intArith]) (by rw [wr_eq]; exact .pure (.int _ _))
  · rename_i k n
    injection hx with hx; subst hx
    rw [hr.int_]
    exact SemOk.same h (cv := .int k (k.wrap (BitVec.ofInt k.bits (if k.signed then -1 else k.max) ^^^ BitVec.ofInt k.bits n).toNat)) (by simp only [Op.unary, Op.intBits, Sem.run_pure]) (by rw [wr_eq]; exact .pure (.int _ _))
  · cases hx

/-- The bytes of some cells. -/
def toBytes : List V → Option (List UInt8)
  | [] => some []
  | .int .u8 n :: r => if 0 ≤ n ∧ n < 256 then (toBytes r).map (UInt8.ofNat n.toNat :: ·) else none
  | _ => none
theorem toBytes_ok {T : Tab} {S : Addr → Prop} : ∀ (cs : List V) (l : List UInt8) (vs : List Value), toBytes cs = some l → LR (Rv T ι S w) cs vs → vs = l.map fun b => .int .u8 (b.toNat : Int)
  | [], l, vs, h, hr => by
    simp [toBytes] at h; subst h
    exact List.eq_nil_of_length_eq_zero (by simpa using hr.1.symm)
  | c :: cs, l, vs, h, hr => by
    obtain ⟨u, vs', rfl, hu, hr'⟩ := hr.head
    unfold toBytes at h
    split at h
    · rename_i heq; cases heq
    · rename_i n r heq
      injection heq with e1 e2; subst e1 e2
      split at h
      · rename_i hn
        cases ht : toBytes cs with
        | none => simp [ht] at h
        | some l' =>
          simp [ht] at h; subst h
          rw [toBytes_ok cs l' vs' ht hr', hu.int_]
          simp
          omega
      · cases h
    · cases h

def isStrV : V → Bool
  | .str _ => true
  | _ => false

def aConvert (P : Program) (T : Tab) (src dst : Nat) (x : V) (d : Nat) : Option (V × Option (Nat × Ob)) :=
  match P.underlying src, P.underlying dst, x with
  | some _, some (.int k), .int _ n => some (.int k (wr k n), none)
  | some _, some .string, .int _ n => some (.str (Utf8.encode n).data.toList, none)
  | some .string, some .string, .str s => some (.str s, none)
  | some .string, some (.slice e), .str s => if (P.underlying e).any (fun d => d matches .int .u8) = true then
      some (.acc d ((T.get d).gen + 1), some (d, ⟨(T.get d).gen + 1, .nrow e false false ⟨.int .u8, s.map fun b => (b.toNat : Int)⟩⟩)) else none
  | some (.slice e), some .string, x => if (P.underlying e).any (fun d => d matches .int .u8) = true ∧ isStrV x = false then
      (match aSrc T 1 x with
        | some (m, xs) => (toBytes xs).map fun l => (.str l, none)
        | none => none) else none
  | _, _, _ => none

theorem isU8 {P : Program} {e : Nat} (h : (P.underlying e).any (fun d => d matches .int .u8) = true) : P.underlying e = some (.int .u8) := by
  cases he : P.underlying e with
  | none => simp [he] at h
  | some d =>
    rw [he] at h
    cases d with
    | int k => cases k <;> first | rfl | simp at h
    | _ => simp at h

theorem flat_u8 : ∀ s : List UInt8, (s.map fun b => (b.toNat : Int)).flatMap (cellsV (.int .u8)) = s.map fun b => .int .u8 b.toNat
  | [] => rfl
  | c :: r => by
    have := flat_u8 r
    simp only [List.map_cons, List.flatMap_cons, this]
    rfl
theorem aConvert_ok (h : RelI κ ι st a w) {src dst d : Nat} {x v : V} {cx : Value} {wr : Option (Nat × Ob)} (hr : Rv st.o ι (Stable κ.D st.o ι w) w x cx) (hx : aConvert κ.P st.o src dst x d = some (v, wr)) :
    SemOk κ ι st.o w (convert src dst cx) v wr := by
  unfold aConvert at hx
  split at hx
  · rename_i ds k k' n hs hd
    simp at hx
    obtain ⟨rfl, rfl⟩ := hx
    rw [hr.int_]
    exact SemOk.same h (cv := .int k (k.wrap n)) (by simp [convert, run_underlying hs, run_underlying hd, Conv.intToInt]) (by rw [wr_eq]; exact .pure (.int _ _))
  · rename_i ds k n hs hd
    simp at hx
    obtain ⟨rfl, rfl⟩ := hx
    rw [hr.int_]
    exact SemOk.same h (run_convert_int_string w src dst k n (by rw [hs]; rfl) hd) (.pure (.str _ _ rfl))
  · rename_i s hs hd
    simp at hx
    obtain ⟨rfl, rfl⟩ := hx
    obtain ⟨b, rfl, hb⟩ := hr.str_
    exact SemOk.same h (cv := .string b) (by simp [convert, run_underlying hs, run_underlying hd]) (.pure (.str _ _ hb))
  · rename_i e s hs hd
    split at hx
    · rename_i he
      simp at hx
      obtain ⟨rfl, rfl⟩ := hx
      obtain ⟨b, rfl, hb⟩ := hr.str_
      have hbl : b.size = s.length := by rw [← hb, Array.length_toList]; rfl
      have hrun := run_bytes_of_string (P := κ.P) w src dst e b hs hd (isU8 he)
      have hge : b.size ≤ grownCap w b.size 0 e := grownCap_ge w b.size 0 e
      have hbr : (bytesRow b (grownCap w b.size 0 e)).size = grownCap w b.size 0 e := by simp [bytesRow]; have : b.data.size = b.size := rfl; omega
      have hcl : (⟨.int .u8, s.map fun b => (b.toNat : Int)⟩ : TL).cells = s.map fun b => .int .u8 b.toNat := by
        exact flat_u8 s
      have hto : To κ st.o ι w (st.o.put d ⟨(st.o.get d).gen + 1, .nrow e false false ⟨.int .u8, s.map fun b => (b.toNat : Int)⟩⟩) (fun t => if d = t then w.heap.size else ι t)
          (w.drew.alloc (.cells (bytesRow b (grownCap w b.size 0 e)) e ((bytesRow b (grownCap w b.size 0 e)).size, (bytesRow b (grownCap w b.size 0 e)).size + 1))) := by
        refine To.new h (w1 := w.drew) rfl rfl rfl rfl d _ _ fun T' ι' w' H hn => .inr ⟨_, _, grownCap w b.size 0 e, hn, fun i hi => hi.elim (fun hi => by simp; omega) (fun q => absurd rfl q.1), by rw [hbr]; simp [Ty.size], by simp [Ty.size], by rw [hcl, hbr]; simp; omega, fun i dd u hdd hu => ?_⟩
        rw [hcl] at hdd
        have hi : i < s.length := by have := (List.getElem?_eq_some_iff.1 hdd).1; simpa using this
        have hval : (bytesRow b (grownCap w b.size 0 e)).toList[i]? = (s.map fun b => Value.int .u8 (b.toNat : Int))[i]? := by
          simp only [bytesRow, Array.toList_append, Array.toList_map]
          rw [List.getElem?_append_left (by simp; have : b.data.size = b.size := rfl; omega), hb]
        rw [hval] at hu
        simp only [List.getElem?_map] at hdd hu
        cases hsi : s[i]? with
        | none => simp [hsi] at hu
        | some c =>
          simp [hsi] at hdd hu
          subst hdd hu
          exact .pure (.int _ _)
      refine ⟨_, _, _, hrun, hto, ?_⟩
      rw [hbl]
      refine .acc ⟨_, _, _, rfl⟩ (by simp [wrT, Tab.get_put]) fun ty' fz' nl' L' eq => ?_
      simp [wrT, Tab.get_put] at eq
      obtain ⟨rfl, rfl, rfl, rfl⟩ := eq
      rw [hbl] at hbr hge
      refine .inr ⟨by simp, ⟨w.heap.size, 0, none⟩, grownCap w s.length 0 e, grownCap w s.length 0 e, bytesRow b (grownCap w s.length 0 e), e, ((bytesRow b (grownCap w s.length 0 e)).size, (bytesRow b (grownCap w s.length 0 e)).size + 1), by simp, by simp, ?_, by rw [hbr]; simp [Ty.size], by simp; omega, by omega, fun _ => by simp⟩
      simp only [if_true]
      have := heap_alloc_new w.drew (.cells (bytesRow b (grownCap w s.length 0 e)) e ((bytesRow b (grownCap w s.length 0 e)).size, (bytesRow b (grownCap w s.length 0 e)).size + 1))
      exact this
    · cases hx
  · rename_i e hs hd hno1
    split at hx
    · rename_i he
      split at hx
      · rename_i m xs hsrc
        cases ht : toBytes xs with
        | none => simp [ht] at hx
        | some l =>
          simp [ht] at hx
          obtain ⟨rfl, rfl⟩ := hx
          obtain ⟨he, hns⟩ := he
          obtain ⟨hlen, hxl, news, hnews, hfirst⟩ := aSrc_ok h hr hsrc
          have hnw := toBytes_ok xs l news ht hnews
          have hm : l.length = m := by have := hnews.1; rw [hnw] at this; simp at this; omega
          have hf := hfirst m w (Nat.le_refl _) rfl
          have htk : news.take (m * 1) = news := by rw [List.take_of_length_le]; rw [← hnews.1]; omega
          rw [htk] at hf
          have main : ∀ (ad : Addr) (n c : Nat), cx = .slice (some ad) n c → (convert src dst cx).run κ.P w = .ok (.string ⟨⟨l⟩⟩) w := by
            rintro ad n c rfl
            have hn : n = m := by have := hlen w; simp [Builtin.lenOf] at this; exact this
            subst hn
            rw [run_convert_bytes_string w src dst e (some ad) n c hs (isU8 he) hd]
            simp only [Builtin.firstCells, Nat.mul_one] at hf
            rw [run_bytesToString w ad n c (l.map fun b => (b.toNat : Int)) (by rw [hf, hnw]; simp [Function.comp_def]), foldl_push_byteCells]
            have he0 : ByteArray.empty.data = #[] := rfl
            rw [he0]
            simp
          have main0 : cx = .slice none 0 0 → (convert src dst cx).run κ.P w = .ok (.string ⟨⟨l⟩⟩) w := by
            rintro rfl
            have hm0 : m = 0 := by have := hlen w; simp [Builtin.lenOf] at this; exact this.symm
            have hl0 : l = [] := List.eq_nil_of_length_eq_zero (by omega)
            subst hl0
            rw [run_convert_bytes_string w src dst e none 0 0 hs (isU8 he) hd]
            simp [Conv.bytesToString]
            rfl
          have mainp : ∀ (p : Option Addr), cx = .slice p 0 0 → (convert src dst cx).run κ.P w = .ok (.string ⟨⟨l⟩⟩) w := fun p e => by
            cases p with
            | none => exact main0 e
            | some ad => exact main ad _ _ e
          refine SemOk.same h (cv := .string ⟨⟨l⟩⟩) ?_ (.pure (.str _ _ rfl))
          unfold aSrc at hsrc
          split at hsrc
          · exact main0 hr.snil_
          · obtain ⟨p, e1⟩ := hr.sz_
            exact mainp p e1
          · rename_i L
            rcases (Rv.pure hr.lst_).sl_ (T := st.o) (ι := ι) with ⟨e0, _, e1⟩ | ⟨ad, c, _, e1, _⟩
            · exact main0 e1
            · exact main ad _ c e1
          · rename_i s g
            split at hsrc
            · rename_i hg
              split at hsrc
              · rename_i ty1 fz nl L hk
                have hT : st.o.get s = ⟨g, .nrow ty1 fz nl L⟩ := by cases hTs : st.o.get s; rw [hTs] at hk hg; simp at hk hg; subst hk hg; rfl
                rcases hr.acc_ hT with ⟨_, _, p, e1⟩ | ⟨_, ad, c, _, _, _, _, e1, _⟩
                · exact mainp p e1
                · exact main ad _ c e1
              · cases hsrc
            · cases hsrc
          · rcases hr.sl_ with ⟨_, _, e1⟩ | ⟨ad, c, _, e1, _⟩
            · exact main0 e1
            · exact main ad _ c e1
          · cases hr with
            | pure h => cases h
            | own hv _ _ =>
              obtain ⟨ad, c, e1⟩ := hv
              exact main ad _ c e1
          · rename_i s g off n
            split at hsrc
            · rename_i hg
              split at hsrc
              · rename_i ty1 fz nl L hk
                have hT : st.o.get s = ⟨g, .nrow ty1 fz nl L⟩ := by cases hTs : st.o.get s; rw [hTs] at hk hg; simp at hk hg; subst hk hg; rfl
                rcases (hr.nwin_ hT).2 with ⟨_, _, p, e1⟩ | ⟨_, ad, c, _, _, _, _, e1, _⟩
                · exact mainp p e1
                · exact main ad _ c e1
              · cases hsrc
            · cases hsrc
          · simp [isStrV] at hns
          · cases hsrc
      · cases hx
    · cases hx
  · cases hx

end
end Go.Abs
