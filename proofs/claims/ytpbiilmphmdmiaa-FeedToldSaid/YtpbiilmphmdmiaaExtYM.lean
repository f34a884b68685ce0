/- Calls that were run before are known. -/
import Derived.Test.YtpbiilmphmdmiaaExtK
import Derived.Lib.AppendZerosOnto
import Derived.Lib.Overlaps
namespace Go.Abs
open Go.RowKit
set_option linter.unusedVariables false
set_option linter.unusedSimpArgs false
noncomputable section
end
set_option linter.unusedSimpArgs false
def InsR (sz e b i n c:Nat) (arr:Array Value) (tb:Nat) (vs:List Value) (w:World) (x:Ending) (w':World):Prop:=
  ∃b' c' t' A fz',x=.returned (.slice (some ⟨b',0,none⟩) (n+1) c')∧w'.os=w.os∧w'.tape=w.tape∧w'.output=w.output∧
    w'.heap[b']? = some (.cells A t' fz')∧(∀j,j≤A.size→¬(fz'.1≤j∧j<fz'.2))∧A.size=c'*sz∧n+1≤c'∧
    A.toList.take ((n+1)*sz)=(arr.toList.take (n*sz)).take (i*sz)++(vs++(arr.toList.take (n*sz)).drop (i*sz))∧
    ((b' = b ∧ t' = tb ∧ A.size = arr.size ∧ w'.heap.size = w.heap.size ∧ ∀ j, j ≠ b → w'.heap[j]? = w.heap[j]?) ∨
      (b'=w.heap.size∧t'=e∧w'.heap.size=w.heap.size+1∧∀j,j<w.heap.size→w'.heap[j]? = w.heap[j]?))
def InsF (P:Program) (f e sz bytes:Nat):Prop:=
 ∀(w:World) (b i n c vb vo vc:Nat) (arr va:Array Value) (tb tv:Nat) (fz fv:Nat×Nat) (vs:List Value),
  w.heap[b]? = some (.cells arr tb fz)→arr.size=c*sz→(∀j,j≤arr.size→¬(fz.1≤j∧j<fz.2))→
  w.heap[vb]? = some (.cells va tv fv)→(∀j,j≤va.size→¬(fv.1≤j∧j<fv.2))→vb≠b→vs.length=sz→(∀(j:Nat) (u:Value),vs[j]? = some u→va[vo+j]? = some u)→
  (∀u∈vs,u.oneCell'=true)→(∀u∈arr.toList.take (n*sz),u.oneCell'=true)→i<n→n≤c→(n+1)*bytes≤140737488355328→
  Calls P f #[.slice (some ⟨b,0,none⟩) n c,.int .i64 (i:Nat),.slice (some ⟨vb,vo,none⟩) 1 vc] w fun x w'=>InsR sz e b i n c arr tb vs w x w'
abbrev InsT:=List (Nat×Nat×Nat×Nat)
section
variable {κ : Cx} {ι : Nat → Nat} {st : St} {a : Act} {w : World}
end
def InsOk (P : Program) (L : InsT) : Prop := ∀ f e sz bytes, L.lookup f = some (e, sz, bytes) → InsF P f e sz bytes ∧ ∃ fn, P.funcs[f]? = some fn ∧ (fn.name == "runtime.NumGoroutine") = false ∧ fn.body.isNone = false
theorem run_copyR {P:Program} {t ty e:TypeId} {i:TypeInfo} (ht:P.underlying t=some (.slice e)) (hi:P.info? e=some i) (W:World) {b tb:Nat} {fz:Nat×Nat} {arr:Array Value} (hmem:W.heap[b]? = some (.cells arr tb fz))
  (hf:∀j,j<arr.size→¬(fz.1≤j∧j<fz.2)) (q n c:Nat) {src:Value} {m k:Nat} {xs:List Value} (hk:min m n=k) (hlen:∀w',(Builtin.lenOf src).run P w'=.ok m w') (hx:(Builtin.firstCells i.size k src).run P W=.ok xs.toArray W)
  (hfit:q+xs.length≤arr.size) (hone:∀u∈xs,u.oneCell'=true):
  (Builtin.copy_ #[t,t] ty #[.slice (some ⟨b,q,none⟩) n c,src]).run P W=.ok (.int .i64 (k:Nat)) (W.setRow b (arr.toList.take q++(xs++arr.toList.drop (q+xs.length))).toArray):=by
 have hst:=run_storeCells_fz P b q tb fz xs 0 arr W hmem hf (by omega) hone
 simp only[Nat.add_zero,List.append_assoc] at hst
 have hts:(#[t,t]:Array TypeId)[0]? = some t:=rfl
 have hmn:Nat.min m n=k:=hk
 subst hk
 have hmn:Nat.min m n=min m n:=rfl
 simp only[Builtin.copy_,hts]
 simp[run_underlying ht,hlen,run_size hi,hmn,hx,hst,goInt]
theorem lenOf_slice (P:Program) (a:Option Addr) (n c:Nat) (w:World):(Builtin.lenOf (.slice a n c)).run P w=.ok n w:=by simp[Builtin.lenOf]
theorem wp_copy_runR {P:Program} (w:World) {o:Oper} {a:Act} {K:Act→World→Prop} {Q:Exit→Act→World→Prop} (d s:Operand) (t t':TypeId)
  (ho:o.op=.call { callee:=.builtin .copy,args:=#[d,s],argTypes:=#[t,t'] }) (v u:Value) (hd:a.eval d=v) (hs:a.eval s=u) {v':Value} {w':World}
  (hr:(Builtin.copy_ #[t,t'] o.type #[v,u]).run P w=.ok v' w') (h:K (a.put o.dst v') w'):o.wp P a w K Q:=by
 unfold Oper.wp execOp
 simp only[ho,resolve,invoke,builtin,Sem.run_bind,Sem.run_pure,Result.andThen_ok,List.map_toArray,List.map_cons,List.map_nil,hd,hs,hr]
 exact h
theorem wpList_copy_runR {P:Program} (w:World) {ops:Array Oper} {rest:List Oper} {o:Oper} {a:Act} {Q:Exit→Act→World→Prop} (hgd:o.guard=none) (d s:Operand) (t t':TypeId)
  (ho:o.op=.call { callee:=.builtin .copy,args:=#[d,s],argTypes:=#[t,t'] }) (v u:Value) (hd:a.eval d=v) (hs:a.eval s=u) {v':Value} {w':World}
  (hr:(Builtin.copy_ #[t,t'] o.type #[v,u]).run P w=.ok v' w') (h:wpList P ops Q rest (a.put o.dst v') w'):wpList P ops Q (o::rest) a w:=
 wpList_plain hgd fun _ hK=>wp_copy_runR w d s t t' ho v u hd hs hr (hK _ _ h)
theorem step_copy_runR {P:Program} {ops:Array Oper} {o:Oper} {a:Act} {w:World} {K:Act→World→Prop} {Q:Exit→Act→World→Prop} {E:Prop}
  (hg:o.guard=none) (d x:Operand) (dT sT:TypeId) (hop:o.op=Op.call { callee:=Callee.builtin Builtin.copy,args:=#[d,x],argTypes:=#[dT,sT] })
  (v u:Value) (hd:a.eval d=v) (hx:a.eval x=u) {v':Value} {w':World} (hr:(Builtin.copy_ #[dT,sT] o.type #[v,u]).run P w=.ok v' w') (hK:K (a.put o.dst v') w'):
  if Region.wanted o (yielded ops a.tmps)=true then Oper.wp P o a w K Q else E:=by
 have hw:Region.wanted o (yielded ops a.tmps)=true:=by simp[Region.wanted,hg]
 rw[if_pos hw]
 exact wp_copy_runR w d x dT sT hop v u hd hx hr hK
theorem insShiftL {α:Type} (l vs cs:List α) (p q S pS qS:Nat) (h1:pS=p+S) (h2:qS=q+S) (h3:pS≤q) (h4:qS≤l.length) (hv:vs.length=S) (hcs:cs=(l.take q).drop p):
  (((l.take pS++(cs++l.drop (pS+cs.length))).take p)++(vs++(l.take pS++(cs++l.drop (pS+cs.length))).drop (p+vs.length))).take qS=(l.take q).take p++(vs++(l.take q).drop p):=by
 have hl:(l.take pS).length=pS:=by simp;omega
 have hc:cs.length=q-p:=by rw[hcs];simp;omega
 generalize hX:cs++l.drop (pS+cs.length)=X
 have e1:(l.take pS++X).take p=l.take p:=by rw[List.take_append_of_le_length (by omega),List.take_take];congr 1;omega
 have e2:(l.take pS++X).drop (p+vs.length)=X:=by rw[hv,←h1];exact List.drop_left' hl
 have e3:(l.take q).take p=l.take p:=by rw[List.take_take];congr 1;omega
 have hp:(l.take p).length=p:=by simp;omega
 rw[e1,e2,e3,←hcs,←hX,show l.take p++(vs++(cs++l.drop (pS+cs.length)))=(l.take p++(vs++cs))++l.drop (pS+cs.length) by simp]
 exact List.take_left' (by simp only[List.length_append,hp,hv,hc];omega)
theorem insGrowL {α:Type} (l r vs cs:List α) (p q S pS qS:Nat) (h1:pS=p+S) (h2:qS=q+S) (h3:pS≤q) (h4:q≤l.length) (hv:vs.length=S) (hcs:cs=(l.take q).drop p) (hr:r.take p=l.take p):
  ((r.take p++(vs++r.drop (p+vs.length))).take pS++(cs++(r.take p++(vs++r.drop (p+vs.length))).drop (pS+cs.length))).take qS=(l.take q).take p++(vs++(l.take q).drop p):=by
 have hc:cs.length=q-p:=by rw[hcs];simp;omega
 have hp:(r.take p).length=p:=by rw[hr];simp;omega
 have e1:(r.take p++(vs++r.drop (p+vs.length))).take pS=r.take p++vs:=by
  rw[←List.append_assoc];exact List.take_left' (by simp only[List.length_append,hp,hv];omega)
 have e3:(l.take q).take p=l.take p:=by rw[List.take_take];congr 1;omega
 rw[e1,e3,←hcs,hr]
 generalize (l.take p++(vs++r.drop (p+vs.length))).drop (pS+cs.length)=X
 rw[show l.take p++vs++(cs++X)=(l.take p++(vs++cs))++X by simp]
 rw[←hr]
 exact List.take_left' (by simp only[List.length_append,hp,hv,hc];omega)
def insChk (P:Program) (e sz bytes:Nat):Bool:=match P.info? e with
 | some i=>match i.zero with
  | some z=>Nat.beq i.size sz&&Nat.beq z.cells.size sz&&Nat.beq i.bytes bytes
  | none=>false
 | none=>false
theorem insE_of {P:Program} {e sz bytes:Nat} (h:insChk P e sz bytes=true):∃(inf:TypeInfo) (z:Value),P.info? e=some inf∧inf.size=sz∧inf.zero=some z∧z.cells.size=sz∧inf.bytes=bytes:=by
 unfold insChk at h
 split at h
 ·rename_i i hi
  split at h
  ·rename_i z hz
   simp only[Bool.and_eq_true] at h
   exact⟨i,z,hi,Nat.eq_of_beq_eq_true h.1.1,hz,Nat.eq_of_beq_eq_true h.1.2,Nat.eq_of_beq_eq_true h.2⟩
  ·cases h
 ·cases h
theorem setRow_size (w:World) (g:Nat) (A:Array Value):(w.setRow g A).heap.size=w.heap.size:=by simp[World.setRow]
end Go.Abs
